/- Of the statements of layer 14: same, of like disks. -/
import Derived.Test.YtnnbjhpkgndclaaGreatDoorQsZZ
import Derived.Test.YtnnbjhpkgndclaaGreatDoorQsBH
import Derived.Test.YtnnbjhpkgndclaaGreatDoorQsAN
set_option linter.unusedVariables false
namespace Go.Proofs.YtnnbjhpkgndclaaGreatDoor.Dk
open Go.RowKit
open Go.Proofs.YtnnbjhpkgndclaaGreatDoor.Rw
open Go.Proofs.YtnnbjhpkgndclaaGreatDoor.Da
theorem neqZ (a b : ByteArray) (w : World) : (binOp .neq 24 (.agg #[.string a,.string b]) (.agg #[.string a,.string b])).run Tryz.prog w = .ok (.bool false) w := by
  rw [run_neq_struct]
  rw [show (10000 : Nat) = 9999 + 1 from rfl,Op.equalIn]
  simp only [Sem.run_bind,run_underlying Tryz.underlying24,Result.andThen_ok,Tryz.sizeOf9]
  simp [Std.Legacy.Range.forIn_eq_forIn_range',Std.Legacy.Range.size,List.range'_succ,part,Tryz.isAgg9,run_equalIn_string,Tryz.underlying9]
theorem guardZ (op : BinOp) (x y : Operand) (xs ys : Array Value) (w : World) : (eqGuard op 24 x y (.agg xs) (.agg ys)).run Tryz.prog w = .ok () w := run_eqGuard_agg w op _ x y _ _ (by kernel_rfl)
theorem fieldsO : Tryz.prog.underlying 82 = some (.struct (Tryz.prog.fieldsOf 82)) := by kernel_rfl
theorem neqO (z : Int) (x : ByteArray) (e : Bool) (w : World) : (binOp .neq 82 (.agg #[.int .i64 z,.string x,.bool e]) (.agg #[.int .i64 z,.string x,.bool e])).run Tryz.prog w = .ok (.bool false) w := by
  rw [run_neq_struct,run_equalIn_agg w 9999 _ _ _ fieldsO (by kernel_rfl)]
  simp only [Program.fieldsOf,Tryz.underlying82]
  simp [Op.eqFields,go_sem]
theorem guardO (op : BinOp) (x y : Operand) (xs ys : Array Value) (w : World) : (eqGuard op 82 x y (.agg xs) (.agg ys)).run Tryz.prog w = .ok () w := run_eqGuard_agg w op _ x y _ _ (by kernel_rfl)
attribute [go_sem ↓] neqZ guardZ neqO guardO
set_option maxRecDepth 8000 in
set_option maxHeartbeats 4000000 in
theorem disks_yes {n n' : Nat} (d : Ds) (v v' : Value) (w : World) (h : DV n d v w) (h' : DV n' d v' w) (hl : d.l.length ≤ 1000000) :
    Calls Tryz.prog 13 #[v,v'] w fun e w' => e = .returned (.bool true) ∧ Below w.heap.size w w' := by
  obtain ⟨o,rfl,hO,-⟩ := h
  obtain ⟨o',rfl,hO',-⟩ := h'
  obtain ⟨a,b,l,c,f,dn⟩ := d
  simp only at hO hO' hl ⊢
  obtain ⟨a1,c1,rfl,hel⟩ := hO
  obtain ⟨a2,c2,rfl,hel'⟩ := hO'
  obtain ⟨n1,hn1⟩ : ∃ q,q = l.length := ⟨_,rfl⟩
  rw [← hn1] at hl ⊢
  have HN := lH hn1
  have HE := lH hel
  have HE' := lH hel'
  obtain ⟨V,hV⟩ : ∃ Q_ : World,(w.alloc (.cells #[.string a,.string b,.slice a1 n1 c1,.int .i64 c,.int .i64 f,.bool dn] 27)).alloc (.cells #[.string a,.string b,.slice a2 n1 c2,.int .i64 c,.int .i64 f,.bool dn] 27) = Q_ := ⟨_,rfl⟩
  have bV : Below w.heap.size w V := hV ▸ below2 _ _ _
  obtain ⟨B0,B1⟩ : Bx V w.heap.size #[.string a,.string b,.slice a1 n1 c1,.int .i64 c,.int .i64 f,.bool dn] 27 ∧ Bx V (w.heap.size + 1) #[.string a,.string b,.slice a2 n1 c2,.int .i64 c,.int .i64 f,.bool dn] 27 := hV ▸ bx2 w _ _ _ _
  have HB0 := lH B0
  have HB1 := lH B1
  obtain ⟨_,_,_,⟨q0,q1,q2,q3,q4,q5⟩,_⟩ := B0.d6
  obtain ⟨_,_,_,⟨p0,p1,p2,p3,p4,p5⟩,_⟩ := B1.d6
  clear hn1 hel hel' B0 B1
  go_enter Tryz.func13,Tryz.ntmps13
  go_wp2
  go_loopw [44] (fun i wr => ∃ k : Nat,k ≤ n1 ∧ i = .int .i64 k ∧ Below V.heap.size V wr) (fun i _ => n1 - (intOf i).toNat)
  case atStart => exact ⟨0,Nat.zero_le _,rfl,Below.refl _ _⟩
  case round =>
    obtain ⟨k,hk,rfl,hb⟩ := hrel
    by_cases hlt : k < n1
    · have hlt2 : (k : Int) < n1 := by omega
      have hkl : k < l.length := by rw [← HN.out];exact hlt
      rcases HE.out with ⟨e,_⟩ | ⟨bb,off,rfl,hat⟩
      · rw [e] at hkl;cases hkl
      rcases HE'.out with ⟨e,_⟩ | ⟨bb',off',rfl,hat'⟩
      · rw [e] at hkl;cases hkl
      obtain ⟨⟨z,x,er⟩,hs⟩ : ∃ s,l[k] = s := ⟨_,rfl⟩
      have hF : ∀ u,Below wr.heap.size wr u → ((u.cell? ⟨bb,off + k * 3,none⟩ = some (.int .i64 (zi z)) ∧ u.cell? ⟨bb,off + k * 3 + 1,none⟩ = some (.string x) ∧ u.cell? ⟨bb,off + k * 3 + 2,none⟩ = some (.bool er))
          ∧ (u.cell? ⟨bb',off' + k * 3,none⟩ = some (.int .i64 (zi z)) ∧ u.cell? ⟨bb',off' + k * 3 + 1,none⟩ = some (.string x) ∧ u.cell? ⟨bb',off' + k * 3 + 2,none⟩ = some (.bool er)))
          ∧ u.cell? ⟨w.heap.size,2,none⟩ = some (.slice (some ⟨bb,off,none⟩) n1 c1) ∧ u.cell? ⟨w.heap.size + 1,2,none⟩ = some (.slice (some ⟨bb',off',none⟩) n1 c2) := fun u hu => by
        have h1 := at3 (Lies.keep eO 82 hat (Keeps.of_below (nx bV (nx hb hu)))) k hkl
        have h2 := at3 (Lies.keep eO 82 hat' (Keeps.of_below (nx bV (nx hb hu)))) k hkl
        rw [hs] at h1 h2
        exact ⟨⟨h1,h2⟩,((HB0.out.stays (nx hb hu)).d6).2.2.2.1.2.2.1,((HB1.out.stays (nx hb hu)).d6).2.2.2.1.2.2.1⟩
      clear hat hat' hs
      go_wp2
      refine Rg.region (by kernel_rfl) (by kernel_rfl) (by kernel_rfl) (fun _ _ d _ _ h => by cases d <;> exact h) _ rfl ?_
      repeat (first | (refine Rg.Seq.skip (by rfl) ?_;simp only [Act.put,sA,sB,sC]) | (refine Rg.Seq.pure (v := ?_) (by rfl) ?_ ?_;rotate_left;(intro w_ hS_;have hk_ := hF w_ hS_;go_simp <;> with_reducible rfl);simp only [Act.put,sA,sB,sC]))
      intro w1 hb1
      go_wp2
      go_roundw
      case rel => exact ⟨k + 1,by omega,by go_num,nx hb hb1⟩
      case measure => simp [intOf];omega
    · obtain rfl : k = n1 := by omega
      go_wp2
      go_ret
      exact ⟨rfl,nx bV hb⟩
end Go.Proofs.YtnnbjhpkgndclaaGreatDoor.Dk
