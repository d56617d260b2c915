/- Package disk as it landed: reached. -/
import Derived.Test.YtegepbifbhamnaaDkK
namespace Go.Proofs.Ytegepbifbhamnaa.Dk
open Go.RowKit
set_option linter.unusedVariables false
open Go.Proofs.Ytegepbifbhamnaa.Rw
open Go.Proofs.Ytegepbifbhamnaa.Da
section
variable (ρ : Operand → Value) (dst : Option Tmp) (ty : TypeId) (pos : String) (after : Array Edge) (guard : Option (Nat × Bool)) (w : World)
theorem hiO (x y : Operand) (h : hiOk (ρ x) (ρ y) = true) : (execOp ρ { dst, op := .slice 26 x none (some y) none, type := ty, pos, after, guard }).run Try.prog w = .ok (.value (cutHi 3 (natOf (ρ y)) (ρ x))) w :=
  exec_hi ρ dst ty pos after guard w elemO x y h
end
attribute [go_sem ↓] hiO
theorem limit_is {n m q : Int} (H : Hid (lim n m = q)) (w : World) : Calls Try.prog 37 #[.int .i64 n, .int .i64 m] w fun e w' => e = .returned (.int .i64 q) ∧ w = w' := by
  rw [← H.out]; exact limit_any n m w
theorem reach_at {l : List Do} {keep torn : Int} {k : Nat} (h : lim keep l.length = k) (hk : k < l.length) : reach l keep torn = if l[k].2.2 then l.take k else l.take k ++ [(l[k].1, cut l[k].2.1 torn, false)] := by
  unfold reach
  rw [h, Int.toNat_natCast, List.drop_eq_getElem_cons hk]
  generalize l[k] = x
  obtain ⟨z, y, e⟩ := x
  cases e <;> rfl
theorem reach_end {l : List Do} {keep torn : Int} {k : Nat} (h : lim keep l.length = k) (hk : ¬ k < l.length) : reach l keep torn = l.take k := by
  unfold reach
  rw [h, Int.toNat_natCast, List.drop_of_length_le (by omega)]
set_option maxRecDepth 8000 in
set_option maxHeartbeats 4000000 in
theorem reached_any (n : Nat) (l : List Do) (o : Value) (keep torn : Int) (w : World) (hO : OL n l o w) (hc : capOk o) (hn : n ≤ w.heap.size) (hl : l.length ≤ 100000) :
    Calls Try.prog 34 #[o, .int .i64 keep, .int .i64 torn] w (Post (OL n (reach l keep torn)) w) := by
  have hlb := lim_bd keep l.length (by omega)
  obtain ⟨k, hk⟩ : ∃ k : Nat, lim keep l.length = k := ⟨(lim keep l.length).toNat, by omega⟩
  have hkl : k ≤ l.length := by omega
  have hcut := Is.cutHi (e := eO) (T := 52) hO hkl
  obtain ⟨a1, c1, rfl, hcap⟩ := capOk_len hO hc
  obtain ⟨n1, hn1⟩ : ∃ q, l.length = q := ⟨_, rfl⟩
  have hre := fun h => reach_at (torn := torn) hk h
  have hre2 := fun h => reach_end (torn := torn) hk h
  rw [hn1] at hO hcut hk hkl hlb hcap ⊢
  obtain ⟨a2, c2, hq⟩ : ∃ a c, cutHi 3 k (.slice a1 n1 c1) = .slice a c.1 c.2 := ⟨_, (_, _), rfl⟩
  obtain ⟨m2, c2⟩ := c2
  simp only at hq
  have hq' : cutHi eO.k k (.slice a1 n1 c1) = .slice a2 m2 c2 := hq
  rw [hq'] at hcut
  have HN := Lib.hid hn1
  have HK := Lib.hid hk
  have HCUT := Lib.hid hcut
  have hki : (k : Int) ≤ n1 := by omega
  have HRE := Lib.hid hre
  have HRE2 := Lib.hid hre2
  have k0 : (0 : Int) ≤ k := by omega
  have hkc : k ≤ c1 := by omega
  clear hcut hq' hn1 hk hlb hre hre2 hc
  by_cases hlt : k < n1
  · have hlt2 : (k : Int) < n1 := by omega
    have hne : ((k : Int) == (n1 : Int)) = false := by simp; omega
    have hkl2 : k < l.length := by rw [HN.out]; exact hlt
    rcases hO.cases with ⟨e, _⟩ | ⟨_, bb, off, cc, e, hat⟩
    · rw [e] at hkl2; cases hkl2
    simp only [Value.slice.injEq] at e
    obtain ⟨rfl, -, rfl⟩ := e
    obtain ⟨y0, y1, y2⟩ := at3 hat k hkl2
    have hr := HRE.out hkl2
    obtain ⟨⟨z, x, er⟩, hz⟩ : ∃ q, l[k] = q := ⟨_, rfl⟩
    rw [hz] at y0 y1 y2 hr
    simp only at y0 y1 y2 hr
    clear hz hat hkl2
    cases er
    · have HR : Hid (reach l keep torn = l.take k ++ [(z, cut x torn, false)]) := Lib.hid hr
      have hlb2 := lim_bd torn x.size (by omega)
      obtain ⟨m, hm⟩ : ∃ m : Nat, lim torn x.size = m := ⟨(lim torn x.size).toNat, by omega⟩
      have hmx : m ≤ x.size := by omega
      have HM := Lib.hid hm
      have HX := Lib.hid (show cut x torn = x.extract 0 m by unfold cut; rw [hm, Int.toNat_natCast])
      have m0 : (0 : Int) ≤ m := by omega
      have m1 : (m : Int) ≤ x.size := by omega
      obtain ⟨zz, hzz⟩ : ∃ q, zi z = q := ⟨_, rfl⟩
      rw [hzz] at y0
      have HZ := Lib.hid hzz
      obtain ⟨W, hW⟩ : ∃ Q_, w.alloc (.cells #[.int .i64 zz, .string x, .bool false] 52) = Q_ := ⟨_, rfl⟩
      have BW : Bx W w.heap.size #[.int .i64 zz, .string x, .bool false] 52 := hW ▸ Bx.new _ _ _
      have bW : Below w.heap.size w W := hW ▸ below1 _ _
      obtain ⟨q1, q2, q3, ⟨q4, q5, q6⟩, q7, q8, q9⟩ := BW.d3
      clear hr hlb2 hm hzz
      go_enter Try.func34, Try.ntmps34
      go_wp2_with fail
      with_reducible refine (limit_is HK _).mono ?_
      rintro e w1 ⟨rfl, rfl⟩
      go_wp2
      go_still_tail 9, (by kernel_rfl)
      still_call ((limit_is HM _).mono fun _ _ h => ⟨h.1, h.2.symm⟩)
      repeat still_step
      refine wpStill_nil ?_
      change wpList _ _ _ _ _ (World.drew _)
      obtain ⟨y, hy⟩ : ∃ q, x.extract 0 m = q := ⟨_, rfl⟩
      have HY := Lib.hid hy
      obtain ⟨X, hX⟩ : ∃ Q_, (W.setCell ⟨w.heap.size, 1, none⟩ (.string y)).drew = Q_ := ⟨_, rfl⟩
      have BX : Bx X w.heap.size #[.int .i64 zz, .string y, .bool false] 52 := hX ▸ (show Bx (W.setCell ⟨w.heap.size, 1, none⟩ (.string y)) w.heap.size #[.int .i64 zz, .string y, .bool false] 52 from BW.set 1 _)
      have bX : Below w.heap.size w X := hX ▸ (bW.trans (low_setCell _ _ (by omega))).drew
      have HF := Lib.hid (show ∀ u, Below X.heap.size X u → Rw.row u w.heap.size = #[.int .i64 zz, .string y, .bool false] ∧ u.cell? ⟨w.heap.size, 0, none⟩ = some (.int .i64 zz) ∧ u.cell? ⟨w.heap.size, 1, none⟩ = some (.string y) ∧ u.cell? ⟨w.heap.size, 2, none⟩ = some (.bool false) from fun u hu => ⟨(BX.stays hu).row, (BX.stays hu).cell 0, (BX.stays hu).cell 1, (BX.stays hu).cell 2⟩)
      have HO := Lib.hid (show ∀ u, Below X.heap.size X u → OL n (l.take k) (.slice a2 m2 c2) u from fun u hu => (OL.stays HCUT.out bX).stays hu)
      clear q1 q2 q3 BX hW
      go_wp2
      refine Rh.region (fun u => Below X.heap.size X u) (fun u => Below X.heap.size X u) (fun _ _ h k => nx h k) (fun _ _ h k => nx h k) ((Below.refl _ _).drew) ((Below.refl _ _).drew) [0, 1, 2, 3, 4, 5, 6, 7] (by kernel_rfl) (by kernel_rfl) (by kernel_rfl) (fun _ _ d _ _ h => by cases d <;> exact h) ?_
      repeat (first | (refine Rh.Steps.skip (by rfl) (by kernel_rfl) (by rfl) ?_; simp only [Act.put, List.setIfInBounds_toArray, List.set_cons_zero, List.set_cons_succ]) | (refine Rh.Steps.pure (v := ?_) (by rfl) (by kernel_rfl) (by rfl) ?_ ?_; rotate_left; (intro w_ hS_; have hk_ := HF.out w_ hS_; go_simp <;> with_reducible rfl); simp only [Act.put, List.setIfInBounds_toArray, List.set_cons_zero, List.set_cons_succ]))
      refine Rh.Steps.forced (i := 4) (by kernel_rfl) ?_
      refine Rh.One.val (fun v u => OL n [(z, y, false)] v u) (fun v _ _ h k => h.stays k) (by rfl) (by rfl) ?_ ?_
      · intro w_ hS_ hG_
        refine ⟨_, _, ?_, below1 w_ (.cells #[.int .i64 zz, .string y, .bool false] 52), Is.one (e := eO) (x := ((z, y, false) : Do)) (cs := [.int .i64 zz, .string y, .bool false]) ⟨by show n ≤ _; have := bX.size; have := hS_.size; omega, fun _ h => h.elim⟩ (by show _ = cellsO _; rw [← HZ.out]; rfl)⟩
        go_simp
      intro v1 u1 hv1
      simp only [Act.put, List.setIfInBounds_toArray, List.set_cons_zero, List.set_cons_succ]
      obtain ⟨a3, c3, rfl⟩ : ∃ a c, v1 = .slice a 1 c := hv1.len
      refine Rh.Steps.forced (i := 5) (by kernel_rfl) ?_
      refine Rh.One.val (fun v u => ∃ p, v = .slice (some ⟨p, 0, none⟩) 2 2 ∧ Bx u p #[.slice a2 m2 c2, .slice a3 1 c3] 26 ∧ OL n [(z, y, false)] (.slice a3 1 c3) u) (fun v _ _ ⟨p, h1, h2, h3⟩ k => ⟨p, h1, h2.stays k, h3.stays k⟩) (by rfl) (by rfl) ?_ ?_
      · intro w_ hS_ hG_
        refine ⟨_, _, ?_, below1 w_ (.cells #[.slice a2 m2 c2, .slice a3 1 c3] 26), w_.heap.size, rfl, Bx.new _ _ _, hG_.2.stays (below1 _ _)⟩
        go_simp
      intro v2 u2 hv2
      simp only [Act.put, List.setIfInBounds_toArray, List.set_cons_zero, List.set_cons_succ]
      obtain ⟨p, rfl⟩ : ∃ p, v2 = .slice (some ⟨p, 0, none⟩) 2 2 := by obtain ⟨p, h, _⟩ := hv2; exact ⟨p, h⟩
      refine Rh.Steps.forced (i := 6) (by kernel_rfl) ?_
      have hkl3 : (l.take k).length ≤ 1000000 := by rw [List.length_take]; omega
      refine Rh.One.call (fun v u => OL n (l.take k ++ [(z, y, false)]) v u) (fun v _ _ h k => h.stays k) (f := ?_) (args := ?_) (by rfl) (by rfl) ?_ ?_ ?_
      rotate_left 2
      · intro w_ hS_ hG_; go_simp <;> first | with_reducible rfl | (constructor <;> with_reducible rfl)
      · intro w_ hS_ hG_; (go_at_call 39; obtain ⟨p', hp', hB', hO'⟩ := hG_.2; cases hp'; refine (concat_any n (l.take k) [(z, y, false)] _ _ p w_ (HO.out w_ hS_) hO' hB'.lt (hB'.cell 0) (hB'.cell 1) (by have := bX.size; have := hS_.size; omega) hkl3 (by simp)).mono ?_; rintro e w' ⟨v, rfl, hb9, ho, _⟩; exact ⟨v, rfl, hb9, ho⟩)
      intro v3 u_ hv3
      simp only [Act.put, List.setIfInBounds_toArray, List.set_cons_zero, List.set_cons_succ]
      repeat (first | (refine Rh.Steps.skip (by rfl) (by kernel_rfl) (by rfl) ?_; simp only [Act.put, List.setIfInBounds_toArray, List.set_cons_zero, List.set_cons_succ]) | (refine Rh.Steps.pure (v := ?_) (by rfl) (by kernel_rfl) (by rfl) ?_ ?_; rotate_left; (intro w_ hS_; have hk_ := HF.out w_ hS_; go_simp <;> with_reducible rfl); simp only [Act.put, List.setIfInBounds_toArray, List.set_cons_zero, List.set_cons_succ]))
      refine Rh.Steps.nil (by kernel_rfl) ?_
      intro w4 hS4 hG4
      have HG := Lib.hid hG4.2
      clear hG4
      go_wp2
      go_ret
      exact ⟨_, rfl, nx bX hS4, by rw [HR.out, HX.out, HY.out]; exact HG.out⟩
    · have HR : Hid (reach l keep torn = l.take k) := Lib.hid hr
      clear hr
      go_enter Try.func34, Try.ntmps34
      go_wp2_with fail
      with_reducible refine (limit_is HK _).mono ?_
      rintro e w1 ⟨rfl, rfl⟩
      go_wp2
      go_ret
      exact ⟨_, rfl, Below.refl _ _, by rw [HR.out]; exact HCUT.out⟩
  · obtain rfl : k = n1 := by omega
    have HR : Hid (reach l keep torn = l.take k) := Lib.hid (HRE2.out (by rw [HN.out]; omega))
    go_enter Try.func34, Try.ntmps34
    go_wp2_with fail
    with_reducible refine (limit_is HK _).mono ?_
    rintro e w1 ⟨rfl, rfl⟩
    go_wp2
    go_ret
    exact ⟨_, rfl, Below.refl _ _, by rw [HR.out]; exact HCUT.out⟩
end Go.Proofs.Ytegepbifbhamnaa.Dk
