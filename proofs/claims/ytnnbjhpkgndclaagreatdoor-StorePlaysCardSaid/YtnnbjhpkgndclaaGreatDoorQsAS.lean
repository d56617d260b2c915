/- Values and instances in memory: parts of a row, read as wholes. -/
import Derived.Test.YtnnbjhpkgndclaaGreatDoorQsZZ
import Derived.Test.YtnnbjhpkgndclaaGreatDoorQsAL
import Derived.Test.YtnnbjhpkgndclaaGreatDoorQsAM
import Derived.Test.YtnnbjhpkgndclaaGreatDoorQsAO
import Derived.Test.YtnnbjhpkgndclaaGreatDoorQsAP
import Derived.Test.YtnnbjhpkgndclaaGreatDoorQsAG
import Derived.Deep.MidRow
import Derived.Lib.Hide
import Derived.StillTailTactics
import Derived.Test.YtnnbjhpkgndclaaGreatDoorQsAI
import Derived.Test.YtnnbjhpkgndclaaGreatDoorQsAQ
import Derived.Test.YtnnbjhpkgndclaaGreatDoorQsAR
set_option linter.unusedVariables false
namespace Go.Proofs.YtnnbjhpkgndclaaGreatDoor.Rc
open Go.RowKit
open Go.Proofs.YtnnbjhpkgndclaaGreatDoor.Rw
def part (n : Nat) (w : World) : Value → Array Value
  | .pointer (some ⟨b,o,none⟩) => (row w b).extract o (o + n)
  | _ => #[]
theorem part_at (n : Nat) (w : World) (b o : Nat) : part n w (.pointer (some ⟨b,o,none⟩)) = (row w b).extract o (o + n) := rfl
theorem run_part {P : Program} {T : TypeId} {n : Nat} {d : TypeDesc} {w : World} {v : Value} (hu : P.underlying T = some d) (hd : d.isRow = true) (hi : (P.info? T).map (·.size) = some (n + 1)) (h : (part (n + 1) w v).size = n + 1) : (Instr.loadAt T v).run P w = .ok (.agg (part (n + 1) w v)) w := by
  unfold part at h
  split at h
  · rename_i b o
    have hr : ∃ cs t fr,w.heap[b]? = some (.cells cs t fr) ∧ row w b = cs := by
      unfold row at h ⊢
      split at h
      · rename_i cs t fr e;exact ⟨cs,t,fr,e,rfl⟩
      · rw [Array.size_extract] at h;simp at h
    obtain ⟨cs,t,fr,e,hrow⟩ := hr
    rw [hrow] at h
    rw [part_at,hrow]
    have := run_loadAt_mid (P := P) w b o T (cs.extract o (o + (n + 1))).toList d (fun j v hj => by
      rw [cell_of_row w b (o + j) cs t fr e]
      rw [Array.getElem?_toList,Array.getElem?_extract] at hj
      split at hj
      · exact hj
      · cases hj) hu hd (by rw [Array.length_toList,h];exact hi)
    rwa [Array.toArray_toList] at this
  · cases h
def cv (c : Nat → Int) (q : Int) (d : Nat → Int) : Array Value := #[.int .i64 (c 0),.int .i64 (c 1),.int .i64 (c 2),.int .i64 (c 3),.int .i64 (c 4),.int .i64 (c 5),.int .i64 (c 6),.int .i64 (c 7),.int .i64 (c 8),.int .i64 q,.int .i64 (d 0),.int .i64 (d 1),.int .i64 (d 2),.int .i64 (d 3),.int .i64 (d 4),.int .i64 (d 5),.int .i64 (d 6)]
def ci (i : Ins) : Array Value := #[.int .i64 i.pr,.int .i64 i.ps,.int .i64 i.bn,.int .i64 i.br,.int .i64 i.tn,.int .i64 i.tr,.int .i64 i.st,.int .i64 (i.c 0),.int .i64 (i.c 1),.int .i64 (i.c 2),.int .i64 (i.c 3),.int .i64 (i.c 4),.int .i64 (i.c 5),.int .i64 (i.c 6),.int .i64 (i.c 7),.int .i64 (i.c 8),.int .i64 i.q,.int .i64 (i.d 0),.int .i64 (i.d 1),.int .i64 (i.d 2),.int .i64 (i.d 3),.int .i64 (i.d 4),.int .i64 (i.d 5),.int .i64 (i.d 6),.bool i.sm]
theorem cv_size (c : Nat → Int) (q : Int) (d : Nat → Int) : (cv c q d).size = 17 := rfl
theorem ci_size (i : Ins) : (ci i).size = 25 := rfl
theorem cv_cmd (c : Nat → Int) (q : Int) (d : Nat → Int) : (cv c q d).extract 0 9 = Cm.fc c := by simp [cv];rfl
theorem cv_dep (c : Nat → Int) (q : Int) (d : Nat → Int) : (cv c q d).extract 10 17 = Ve.fc d := by simp [cv];rfl
theorem cv_all (c : Nat → Int) (q : Int) (d : Nat → Int) : (cv c q d).extract 0 17 = cv c q d := by simp [cv]
theorem ci_place (i : Ins) : (ci i).extract 0 2 = #[.int .i64 i.pr,.int .i64 i.ps] := by simp [ci]
theorem ci_prom (i : Ins) : (ci i).extract 2 4 = #[.int .i64 i.bn,.int .i64 i.br] := by simp [ci]
theorem ci_taken (i : Ins) : (ci i).extract 4 6 = #[.int .i64 i.tn,.int .i64 i.tr] := by simp [ci]
theorem ci_val (i : Ins) : (ci i).extract 7 24 = cv i.c i.q i.d := by simp [ci,cv]
theorem ci_all (i : Ins) : (ci i).extract 0 25 = ci i := by simp [ci]
section
variable (ρ : Operand → Value) (dst : Option Tmp) (ty : TypeId) (pos : String) (after : Array Edge) (guard : Option (Nat × Bool)) (w : World)
theorem ldP (x : Operand) (h : (part 2 w (ρ x)).size = 2) : (execOp ρ { dst,op := .load 34 x,type := ty,pos,after,guard }).run Tryz.prog w = .ok (.value (.agg (part 2 w (ρ x)))) w := by
  simp [execOp,run_part (n := 1) Tryz.underlying34 rfl (by kernel_rfl) h]
theorem ldB (x : Operand) (h : (part 2 w (ρ x)).size = 2) : (execOp ρ { dst,op := .load 36 x,type := ty,pos,after,guard }).run Tryz.prog w = .ok (.value (.agg (part 2 w (ρ x)))) w := by
  simp [execOp,run_part (n := 1) Tryz.underlying36 rfl (by kernel_rfl) h]
theorem ldC (x : Operand) (h : (part 9 w (ρ x)).size = 9) : (execOp ρ { dst,op := .load 38 x,type := ty,pos,after,guard }).run Tryz.prog w = .ok (.value (.agg (part 9 w (ρ x)))) w := by
  simp [execOp,run_part (n := 8) Tryz.underlying38 rfl (by kernel_rfl) h]
theorem ldD (x : Operand) (h : (part 7 w (ρ x)).size = 7) : (execOp ρ { dst,op := .load 40 x,type := ty,pos,after,guard }).run Tryz.prog w = .ok (.value (.agg (part 7 w (ρ x)))) w := by
  simp [execOp,run_part (n := 6) Tryz.underlying40 rfl (by kernel_rfl) h]
theorem ldV (x : Operand) (h : (part 17 w (ρ x)).size = 17) : (execOp ρ { dst,op := .load 42 x,type := ty,pos,after,guard }).run Tryz.prog w = .ok (.value (.agg (part 17 w (ρ x)))) w := by
  simp [execOp,run_part (n := 16) Tryz.underlying42 rfl (by kernel_rfl) h]
theorem ldI (x : Operand) (h : (part 25 w (ρ x)).size = 25) : (execOp ρ { dst,op := .load 44 x,type := ty,pos,after,guard }).run Tryz.prog w = .ok (.value (.agg (part 25 w (ρ x)))) w := by
  simp [execOp,run_part (n := 24) Tryz.underlying44 rfl (by kernel_rfl) h]
end
attribute [go_sem ↓] ldP ldB ldC ldD ldV ldI
attribute [go_sem] part_at cv_size ci_size cv_cmd cv_dep cv_all ci_place ci_prom ci_taken ci_val ci_all
theorem vfc_size (d : Nat → Int) : (Ve.fc d).size = 7 := rfl
attribute [go_sem] vfc_size
theorem two_size (a b : Value) : (#[a,b] : Array Value).size = 2 := rfl
attribute [go_sem] two_size
theorem agg_cells (a : Array Value) : (Value.agg a).cells = a := rfl
attribute [go_sem] agg_cells
theorem row_stays {w w' : World} {b : Nat} {cs : Array Value} (h : row w b = cs) (hb : b < w.heap.size) (k : Below w.heap.size w w') : row w' b = cs := by
  unfold row at h ⊢
  rw [k.block b hb];exact h
theorem ret_bool {a b : Bool} (h : a = b) : Ending.returned (.bool a) = .returned (.bool b) := by rw [h]
end Go.Proofs.YtnnbjhpkgndclaaGreatDoor.Rc
namespace Go.Proofs.YtnnbjhpkgndclaaGreatDoor.Rc
open Go.RowKit
open Go.Proofs.YtnnbjhpkgndclaaGreatDoor.Rw
open Go.Proofs.YtnnbjhpkgndclaaGreatDoor.Cm (chkB chkE rCheck_is)
open Go.Proofs.YtnnbjhpkgndclaaGreatDoor.Ve (rightB)
theorem rRightV_is {d : Nat → Int} {n : Int} {b : Bool} (H : Hid (rightB d n = b)) (w : World) :
    Calls Tryz.prog 118 #[.agg (Ve.fc d),.int .i64 n] w fun e w' => e = .returned (.bool b) ∧ Below w.heap.size w w' := by
  rw [← H.out];exact Ve.rRight_any d n w
theorem chk_yes {c : Nat → Int} (h : chkB c = true) : chkE c = 0 := by unfold chkE;rw [h];rfl
theorem chk_no {c : Nat → Int} (h : chkB c = false) : chkE c = 1 := by unfold chkE;rw [h];rfl
set_option maxRecDepth 8000 in
set_option maxHeartbeats 2000000 in
theorem rValue_any (c : Nat → Int) (q : Int) (d : Nat → Int) (n : Int) (w : World) :
    Calls Tryz.prog 91 #[.agg (cv c q d),.int .i64 n] w fun e w' => e = .returned (.bool (okV c q d n)) ∧ Below w.heap.size w w' := by
  obtain ⟨V,hV⟩ : ∃ Q_ : World,w.alloc (.cells (cv c q d) 42) = Q_ := ⟨_,rfl⟩
  have bV : Below w.heap.size w V := hV ▸ below1 _ _
  have hr0 : row V w.heap.size = cv c q d := hV ▸ row_new _ _ _ _ rfl
  have hl0 : w.heap.size < V.heap.size := by rw [← hV];simp
  have HK := lH (show ∀ u,Below V.heap.size V u → row u w.heap.size = cv c q d ∧ u.cell? ⟨w.heap.size,9,none⟩ = some (.int .i64 q) ∧ w.heap.size < u.heap.size from fun u hu => by
    have h1 := row_stays hr0 hl0 hu
    refine ⟨h1,?_,Nat.lt_of_lt_of_le hl0 hu.size⟩
    rw [cell_row (n := 16) u w.heap.size 9 (by rw [h1];rfl),h1];rfl)
  clear hl0
  cases h1 : chkB c with
  | false =>
    have HC := lH (chk_no h1)
    have HF : Hid (okV c q d n = false) := lH (by simp [okV,h1])
    clear h1
    go_enter Tryz.func91,Tryz.ntmps91
    go_wp2_with fail
    refine (rCheck_is HC _).mono ?_
    rintro e w1 ⟨rfl,hb1⟩
    go_wp2
    go_ret
    exact ⟨ret_bool HF.out.symm,nx bV hb1⟩
  | true =>
    have HC := lH (chk_yes h1)
    have HF : Hid (okV c q d n = (decide (0 ≤ q) && (decide (q ≤ 1073741824) && rightB d n))) := lH (by simp [okV,h1])
    clear h1
    by_cases h2 : 0 ≤ q
    · by_cases h3 : q ≤ 1073741824
      · obtain ⟨b,hb⟩ : ∃ b,rightB d n = b := ⟨_,rfl⟩
        have HB := lH hb
        have HE : Hid (okV c q d n = b) := lH (by rw [HF.out,hb];simp [h2,h3])
        clear hb
        go_enter Tryz.func91,Tryz.ntmps91
        go_wp2_with fail
        refine (rCheck_is HC _).mono ?_
        rintro e w1 ⟨rfl,hb1⟩
        obtain ⟨m1,m2,m3⟩ := HK.out w1 hb1
        go_wp2_with fail
        refine (rRightV_is HB _).mono ?_
        rintro e w2 ⟨rfl,hb2⟩
        go_wp2
        go_ret
        exact ⟨ret_bool HE.out.symm,nx bV (nx hb1 hb2)⟩
      · have HE : Hid (okV c q d n = false) := lH (by rw [HF.out];simp [h3])
        go_enter Tryz.func91,Tryz.ntmps91
        go_wp2_with fail
        refine (rCheck_is HC _).mono ?_
        rintro e w1 ⟨rfl,hb1⟩
        obtain ⟨m1,m2,m3⟩ := HK.out w1 hb1
        go_wp2
        go_ret
        exact ⟨ret_bool HE.out.symm,nx bV hb1⟩
    · have HE : Hid (okV c q d n = false) := lH (by rw [HF.out];simp [h2])
      go_enter Tryz.func91,Tryz.ntmps91
      go_wp2_with fail
      refine (rCheck_is HC _).mono ?_
      rintro e w1 ⟨rfl,hb1⟩
      obtain ⟨m1,m2,m3⟩ := HK.out w1 hb1
      go_wp2
      go_ret
      exact ⟨ret_bool HE.out.symm,nx bV hb1⟩
theorem rValue_is {c : Nat → Int} {q : Int} {d : Nat → Int} {n : Int} {b : Bool} (H : Hid (okV c q d n = b)) (w : World) :
    Calls Tryz.prog 91 #[.agg (cv c q d),.int .i64 n] w fun e w' => e = .returned (.bool b) ∧ Below w.heap.size w w' := by
  rw [← H.out];exact rValue_any c q d n w
def okP (r s n : Int) : Bool := decide (0 ≤ r ∧ r < n ∧ 1 ≤ s ∧ s ≤ 400)
theorem okP_no {r s n : Int} (h : ¬ (0 ≤ r ∧ r < n ∧ 1 ≤ s ∧ s ≤ 400)) : okP r s n = false := decide_eq_false h
set_option maxRecDepth 8000 in
set_option maxHeartbeats 2000000 in
theorem rPlace_any (r s n : Int) (w : World) :
    Calls Tryz.prog 88 #[.agg #[.int .i64 r,.int .i64 s],.int .i64 n] w fun e w' => e = .returned (.bool (okP r s n)) ∧ Below w.heap.size w w' := by
  by_cases h0 : 0 ≤ r
  · by_cases h1 : r < n
    · by_cases h2 : 1 ≤ s
      · by_cases h3 : s ≤ 400
        · have HE : Hid (okP r s n = true) := lH (decide_eq_true ⟨h0,h1,h2,h3⟩)
          go_enter Tryz.func88,Tryz.ntmps88
          go_wp2
          go_ret
          exact ⟨ret_bool HE.out.symm,below1 _ _⟩
        · have HE : Hid (okP r s n = false) := lH (okP_no (by omega))
          go_enter Tryz.func88,Tryz.ntmps88
          go_wp2
          go_ret
          exact ⟨ret_bool HE.out.symm,below1 _ _⟩
      · have HE : Hid (okP r s n = false) := lH (okP_no (by omega))
        go_enter Tryz.func88,Tryz.ntmps88
        go_wp2
        go_ret
        exact ⟨ret_bool HE.out.symm,below1 _ _⟩
    · have HE : Hid (okP r s n = false) := lH (okP_no (by omega))
      go_enter Tryz.func88,Tryz.ntmps88
      go_wp2
      go_ret
      exact ⟨ret_bool HE.out.symm,below1 _ _⟩
  · have HE : Hid (okP r s n = false) := lH (okP_no (by omega))
    go_enter Tryz.func88,Tryz.ntmps88
    go_wp2
    go_ret
    exact ⟨ret_bool HE.out.symm,below1 _ _⟩
theorem rPlace_is {r s n : Int} {b : Bool} (H : Hid (okP r s n = b)) (w : World) :
    Calls Tryz.prog 88 #[.agg #[.int .i64 r,.int .i64 s],.int .i64 n] w fun e w' => e = .returned (.bool b) ∧ Below w.heap.size w w' := by
  rw [← H.out];exact rPlace_any r s n w
end Go.Proofs.YtnnbjhpkgndclaaGreatDoor.Rc
namespace Go.Proofs.YtnnbjhpkgndclaaGreatDoor.Rc
open Go.RowKit
open Go.Proofs.YtnnbjhpkgndclaaGreatDoor.Rw
theorem eqI1 (m : Nat) (a b : Int) (w : World) : (Op.equalIn (m + 1) 3 (.int .i64 a) (.int .i64 b)).run Tryz.prog w = .ok (a == b) w := by
  rw [Op.equalIn]
  simp [run_underlying Tryz.underlying3]
theorem eqB1 (m : Nat) (a b : Bool) (w : World) : (Op.equalIn (m + 1) 4 (.bool a) (.bool b)).run Tryz.prog w = .ok (a == b) w := by
  rw [Op.equalIn]
  simp [run_underlying Tryz.underlying4]
theorem eqOne (m : Nat) (f g : Nat → Int) (k : Nat) (hk : k < 9) (nm : String) (hn : nm ≠ "_") (fl : Field) (hf : fl.name = nm) (ho : fl.offset = k) (ht : fl.type = 3) (fs : List Field) (w : World) :
    (Op.eqFields (m + 1) (Cm.fc f) (Cm.fc g) (fl :: fs)).run Tryz.prog w = if f k = g k then (Op.eqFields (m + 1) (Cm.fc f) (Cm.fc g) fs).run Tryz.prog w else .ok false w := by
  simp only [Op.eqFields,hf,ho,ht,hn,ne_eq,not_false_eq_true,if_true,Sem.run_bind,Cm.part_fc f k hk,Cm.part_fc g k hk,eqI1,Result.andThen_ok]
  by_cases h : f k = g k
  · simp [h]
  · simp [h]
theorem eqC2 (m : Nat) (f g : Nat → Int) (w : World) : (Op.equalIn (m + 2) 38 (.agg (Cm.fc f)) (.agg (Cm.fc g))).run Tryz.prog w = .ok (Cm.eqF f g) w := by
  rw [run_equalIn_agg w (m + 1) _ _ _ Cm.fieldsC (by kernel_rfl)]
  simp only [Program.fieldsOf,Tryz.underlying38]
  rw [eqOne m f g 0 (by omega) "Client" (by decide) _ rfl rfl rfl,eqOne m f g 1 (by omega) "Seq" (by decide) _ rfl rfl rfl,eqOne m f g 2 (by omega) "Kind" (by decide) _ rfl rfl rfl,eqOne m f g 3 (by omega) "Lane" (by decide) _ rfl rfl rfl,
    eqOne m f g 4 (by omega) "Asset" (by decide) _ rfl rfl rfl,eqOne m f g 5 (by omega) "Order" (by decide) _ rfl rfl rfl,eqOne m f g 6 (by omega) "Side" (by decide) _ rfl rfl rfl,eqOne m f g 7 (by omega) "Price" (by decide) _ rfl rfl rfl,eqOne m f g 8 (by omega) "Qty" (by decide) _ rfl rfl rfl]
  cases e : Cm.eqF f g
  · by_cases h : f 0 = g 0 ∧ f 1 = g 1 ∧ f 2 = g 2 ∧ f 3 = g 3 ∧ f 4 = g 4 ∧ f 5 = g 5 ∧ f 6 = g 6 ∧ f 7 = g 7 ∧ f 8 = g 8
    · obtain ⟨h0,h1,h2,h3,h4,h5,h6,h7,h8⟩ := h
      have : Cm.eqF f g = true := Cm.eqF_iff.2 fun i hi => by
        match i,hi with
        | 0,_ => exact h0
        | 1,_ => exact h1
        | 2,_ => exact h2
        | 3,_ => exact h3
        | 4,_ => exact h4
        | 5,_ => exact h5
        | 6,_ => exact h6
        | 7,_ => exact h7
        | 8,_ => exact h8
      rw [this] at e;cases e
    · by_cases h0 : f 0 = g 0 <;> by_cases h1 : f 1 = g 1 <;> try (simp only [h0,h1,if_false,if_true];done)
      by_cases h2 : f 2 = g 2 <;> by_cases h3 : f 3 = g 3 <;> try (simp only [h0,h1,h2,h3,if_false,if_true];done)
      by_cases h4 : f 4 = g 4 <;> by_cases h5 : f 5 = g 5 <;> try (simp only [h0,h1,h2,h3,h4,h5,if_false,if_true];done)
      by_cases h6 : f 6 = g 6 <;> by_cases h7 : f 7 = g 7 <;> try (simp only [h0,h1,h2,h3,h4,h5,h6,h7,if_false,if_true];done)
      by_cases h8 : f 8 = g 8
      · exact absurd ⟨h0,h1,h2,h3,h4,h5,h6,h7,h8⟩ h
      · simp only [h0,h1,h2,h3,h4,h5,h6,h7,h8,if_false,if_true]
  · have h := Cm.eqF_iff.1 e
    rw [if_pos (h 0 (by omega)),if_pos (h 1 (by omega)),if_pos (h 2 (by omega)),if_pos (h 3 (by omega)),if_pos (h 4 (by omega)),if_pos (h 5 (by omega)),if_pos (h 6 (by omega)),if_pos (h 7 (by omega)),if_pos (h 8 (by omega))]
    simp [Op.eqFields]
theorem eqAll (m : Nat) (f g : Nat → Int) (w : World) : ∀ (n s : Nat),s + n ≤ 7 →
    Sem.run Tryz.prog (forIn (List.range' s n) ((none : Option Bool),()) fun i _ => (do
      if !(← Op.equalIn (m + 1) 3 (← Go.part 3 (Ve.fc f) (i * 1)) (← Go.part 3 (Ve.fc g) (i * 1))) then pure (ForInStep.done (some false,())) else pure (ForInStep.yield (none,())) : Sem (ForInStep (Option Bool × Unit)))) w =
    .ok (if (List.range' s n).all (fun i => decide (f i = g i)) then (none,()) else (some false,())) w
  | 0,s,_ => by simp
  | n + 1,s,h => by
    rw [List.range'_succ,List.forIn_cons]
    have h1 := Ve.part_fc f (s * 1) (by omega) w
    have h2 := Ve.part_fc g (s * 1) (by omega) w
    have h3 := eqI1 m (f (s * 1)) (g (s * 1)) w
    simp only [Sem.run_bind,h1,h2,h3,Result.andThen]
    rw [Nat.mul_one]
    by_cases e : f s = g s
    · have := eqAll m f g w n (s + 1) (by omega)
      rw [List.all_cons,decide_eq_true e,Bool.true_and]
      simpa [e] using this
    · rw [List.all_cons,decide_eq_false e,Bool.false_and]
      simp [e]
theorem eqD2 (m : Nat) (f g : Nat → Int) (w : World) : (Op.equalIn (m + 2) 40 (.agg (Ve.fc f)) (.agg (Ve.fc g))).run Tryz.prog w = .ok (Ve.eqV f g) w := by
  rw [show m + 2 = (m + 1) + 1 from rfl,Op.equalIn]
  simp only [Sem.run_bind,run_underlying Tryz.underlying40,Result.andThen_ok,Tryz.sizeOf3]
  have h := eqAll m f g w 7 0 (by omega)
  simp only [Std.Legacy.Range.forIn_eq_forIn_range',Std.Legacy.Range.size,Nat.sub_zero,Nat.add_sub_cancel,Nat.div_one]
  rw [h]
  by_cases e : (List.range' 0 7).all (fun i => decide (f i = g i)) = true
  · rw [if_pos e]
    have : Ve.eqV f g = true := e
    rw [this];rfl
  · rw [if_neg e]
    have : Ve.eqV f g = false := Bool.eq_false_iff.2 e
    rw [this];rfl
theorem fieldsV : Tryz.prog.underlying 42 = some (.struct (Tryz.prog.fieldsOf 42)) := by kernel_rfl
theorem fieldsI : Tryz.prog.underlying 44 = some (.struct (Tryz.prog.fieldsOf 44)) := by kernel_rfl
def eqVal (c : Nat → Int) (q : Int) (d : Nat → Int) (c' : Nat → Int) (q' : Int) (d' : Nat → Int) : Bool := Cm.eqF c c' && (decide (q = q') && Ve.eqV d d')
theorem partC (c : Nat → Int) (q : Int) (d : Nat → Int) (w : World) : (Go.part 38 (cv c q d) 0).run Tryz.prog w = .ok (.agg (Cm.fc c)) w := by
  simp [Go.part,Tryz.isAgg38,Tryz.sizeOf38,cv_cmd]
theorem partQ (c : Nat → Int) (q : Int) (d : Nat → Int) (w : World) : (Go.part 3 (cv c q d) 9).run Tryz.prog w = .ok (.int .i64 q) w := by
  simp [Go.part,Tryz.isAgg3,cv]
theorem partD (c : Nat → Int) (q : Int) (d : Nat → Int) (w : World) : (Go.part 40 (cv c q d) 10).run Tryz.prog w = .ok (.agg (Ve.fc d)) w := by
  simp [Go.part,Tryz.isAgg40,Tryz.sizeOf40,cv_dep]
theorem eqV3 (m : Nat) (c : Nat → Int) (q : Int) (d : Nat → Int) (c' : Nat → Int) (q' : Int) (d' : Nat → Int) (w : World) : (Op.equalIn (m + 3) 42 (.agg (cv c q d)) (.agg (cv c' q' d'))).run Tryz.prog w = .ok (eqVal c q d c' q' d') w := by
  rw [run_equalIn_agg w (m + 2) _ _ _ fieldsV (by kernel_rfl)]
  simp only [Program.fieldsOf,Tryz.underlying42]
  simp only [Op.eqFields]
  cases h1 : Cm.eqF c c'
  · simp [eqVal,h1,partC,eqC2]
  · by_cases h2 : q = q'
    · cases h3 : Ve.eqV d d' <;> simp [eqVal,h1,h2,h3,partC,eqC2,partD,eqD2,partQ,eqI1]
    · simp [eqVal,h1,h2,partC,eqC2,partQ,eqI1]
theorem eqlVal (c : Nat → Int) (q : Int) (d : Nat → Int) (c' : Nat → Int) (q' : Int) (d' : Nat → Int) (w : World) : (binOp .eql 42 (.agg (cv c q d)) (.agg (cv c' q' d'))).run Tryz.prog w = .ok (.bool (eqVal c q d c' q' d')) w := by
  rw [run_eql_struct,eqV3 9997];rfl
theorem guardVal (op : BinOp) (x y : Operand) (c : Nat → Int) (q : Int) (d : Nat → Int) (c' : Nat → Int) (q' : Int) (d' : Nat → Int) (w : World) : (eqGuard op 42 x y (.agg (cv c q d)) (.agg (cv c' q' d'))).run Tryz.prog w = .ok () w :=
  run_eqGuard_agg w op _ x y _ _ (by kernel_rfl)
section
variable (ρ : Operand → Value) (dst : Option Tmp) (ty : TypeId) (pos : String) (after : Array Edge) (guard : Option (Nat × Bool)) (w : World)
theorem buildVal : (execOp ρ { dst,op := .build 42 #[],type := ty,pos,after,guard }).run Tryz.prog w = .ok (.value (.agg (cv Cm.zeroF 0 Ve.zeroV))) w := by
  have := run_build (P := Tryz.prog) w 42 #[] (cv Cm.zeroF 0 Ve.zeroV) (by kernel_rfl)
  simp [execOp,this]
end
attribute [go_sem ↓] eqlVal guardVal buildVal
end Go.Proofs.YtnnbjhpkgndclaaGreatDoor.Rc
namespace Go.Proofs.YtnnbjhpkgndclaaGreatDoor.Rc
open Go.RowKit
open Go.Proofs.YtnnbjhpkgndclaaGreatDoor.Rw
open Go.Proofs.YtnnbjhpkgndclaaGreatDoor.Ba (valB lessB)
theorem rValid_is {n r : Int} {b : Bool} (H : Hid (valB n r = b)) (w : World) :
    Calls Tryz.prog 89 #[.agg #[.int .i64 n,.int .i64 r]] w fun e w' => e = .returned (.bool b) ∧ Below w.heap.size w w' := by
  rw [← H.out];exact Ba.rValid_any n r w
theorem rLess_is {a b c d : Int} {x : Bool} (H : Hid (lessB a b c d = x)) (w : World) :
    Calls Tryz.prog 90 #[.agg #[.int .i64 a,.int .i64 b],.agg #[.int .i64 c,.int .i64 d]] w fun e w' => e = .returned (.bool x) ∧ Below w.heap.size w w' := by
  rw [← H.out];exact Ba.rLess_any a b c d w
structure At (w : World) (b : Nat) (i : Ins) : Prop where
  rw : row w b = ci i
  lt : b < w.heap.size
theorem At.stays {w w' : World} {b : Nat} {i : Ins} (h : At w b i) (k : Below w.heap.size w w') : At w' b i := ⟨row_stays h.rw h.lt k,Nat.lt_of_lt_of_le h.lt k.size⟩
theorem At.new (w : World) (i : Ins) (t : TypeId) : At (w.alloc (.cells (ci i) t)) w.heap.size i := ⟨row_new _ _ _ _ rfl,by simp⟩
theorem At.cell {w : World} {b : Nat} {i : Ins} (h : At w b i) (o : Nat) {v : Value} (hv : (ci i)[o]? = some v) : w.cell? ⟨b,o,none⟩ = some v := by
  rw [cell_row (n := 24) w b o (by rw [h.rw];rfl),h.rw];exact hv
theorem At.facts {w : World} {b : Nat} {i : Ins} (h : At w b i) : row w b = ci i ∧ w.cell? ⟨b,6,none⟩ = some (.int .i64 i.st) ∧ w.cell? ⟨b,24,none⟩ = some (.bool i.sm) ∧ b < w.heap.size := ⟨h.rw,h.cell 6 rfl,h.cell 24 rfl,h.lt⟩
theorem bare_eq (i : Ins) : bare i = (eqVal i.c i.q i.d Cm.zeroF 0 Ve.zeroV && (decide (i.tn = 0 ∧ i.tr = 0) && !i.sm)) := by
  unfold bare eqVal
  cases Cm.eqF i.c Cm.zeroF <;> cases Ve.eqV i.d Ve.zeroV <;> by_cases h1 : i.q = 0 <;> by_cases h2 : i.tn = 0 <;> by_cases h3 : i.tr = 0 <;> simp [h1,h2,h3]
set_option maxRecDepth 8000 in
set_option maxHeartbeats 8000000 in
theorem rRight_any (i : Ins) (n : Int) (w : World) :
    Calls Tryz.prog 56 #[.agg (ci i),.int .i64 n] w fun e w' => e = .returned (.bool (okI i n)) ∧ Below w.heap.size w w' := by
  obtain ⟨V,hV⟩ : ∃ Q_ : World,w.alloc (.cells (ci i) 44) = Q_ := ⟨_,rfl⟩
  have bV : Below w.heap.size w V := hV ▸ below1 _ _
  have A0 : At V w.heap.size i := hV ▸ At.new _ _ _
  obtain ⟨R,hR⟩ : ∃ R,okI i n = R := ⟨_,rfl⟩
  rw [hR]
  have HR : Hid (okI i n = R) := lH hR
  clear hR
  obtain ⟨m1,m2,m3,m4⟩ := A0.facts
  have HA := lH A0
  clear A0
  by_cases h1 : n < 1
  · skip
    have HE : Hid (R = false) := lH (by rw [← HR.out];exact Bool.eq_false_iff.2 fun h => by obtain ⟨k1,k2,k3,k4,k5,k6,k7,_⟩ := okI_iff.1 h;omega)
    go_enter Tryz.func56,Tryz.ntmps56
    go_wp2
    go_ret
    exact ⟨ret_bool HE.out.symm,bV⟩
  by_cases h2 : 7 < n
  · skip
    have HE : Hid (R = false) := lH (by rw [← HR.out];exact Bool.eq_false_iff.2 fun h => by obtain ⟨k1,k2,k3,k4,k5,k6,k7,_⟩ := okI_iff.1 h;omega)
    go_enter Tryz.func56,Tryz.ntmps56
    go_wp2
    go_ret
    exact ⟨ret_bool HE.out.symm,bV⟩
  obtain ⟨c3,g3⟩ : ∃ b,okP i.pr i.ps n = b := ⟨_,rfl⟩
  have H3 := lH g3
  cases c3
  · skip
    clear g3
    have HE : Hid (R = false) := lH (by rw [← HR.out];exact Bool.eq_false_iff.2 fun h => by obtain ⟨k1,k2,k3,k4,k5,k6,k7,_⟩ := okI_iff.1 h;exact absurd (show okP i.pr i.ps n = true from decide_eq_true k2) (by rw [H3.out];decide))
    go_enter Tryz.func56,Tryz.ntmps56
    go_wp2_with fail
    clear m1 m2 m3 m4
    refine (rPlace_is H3 _).mono ?_
    rintro e w3 ⟨rfl,hb3⟩
    have b3 := nx bV hb3
    have A3 := At.stays HA.out hb3
    obtain ⟨m1,m2,m3,m4⟩ := A3.facts
    go_wp2
    go_ret
    exact ⟨ret_bool HE.out.symm,b3⟩
  clear g3
  obtain ⟨c4,g4⟩ : ∃ b,valB i.bn i.br = b := ⟨_,rfl⟩
  have H4 := lH g4
  cases c4
  · skip
    clear g4
    have HE : Hid (R = false) := lH (by rw [← HR.out];exact Bool.eq_false_iff.2 fun h => by obtain ⟨k1,k2,k3,k4,k5,k6,k7,_⟩ := okI_iff.1 h;rw [H4.out] at k3;cases k3)
    go_enter Tryz.func56,Tryz.ntmps56
    go_wp2_with fail
    clear m1 m2 m3 m4
    refine (rPlace_is H3 _).mono ?_
    rintro e w3 ⟨rfl,hb3⟩
    have b3 := nx bV hb3
    have A3 := At.stays HA.out hb3
    obtain ⟨m1,m2,m3,m4⟩ := A3.facts
    go_wp2_with fail
    clear m1 m2 m3 m4
    refine (rValid_is H4 _).mono ?_
    rintro e w4 ⟨rfl,hb4⟩
    have b4 := nx b3 hb4
    have A4 := At.stays A3 hb4
    obtain ⟨m1,m2,m3,m4⟩ := A4.facts
    go_wp2
    go_ret
    exact ⟨ret_bool HE.out.symm,b4⟩
  clear g4
  obtain ⟨c5,g5⟩ : ∃ b,valB i.tn i.tr = b := ⟨_,rfl⟩
  have H5 := lH g5
  cases c5
  · skip
    clear g5
    have HE : Hid (R = false) := lH (by rw [← HR.out];exact Bool.eq_false_iff.2 fun h => by obtain ⟨k1,k2,k3,k4,k5,k6,k7,_⟩ := okI_iff.1 h;rw [H5.out] at k4;cases k4)
    go_enter Tryz.func56,Tryz.ntmps56
    go_wp2_with fail
    clear m1 m2 m3 m4
    refine (rPlace_is H3 _).mono ?_
    rintro e w3 ⟨rfl,hb3⟩
    have b3 := nx bV hb3
    have A3 := At.stays HA.out hb3
    obtain ⟨m1,m2,m3,m4⟩ := A3.facts
    go_wp2_with fail
    clear m1 m2 m3 m4
    refine (rValid_is H4 _).mono ?_
    rintro e w4 ⟨rfl,hb4⟩
    have b4 := nx b3 hb4
    have A4 := At.stays A3 hb4
    obtain ⟨m1,m2,m3,m4⟩ := A4.facts
    go_wp2_with fail
    clear m1 m2 m3 m4
    refine (rValid_is H5 _).mono ?_
    rintro e w5 ⟨rfl,hb5⟩
    have b5 := nx b4 hb5
    have A5 := At.stays A4 hb5
    obtain ⟨m1,m2,m3,m4⟩ := A5.facts
    go_wp2
    go_ret
    exact ⟨ret_bool HE.out.symm,b5⟩
  clear g5
  obtain ⟨c6,g6⟩ : ∃ b,lessB i.bn i.br i.tn i.tr = b := ⟨_,rfl⟩
  have H6 := lH g6
  cases c6
  rotate_left
  · skip
    clear g6
    have HE : Hid (R = false) := lH (by rw [← HR.out];exact Bool.eq_false_iff.2 fun h => by obtain ⟨k1,k2,k3,k4,k5,k6,k7,_⟩ := okI_iff.1 h;rw [H6.out] at k5;cases k5)
    go_enter Tryz.func56,Tryz.ntmps56
    go_wp2_with fail
    clear m1 m2 m3 m4
    refine (rPlace_is H3 _).mono ?_
    rintro e w3 ⟨rfl,hb3⟩
    have b3 := nx bV hb3
    have A3 := At.stays HA.out hb3
    obtain ⟨m1,m2,m3,m4⟩ := A3.facts
    go_wp2_with fail
    clear m1 m2 m3 m4
    refine (rValid_is H4 _).mono ?_
    rintro e w4 ⟨rfl,hb4⟩
    have b4 := nx b3 hb4
    have A4 := At.stays A3 hb4
    obtain ⟨m1,m2,m3,m4⟩ := A4.facts
    go_wp2_with fail
    clear m1 m2 m3 m4
    refine (rValid_is H5 _).mono ?_
    rintro e w5 ⟨rfl,hb5⟩
    have b5 := nx b4 hb5
    have A5 := At.stays A4 hb5
    obtain ⟨m1,m2,m3,m4⟩ := A5.facts
    go_wp2_with fail
    clear m1 m2 m3 m4
    refine (rLess_is H6 _).mono ?_
    rintro e w6 ⟨rfl,hb6⟩
    have b6 := nx b5 hb6
    have A6 := At.stays A5 hb6
    obtain ⟨m1,m2,m3,m4⟩ := A6.facts
    go_wp2
    go_ret
    exact ⟨ret_bool HE.out.symm,b6⟩
  clear g6
  by_cases h7 : i.st < 0
  · skip
    have HE : Hid (R = false) := lH (by rw [← HR.out];exact Bool.eq_false_iff.2 fun h => by obtain ⟨k1,k2,k3,k4,k5,k6,k7,_⟩ := okI_iff.1 h;omega)
    go_enter Tryz.func56,Tryz.ntmps56
    go_wp2_with fail
    clear m1 m2 m3 m4
    refine (rPlace_is H3 _).mono ?_
    rintro e w3 ⟨rfl,hb3⟩
    have b3 := nx bV hb3
    have A3 := At.stays HA.out hb3
    obtain ⟨m1,m2,m3,m4⟩ := A3.facts
    go_wp2_with fail
    clear m1 m2 m3 m4
    refine (rValid_is H4 _).mono ?_
    rintro e w4 ⟨rfl,hb4⟩
    have b4 := nx b3 hb4
    have A4 := At.stays A3 hb4
    obtain ⟨m1,m2,m3,m4⟩ := A4.facts
    go_wp2_with fail
    clear m1 m2 m3 m4
    refine (rValid_is H5 _).mono ?_
    rintro e w5 ⟨rfl,hb5⟩
    have b5 := nx b4 hb5
    have A5 := At.stays A4 hb5
    obtain ⟨m1,m2,m3,m4⟩ := A5.facts
    go_wp2_with fail
    clear m1 m2 m3 m4
    refine (rLess_is H6 _).mono ?_
    rintro e w6 ⟨rfl,hb6⟩
    have b6 := nx b5 hb6
    have A6 := At.stays A5 hb6
    obtain ⟨m1,m2,m3,m4⟩ := A6.facts
    go_wp2
    go_ret
    exact ⟨ret_bool HE.out.symm,b6⟩
  by_cases h8 : 3 < i.st
  · skip
    have HE : Hid (R = false) := lH (by rw [← HR.out];exact Bool.eq_false_iff.2 fun h => by obtain ⟨k1,k2,k3,k4,k5,k6,k7,_⟩ := okI_iff.1 h;omega)
    go_enter Tryz.func56,Tryz.ntmps56
    go_wp2_with fail
    clear m1 m2 m3 m4
    refine (rPlace_is H3 _).mono ?_
    rintro e w3 ⟨rfl,hb3⟩
    have b3 := nx bV hb3
    have A3 := At.stays HA.out hb3
    obtain ⟨m1,m2,m3,m4⟩ := A3.facts
    go_wp2_with fail
    clear m1 m2 m3 m4
    refine (rValid_is H4 _).mono ?_
    rintro e w4 ⟨rfl,hb4⟩
    have b4 := nx b3 hb4
    have A4 := At.stays A3 hb4
    obtain ⟨m1,m2,m3,m4⟩ := A4.facts
    go_wp2_with fail
    clear m1 m2 m3 m4
    refine (rValid_is H5 _).mono ?_
    rintro e w5 ⟨rfl,hb5⟩
    have b5 := nx b4 hb5
    have A5 := At.stays A4 hb5
    obtain ⟨m1,m2,m3,m4⟩ := A5.facts
    go_wp2_with fail
    clear m1 m2 m3 m4
    refine (rLess_is H6 _).mono ?_
    rintro e w6 ⟨rfl,hb6⟩
    have b6 := nx b5 hb6
    have A6 := At.stays A5 hb6
    obtain ⟨m1,m2,m3,m4⟩ := A6.facts
    go_wp2
    go_ret
    exact ⟨ret_bool HE.out.symm,b6⟩
  obtain ⟨c9,g9⟩ : ∃ b,okV i.c i.q i.d n = b := ⟨_,rfl⟩
  have H9 := lH g9
  cases c9
  · skip
    clear g9
    have HE : Hid (R = false) := lH (by rw [← HR.out];exact Bool.eq_false_iff.2 fun h => by obtain ⟨k1,k2,k3,k4,k5,k6,k7,_⟩ := okI_iff.1 h;rw [H9.out] at k7;cases k7)
    go_enter Tryz.func56,Tryz.ntmps56
    go_wp2_with fail
    clear m1 m2 m3 m4
    refine (rPlace_is H3 _).mono ?_
    rintro e w3 ⟨rfl,hb3⟩
    have b3 := nx bV hb3
    have A3 := At.stays HA.out hb3
    obtain ⟨m1,m2,m3,m4⟩ := A3.facts
    go_wp2_with fail
    clear m1 m2 m3 m4
    refine (rValid_is H4 _).mono ?_
    rintro e w4 ⟨rfl,hb4⟩
    have b4 := nx b3 hb4
    have A4 := At.stays A3 hb4
    obtain ⟨m1,m2,m3,m4⟩ := A4.facts
    go_wp2_with fail
    clear m1 m2 m3 m4
    refine (rValid_is H5 _).mono ?_
    rintro e w5 ⟨rfl,hb5⟩
    have b5 := nx b4 hb5
    have A5 := At.stays A4 hb5
    obtain ⟨m1,m2,m3,m4⟩ := A5.facts
    go_wp2_with fail
    clear m1 m2 m3 m4
    refine (rLess_is H6 _).mono ?_
    rintro e w6 ⟨rfl,hb6⟩
    have b6 := nx b5 hb6
    have A6 := At.stays A5 hb6
    obtain ⟨m1,m2,m3,m4⟩ := A6.facts
    go_wp2_with fail
    clear m1 m2 m3 m4
    refine (rValue_is H9 _).mono ?_
    rintro e w9 ⟨rfl,hb9⟩
    have b9 := nx b6 hb9
    have A9 := At.stays A6 hb9
    obtain ⟨m1,m2,m3,m4⟩ := A9.facts
    go_wp2
    go_ret
    exact ⟨ret_bool HE.out.symm,b9⟩
  clear g9
  have HE : Hid (R = (decide (i.st ≠ 0) || bare i)) := lH (by
    rw [← HR.out]
    unfold okI
    have e3 : decide (0 ≤ i.pr ∧ i.pr < n ∧ 1 ≤ i.ps ∧ i.ps ≤ 400) = true := H3.out
    rw [decide_eq_true (show 1 ≤ n ∧ n ≤ 7 from ⟨by omega,by omega⟩),e3,H4.out,H5.out,H6.out,decide_eq_true (show 0 ≤ i.st ∧ i.st ≤ 3 from ⟨by omega,by omega⟩),H9.out]
    simp)
  by_cases hst : i.st = 0
  · have HE2 : Hid (R = bare i) := lH (by rw [HE.out,hst];simp)
    obtain ⟨e1,he1⟩ : ∃ b,eqVal i.c i.q i.d Cm.zeroF 0 Ve.zeroV = b := ⟨_,rfl⟩
    have HB := lH (bare_eq i)
    have HE1 := lH he1
    cases e1
    · have HF : Hid (R = false) := lH (by rw [HE2.out,HB.out,HE1.out];rfl)
      go_enter Tryz.func56,Tryz.ntmps56
      go_wp2_with fail
      clear m1 m2 m3 m4
      refine (rPlace_is H3 _).mono ?_
      rintro e w3 ⟨rfl,hb3⟩
      have b3 := nx bV hb3
      have A3 := At.stays HA.out hb3
      obtain ⟨m1,m2,m3,m4⟩ := A3.facts
      go_wp2_with fail
      clear m1 m2 m3 m4
      refine (rValid_is H4 _).mono ?_
      rintro e w4 ⟨rfl,hb4⟩
      have b4 := nx b3 hb4
      have A4 := At.stays A3 hb4
      obtain ⟨m1,m2,m3,m4⟩ := A4.facts
      go_wp2_with fail
      clear m1 m2 m3 m4
      refine (rValid_is H5 _).mono ?_
      rintro e w5 ⟨rfl,hb5⟩
      have b5 := nx b4 hb5
      have A5 := At.stays A4 hb5
      obtain ⟨m1,m2,m3,m4⟩ := A5.facts
      go_wp2_with fail
      clear m1 m2 m3 m4
      refine (rLess_is H6 _).mono ?_
      rintro e w6 ⟨rfl,hb6⟩
      have b6 := nx b5 hb6
      have A6 := At.stays A5 hb6
      obtain ⟨m1,m2,m3,m4⟩ := A6.facts
      go_wp2_with fail
      clear m1 m2 m3 m4
      refine (rValue_is H9 _).mono ?_
      rintro e w9 ⟨rfl,hb9⟩
      have b9 := nx b6 hb9
      have A9 := At.stays A6 hb9
      obtain ⟨m1,m2,m3,m4⟩ := A9.facts
      go_wp2
      go_ret
      exact ⟨ret_bool HF.out.symm,b9⟩
    by_cases ht1 : i.tn = 0
    · by_cases ht2 : i.tr = 0
      · cases hsm : i.sm
        · have HF : Hid (R = true) := lH (by rw [HE2.out,HB.out,HE1.out,decide_eq_true (show i.tn = 0 ∧ i.tr = 0 from ⟨ht1,ht2⟩),hsm];rfl)
          have K1 := lH ht1
          have K2 := lH ht2
          clear ht1 ht2
          go_enter Tryz.func56,Tryz.ntmps56
          go_wp2_with fail
          clear m1 m2 m3 m4
          refine (rPlace_is H3 _).mono ?_
          rintro e w3 ⟨rfl,hb3⟩
          have b3 := nx bV hb3
          have A3 := At.stays HA.out hb3
          obtain ⟨m1,m2,m3,m4⟩ := A3.facts
          go_wp2_with fail
          clear m1 m2 m3 m4
          refine (rValid_is H4 _).mono ?_
          rintro e w4 ⟨rfl,hb4⟩
          have b4 := nx b3 hb4
          have A4 := At.stays A3 hb4
          obtain ⟨m1,m2,m3,m4⟩ := A4.facts
          go_wp2_with fail
          clear m1 m2 m3 m4
          refine (rValid_is H5 _).mono ?_
          rintro e w5 ⟨rfl,hb5⟩
          have b5 := nx b4 hb5
          have A5 := At.stays A4 hb5
          obtain ⟨m1,m2,m3,m4⟩ := A5.facts
          go_wp2_with fail
          clear m1 m2 m3 m4
          refine (rLess_is H6 _).mono ?_
          rintro e w6 ⟨rfl,hb6⟩
          have b6 := nx b5 hb6
          have A6 := At.stays A5 hb6
          obtain ⟨m1,m2,m3,m4⟩ := A6.facts
          go_wp2_with fail
          clear m1 m2 m3 m4
          refine (rValue_is H9 _).mono ?_
          rintro e w9 ⟨rfl,hb9⟩
          have b9 := nx b6 hb9
          have A9 := At.stays A6 hb9
          obtain ⟨m1,m2,m3,m4⟩ := A9.facts
          have ht1 := K1.out
          have ht2 := K2.out
          go_wp2
          go_ret
          exact ⟨ret_bool HF.out.symm,b9⟩
        · have HF : Hid (R = false) := lH (by rw [HE2.out,HB.out,HE1.out,decide_eq_true (show i.tn = 0 ∧ i.tr = 0 from ⟨ht1,ht2⟩),hsm];rfl)
          have K1 := lH ht1
          have K2 := lH ht2
          clear ht1 ht2
          go_enter Tryz.func56,Tryz.ntmps56
          go_wp2_with fail
          clear m1 m2 m3 m4
          refine (rPlace_is H3 _).mono ?_
          rintro e w3 ⟨rfl,hb3⟩
          have b3 := nx bV hb3
          have A3 := At.stays HA.out hb3
          obtain ⟨m1,m2,m3,m4⟩ := A3.facts
          go_wp2_with fail
          clear m1 m2 m3 m4
          refine (rValid_is H4 _).mono ?_
          rintro e w4 ⟨rfl,hb4⟩
          have b4 := nx b3 hb4
          have A4 := At.stays A3 hb4
          obtain ⟨m1,m2,m3,m4⟩ := A4.facts
          go_wp2_with fail
          clear m1 m2 m3 m4
          refine (rValid_is H5 _).mono ?_
          rintro e w5 ⟨rfl,hb5⟩
          have b5 := nx b4 hb5
          have A5 := At.stays A4 hb5
          obtain ⟨m1,m2,m3,m4⟩ := A5.facts
          go_wp2_with fail
          clear m1 m2 m3 m4
          refine (rLess_is H6 _).mono ?_
          rintro e w6 ⟨rfl,hb6⟩
          have b6 := nx b5 hb6
          have A6 := At.stays A5 hb6
          obtain ⟨m1,m2,m3,m4⟩ := A6.facts
          go_wp2_with fail
          clear m1 m2 m3 m4
          refine (rValue_is H9 _).mono ?_
          rintro e w9 ⟨rfl,hb9⟩
          have b9 := nx b6 hb9
          have A9 := At.stays A6 hb9
          obtain ⟨m1,m2,m3,m4⟩ := A9.facts
          have ht1 := K1.out
          have ht2 := K2.out
          go_wp2
          go_ret
          exact ⟨ret_bool HF.out.symm,b9⟩
      · have HF : Hid (R = false) := lH (by rw [HE2.out,HB.out,HE1.out,decide_eq_false (show ¬ (i.tn = 0 ∧ i.tr = 0) from fun h => ht2 h.2)];rfl)
        have K1 := lH ht1
        clear ht1
        go_enter Tryz.func56,Tryz.ntmps56
        go_wp2_with fail
        clear m1 m2 m3 m4
        refine (rPlace_is H3 _).mono ?_
        rintro e w3 ⟨rfl,hb3⟩
        have b3 := nx bV hb3
        have A3 := At.stays HA.out hb3
        obtain ⟨m1,m2,m3,m4⟩ := A3.facts
        go_wp2_with fail
        clear m1 m2 m3 m4
        refine (rValid_is H4 _).mono ?_
        rintro e w4 ⟨rfl,hb4⟩
        have b4 := nx b3 hb4
        have A4 := At.stays A3 hb4
        obtain ⟨m1,m2,m3,m4⟩ := A4.facts
        go_wp2_with fail
        clear m1 m2 m3 m4
        refine (rValid_is H5 _).mono ?_
        rintro e w5 ⟨rfl,hb5⟩
        have b5 := nx b4 hb5
        have A5 := At.stays A4 hb5
        obtain ⟨m1,m2,m3,m4⟩ := A5.facts
        go_wp2_with fail
        clear m1 m2 m3 m4
        refine (rLess_is H6 _).mono ?_
        rintro e w6 ⟨rfl,hb6⟩
        have b6 := nx b5 hb6
        have A6 := At.stays A5 hb6
        obtain ⟨m1,m2,m3,m4⟩ := A6.facts
        go_wp2_with fail
        clear m1 m2 m3 m4
        refine (rValue_is H9 _).mono ?_
        rintro e w9 ⟨rfl,hb9⟩
        have b9 := nx b6 hb9
        have A9 := At.stays A6 hb9
        obtain ⟨m1,m2,m3,m4⟩ := A9.facts
        have ht1 := K1.out
        go_wp2
        go_ret
        exact ⟨ret_bool HF.out.symm,b9⟩
    · have HF : Hid (R = false) := lH (by rw [HE2.out,HB.out,HE1.out,decide_eq_false (show ¬ (i.tn = 0 ∧ i.tr = 0) from fun h => ht1 h.1)];rfl)
      go_enter Tryz.func56,Tryz.ntmps56
      go_wp2_with fail
      clear m1 m2 m3 m4
      refine (rPlace_is H3 _).mono ?_
      rintro e w3 ⟨rfl,hb3⟩
      have b3 := nx bV hb3
      have A3 := At.stays HA.out hb3
      obtain ⟨m1,m2,m3,m4⟩ := A3.facts
      go_wp2_with fail
      clear m1 m2 m3 m4
      refine (rValid_is H4 _).mono ?_
      rintro e w4 ⟨rfl,hb4⟩
      have b4 := nx b3 hb4
      have A4 := At.stays A3 hb4
      obtain ⟨m1,m2,m3,m4⟩ := A4.facts
      go_wp2_with fail
      clear m1 m2 m3 m4
      refine (rValid_is H5 _).mono ?_
      rintro e w5 ⟨rfl,hb5⟩
      have b5 := nx b4 hb5
      have A5 := At.stays A4 hb5
      obtain ⟨m1,m2,m3,m4⟩ := A5.facts
      go_wp2_with fail
      clear m1 m2 m3 m4
      refine (rLess_is H6 _).mono ?_
      rintro e w6 ⟨rfl,hb6⟩
      have b6 := nx b5 hb6
      have A6 := At.stays A5 hb6
      obtain ⟨m1,m2,m3,m4⟩ := A6.facts
      go_wp2_with fail
      clear m1 m2 m3 m4
      refine (rValue_is H9 _).mono ?_
      rintro e w9 ⟨rfl,hb9⟩
      have b9 := nx b6 hb9
      have A9 := At.stays A6 hb9
      obtain ⟨m1,m2,m3,m4⟩ := A9.facts
      go_wp2
      go_ret
      exact ⟨ret_bool HF.out.symm,b9⟩
  · have HF : Hid (R = true) := lH (by rw [HE.out,decide_eq_true (show i.st ≠ 0 from hst)];rfl)
    go_enter Tryz.func56,Tryz.ntmps56
    go_wp2_with fail
    clear m1 m2 m3 m4
    refine (rPlace_is H3 _).mono ?_
    rintro e w3 ⟨rfl,hb3⟩
    have b3 := nx bV hb3
    have A3 := At.stays HA.out hb3
    obtain ⟨m1,m2,m3,m4⟩ := A3.facts
    go_wp2_with fail
    clear m1 m2 m3 m4
    refine (rValid_is H4 _).mono ?_
    rintro e w4 ⟨rfl,hb4⟩
    have b4 := nx b3 hb4
    have A4 := At.stays A3 hb4
    obtain ⟨m1,m2,m3,m4⟩ := A4.facts
    go_wp2_with fail
    clear m1 m2 m3 m4
    refine (rValid_is H5 _).mono ?_
    rintro e w5 ⟨rfl,hb5⟩
    have b5 := nx b4 hb5
    have A5 := At.stays A4 hb5
    obtain ⟨m1,m2,m3,m4⟩ := A5.facts
    go_wp2_with fail
    clear m1 m2 m3 m4
    refine (rLess_is H6 _).mono ?_
    rintro e w6 ⟨rfl,hb6⟩
    have b6 := nx b5 hb6
    have A6 := At.stays A5 hb6
    obtain ⟨m1,m2,m3,m4⟩ := A6.facts
    go_wp2_with fail
    clear m1 m2 m3 m4
    refine (rValue_is H9 _).mono ?_
    rintro e w9 ⟨rfl,hb9⟩
    have b9 := nx b6 hb9
    have A9 := At.stays A6 hb9
    obtain ⟨m1,m2,m3,m4⟩ := A9.facts
    go_wp2
    go_ret
    exact ⟨ret_bool HF.out.symm,b9⟩
end Go.Proofs.YtnnbjhpkgndclaaGreatDoor.Rc
namespace Go.Proofs.YtnnbjhpkgndclaaGreatDoor.Rc
open Go.RowKit
open Go.Proofs.YtnnbjhpkgndclaaGreatDoor.Rw
open Go.Proofs.YtnnbjhpkgndclaaGreatDoor.Ba (valB lessB)
open Go.Proofs.YtnnbjhpkgndclaaGreatDoor.Ve (rightB)
open Go.Proofs.YtnnbjhpkgndclaaGreatDoor.Cm (chkB chkE check_is)
theorem right_isV {d : Nat → Int} {n : Int} {b : Bool} (H : Hid (rightB d n = b)) (w : World) :
    Calls Tryz.prog 149 #[.agg (Ve.fc d),.int .i64 n] w fun e w' => e = .returned (.bool b) ∧ Below w.heap.size w w' := Ve.right_is d n b H.out w
theorem valid_isB {n r : Int} {b : Bool} (H : Hid (valB n r = b)) (w : World) :
    Calls Tryz.prog 146 #[.agg #[.int .i64 n,.int .i64 r]] w fun e w' => e = .returned (.bool b) ∧ Below w.heap.size w w' := Ba.valid_is n r b H.out w
theorem less_isB {a b c d : Int} {x : Bool} (H : Hid (lessB a b c d = x)) (w : World) :
    Calls Tryz.prog 147 #[.agg #[.int .i64 a,.int .i64 b],.agg #[.int .i64 c,.int .i64 d]] w fun e w' => e = .returned (.bool x) ∧ Below w.heap.size w w' := Ba.less_is a b c d x H.out w
set_option maxRecDepth 8000 in
set_option maxHeartbeats 2000000 in
theorem isPlace_any (r s n : Int) (w : World) :
    Calls Tryz.prog 132 #[.agg #[.int .i64 r,.int .i64 s],.int .i64 n] w fun e w' => e = .returned (.bool (okP r s n)) ∧ Below w.heap.size w w' := by
  by_cases h0 : 0 ≤ r
  · by_cases h1 : r < n
    · by_cases h2 : 1 ≤ s
      · by_cases h3 : s ≤ 400
        · have HE : Hid (okP r s n = true) := lH (decide_eq_true ⟨h0,h1,h2,h3⟩)
          go_enter Tryz.func132,Tryz.ntmps132
          go_wp2
          go_ret
          exact ⟨ret_bool HE.out.symm,below1 _ _⟩
        · have HE : Hid (okP r s n = false) := lH (okP_no (by omega))
          go_enter Tryz.func132,Tryz.ntmps132
          go_wp2
          go_ret
          exact ⟨ret_bool HE.out.symm,below1 _ _⟩
      · have HE : Hid (okP r s n = false) := lH (okP_no (by omega))
        go_enter Tryz.func132,Tryz.ntmps132
        go_wp2
        go_ret
        exact ⟨ret_bool HE.out.symm,below1 _ _⟩
    · have HE : Hid (okP r s n = false) := lH (okP_no (by omega))
      go_enter Tryz.func132,Tryz.ntmps132
      go_wp2
      go_ret
      exact ⟨ret_bool HE.out.symm,below1 _ _⟩
  · have HE : Hid (okP r s n = false) := lH (okP_no (by omega))
    go_enter Tryz.func132,Tryz.ntmps132
    go_wp2
    go_ret
    exact ⟨ret_bool HE.out.symm,below1 _ _⟩
theorem isPlace_is {r s n : Int} {b : Bool} (H : Hid (okP r s n = b)) (w : World) :
    Calls Tryz.prog 132 #[.agg #[.int .i64 r,.int .i64 s],.int .i64 n] w fun e w' => e = .returned (.bool b) ∧ Below w.heap.size w w' := by
  rw [← H.out];exact isPlace_any r s n w
set_option maxRecDepth 8000 in
set_option maxHeartbeats 2000000 in
theorem isValue_any (c : Nat → Int) (q : Int) (d : Nat → Int) (n : Int) (w : World) :
    Calls Tryz.prog 134 #[.agg (cv c q d),.int .i64 n] w fun e w' => e = .returned (.bool (okV c q d n)) ∧ Below w.heap.size w w' := by
  obtain ⟨V,hV⟩ : ∃ Q_ : World,w.alloc (.cells (cv c q d) 42) = Q_ := ⟨_,rfl⟩
  have bV : Below w.heap.size w V := hV ▸ below1 _ _
  have hr0 : row V w.heap.size = cv c q d := hV ▸ row_new _ _ _ _ rfl
  have hl0 : w.heap.size < V.heap.size := by rw [← hV];simp
  have HK := lH (show ∀ u,Below V.heap.size V u → row u w.heap.size = cv c q d ∧ u.cell? ⟨w.heap.size,9,none⟩ = some (.int .i64 q) ∧ w.heap.size < u.heap.size from fun u hu => by
    have h1 := row_stays hr0 hl0 hu
    refine ⟨h1,?_,Nat.lt_of_lt_of_le hl0 hu.size⟩
    rw [cell_row (n := 16) u w.heap.size 9 (by rw [h1];rfl),h1];rfl)
  clear hl0
  cases h1 : chkB c with
  | false =>
    have HC := lH (chk_no h1)
    have HF : Hid (okV c q d n = false) := lH (by simp [okV,h1])
    clear h1
    go_enter Tryz.func134,Tryz.ntmps134
    go_wp2_with fail
    refine (check_is HC _).mono ?_
    rintro e w1 ⟨rfl,hb1⟩
    go_wp2
    go_ret
    exact ⟨ret_bool HF.out.symm,nx bV hb1⟩
  | true =>
    have HC := lH (chk_yes h1)
    have HF : Hid (okV c q d n = (decide (0 ≤ q) && (decide (q ≤ 1073741824) && rightB d n))) := lH (by simp [okV,h1])
    clear h1
    by_cases h2 : 0 ≤ q
    · by_cases h3 : q ≤ 1073741824
      · obtain ⟨b,hb⟩ : ∃ b,rightB d n = b := ⟨_,rfl⟩
        have HB := lH hb
        have HE : Hid (okV c q d n = b) := lH (by rw [HF.out,hb];simp [h2,h3])
        clear hb
        go_enter Tryz.func134,Tryz.ntmps134
        go_wp2_with fail
        refine (check_is HC _).mono ?_
        rintro e w1 ⟨rfl,hb1⟩
        obtain ⟨m1,m2,m3⟩ := HK.out w1 hb1
        go_wp2_with fail
        refine (right_isV HB _).mono ?_
        rintro e w2 ⟨rfl,hb2⟩
        go_wp2
        go_ret
        exact ⟨ret_bool HE.out.symm,nx bV (nx hb1 hb2)⟩
      · have HE : Hid (okV c q d n = false) := lH (by rw [HF.out];simp [h3])
        go_enter Tryz.func134,Tryz.ntmps134
        go_wp2_with fail
        refine (check_is HC _).mono ?_
        rintro e w1 ⟨rfl,hb1⟩
        obtain ⟨m1,m2,m3⟩ := HK.out w1 hb1
        go_wp2
        go_ret
        exact ⟨ret_bool HE.out.symm,nx bV hb1⟩
    · have HE : Hid (okV c q d n = false) := lH (by rw [HF.out];simp [h2])
      go_enter Tryz.func134,Tryz.ntmps134
      go_wp2_with fail
      refine (check_is HC _).mono ?_
      rintro e w1 ⟨rfl,hb1⟩
      obtain ⟨m1,m2,m3⟩ := HK.out w1 hb1
      go_wp2
      go_ret
      exact ⟨ret_bool HE.out.symm,nx bV hb1⟩
theorem isValue_is {c : Nat → Int} {q : Int} {d : Nat → Int} {n : Int} {b : Bool} (H : Hid (okV c q d n = b)) (w : World) :
    Calls Tryz.prog 134 #[.agg (cv c q d),.int .i64 n] w fun e w' => e = .returned (.bool b) ∧ Below w.heap.size w w' := by
  rw [← H.out];exact isValue_any c q d n w
def okB (i : Ins) : Bool := valB i.bn i.br && (valB i.tn i.tr && !lessB i.bn i.br i.tn i.tr)
set_option maxRecDepth 8000 in
set_option maxHeartbeats 2000000 in
theorem areBallots_any (i : Ins) (w : World) :
    Calls Tryz.prog 133 #[.agg (ci i)] w fun e w' => e = .returned (.bool (okB i)) ∧ Below w.heap.size w w' := by
  obtain ⟨V,hV⟩ : ∃ Q_ : World,w.alloc (.cells (ci i) 44) = Q_ := ⟨_,rfl⟩
  have bV : Below w.heap.size w V := hV ▸ below1 _ _
  have A0 : At V w.heap.size i := hV ▸ At.new _ _ _
  obtain ⟨m1,m2,m3,m4⟩ := A0.facts
  have HA := lH A0
  have HB : Hid (okB i = (valB i.bn i.br && (valB i.tn i.tr && !lessB i.bn i.br i.tn i.tr))) := lH rfl
  clear A0
  obtain ⟨c3,g3⟩ : ∃ b,valB i.bn i.br = b := ⟨_,rfl⟩
  have H3 := lH g3
  rw [g3] at HB
  clear g3
  cases c3
  · go_enter Tryz.func133,Tryz.ntmps133
    go_wp2_with fail
    clear m1 m2 m3 m4
    refine (valid_isB H3 _).mono ?_
    rintro e w3 ⟨rfl,hb3⟩
    go_wp2
    go_ret
    exact ⟨ret_bool HB.out.symm,nx bV hb3⟩
  obtain ⟨c4,g4⟩ : ∃ b,valB i.tn i.tr = b := ⟨_,rfl⟩
  have H4 := lH g4
  rw [g4] at HB
  clear g4
  cases c4
  · go_enter Tryz.func133,Tryz.ntmps133
    go_wp2_with fail
    clear m1 m2 m3 m4
    refine (valid_isB H3 _).mono ?_
    rintro e w3 ⟨rfl,hb3⟩
    have A3 := At.stays HA.out hb3
    obtain ⟨m1,m2,m3,m4⟩ := A3.facts
    go_wp2_with fail
    clear m1 m2 m3 m4
    refine (valid_isB H4 _).mono ?_
    rintro e w4 ⟨rfl,hb4⟩
    go_wp2
    go_ret
    exact ⟨ret_bool HB.out.symm,nx bV (nx hb3 hb4)⟩
  obtain ⟨c5,g5⟩ : ∃ b,lessB i.bn i.br i.tn i.tr = b := ⟨_,rfl⟩
  have H5 := lH g5
  rw [g5] at HB
  clear g5
  go_enter Tryz.func133,Tryz.ntmps133
  go_wp2_with fail
  clear m1 m2 m3 m4
  refine (valid_isB H3 _).mono ?_
  rintro e w3 ⟨rfl,hb3⟩
  have A3 := At.stays HA.out hb3
  obtain ⟨m1,m2,m3,m4⟩ := A3.facts
  go_wp2_with fail
  clear m1 m2 m3 m4
  refine (valid_isB H4 _).mono ?_
  rintro e w4 ⟨rfl,hb4⟩
  have A4 := At.stays A3 hb4
  obtain ⟨m1,m2,m3,m4⟩ := A4.facts
  go_wp2_with fail
  clear m1 m2 m3 m4
  refine (less_isB H5 _).mono ?_
  rintro e w5 ⟨rfl,hb5⟩
  go_wp2
  go_ret
  exact ⟨ret_bool HB.out.symm,nx bV (nx hb3 (nx hb4 hb5))⟩
theorem areBallots_is {i : Ins} {b : Bool} (H : Hid (okB i = b)) (w : World) :
    Calls Tryz.prog 133 #[.agg (ci i)] w fun e w' => e = .returned (.bool b) ∧ Below w.heap.size w w' := by
  rw [← H.out];exact areBallots_any i w
end Go.Proofs.YtnnbjhpkgndclaaGreatDoor.Rc
namespace Go.Proofs.YtnnbjhpkgndclaaGreatDoor.Rc
open Go.RowKit
open Go.Proofs.YtnnbjhpkgndclaaGreatDoor.Rw
theorem fieldsP : Tryz.prog.underlying 34 = some (.struct (Tryz.prog.fieldsOf 34)) := by kernel_rfl
theorem fieldsB : Tryz.prog.underlying 36 = some (.struct (Tryz.prog.fieldsOf 36)) := by kernel_rfl
theorem eqP2 (m : Nat) (a b c d : Int) (w : World) : (Op.equalIn (m + 2) 34 (.agg #[.int .i64 a,.int .i64 b]) (.agg #[.int .i64 c,.int .i64 d])).run Tryz.prog w = .ok (a == c && b == d) w := by
  rw [run_equalIn_agg w (m + 1) _ _ _ fieldsP (by kernel_rfl)]
  simp only [Program.fieldsOf,Tryz.underlying34]
  by_cases h1 : a = c <;> by_cases h2 : b = d <;> simp [Op.eqFields,Go.part,Tryz.isAgg3,eqI1,h1,h2]
theorem eqB2 (m : Nat) (a b c d : Int) (w : World) : (Op.equalIn (m + 2) 36 (.agg #[.int .i64 a,.int .i64 b]) (.agg #[.int .i64 c,.int .i64 d])).run Tryz.prog w = .ok (a == c && b == d) w := by
  rw [run_equalIn_agg w (m + 1) _ _ _ fieldsB (by kernel_rfl)]
  simp only [Program.fieldsOf,Tryz.underlying36]
  by_cases h1 : a = c <;> by_cases h2 : b = d <;> simp [Op.eqFields,Go.part,Tryz.isAgg3,eqI1,h1,h2]
def eqIns (i j : Ins) : Bool := ((i.pr == j.pr) && (i.ps == j.ps)) && (((i.bn == j.bn) && (i.br == j.br)) && (((i.tn == j.tn) && (i.tr == j.tr)) && ((i.st == j.st) && (eqVal i.c i.q i.d j.c j.q j.d && (i.sm == j.sm)))))
theorem pP (i : Ins) (w : World) : (Go.part 34 (ci i) 0).run Tryz.prog w = .ok (.agg #[.int .i64 i.pr,.int .i64 i.ps]) w := by
  simp [Go.part,Tryz.isAgg34,Tryz.sizeOf34,ci_place]
theorem pB (i : Ins) (w : World) : (Go.part 36 (ci i) 2).run Tryz.prog w = .ok (.agg #[.int .i64 i.bn,.int .i64 i.br]) w := by
  simp [Go.part,Tryz.isAgg36,Tryz.sizeOf36,ci_prom]
theorem pT (i : Ins) (w : World) : (Go.part 36 (ci i) 4).run Tryz.prog w = .ok (.agg #[.int .i64 i.tn,.int .i64 i.tr]) w := by
  simp [Go.part,Tryz.isAgg36,Tryz.sizeOf36,ci_taken]
theorem pS (i : Ins) (w : World) : (Go.part 3 (ci i) 6).run Tryz.prog w = .ok (.int .i64 i.st) w := by
  simp [Go.part,Tryz.isAgg3,ci]
theorem pV (i : Ins) (w : World) : (Go.part 42 (ci i) 7).run Tryz.prog w = .ok (.agg (cv i.c i.q i.d)) w := by
  simp [Go.part,Tryz.isAgg42,Tryz.sizeOf42,ci_val]
theorem pM (i : Ins) (w : World) : (Go.part 4 (ci i) 24).run Tryz.prog w = .ok (.bool i.sm) w := by
  simp [Go.part,Tryz.isAgg4,ci]
theorem eqIns4 (m : Nat) (i j : Ins) (w : World) : (Op.equalIn (m + 4) 44 (.agg (ci i)) (.agg (ci j))).run Tryz.prog w = .ok (eqIns i j) w := by
  rw [run_equalIn_agg w (m + 3) _ _ _ fieldsI (by kernel_rfl)]
  simp only [Program.fieldsOf,Tryz.underlying44]
  simp only [Op.eqFields]
  have e1 := eqP2 (m + 1) i.pr i.ps j.pr j.ps
  have e2 := eqB2 (m + 1) i.bn i.br j.bn j.br
  have e3 := eqB2 (m + 1) i.tn i.tr j.tn j.tr
  have e4 := eqI1 (m + 2) i.st j.st
  have e5 := eqV3 m i.c i.q i.d j.c j.q j.d
  have e6 := eqB1 (m + 2) i.sm j.sm
  cases h1 : (i.pr == j.pr && i.ps == j.ps)
  · rw [h1] at e1
    simp [eqIns,h1,pP,e1]
  rw [h1] at e1
  cases h2 : (i.bn == j.bn && i.br == j.br)
  · rw [h2] at e2
    simp [eqIns,h1,h2,pP,pB,e1,e2]
  rw [h2] at e2
  cases h3 : (i.tn == j.tn && i.tr == j.tr)
  · rw [h3] at e3
    simp [eqIns,h1,h2,h3,pP,pB,pT,e1,e2,e3]
  rw [h3] at e3
  cases h4 : (i.st == j.st)
  · rw [h4] at e4
    simp [eqIns,h1,h2,h3,h4,pP,pB,pT,pS,e1,e2,e3,e4]
  rw [h4] at e4
  cases h5 : eqVal i.c i.q i.d j.c j.q j.d
  · rw [h5] at e5
    simp [eqIns,h1,h2,h3,h4,h5,pP,pB,pT,pS,pV,e1,e2,e3,e4,e5]
  rw [h5] at e5
  cases h6 : (i.sm == j.sm)
  · rw [h6] at e6
    simp [eqIns,h1,h2,h3,h4,h5,h6,pP,pB,pT,pS,pV,pM,e1,e2,e3,e4,e5,e6]
  · rw [h6] at e6
    simp [eqIns,h1,h2,h3,h4,h5,h6,pP,pB,pT,pS,pV,pM,e1,e2,e3,e4,e5,e6]
theorem eqlIns (i j : Ins) (w : World) : (binOp .eql 44 (.agg (ci i)) (.agg (ci j))).run Tryz.prog w = .ok (.bool (eqIns i j)) w := by
  rw [run_eql_struct,eqIns4 9996];rfl
theorem neqIns (i j : Ins) (w : World) : (binOp .neq 44 (.agg (ci i)) (.agg (ci j))).run Tryz.prog w = .ok (.bool (!eqIns i j)) w := by
  rw [run_neq_struct,eqIns4 9996];rfl
theorem guardIns (op : BinOp) (x y : Operand) (i j : Ins) (w : World) : (eqGuard op 44 x y (.agg (ci i)) (.agg (ci j))).run Tryz.prog w = .ok () w :=
  run_eqGuard_agg w op _ x y _ _ (by kernel_rfl)
attribute [go_sem ↓] eqlIns neqIns guardIns
theorem eqVal_iff {c c' : Nat → Int} {q q' : Int} {d d' : Nat → Int} : eqVal c q d c' q' d' = true ↔ (∀ k,k < 9 → c k = c' k) ∧ q = q' ∧ ∀ k,k < 7 → d k = d' k := by
  simp [eqVal,Cm.eqF_iff,Ve.eqV_iff]
theorem eqIns_iff {i j : Ins} : eqIns i j = true ↔ Same i j := by
  unfold eqIns
  simp only [Bool.and_eq_true,beq_iff_eq,eqVal_iff]
  constructor
  · rintro ⟨⟨h1,h2⟩,⟨h3,h4⟩,⟨h5,h6⟩,h7,⟨h8,h9,h10⟩,h11⟩
    exact ⟨h1,h2,h3,h4,h5,h6,h7,h8,h9,h10,h11⟩
  · rintro ⟨h1,h2,h3,h4,h5,h6,h7,h8,h9,h10,h11⟩
    exact ⟨⟨h1,h2⟩,⟨h3,h4⟩,⟨h5,h6⟩,h7,⟨h8,h9,h10⟩,h11⟩
theorem eqIns_refl (i : Ins) : eqIns i i = true := eqIns_iff.2 ⟨rfl,rfl,rfl,rfl,rfl,rfl,rfl,fun _ _ => rfl,rfl,fun _ _ => rfl,rfl⟩
end Go.Proofs.YtnnbjhpkgndclaaGreatDoor.Rc
namespace Go.Proofs.YtnnbjhpkgndclaaGreatDoor.Rc
open Go.RowKit
open Go.Proofs.YtnnbjhpkgndclaaGreatDoor.Rw
open Go.Proofs.YtnnbjhpkgndclaaGreatDoor.Bv
def zeroI : Ins := ⟨0,0,0,0,0,0,0,Cm.zeroF,0,Ve.zeroV,false⟩
def hc (f : Nat → Int) : Array Value := ((List.range 8).map fun i => Value.int .i64 (f i)).toArray
theorem hc_size (f : Nat → Int) : (hc f).size = 8 := by simp [hc]
theorem hc_at (f : Nat → Int) (k : Nat) (h : k < 8) : (hc f)[k]? = some (.int .i64 (f k)) := by simp [hc,h]
theorem hc_get (f : Nat → Int) (k : Nat) (h : k < (hc f).size) : (hc f)[k] = .int .i64 (f k) := by simp [hc]
theorem hc_set (f : Nat → Int) (k : Nat) (x : Int) : (hc f).setIfInBounds k (.int .i64 x) = hc (Cm.upd f k x) := by
  apply Array.ext'
  unfold hc
  rw [Array.toList_setIfInBounds]
  apply List.ext_getElem
  · simp
  · intro i h1 h2
    simp at h1 h2
    rw [List.getElem_set]
    by_cases h : k = i
    · subst h;simp [Cm.upd]
    · have h3 : ¬ i = k := fun e => h e.symm
      simp [h,Cm.upd,h3]
theorem hc_congr {f g : Nat → Int} (h : ∀ i,i < 8 → f i = g i) : hc f = hc g := by
  apply Array.ext'
  unfold hc
  simp only
  apply List.map_congr_left
  intro i hi
  rw [h i (by simpa using hi)]
theorem hc_list (f : Nat → Int) : (hc f).toList = [.int .i64 (f 0),.int .i64 (f 1),.int .i64 (f 2),.int .i64 (f 3),.int .i64 (f 4),.int .i64 (f 5),.int .i64 (f 6),.int .i64 (f 7)] := rfl
theorem hc_one (f : Nat → Int) : oneAll (.agg (hc f)) = true := by
  show (hc f).all (·.oneCell') = true
  rw [← Array.all_toList,hc_list];rfl
def v8 (a b c d e f g h : Int) : Nat → Int
  | 0 => a | 1 => b | 2 => c | 3 => d | 4 => e | 5 => f | 6 => g | 7 => h | _ => 0
def v7 (a b c d e f g : Int) : Nat → Int
  | 0 => a | 1 => b | 2 => c | 3 => d | 4 => e | 5 => f | 6 => g | _ => 0
theorem agg7 (a b c d e f g : Int) : Value.agg #[.int .i64 a,.int .i64 b,.int .i64 c,.int .i64 d,.int .i64 e,.int .i64 f,.int .i64 g] = .agg (Ve.fc (v7 a b c d e f g)) := rfl
attribute [go_sem] hc_size hc_at hc_get hc_set hc_one agg7
theorem ci_a0 (i : Ins) : (ci i)[0]? = some (.int .i64 i.pr) := rfl
theorem ci_g0 (i : Ins) (h : 0 < (ci i).size) : (ci i)[0] = .int .i64 i.pr := rfl
theorem ci_a1 (i : Ins) : (ci i)[1]? = some (.int .i64 i.ps) := rfl
theorem ci_g1 (i : Ins) (h : 1 < (ci i).size) : (ci i)[1] = .int .i64 i.ps := rfl
theorem ci_a2 (i : Ins) : (ci i)[2]? = some (.int .i64 i.bn) := rfl
theorem ci_g2 (i : Ins) (h : 2 < (ci i).size) : (ci i)[2] = .int .i64 i.bn := rfl
theorem ci_a3 (i : Ins) : (ci i)[3]? = some (.int .i64 i.br) := rfl
theorem ci_g3 (i : Ins) (h : 3 < (ci i).size) : (ci i)[3] = .int .i64 i.br := rfl
theorem ci_a4 (i : Ins) : (ci i)[4]? = some (.int .i64 i.tn) := rfl
theorem ci_g4 (i : Ins) (h : 4 < (ci i).size) : (ci i)[4] = .int .i64 i.tn := rfl
theorem ci_a5 (i : Ins) : (ci i)[5]? = some (.int .i64 i.tr) := rfl
theorem ci_g5 (i : Ins) (h : 5 < (ci i).size) : (ci i)[5] = .int .i64 i.tr := rfl
theorem ci_a6 (i : Ins) : (ci i)[6]? = some (.int .i64 i.st) := rfl
theorem ci_g6 (i : Ins) (h : 6 < (ci i).size) : (ci i)[6] = .int .i64 i.st := rfl
theorem ci_a24 (i : Ins) : (ci i)[24]? = some (.bool i.sm) := rfl
theorem ci_g24 (i : Ins) (h : 24 < (ci i).size) : (ci i)[24] = .bool i.sm := rfl
theorem cv_a9 (c : Nat → Int) (q : Int) (d : Nat → Int) : (cv c q d)[9]? = some (.int .i64 q) := rfl
theorem cv_g9 (c : Nat → Int) (q : Int) (d : Nat → Int) (h : 9 < (cv c q d).size) : (cv c q d)[9] = .int .i64 q := rfl
attribute [go_sem] ci_a0 ci_g0 ci_a1 ci_g1 ci_a2 ci_g2 ci_a3 ci_g3 ci_a4 ci_g4 ci_a5 ci_g5 ci_a6 ci_g6 ci_a24 ci_g24 cv_a9 cv_g9
def numOf : Option Value → Int
  | some (.int _ x) => x
  | _ => 0
def nI : Value → Int
  | .int _ x => x
  | _ => 0
def nB : Value → Bool
  | .bool b => b
  | _ => false
def nA (v : Value) (k : Nat) : Int := numOf v.cells[k]?
def isI : Value → Bool
  | .int .i64 _ => true
  | _ => false
def isB : Value → Bool
  | .bool _ => true
  | _ => false
theorem isI_at (n : Int) : isI (.int .i64 n) = true := rfl
theorem isB_at (b : Bool) : isB (.bool b) = true := rfl
attribute [go_sem] isI_at isB_at
theorem isI_of {v : Value} (h : isI v = true) : v = .int .i64 (nI v) := by
  unfold isI at h
  split at h
  · rfl
  · cases h
theorem isB_of {v : Value} (h : isB v = true) : v = .bool (nB v) := by
  unfold isB at h
  split at h
  · rfl
  · cases h
theorem nI_int (k : IntKind) (x : Int) : nI (.int k x) = x := id rfl
theorem nB_bool (b : Bool) : nB (.bool b) = b := id rfl
theorem nA0 (a b : Int) : nA (.agg #[.int .i64 a,.int .i64 b]) 0 = a := id rfl
theorem nA1 (a b : Int) : nA (.agg #[.int .i64 a,.int .i64 b]) 1 = b := id rfl
attribute [go_sem] nI_int nB_bool nA0 nA1
def fnC (v : Value) : Nat → Int := fun i => numOf v.cells[i]?
def fV (v : Value) : Nat → Int := fun i => numOf v.cells[i]?
def qV (v : Value) : Int := numOf v.cells[9]?
def dV (v : Value) : Nat → Int := fun i => numOf v.cells[10 + i]?
theorem cv_fV (c d : Nat → Int) (q : Int) : cv (fV (.agg (cv c q d))) (qV (.agg (cv c q d))) (dV (.agg (cv c q d))) = cv c q d := id rfl
theorem ci_fV (a b e f g h s : Int) (c d : Nat → Int) (q : Int) (m : Bool) : ci ⟨a,b,e,f,g,h,s,fV (.agg (cv c q d)),qV (.agg (cv c q d)),dV (.agg (cv c q d)),m⟩ = ci ⟨a,b,e,f,g,h,s,c,q,d,m⟩ := id rfl
attribute [go_sem] cv_fV ci_fV
theorem cv_fn (c d : Nat → Int) (q : Int) : cv (fnC (.agg (Cm.fc c))) q d = cv c q d := id rfl
theorem cv_fd (c d : Nat → Int) (q : Int) : cv c q (fnC (.agg (Ve.fc d))) = cv c q d := id rfl
theorem fc_fn (c : Nat → Int) : Cm.fc (fnC (.agg (Cm.fc c))) = Cm.fc c := id rfl
theorem fd_fn (d : Nat → Int) : Ve.fc (fnC (.agg (Ve.fc d))) = Ve.fc d := id rfl
attribute [go_sem] cv_fn cv_fd fc_fn fd_fn
theorem cv_one (c : Nat → Int) (q : Int) (d : Nat → Int) : oneAll (.agg (cv c q d)) = true := by
  show (cv c q d).all (·.oneCell') = true
  rw [← Array.all_toList];rfl
theorem ci_one (i : Ins) : oneAll (.agg (ci i)) = true := by
  show (ci i).all (·.oneCell') = true
  rw [← Array.all_toList];rfl
theorem fcd_one (d : Nat → Int) : oneAll (.agg (Ve.fc d)) = true := Ve.fc_one d
attribute [go_sem] cv_one ci_one fcd_one
theorem zV : ∀ w,(zeroValue 42).run Tryz.prog w = .ok (.agg (cv Cm.zeroF 0 Ve.zeroV)) w := (zero_of_info (n := 17) (by kernel_rfl)).1
theorem zI : ∀ w,(zeroValue 44).run Tryz.prog w = .ok (.agg (ci zeroI)) w := (zero_of_info (n := 25) (by kernel_rfl)).1
theorem zH : ∀ w,(zeroValue 160).run Tryz.prog w = .ok (.agg (hc Cm.zeroF)) w := (zero_of_info (n := 8) (by kernel_rfl)).1
section
variable (ρ : Operand → Value) (dst : Option Tmp) (ty : TypeId) (pos : String) (after : Array Edge) (guard : Option (Nat × Bool)) (w : World)
theorem allocV : (execOp ρ { dst,op := .alloc 42,type := ty,pos,after,guard }).run Tryz.prog w = .ok (.value (.pointer (some ⟨w.heap.size,0,none⟩))) (w.alloc (.cells (cv Cm.zeroF 0 Ve.zeroV) 42)) :=
  exec_alloc ρ dst ty pos after guard w zV
theorem allocI : (execOp ρ { dst,op := .alloc 44,type := ty,pos,after,guard }).run Tryz.prog w = .ok (.value (.pointer (some ⟨w.heap.size,0,none⟩))) (w.alloc (.cells (ci zeroI) 44)) :=
  exec_alloc ρ dst ty pos after guard w zI
theorem allocH : (execOp ρ { dst,op := .alloc 160,type := ty,pos,after,guard }).run Tryz.prog w = .ok (.value (.pointer (some ⟨w.heap.size,0,none⟩))) (w.alloc (.cells (hc Cm.zeroF) 160)) :=
  exec_alloc ρ dst ty pos after guard w zH
theorem storeI (p x : Operand) (h : plainAt 25 w (ρ p) = true) (hs : (ρ x).cells.size = 25) (h1 : oneAll (ρ x) = true) (ha : ρ x = .agg (ρ x).cells) : (execOp ρ { dst,op := .store 44 p x,type := ty,pos,after,guard }).run Tryz.prog w = .ok .skip (putRow w (ρ p) (ρ x).cells) :=
  exec_store (n := 24) ρ dst ty pos after guard w (by kernel_rfl) p x h hs h1 ha
theorem storeV (p x : Operand) (h : plainAt 17 w (ρ p) = true) (hs : (ρ x).cells.size = 17) (h1 : oneAll (ρ x) = true) (ha : ρ x = .agg (ρ x).cells) : (execOp ρ { dst,op := .store 42 p x,type := ty,pos,after,guard }).run Tryz.prog w = .ok .skip (putRow w (ρ p) (ρ x).cells) :=
  exec_store (n := 16) ρ dst ty pos after guard w (by kernel_rfl) p x h hs h1 ha
theorem storeH (p x : Operand) (h : plainAt 8 w (ρ p) = true) (hs : (ρ x).cells.size = 8) (h1 : oneAll (ρ x) = true) (ha : ρ x = .agg (ρ x).cells) : (execOp ρ { dst,op := .store 160 p x,type := ty,pos,after,guard }).run Tryz.prog w = .ok .skip (putRow w (ρ p) (ρ x).cells) :=
  exec_store (n := 7) ρ dst ty pos after guard w (by kernel_rfl) p x h hs h1 ha
theorem loadH (x : Operand) (h : (rowOf w (ρ x)).size = 8) : (execOp ρ { dst,op := .load 160 x,type := ty,pos,after,guard }).run Tryz.prog w = .ok (.value (.agg (rowOf w (ρ x)))) w :=
  exec_load (n := 7) ρ dst ty pos after guard w Tryz.underlying160 rfl (by kernel_rfl) x h
theorem buildH : (execOp ρ { dst,op := .build 160 #[],type := ty,pos,after,guard }).run Tryz.prog w = .ok (.value (.agg (hc Cm.zeroF))) w := by
  have := run_build (P := Tryz.prog) w 160 #[] (hc Cm.zeroF) (by kernel_rfl)
  simp [execOp,this]
theorem buildI0 : (execOp ρ { dst,op := .build 44 #[],type := ty,pos,after,guard }).run Tryz.prog w = .ok (.value (.agg (ci zeroI))) w := by
  have := run_build (P := Tryz.prog) w 44 #[] (ci zeroI) (by kernel_rfl)
  simp [execOp,this]
theorem buildV1 (x : Operand) (ha : ρ x = .agg (Cm.fc (fnC (ρ x)))) : (execOp ρ { dst,op := .build 42 #[(0,x)],type := ty,pos,after,guard }).run Tryz.prog w = .ok (.value (.agg (cv (fnC (ρ x)) 0 Ve.zeroV))) w := by
  generalize fnC (ρ x) = f at ha ⊢
  have := run_build (P := Tryz.prog) w 42 #[(0,.agg (Cm.fc f))] (cv f 0 Ve.zeroV) (by kernel_rfl)
  simp [execOp,ha,this]
theorem buildV3 (x y z : Operand) (hx : ρ x = .agg (Cm.fc (fnC (ρ x)))) (hy : isI (ρ y) = true) (hz : ρ z = .agg (Ve.fc (fnC (ρ z)))) : (execOp ρ { dst,op := .build 42 #[(0,x),(1,y),(2,z)],type := ty,pos,after,guard }).run Tryz.prog w = .ok (.value (.agg (cv (fnC (ρ x)) (nI (ρ y)) (fnC (ρ z))))) w := by
  generalize fnC (ρ x) = fx at hx ⊢
  replace hy := isI_of hy
  generalize nI (ρ y) = fy at hy ⊢
  generalize fnC (ρ z) = fz at hz ⊢
  have := run_build (P := Tryz.prog) w 42 #[(0,.agg (Cm.fc fx)),(1,.int .i64 fy),(2,.agg (Ve.fc fz))] (cv fx fy fz) (by kernel_rfl)
  simp [execOp,hx,hy,hz,this]
theorem buildI2 (x y : Operand) (hx : ρ x = .agg #[.int .i64 (nA (ρ x) 0),.int .i64 (nA (ρ x) 1)]) (hy : ρ y = .agg #[.int .i64 (nA (ρ y) 0),.int .i64 (nA (ρ y) 1)]) : (execOp ρ { dst,op := .build 44 #[(0,x),(1,y)],type := ty,pos,after,guard }).run Tryz.prog w = .ok (.value (.agg (ci ⟨nA (ρ x) 0,nA (ρ x) 1,nA (ρ y) 0,nA (ρ y) 1,0,0,0,Cm.zeroF,0,Ve.zeroV,false⟩))) w := by
  generalize nA (ρ x) 0 = fx at hx ⊢
  generalize nA (ρ x) 1 = gx at hx ⊢
  generalize nA (ρ y) 0 = fy at hy ⊢
  generalize nA (ρ y) 1 = gy at hy ⊢
  have := run_build (P := Tryz.prog) w 44 #[(0,.agg #[.int .i64 fx,.int .i64 gx]),(1,.agg #[.int .i64 fy,.int .i64 gy])] (ci ⟨fx,gx,fy,gy,0,0,0,Cm.zeroF,0,Ve.zeroV,false⟩) (by kernel_rfl)
  simp [execOp,hx,hy,this]
theorem buildI3 (x y z : Operand) (hx : ρ x = .agg #[.int .i64 (nA (ρ x) 0),.int .i64 (nA (ρ x) 1)]) (hy : isI (ρ y) = true) (hz : isB (ρ z) = true) : (execOp ρ { dst,op := .build 44 #[(0,x),(3,y),(5,z)],type := ty,pos,after,guard }).run Tryz.prog w = .ok (.value (.agg (ci ⟨nA (ρ x) 0,nA (ρ x) 1,0,0,0,0,nI (ρ y),Cm.zeroF,0,Ve.zeroV,nB (ρ z)⟩))) w := by
  generalize nA (ρ x) 0 = fx at hx ⊢
  generalize nA (ρ x) 1 = gx at hx ⊢
  replace hy := isI_of hy
  generalize nI (ρ y) = fy at hy ⊢
  replace hz := isB_of hz
  generalize nB (ρ z) = fz at hz ⊢
  have := run_build (P := Tryz.prog) w 44 #[(0,.agg #[.int .i64 fx,.int .i64 gx]),(3,.int .i64 fy),(5,.bool fz)] (ci ⟨fx,gx,0,0,0,0,fy,Cm.zeroF,0,Ve.zeroV,fz⟩) (by kernel_rfl)
  simp [execOp,hx,hy,hz,this]
theorem buildI5 (x y z s t : Operand) (hx : ρ x = .agg #[.int .i64 (nA (ρ x) 0),.int .i64 (nA (ρ x) 1)]) (hy : isI (ρ y) = true) (hz : isB (ρ z) = true) (hs : ρ s = .agg #[.int .i64 (nA (ρ s) 0),.int .i64 (nA (ρ s) 1)]) (ht : ρ t = .agg #[.int .i64 (nA (ρ t) 0),.int .i64 (nA (ρ t) 1)]) : (execOp ρ { dst,op := .build 44 #[(0,x),(3,y),(5,z),(1,s),(2,t)],type := ty,pos,after,guard }).run Tryz.prog w = .ok (.value (.agg (ci ⟨nA (ρ x) 0,nA (ρ x) 1,nA (ρ s) 0,nA (ρ s) 1,nA (ρ t) 0,nA (ρ t) 1,nI (ρ y),Cm.zeroF,0,Ve.zeroV,nB (ρ z)⟩))) w := by
  generalize nA (ρ x) 0 = fx at hx ⊢
  generalize nA (ρ x) 1 = gx at hx ⊢
  replace hy := isI_of hy
  generalize nI (ρ y) = fy at hy ⊢
  replace hz := isB_of hz
  generalize nB (ρ z) = fz at hz ⊢
  generalize nA (ρ s) 0 = fs at hs ⊢
  generalize nA (ρ s) 1 = gs at hs ⊢
  generalize nA (ρ t) 0 = ft at ht ⊢
  generalize nA (ρ t) 1 = gt at ht ⊢
  have := run_build (P := Tryz.prog) w 44 #[(0,.agg #[.int .i64 fx,.int .i64 gx]),(3,.int .i64 fy),(5,.bool fz),(1,.agg #[.int .i64 fs,.int .i64 gs]),(2,.agg #[.int .i64 ft,.int .i64 gt])] (ci ⟨fx,gx,fs,gs,ft,gt,fy,Cm.zeroF,0,Ve.zeroV,fz⟩) (by kernel_rfl)
  simp [execOp,hx,hy,hz,hs,ht,this]
theorem buildI6 (x s t y v z : Operand) (hx : ρ x = .agg #[.int .i64 (nA (ρ x) 0),.int .i64 (nA (ρ x) 1)]) (hs : ρ s = .agg #[.int .i64 (nA (ρ s) 0),.int .i64 (nA (ρ s) 1)]) (ht : ρ t = .agg #[.int .i64 (nA (ρ t) 0),.int .i64 (nA (ρ t) 1)]) (hy : isI (ρ y) = true) (hv : ρ v = .agg (cv (fV (ρ v)) (qV (ρ v)) (dV (ρ v)))) (hz : isB (ρ z) = true) : (execOp ρ { dst,op := .build 44 #[(0,x),(1,s),(2,t),(3,y),(4,v),(5,z)],type := ty,pos,after,guard }).run Tryz.prog w = .ok (.value (.agg (ci ⟨nA (ρ x) 0,nA (ρ x) 1,nA (ρ s) 0,nA (ρ s) 1,nA (ρ t) 0,nA (ρ t) 1,nI (ρ y),fV (ρ v),qV (ρ v),dV (ρ v),nB (ρ z)⟩))) w := by
  generalize nA (ρ x) 0 = fx at hx ⊢
  generalize nA (ρ x) 1 = gx at hx ⊢
  generalize nA (ρ s) 0 = fs at hs ⊢
  generalize nA (ρ s) 1 = gs at hs ⊢
  generalize nA (ρ t) 0 = ft at ht ⊢
  generalize nA (ρ t) 1 = gt at ht ⊢
  replace hy := isI_of hy
  generalize nI (ρ y) = fy at hy ⊢
  generalize fV (ρ v) = fv at hv ⊢
  generalize qV (ρ v) = gv at hv ⊢
  generalize dV (ρ v) = kv at hv ⊢
  replace hz := isB_of hz
  generalize nB (ρ z) = fz at hz ⊢
  have := run_build (P := Tryz.prog) w 44 #[(0,.agg #[.int .i64 fx,.int .i64 gx]),(1,.agg #[.int .i64 fs,.int .i64 gs]),(2,.agg #[.int .i64 ft,.int .i64 gt]),(3,.int .i64 fy),(4,.agg (cv fv gv kv)),(5,.bool fz)] (ci ⟨fx,gx,fs,gs,ft,gt,fy,fv,gv,kv,fz⟩) (by kernel_rfl)
  simp [execOp,hx,hs,ht,hy,hv,hz,this]
theorem buildH8 (x0 x1 x2 x3 x4 x5 x6 x7 : Operand) (hx0 : isI (ρ x0) = true) (hx1 : isI (ρ x1) = true) (hx2 : isI (ρ x2) = true) (hx3 : isI (ρ x3) = true) (hx4 : isI (ρ x4) = true) (hx5 : isI (ρ x5) = true) (hx6 : isI (ρ x6) = true) (hx7 : isI (ρ x7) = true) : (execOp ρ { dst,op := .build 160 #[(0,x0),(1,x1),(2,x2),(3,x3),(4,x4),(5,x5),(6,x6),(7,x7)],type := ty,pos,after,guard }).run Tryz.prog w = .ok (.value (.agg (hc (v8 (nI (ρ x0)) (nI (ρ x1)) (nI (ρ x2)) (nI (ρ x3)) (nI (ρ x4)) (nI (ρ x5)) (nI (ρ x6)) (nI (ρ x7)))))) w := by
  replace hx0 := isI_of hx0
  generalize nI (ρ x0) = fx0 at hx0 ⊢
  replace hx1 := isI_of hx1
  generalize nI (ρ x1) = fx1 at hx1 ⊢
  replace hx2 := isI_of hx2
  generalize nI (ρ x2) = fx2 at hx2 ⊢
  replace hx3 := isI_of hx3
  generalize nI (ρ x3) = fx3 at hx3 ⊢
  replace hx4 := isI_of hx4
  generalize nI (ρ x4) = fx4 at hx4 ⊢
  replace hx5 := isI_of hx5
  generalize nI (ρ x5) = fx5 at hx5 ⊢
  replace hx6 := isI_of hx6
  generalize nI (ρ x6) = fx6 at hx6 ⊢
  replace hx7 := isI_of hx7
  generalize nI (ρ x7) = fx7 at hx7 ⊢
  have := run_build (P := Tryz.prog) w 160 #[(0,.int .i64 fx0),(1,.int .i64 fx1),(2,.int .i64 fx2),(3,.int .i64 fx3),(4,.int .i64 fx4),(5,.int .i64 fx5),(6,.int .i64 fx6),(7,.int .i64 fx7)] (hc (v8 fx0 fx1 fx2 fx3 fx4 fx5 fx6 fx7)) (by kernel_rfl)
  simp [execOp,hx0,hx1,hx2,hx3,hx4,hx5,hx6,hx7,this]
end
attribute [go_sem ↓] allocV allocI allocH storeI storeV storeH loadH buildH buildI0 buildV1 buildV3 buildI2 buildI3 buildI5 buildI6 buildH8
theorem part_hc (f : Nat → Int) (k : Nat) (h : k < 8) (w : World) : (Go.part 3 (hc f) k).run Tryz.prog w = .ok (.int .i64 (f k)) w := by
  simp [Go.part,Tryz.isAgg3,hc_at f k h]
@[go_sem] theorem index_hc (f : Nat → Int) (i : Int) (h0 : 0 ≤ i) (h7 : i < 8) (w : World) : (Instr.index 160 (.agg (hc f)) (.int .i64 i)).run Tryz.prog w = .ok (.int .i64 (f i.toNat)) w := by
  have h := part_hc f i.toNat (by omega) w
  simp only [Instr.index,asIntOf,Sem.run_bind,Sem.run_pure,Result.andThen,run_underlying Tryz.underlying160]
  rw [if_pos ⟨h0,h7⟩]
  simp only [Sem.run_bind,Result.andThen,Tryz.sizeOf3,Nat.mul_one,h]
theorem ret_I {fn : Func} {p : Tmp} (h : fn.results = #[.cell p 44]) (tmps : Array Value) (w : World) (i : Ins) (hr : rowOf w (tmps.getD p undef) = ci i) : (results fn tmps).run Tryz.prog w = .ok (.agg (ci i)) w :=
  ret1 (n := 24) h Tryz.underlying44 rfl (by kernel_rfl) tmps w rfl hr
theorem ret_I2 {fn : Func} {p q : Tmp} (h : fn.results = #[.cell p 44,.tmp q]) (tmps : Array Value) (w : World) (i : Ins) (hr : rowOf w (tmps.getD p undef) = ci i) : (results fn tmps).run Tryz.prog w = .ok (.tuple #[.agg (ci i),tmps.getD q undef]) w :=
  ret2 (n := 24) h Tryz.underlying44 rfl (by kernel_rfl) tmps w rfl hr
theorem ret_V3 {fn : Func} {p q r : Tmp} (h : fn.results = #[.cell p 42,.tmp q,.tmp r]) (tmps : Array Value) (w : World) (c : Nat → Int) (x : Int) (d : Nat → Int) (hr : rowOf w (tmps.getD p undef) = cv c x d) : (results fn tmps).run Tryz.prog w = .ok (.tuple #[.agg (cv c x d),tmps.getD q undef,tmps.getD r undef]) w :=
  ret3 (n := 16) h Tryz.underlying42 rfl (by kernel_rfl) tmps w rfl hr
theorem ret_H {fn : Func} {p : Tmp} (h : fn.results = #[.cell p 160]) (tmps : Array Value) (w : World) (f : Nat → Int) (hr : rowOf w (tmps.getD p undef) = hc f) : (results fn tmps).run Tryz.prog w = .ok (.agg (hc f)) w :=
  ret1 (n := 7) h Tryz.underlying160 rfl (by kernel_rfl) tmps w (hc_size f) hr
end Go.Proofs.YtnnbjhpkgndclaaGreatDoor.Rc
namespace Go.Proofs.YtnnbjhpkgndclaaGreatDoor.Rc
open Go.RowKit
open Go.Proofs.YtnnbjhpkgndclaaGreatDoor.Rw
open Go.Proofs.YtnnbjhpkgndclaaGreatDoor.Bv
open Go.Proofs.YtnnbjhpkgndclaaGreatDoor.Ba (valB lessB)
open Go.Proofs.YtnnbjhpkgndclaaGreatDoor.Ve (rightB)
def bareI (a b c d : Int) : Ins := ⟨a,b,c,d,0,0,0,Cm.zeroF,0,Ve.zeroV,false⟩
set_option maxRecDepth 8000 in
set_option maxHeartbeats 2000000 in
theorem isBare_any (i : Ins) (w : World) :
    Calls Tryz.prog 135 #[.agg (ci i)] w fun e w' => e = .returned (.bool (eqIns i (bareI i.pr i.ps i.bn i.br))) ∧ Below w.heap.size w w' := by
  go_enter Tryz.func135,Tryz.ntmps135
  go_wp2
  go_ret
  exact ⟨rfl,below1 _ _⟩
theorem isBare_is {i : Ins} {b : Bool} (H : Hid (eqIns i (bareI i.pr i.ps i.bn i.br) = b)) (w : World) :
    Calls Tryz.prog 135 #[.agg (ci i)] w fun e w' => e = .returned (.bool b) ∧ Below w.heap.size w w' := by
  rw [← H.out];exact isBare_any i w
theorem bare_of {i : Ins} (h : i.st = 0) : eqIns i (bareI i.pr i.ps i.bn i.br) = bare i := by
  unfold bareI eqIns bare eqVal
  simp only [beq_self_eq_true,Bool.and_self,Bool.true_and,h]
  cases Cm.eqF i.c Cm.zeroF <;> cases Ve.eqV i.d Ve.zeroV <;> cases i.sm <;> by_cases h1 : i.q = 0 <;> by_cases h2 : i.tn = 0 <;> by_cases h3 : i.tr = 0 <;> simp [h1,h2,h3]
theorem okI_form {i : Ins} {n : Int} (h1 : okP i.pr i.ps n = true) (h2 : okB i = true) (h3 : okV i.c i.q i.d n = true) : okI i n = (decide (0 ≤ i.st ∧ i.st ≤ 3) && (decide (i.st ≠ 0) || bare i)) := by
  have hn := (Ve.rightB_iff.1 (okV_iff.1 h3).2.2.2).1
  have e1 : decide (0 ≤ i.pr ∧ i.pr < n ∧ 1 ≤ i.ps ∧ i.ps ≤ 400) = true := h1
  unfold okB at h2
  simp only [Bool.and_eq_true] at h2
  obtain ⟨k1,k2,k3⟩ := h2
  unfold okI
  rw [decide_eq_true hn,e1,k1,k2,k3,h3]
  simp
theorem okI_no {i : Ins} {n : Int} (h : okP i.pr i.ps n = false ∨ okB i = false ∨ okV i.c i.q i.d n = false) : okI i n = false := by
  refine Bool.eq_false_iff.2 fun k => ?_
  obtain ⟨k1,k2,k3,k4,k5,k6,k7,_⟩ := okI_iff.1 k
  rcases h with h | h | h
  · exact absurd (show okP i.pr i.ps n = true from decide_eq_true k2) (by rw [h];decide)
  · unfold okB at h;rw [k3,k4,k5] at h;cases h
  · rw [h] at k7;cases k7
set_option maxRecDepth 8000 in
set_option maxHeartbeats 8000000 in
theorem right_any (i : Ins) (n : Int) (w : World) :
    Calls Tryz.prog 105 #[.agg (ci i),.int .i64 n] w fun e w' => e = .returned (.bool (okI i n)) ∧ Below w.heap.size w w' := by
  obtain ⟨V,hV⟩ : ∃ Q_ : World,w.alloc (.cells (ci i) 44) = Q_ := ⟨_,rfl⟩
  have bV : Below w.heap.size w V := hV ▸ below1 _ _
  have A0 : At V w.heap.size i := hV ▸ At.new _ _ _
  obtain ⟨R,hR⟩ : ∃ R,okI i n = R := ⟨_,rfl⟩
  rw [hR]
  have HR : Hid (okI i n = R) := lH hR
  clear hR
  obtain ⟨m1,m2,m3,m4⟩ := A0.facts
  have HA := lH A0
  clear A0
  obtain ⟨c3,g3⟩ : ∃ b,okP i.pr i.ps n = b := ⟨_,rfl⟩
  have H3 := lH g3
  cases c3
  · have HE : Hid (R = false) := lH (by rw [← HR.out];exact okI_no (.inl H3.out))
    clear g3
    go_enter Tryz.func105,Tryz.ntmps105
    go_wp2_with fail
    clear m1 m2 m3 m4
    refine (isPlace_is H3 _).mono ?_
    rintro e w3 ⟨rfl,hb3⟩
    go_wp2
    go_ret
    exact ⟨ret_bool HE.out.symm,nx bV hb3⟩
  clear g3
  obtain ⟨c4,g4⟩ : ∃ b,okB i = b := ⟨_,rfl⟩
  have H4 := lH g4
  cases c4
  · have HE : Hid (R = false) := lH (by rw [← HR.out];exact okI_no (.inr (.inl H4.out)))
    clear g4
    go_enter Tryz.func105,Tryz.ntmps105
    go_wp2_with fail
    clear m1 m2 m3 m4
    refine (isPlace_is H3 _).mono ?_
    rintro e w3 ⟨rfl,hb3⟩
    have A3 := At.stays HA.out hb3
    obtain ⟨m1,m2,m3,m4⟩ := A3.facts
    go_wp2_with fail
    clear m1 m2 m3 m4
    refine (areBallots_is H4 _).mono ?_
    rintro e w4 ⟨rfl,hb4⟩
    go_wp2
    go_ret
    exact ⟨ret_bool HE.out.symm,nx bV (nx hb3 hb4)⟩
  clear g4
  obtain ⟨c5,g5⟩ : ∃ b,okV i.c i.q i.d n = b := ⟨_,rfl⟩
  have H5 := lH g5
  cases c5
  · have HE : Hid (R = false) := lH (by rw [← HR.out];exact okI_no (.inr (.inr H5.out)))
    clear g5
    go_enter Tryz.func105,Tryz.ntmps105
    go_wp2_with fail
    clear m1 m2 m3 m4
    refine (isPlace_is H3 _).mono ?_
    rintro e w3 ⟨rfl,hb3⟩
    have A3 := At.stays HA.out hb3
    obtain ⟨m1,m2,m3,m4⟩ := A3.facts
    go_wp2_with fail
    clear m1 m2 m3 m4
    refine (areBallots_is H4 _).mono ?_
    rintro e w4 ⟨rfl,hb4⟩
    have A4 := At.stays A3 hb4
    obtain ⟨m1,m2,m3,m4⟩ := A4.facts
    go_wp2_with fail
    clear m1 m2 m3 m4
    refine (isValue_is H5 _).mono ?_
    rintro e w5 ⟨rfl,hb5⟩
    go_wp2
    go_ret
    exact ⟨ret_bool HE.out.symm,nx bV (nx hb3 (nx hb4 hb5))⟩
  clear g5
  have HF := lH (okI_form H3.out H4.out H5.out)
  obtain ⟨s,hs⟩ : ∃ s,i.st = s := ⟨_,rfl⟩
  have HS := lH hs
  have HB := lH (bare_of (i := i))
  rw [hs] at m2
  clear hs
  by_cases h0 : s = 0
  · subst h0
    obtain ⟨b,gb⟩ : ∃ b,bare i = b := ⟨_,rfl⟩
    have HE : Hid (R = b) := lH (by rw [← HR.out,HF.out,HS.out,gb];simp)
    have HB2 := lH ((HB.out HS.out).trans gb)
    clear gb HB
    go_enter Tryz.func105,Tryz.ntmps105
    go_wp2_with fail
    clear m1 m2 m3 m4
    refine (isPlace_is H3 _).mono ?_
    rintro e w3 ⟨rfl,hb3⟩
    have A3 := At.stays HA.out hb3
    obtain ⟨m1,m2,m3,m4⟩ := A3.facts
    go_wp2_with fail
    clear m1 m2 m3 m4
    refine (areBallots_is H4 _).mono ?_
    rintro e w4 ⟨rfl,hb4⟩
    have A4 := At.stays A3 hb4
    obtain ⟨m1,m2,m3,m4⟩ := A4.facts
    go_wp2_with fail
    clear m1 m2 m3 m4
    refine (isValue_is H5 _).mono ?_
    rintro e w5 ⟨rfl,hb5⟩
    have A5 := At.stays A4 hb5
    obtain ⟨m1,m2,m3,m4⟩ := A5.facts
    rw [HS.out] at m2
    go_wp2_with fail
    clear m1 m2 m3 m4
    refine (isBare_is HB2 _).mono ?_
    rintro e w6 ⟨rfl,hb6⟩
    go_wp2
    go_ret
    exact ⟨ret_bool HE.out.symm,nx bV (nx hb3 (nx hb4 (nx hb5 hb6)))⟩
  · by_cases h1 : s = 1 ∨ s = 2 ∨ s = 3
    · have HE : Hid (R = true) := lH (by rw [← HR.out,HF.out,HS.out,decide_eq_true (show 0 ≤ s ∧ s ≤ 3 by omega),decide_eq_true (show s ≠ 0 from h0)];rfl)
      clear h0
      rcases h1 with rfl | rfl | rfl
      all_goals
        go_enter Tryz.func105,Tryz.ntmps105
        go_wp2_with fail
        clear m1 m2 m3 m4
        refine (isPlace_is H3 _).mono ?_
        rintro e w3 ⟨rfl,hb3⟩
        have A3 := At.stays HA.out hb3
        obtain ⟨m1,m2,m3,m4⟩ := A3.facts
        go_wp2_with fail
        clear m1 m2 m3 m4
        refine (areBallots_is H4 _).mono ?_
        rintro e w4 ⟨rfl,hb4⟩
        have A4 := At.stays A3 hb4
        obtain ⟨m1,m2,m3,m4⟩ := A4.facts
        go_wp2_with fail
        clear m1 m2 m3 m4
        refine (isValue_is H5 _).mono ?_
        rintro e w5 ⟨rfl,hb5⟩
        have A5 := At.stays A4 hb5
        obtain ⟨m1,m2,m3,m4⟩ := A5.facts
        rw [HS.out] at m2
        go_wp2
        go_ret
        exact ⟨ret_bool HE.out.symm,nx bV (nx hb3 (nx hb4 hb5))⟩
    · have HE : Hid (R = false) := lH (by rw [← HR.out,HF.out,HS.out,decide_eq_false (show ¬ (0 ≤ s ∧ s ≤ 3) by omega)];rfl)
      have g0 : (s == 0) = false := by simpa using h0
      have g1 : (s == 1) = false := by simp;omega
      have g2 : (s == 2) = false := by simp;omega
      have g3 : (s == 3) = false := by simp;omega
      clear h0 h1
      go_enter Tryz.func105,Tryz.ntmps105
      go_wp2_with fail
      clear m1 m2 m3 m4
      refine (isPlace_is H3 _).mono ?_
      rintro e w3 ⟨rfl,hb3⟩
      have A3 := At.stays HA.out hb3
      obtain ⟨m1,m2,m3,m4⟩ := A3.facts
      go_wp2_with fail
      clear m1 m2 m3 m4
      refine (areBallots_is H4 _).mono ?_
      rintro e w4 ⟨rfl,hb4⟩
      have A4 := At.stays A3 hb4
      obtain ⟨m1,m2,m3,m4⟩ := A4.facts
      go_wp2_with fail
      clear m1 m2 m3 m4
      refine (isValue_is H5 _).mono ?_
      rintro e w5 ⟨rfl,hb5⟩
      have A5 := At.stays A4 hb5
      obtain ⟨m1,m2,m3,m4⟩ := A5.facts
      rw [HS.out] at m2
      go_wp2
      go_ret
      exact ⟨ret_bool HE.out.symm,nx bV (nx hb3 (nx hb4 hb5))⟩
theorem right_is {i : Ins} {n : Int} {b : Bool} (H : Hid (okI i n = b)) (w : World) :
    Calls Tryz.prog 105 #[.agg (ci i),.int .i64 n] w fun e w' => e = .returned (.bool b) ∧ Below w.heap.size w w' := by
  rw [← H.out];exact right_any i n w
theorem rRight_is {i : Ins} {n : Int} {b : Bool} (H : Hid (okI i n = b)) (w : World) :
    Calls Tryz.prog 56 #[.agg (ci i),.int .i64 n] w fun e w' => e = .returned (.bool b) ∧ Below w.heap.size w w' := by
  rw [← H.out];exact rRight_any i n w
def headN (i : Ins) : Nat → Int := v8 i.pr i.ps i.st (flagN i.sm) i.bn i.br i.tn i.tr
def ofH (f : Nat → Int) : Ins := ⟨f 0,f 1,f 4,f 5,f 6,f 7,f 2,Cm.zeroF,0,Ve.zeroV,f 3 == 1⟩
set_option maxRecDepth 8000 in
set_option maxHeartbeats 2000000 in
theorem head_any (i : Ins) (w : World) :
    Calls Tryz.prog 106 #[.agg (ci i)] w fun e w' => e = .returned (.agg (hc (headN i))) ∧ Below w.heap.size w w' := by
  cases h : i.sm
  all_goals
    have HE : Hid (headN i = v8 i.pr i.ps i.st (flagN i.sm) i.bn i.br i.tn i.tr) := lH rfl
    rw [h] at HE
    go_enter Tryz.func106,Tryz.ntmps106
    go_wp2
    exact bodyPost_ret (v := .agg (hc (headN i))) (ret_H Tryz.results106 _ _ _ (by simp [go_sem,HE.out,flagN])) rfl ⟨rfl,below2 _ _ _⟩
set_option maxRecDepth 8000 in
set_option maxHeartbeats 2000000 in
theorem ofHead_any (f : Nat → Int) (w : World) :
    Calls Tryz.prog 129 #[.agg (hc f)] w fun e w' => e = .returned (.agg (ci (ofH f))) ∧ Below w.heap.size w w' := by
  go_enter Tryz.func129,Tryz.ntmps129
  go_wp2
  exact bodyPost_ret (v := .agg (ci (ofH f))) (ret_I Tryz.results129 _ _ (ofH f) (by simp [go_sem,ofH])) rfl ⟨rfl,below2 _ _ _⟩
end Go.Proofs.YtnnbjhpkgndclaaGreatDoor.Rc
namespace Go.Proofs.YtnnbjhpkgndclaaGreatDoor.Rc
open Go.RowKit
open Go.Proofs.YtnnbjhpkgndclaaGreatDoor.Rw
open Go.Proofs.YtnnbjhpkgndclaaGreatDoor.Fx (enc enc_size putV fB wB)
open Go.Proofs.YtnnbjhpkgndclaaGreatDoor.Cm (chkB chkE writeS numF catS)
theorem put_ok {x : Int} {k : Nat} (h : Fit (x,k)) (hk : 1 ≤ k ∧ k ≤ 7) : putV x k = .tuple #[.string (enc x k),.int .i64 0] := by
  obtain ⟨u,hu,hf⟩ := h
  have hu : x = u := hu
  have h1 : wB k = true := by simp [wB];omega
  have h2 : fB x k = true := by
    unfold fB
    rw [Int.toNat_natCast]
    simp only [decide_eq_true_eq]
    have h4 : (256 : Int) ^ k = ((256 ^ k : Nat) : Int) := by rw [Int.natCast_pow];rfl
    have hf : u < 256 ^ k := hf
    omega
  unfold putV;rw [h1,h2,Int.toNat_natCast];rfl
theorem rWrite_yes {c : Nat → Int} {x : ByteArray} (h : Hid (chkB c = true)) (hx : Hid (cat (cmdF c) = x)) (w : World) :
    Calls Tryz.prog 92 #[.agg (Cm.fc c)] w fun e w' => e = .returned (.tuple #[.string x,.int .i64 0]) ∧ Below w.heap.size w w' := by
  have k := Cm.rWrite_any c w
  have e1 : writeS c = x := by unfold writeS;rw [h.out,if_pos rfl,← hx.out,cmd_cat]
  rw [e1,chk_yes h.out] at k;exact k
theorem depF_snoc (d : Nat → Int) (k : Nat) : cat (depF d (k + 1)) = cat (depF d k) ++ enc (d k) 2 := by
  unfold depF
  rw [List.range_succ,List.map_append,cat_append]
  simp [cat]
theorem dep_at (c : Nat → Int) (q : Int) (d : Nat → Int) (k : Nat) (hk : k < 7) : (cv c q d)[10 + k]? = some (.int .i64 (d k)) := by
  match k,hk with
  | 0,_ => rfl
  | 1,_ => rfl
  | 2,_ => rfl
  | 3,_ => rfl
  | 4,_ => rfl
  | 5,_ => rfl
  | 6,_ => rfl
set_option maxRecDepth 8000 in
set_option maxHeartbeats 4000000 in
theorem rPutValue_any (c : Nat → Int) (q : Int) (d : Nat → Int) (n : Int) (w : World) :
    Calls Tryz.prog 59 #[.agg (cv c q d),.int .i64 n] w fun e w' => e = .returned (.tuple #[.string (if okV c q d n then cat (valF c q d n.toNat) else ByteArray.empty),.int .i64 (if okV c q d n then 0 else 1)]) ∧ Below w.heap.size w w' := by
  obtain ⟨V,hV⟩ : ∃ Q_ : World,w.alloc (.cells (cv c q d) 42) = Q_ := ⟨_,rfl⟩
  have bV : Below w.heap.size w V := hV ▸ below1 _ _
  have hr0 : row V w.heap.size = cv c q d := hV ▸ row_new _ _ _ _ rfl
  have hl0 : w.heap.size < V.heap.size := by rw [← hV];simp
  have HK := lH (show ∀ u,Below V.heap.size V u → row u w.heap.size = cv c q d ∧ u.cell? ⟨w.heap.size,9,none⟩ = some (.int .i64 q) ∧ (∀ k,k < 7 → u.cell? ⟨w.heap.size,10 + k,none⟩ = some (.int .i64 (d k))) ∧ w.heap.size < u.heap.size from fun u hu => by
    have h1 := row_stays hr0 hl0 hu
    refine ⟨h1,?_,fun k hk => ?_,Nat.lt_of_lt_of_le hl0 hu.size⟩
    · rw [cell_row (n := 16) u w.heap.size 9 (by rw [h1];rfl),h1];rfl
    · rw [cell_row (n := 16) u w.heap.size (10 + k) (by rw [h1];rfl),h1];exact dep_at c q d k hk)
  cases h1 : okV c q d n with
  | false =>
    have H1 := lH h1
    clear h1
    go_enter Tryz.func59,Tryz.ntmps59
    go_wp2_with fail
    refine (rValue_is H1 _).mono ?_
    rintro e w1 ⟨rfl,hb1⟩
    go_wp2
    go_ret2
    exact ⟨rfl,nx bV hb1⟩
  | true =>
    have H1 := lH h1
    obtain ⟨k1,k2,k3,k4⟩ := okV_iff.1 h1
    obtain ⟨k5,k6⟩ := Ve.rightB_iff.1 k4
    obtain ⟨N,hN⟩ : ∃ N : Nat,n = N := ⟨n.toNat,by omega⟩
    subst hN
    have hN7 : N ≤ 7 := by omega
    obtain ⟨x0,hx0⟩ : ∃ x,cat (cmdF c) = x := ⟨_,rfl⟩
    have HW := lH hx0
    have HC := lH k1
    have HQ := lH (put_ok (k := 4) (fit_of 4294967296 ⟨k2,by omega⟩ (by decide)) ⟨by omega,by omega⟩)
    have HD := lH (show ∀ k,k < N → putV (d k) 2 = .tuple #[.string (enc (d k) 2),.int .i64 0] from fun k hk => by
      have h7 := Ve.okAt_iff.1 (k6 k (by omega))
      exact put_ok (k := 2) (fit_of 65536 ⟨h7.1,by omega⟩ (by decide)) ⟨by omega,by omega⟩)
    have hx0s : x0.size = 30 := by rw [← hx0,cat_size];rfl
    have HV : Hid (cat (valF c q d N) = x0 ++ enc q 4 ++ cat (depF d N)) := lH (by rw [valF,cat_append,hx0,cat,ByteArray.append_assoc])
    obtain ⟨y,hy⟩ : ∃ y,enc q 4 = y := ⟨_,rfl⟩
    have hys : y.size = 4 := by rw [← hy,enc_size]
    rw [hy] at HQ HV
    clear h1 k1 k4 k6 hx0 hy k2 k3
    go_enter Tryz.func59,Tryz.ntmps59
    go_wp2_with fail
    clear hr0
    refine (rValue_is H1 _).mono ?_
    rintro e w1 ⟨rfl,hb1⟩
    obtain ⟨m1,m2,m3,m4⟩ := HK.out w1 hb1
    go_wp2_with fail
    clear m1 m2 m3 m4
    refine (rWrite_yes HC HW _).mono ?_
    rintro e w2 ⟨rfl,hb2⟩
    have b2 := nx hb1 hb2
    obtain ⟨m1,m2,m3,m4⟩ := HK.out w2 b2
    go_wp2_with fail
    clear m1 m2 m3 m4
    refine (Cm.rPut_is HQ _).mono ?_
    rintro e w3 ⟨rfl,hb3⟩
    have b3 := nx b2 hb3
    go_wp2
    go_loopw [6,31] (fun t j wr => ∃ (k : Nat),k ≤ N ∧ j = .int .i64 k ∧ t = .string (x0 ++ y ++ cat (depF d k)) ∧ Below V.heap.size V wr) (fun _ j _ => N - (intOf j).toNat)
    case atStart => exact ⟨0,Nat.zero_le _,rfl,by simp [depF,cat],b3⟩
    case round =>
      obtain ⟨k,hk,rfl,rfl,hb⟩ := hrel
      obtain ⟨z,hz⟩ : ∃ z,x0 ++ y ++ cat (depF d k) = z := ⟨_,rfl⟩
      have hzs : z.size ≤ 100 := by rw [← hz,ByteArray.size_append,ByteArray.size_append,cat_size,depF_w,wid_rep];omega
      by_cases hlt : k < N
      · have hlt2 : (k : Int) < N := by omega
        have hP := lH (HD.out k hlt)
        obtain ⟨m1,m2,m3,m4⟩ := HK.out wr hb
        have m5 := m3 k (by omega)
        have hk7 : (k : Int) < 7 := by omega
        obtain ⟨p,hp⟩ : ∃ p,enc (d k) 2 = p := ⟨_,rfl⟩
        have hps : p.size = 2 := by rw [← hp,enc_size]
        rw [hp] at hP
        have HZ : Hid (x0 ++ y ++ cat (depF d (k + 1)) = z ++ p) := lH (by rw [depF_snoc,hp,← hz];exact ByteArray.append_assoc.symm)
        rw [hz]
        clear hz m3 hp
        go_wp2_with fail
        clear m1 m2 m4 m5
        refine (Cm.rPut_is hP _).mono ?_
        rintro e w4 ⟨rfl,hb4⟩
        go_wp2
        go_roundw
        case rel => exact ⟨k + 1,by omega,by go_num,by rw [HZ.out],nx hb hb4⟩
        case measure => simp [intOf];omega
      · obtain rfl : k = N := by omega
        have HZ : Hid (cat (valF c q d k) = z) := lH (by rw [HV.out,hz])
        rw [hz]
        clear hz
        go_wp2
        go_ret2
        exact ⟨by rw [← HZ.out];rfl,nx bV hb⟩
end Go.Proofs.YtnnbjhpkgndclaaGreatDoor.Rc
namespace Go.Proofs.YtnnbjhpkgndclaaGreatDoor.Rc
open Go.RowKit
open Go.Proofs.YtnnbjhpkgndclaaGreatDoor.Rw
open Go.Proofs.YtnnbjhpkgndclaaGreatDoor.Bv
open Go.Proofs.YtnnbjhpkgndclaaGreatDoor.Fx (enc enc_size putV)
open Go.Proofs.YtnnbjhpkgndclaaGreatDoor.Cm (chkB chkE writeS numF Tab Bld writeString_any string_any)
theorem cells_app (s f : ByteArray) : Lib.byteCells (s ++ f).data.toList = Lib.byteCells s.data.toList ++ Lib.strCells f := by
  rw [ByteArray.data_append,Array.toList_append];exact List.map_append
theorem cells_len (s : ByteArray) : (Lib.byteCells s.data.toList).length = s.size := by rw [Lib.byteCells_length,Array.length_toList];rfl
abbrev Bd (B b : Nat) (s : ByteArray) (w : World) : Prop := Bld B b (Lib.byteCells s.data.toList) w
theorem wrote_any (B b : Nat) (s f : ByteArray) (w : World) (h : Bd B b s w) (hl : s.size + f.size ≤ 1000000) (hB : B ≤ w.heap.size) :
    Calls Tryz.prog 81 #[.pointer (some ⟨b,0,none⟩),.string f] w fun e w' => e = .returned (.tuple #[.int .i64 f.size,.nilIface]) ∧ (Bd B b (s ++ f) w' ∧ Below B w w') := by
  have := writeString_any B b _ f w h (by rw [cells_len];omega) hB
  rw [← cells_app] at this;exact this
set_option maxRecDepth 8000 in
set_option maxHeartbeats 1000000 in
theorem put_any (B b : Nat) (s : ByteArray) (n : Int) (k : Nat) (w : World) (h : Bd B b s w) (hl : s.size ≤ 10000) (hB : B ≤ w.heap.size) (hf : Fit (n,k)) (hk : 1 ≤ k ∧ k ≤ 7) :
    Calls Tryz.prog 107 #[.pointer (some ⟨b,0,none⟩),.int .i64 n,.int .i64 k] w fun e w' => e = .returned (.tuple #[]) ∧ (Bd B b (s ++ enc n k) w' ∧ Below B w w') := by
  obtain ⟨x,hx⟩ : ∃ x,enc n k = x := ⟨_,rfl⟩
  have hxs : x.size ≤ 7 := by rw [← hx,enc_size];exact hk.2
  have HP := put_ok hf hk
  rw [hx] at HP ⊢
  have HP := lH HP
  have HB := lH h
  clear hx h hf
  go_enter Tryz.func107,Tryz.ntmps107
  go_wp2_with fail
  refine (Cm.put_is HP _).mono ?_
  rintro e w1 ⟨rfl,hb1⟩
  have HB1 := lH (HB.out.below hb1)
  have hs1 := hb1.size
  clear HB
  go_wp2_with fail
  refine (wrote_any _ _ _ _ _ HB1.out (by omega) (by omega)).mono ?_
  rintro e w2 ⟨rfl,hB2,hb2⟩
  have HB2 := lH hB2
  clear hB2 HB1
  go_wp2
  go_end0
  exact ⟨rfl,HB2.out,(hb1.mono hB).trans hb2⟩
theorem write_yes {c : Nat → Int} {x : ByteArray} (h : Hid (chkB c = true)) (hx : Hid (cat (cmdF c) = x)) (w : World) (ht : Tab w) :
    Calls Tryz.prog 136 #[.agg (Cm.fc c)] w fun e w' => e = .returned (.tuple #[.string x,.int .i64 0]) ∧ Below w.heap.size w w' := by
  have k := Cm.write_any c w ht
  have e1 : writeS c = x := by unfold writeS;rw [h.out,if_pos rfl,← hx.out,cmd_cat]
  rw [e1,chk_yes h.out] at k;exact k
set_option maxRecDepth 8000 in
set_option maxHeartbeats 4000000 in
theorem putValue_any (c : Nat → Int) (q : Int) (d : Nat → Int) (n : Int) (w : World) (ht : Tab w) :
    Calls Tryz.prog 108 #[.agg (cv c q d),.int .i64 n] w fun e w' => e = .returned (.tuple #[.string (if okV c q d n then cat (valF c q d n.toNat) else ByteArray.empty),.int .i64 (if okV c q d n then 0 else 1)]) ∧ Below w.heap.size w w' := by
  obtain ⟨V,hV⟩ : ∃ Q_ : World,w.alloc (.cells (cv c q d) 42) = Q_ := ⟨_,rfl⟩
  have bV : Below w.heap.size w V := hV ▸ below1 _ _
  have hr0 : row V w.heap.size = cv c q d := hV ▸ row_new _ _ _ _ rfl
  have hl0 : w.heap.size < V.heap.size := by rw [← hV];simp
  have HT := lH (show ∀ u,Below V.heap.size V u → Tab u from fun u hu => ht.below (nx bV hu))
  have HK := lH (show ∀ u,Below V.heap.size V u → row u w.heap.size = cv c q d ∧ u.cell? ⟨w.heap.size,9,none⟩ = some (.int .i64 q) ∧ (∀ k,k < 7 → u.cell? ⟨w.heap.size,10 + k,none⟩ = some (.int .i64 (d k))) ∧ w.heap.size < u.heap.size from fun u hu => by
    have h1 := row_stays hr0 hl0 hu
    refine ⟨h1,?_,fun k hk => ?_,Nat.lt_of_lt_of_le hl0 hu.size⟩
    · rw [cell_row (n := 16) u w.heap.size 9 (by rw [h1];rfl),h1];rfl
    · rw [cell_row (n := 16) u w.heap.size (10 + k) (by rw [h1];rfl),h1];exact dep_at c q d k hk)
  clear ht
  cases h1 : okV c q d n with
  | false =>
    have H1 := lH h1
    clear h1
    go_enter Tryz.func108,Tryz.ntmps108
    go_wp2_with fail
    refine (isValue_is H1 _).mono ?_
    rintro e w1 ⟨rfl,hb1⟩
    go_wp2
    go_ret2
    exact ⟨rfl,nx bV hb1⟩
  | true =>
    have H1 := lH h1
    obtain ⟨k1,k2,k3,k4⟩ := okV_iff.1 h1
    obtain ⟨k5,k6⟩ := Ve.rightB_iff.1 k4
    obtain ⟨N,hN⟩ : ∃ N : Nat,n = N := ⟨n.toNat,by omega⟩
    subst hN
    have hN7 : N ≤ 7 := by omega
    obtain ⟨x0,hx0⟩ : ∃ x,cat (cmdF c) = x := ⟨_,rfl⟩
    have HW := lH hx0
    have HC := lH k1
    have HQ := lH (show Fit (q,4) from fit_of 4294967296 ⟨k2,by omega⟩ (by decide))
    have HD := lH (show ∀ k,k < N → Fit (d k,2) from fun k hk => by
      have h7 := Ve.okAt_iff.1 (k6 k (by omega))
      exact fit_of 65536 ⟨h7.1,by omega⟩ (by decide))
    have hx0s : x0.size = 30 := by rw [← hx0,cat_size];rfl
    have HV : Hid (cat (valF c q d N) = x0 ++ enc q 4 ++ cat (depF d N)) := lH (by rw [valF,cat_append,hx0,cat,ByteArray.append_assoc])
    obtain ⟨y,hy⟩ : ∃ y,enc q 4 = y := ⟨_,rfl⟩
    have hys : y.size = 4 := by rw [← hy,enc_size]
    rw [hy] at HV
    have HY := lH hy
    clear h1 k1 k4 k6 hx0 hy k2 k3
    go_enter Tryz.func108,Tryz.ntmps108
    go_wp2_with fail
    clear hr0
    refine (isValue_is H1 _).mono ?_
    rintro e w1 ⟨rfl,hb1⟩
    obtain ⟨m1,m2,m3,m4⟩ := HK.out w1 hb1
    go_wp2_with fail
    clear m1 m2 m3 m4
    refine (write_yes HC HW _ (HT.out _ hb1)).mono ?_
    rintro e w2 ⟨rfl,hb2⟩
    have b2 := nx hb1 hb2
    go_wp2_with fail
    obtain ⟨U,hU⟩ : ∃ Q_ : World,w2.alloc (.cells #[.pointer none,.slice none 0 0] 130) = Q_ := ⟨_,rfl⟩
    have hB0 : Bd w2.heap.size w2.heap.size ByteArray.empty U := hU ▸ Lib.fresh_isBuilder _ _ w2
    have bU : Below w2.heap.size w2 U := hU ▸ below1 w2 _
    rw [hU]
    clear hU
    have hs0 := bU.size
    have HB0 := lH hB0
    clear hB0
    refine (wrote_any _ _ _ _ _ HB0.out (by rw [ByteArray.size_empty];omega) (by omega)).mono ?_
    rintro e w3 ⟨rfl,hB3,hb3⟩
    rw [ByteArray.empty_append] at hB3
    have HB3 := lH hB3
    have b3 : Below w2.heap.size w2 w3 := bU.trans hb3
    have hs3 := b3.size
    clear hB3 HB0 hb3 bU hs0
    obtain ⟨m1,m2,m3,m4⟩ := HK.out w3 (nx b2 b3)
    go_wp2_with fail
    clear m1 m2 m3 m4
    refine (put_any _ _ _ q 4 _ HB3.out (by omega) (by omega) HQ.out ⟨by omega,by omega⟩).mono ?_
    rintro e w4 ⟨rfl,hB4,hb4⟩
    rw [HY.out] at hB4
    have HB4 := lH hB4
    have b4 : Below w2.heap.size w2 w4 := b3.trans hb4
    clear hB4 HB3 hb4 b3 hs3
    go_wp2
    go_loopw [29] (fun j wr => ∃ (k : Nat),k ≤ N ∧ j = .int .i64 k ∧ Bd w2.heap.size w2.heap.size (x0 ++ y ++ cat (depF d k)) wr ∧ Below w2.heap.size w2 wr) (fun j _ => N - (intOf j).toNat)
    case atStart => exact ⟨0,Nat.zero_le _,rfl,by simpa [depF,cat] using HB4.out,b4⟩
    case round =>
      obtain ⟨k,hk,rfl,hB,hb⟩ := hrel
      obtain ⟨z,hz⟩ : ∃ z,x0 ++ y ++ cat (depF d k) = z := ⟨_,rfl⟩
      have hzs : z.size ≤ 100 := by rw [← hz,ByteArray.size_append,ByteArray.size_append,cat_size,depF_w,wid_rep];omega
      rw [hz] at hB
      have HB := lH hB
      have hs := hb.size
      clear hB HB4 b4
      by_cases hlt : k < N
      · have hlt2 : (k : Int) < N := by omega
        have hP := HD.out k hlt
        have HP := lH hP
        obtain ⟨m1,m2,m3,m4⟩ := HK.out wr (nx b2 hb)
        have m5 := m3 k (by omega)
        have hk7 : (k : Int) < 7 := by omega
        have HZ : Hid (x0 ++ y ++ cat (depF d (k + 1)) = z ++ enc (d k) 2) := lH (by rw [depF_snoc,← hz];exact ByteArray.append_assoc.symm)
        clear hz m3 hP
        go_wp2_with fail
        clear m1 m2 m4 m5
        refine (put_any _ _ _ (d k) 2 _ HB.out (by omega) (by omega) HP.out ⟨by omega,by omega⟩).mono ?_
        rintro e w5 ⟨rfl,hB5,hb5⟩
        have HB5 := lH hB5
        clear hB5
        go_wp2
        go_roundw
        case rel => exact ⟨k + 1,by omega,by go_num,by rw [HZ.out];exact HB5.out,hb.trans hb5⟩
        case measure => simp [intOf];omega
      · obtain rfl : k = N := by omega
        have HZ : Hid (cat (valF c q d k) = z) := lH (by rw [HV.out,hz])
        clear hz
        go_wp2_with fail
        refine (string_any _ _ _ _ HB.out (by omega)).mono ?_
        rintro e w5 ⟨rfl,hb5⟩
        go_wp2
        go_ret2
        exact ⟨by show _ = Ending.returned (.tuple #[.string (cat (valF c q d k)),.int .i64 0]);rw [HZ.out];rfl,nx bV (nx b2 (hb.trans hb5))⟩
end Go.Proofs.YtnnbjhpkgndclaaGreatDoor.Rc
namespace Go.Proofs.YtnnbjhpkgndclaaGreatDoor.Rc
open Go.RowKit
open Go.Proofs.YtnnbjhpkgndclaaGreatDoor.Rw
open Go.Proofs.YtnnbjhpkgndclaaGreatDoor.Bv
open Go.Proofs.YtnnbjhpkgndclaaGreatDoor.Fx (enc enc_size putV dec getV oB wB)
open Go.Proofs.YtnnbjhpkgndclaaGreatDoor.Cm (chkB chkE numF Tab Bld string_any row_lt getV_arg oB_nat get_is)
def wH : Nat → Nat
  | 0 => 1 | 1 => 2 | 2 => 1 | 3 => 1 | 4 => 4 | 5 => 1 | 6 => 4 | _ => 1
def preH : Nat → Nat
  | 0 => 0
  | k + 1 => preH k + wH k
theorem wH_bd (k : Nat) : 1 ≤ wH k ∧ wH k ≤ 7 := by unfold wH;split <;> omega
theorem preH_le (k : Nat) (h : k ≤ 8) : preH k ≤ 15 := by
  match k,h with
  | 0,_ => decide | 1,_ => decide | 2,_ => decide | 3,_ => decide | 4,_ => decide | 5,_ => decide | 6,_ => decide | 7,_ => decide | 8,_ => decide
theorem preH_in (k : Nat) (h : k < 8) : preH k + wH k ≤ 15 := preH_le (k + 1) (by omega)
def Tb (w : World) : Prop := row w 0 = hc (fun i => wH i)
theorem Tb.lt {w : World} (h : Tb w) : 0 < w.heap.size := row_lt (n := 7) (by unfold Tb at h;rw [h];exact hc_size _)
theorem Tb.below {w w' : World} (h : Tb w) (k : Below w.heap.size w w') : Tb w' := by
  unfold Tb at h ⊢
  rw [(bcell k).2.2.1 _ (Tb.lt h)];exact h
theorem Tb.at {w : World} (h : Tb w) (k : Nat) (hk : k < 8) : w.cell? ⟨0,k,none⟩ = some (.int .i64 (wH k)) := by
  have hs : (row w 0).size = 7 + 1 := by unfold Tb at h;rw [h];exact hc_size _
  rw [cell_row w _ k hs,h,hc_at _ k hk]
def catH (f : Nat → Int) : Nat → ByteArray
  | 0 => ByteArray.empty
  | k + 1 => catH f k ++ enc (f k) (wH k)
theorem catH_size (f : Nat → Int) (k : Nat) : (catH f k).size = preH k := by
  induction k with
  | zero => rfl
  | succ k ih => rw [catH,ByteArray.size_append,ih,enc_size,preH]
theorem catH_all (i : Ins) : catH (headN i) 8 = cat (headF i) := by
  simp [catH,headN,headF,cat,v8,wH,ByteArray.append_assoc]
theorem headN_fit {i : Ins} {n : Int} (h : okI i n = true) (k : Nat) (hk : k < 8) : Fit (headN i k,wH k) := by
  have hf : ∀ f ∈ headF i,Fit f := fun f hf => fit_ins h f (List.mem_append_left _ hf)
  match k,hk with
  | 0,_ => exact hf (i.pr,1) (by simp [headF])
  | 1,_ => exact hf (i.ps,2) (by simp [headF])
  | 2,_ => exact hf (i.st,1) (by simp [headF])
  | 3,_ => exact hf (flagN i.sm,1) (by simp [headF])
  | 4,_ => exact hf (i.bn,4) (by simp [headF])
  | 5,_ => exact hf (i.br,1) (by simp [headF])
  | 6,_ => exact hf (i.tn,4) (by simp [headF])
  | 7,_ => exact hf (i.tr,1) (by simp [headF])
def wrS (i : Ins) (n : Int) : ByteArray := if okI i n then cat (insF i n.toNat) else ByteArray.empty
def wrE (i : Ins) (n : Int) : Int := if okI i n then 0 else 1
theorem putValue_yes {c : Nat → Int} {q : Int} {d : Nat → Int} {n : Int} {x : ByteArray} (h : Hid (okV c q d n = true)) (hx : Hid (cat (valF c q d n.toNat) = x)) (w : World) (ht : Tab w) :
    Calls Tryz.prog 108 #[.agg (cv c q d),.int .i64 n] w fun e w' => e = .returned (.tuple #[.string x,.int .i64 0]) ∧ Below w.heap.size w w' := by
  have k := putValue_any c q d n w ht
  rw [h.out,if_pos rfl,if_pos rfl,hx.out] at k;exact k
set_option maxRecDepth 8000 in
set_option maxHeartbeats 4000000 in
theorem write_any (i : Ins) (n : Int) (w : World) (ht : Tab w) (hb : Tb w) :
    Calls Tryz.prog 77 #[.agg (ci i),.int .i64 n] w fun e w' => e = .returned (.tuple #[.string (wrS i n),.int .i64 (wrE i n)]) ∧ Below w.heap.size w w' := by
  obtain ⟨V,hV⟩ : ∃ Q_ : World,w.alloc (.cells (ci i) 44) = Q_ := ⟨_,rfl⟩
  have bV : Below w.heap.size w V := hV ▸ below1 _ _
  have A0 : At V w.heap.size i := hV ▸ At.new _ _ _
  have HT := lH (show ∀ u,Below V.heap.size V u → Tab u from fun u hu => ht.below (nx bV hu))
  have HW := lH (show ∀ u,Below V.heap.size V u → Tb u from fun u hu => hb.below (nx bV hu))
  obtain ⟨m1,m2,m3,m4⟩ := A0.facts
  have HA := lH (show ∀ u,Below V.heap.size V u → At u w.heap.size i from fun u hu => A0.stays hu)
  clear A0 ht hb
  cases h1 : okI i n with
  | false =>
    have H1 := lH h1
    have HS : Hid (wrS i n = ByteArray.empty) := lH (by unfold wrS;rw [h1];rfl)
    have HE : Hid (wrE i n = 1) := lH (by unfold wrE;rw [h1];rfl)
    clear h1
    rw [HS.out,HE.out]
    go_enter Tryz.func77,Tryz.ntmps77
    go_wp2_with fail
    clear m1 m2 m3 m4
    refine (right_is H1 _).mono ?_
    rintro e w1 ⟨rfl,hb1⟩
    go_wp2
    go_ret2
    exact ⟨rfl,nx bV hb1⟩
  | true =>
    have H1 := lH h1
    obtain ⟨x,hx⟩ : ∃ x,cat (valF i.c i.q i.d n.toNat) = x := ⟨_,rfl⟩
    have hxs : x.size ≤ 48 := by rw [← hx,val_size];have := (okI_iff.1 h1).1;omega
    have HX := lH hx
    have HV := lH (okI_iff.1 h1).2.2.2.2.2.2.1
    have HS : Hid (wrS i n = catH (headN i) 8 ++ x) := lH (by unfold wrS;rw [h1,if_pos rfl,insF,cat_append,catH_all,hx])
    have HE : Hid (wrE i n = 0) := lH (by unfold wrE;rw [h1];rfl)
    have HF := lH (headN_fit h1)
    obtain ⟨f,hf⟩ : ∃ f,headN i = f := ⟨_,rfl⟩
    have HH := lH hf
    rw [hf] at HS HF
    clear h1 hx hf
    rw [HE.out]
    go_enter Tryz.func77,Tryz.ntmps77
    go_wp2_with fail
    clear m1 m2 m3 m4
    refine (right_is H1 _).mono ?_
    rintro e w1 ⟨rfl,hb1⟩
    have A1 := HA.out w1 hb1
    obtain ⟨U,hU⟩ : ∃ Q_ : World,w1.alloc (.cells #[.pointer none,.slice none 0 0] 130) = Q_ := ⟨_,rfl⟩
    have hB0 : Bd w1.heap.size w1.heap.size ByteArray.empty U := hU ▸ Lib.fresh_isBuilder _ _ w1
    have bU : Below w1.heap.size w1 U := hU ▸ below1 w1 _
    have AU := A1.stays bU
    obtain ⟨m1,m2,m3,m4⟩ := AU.facts
    have HB0 := lH hB0
    clear hB0 A1 AU
    go_wp2_with fail
    clear m1 m2 m3 m4 hU
    refine (head_any i _).mono ?_
    rintro e w2 ⟨rfl,hb2⟩
    rw [HH.out]
    have HB2 := lH (HB0.out.below hb2)
    have b2 := nx bU hb2
    clear HB0 hb2
    go_wp2
    go_loopw [17] (fun j wr => ∃ (k : Nat),k ≤ 8 ∧ j = .int .i64 k ∧ Bd w1.heap.size w1.heap.size (catH f k) wr ∧ Below w1.heap.size w1 wr) (fun j _ => 8 - (intOf j).toNat)
    case atStart => exact ⟨0,Nat.zero_le _,rfl,HB2.out,b2⟩
    case round =>
      obtain ⟨k,hk,rfl,hB,hb⟩ := hrel
      have HB := lH hB
      have hs := hb.size
      have hzs := catH_size f k
      have hzl := preH_le k hk
      clear hB HB2 b2
      by_cases hlt : k < 8
      · have hlt2 : (k : Int) < 8 := by omega
        have hF := HF.out k hlt
        have HFk := lH hF
        have hw := (HW.out wr (nx hb1 hb)).at k hlt
        have hk1 := wH_bd k
        have HZ : Hid (catH f (k + 1) = catH f k ++ enc (f k) (wH k)) := lH rfl
        obtain ⟨z,hz⟩ : ∃ z,catH f k = z := ⟨_,rfl⟩
        rw [hz] at HB HZ hzs
        clear hF hz
        go_wp2_with fail
        clear hw
        refine (put_any _ _ _ (f k) (wH k) _ HB.out (by omega) (by omega) HFk.out hk1).mono ?_
        rintro e w5 ⟨rfl,hB5,hb5⟩
        have HB5 := lH hB5
        clear hB5
        go_wp2
        go_roundw
        case rel => exact ⟨k + 1,by omega,by go_num,by rw [HZ.out];exact HB5.out,hb.trans hb5⟩
        case measure => simp [intOf];omega
      · obtain rfl : k = 8 := by omega
        obtain ⟨z,hz⟩ : ∃ z,catH f 8 = z := ⟨_,rfl⟩
        rw [hz] at HB hzs HS
        clear hz
        have A2 := HA.out wr (nx hb1 hb)
        obtain ⟨m1,m2,m3,m4⟩ := A2.facts
        go_wp2_with fail
        clear m1 m2 m3 m4 A2
        refine (putValue_yes HV HX _ (HT.out _ (nx hb1 hb))).mono ?_
        rintro e w3 ⟨rfl,hb3⟩
        have HB3 := lH (HB.out.below hb3)
        have b3 := nx hb hb3
        have hs3 := b3.size
        go_wp2_with fail
        refine (wrote_any _ _ _ _ _ HB3.out (by omega) (by omega)).mono ?_
        rintro e w4 ⟨rfl,hB4,hb4⟩
        have HB4 := lH hB4
        have b4 : Below w1.heap.size w1 w4 := b3.trans hb4
        have hs4 := b4.size
        clear hB4 HB3 HB
        go_wp2_with fail
        refine (string_any _ _ _ _ HB4.out (by omega)).mono ?_
        rintro e w5 ⟨rfl,hb5⟩
        go_wp2
        go_ret2
        exact ⟨by rw [HS.out];rfl,nx bV (nx hb1 (b4.trans hb5))⟩
theorem write_is {i : Ins} {n : Int} {x : ByteArray} {y : Int} (h : Hid (wrS i n = x ∧ wrE i n = y)) (w : World) (ht : Tab w) (hb : Tb w) :
    Calls Tryz.prog 77 #[.agg (ci i),.int .i64 n] w fun e w' => e = .returned (.tuple #[.string x,.int .i64 y]) ∧ Below w.heap.size w w' := by
  obtain ⟨rfl,rfl⟩ := h.out
  exact write_any i n w ht hb
def rdH (s : ByteArray) : Nat → Int := fun k => dec s (preH k) (wH k)
theorem getH {s : ByteArray} (h : 15 ≤ s.size) (k : Nat) (hk : k < 8) : getV s (preH k : Nat) (wH k : Nat) = .tuple #[.int .i64 (rdH s k),.int .i64 0] := by
  have h1 := wH_bd k
  have h2 := preH_in k hk
  unfold getV
  rw [oB_nat,show wB ((wH k : Nat) : Int) = true by unfold wB;simp;omega,decide_eq_true (by omega),if_pos (by rfl),if_pos (by omega),Int.toNat_natCast,Int.toNat_natCast]
  rfl
set_option maxRecDepth 8000 in
set_option maxHeartbeats 4000000 in
theorem numbers_any (s : ByteArray) (hs : s.size ≤ maxLen) (h : 15 ≤ s.size) (w : World) (hb : Tb w) :
    Calls Tryz.prog 130 #[.string s] w fun e w' => e = .returned (.agg (hc (rdH s))) ∧ Below w.heap.size w w' := by
  have HS := lH hs
  have HG := lH (getH h)
  unfold Tb at hb
  have hz := Tb.lt hb
  obtain ⟨V,hV⟩ : ∃ Q_ : World,(w.alloc (.cells (hc Cm.zeroF) 160)).alloc (.cells (hc Cm.zeroF) 160) = Q_ := ⟨_,rfl⟩
  have bV : Below w.heap.size w V := hV ▸ below2 _ _ _
  have B0 : Bx V w.heap.size (hc Cm.zeroF) 160 := hV ▸ (Bx.new _ _ _).alloc _
  have B1 : Bx V (w.heap.size + 1) (hc (Cm.mix (rdH s) 0)) 160 := by rw [Cm.mix_zero];exact hV ▸ Bx.at (by simp) _ _
  have hr : row V 0 = hc (fun i => wH i) := by rw [(bcell bV).2.2.1 _ hz];exact hb
  have hzV : 0 < V.heap.size := Nat.lt_of_lt_of_le hz bV.size
  have hzV0 : w.heap.size + 1 < V.heap.size := B1.lt
  have HB0 := lH B0
  have HB1 := lH B1
  have HV := lH hV
  have hz0 : 0 < w.heap.size := by omega
  clear hs h B0 B1 hr hV
  go_enter Tryz.func130,Tryz.ntmps130
  go_wp2
  rw [HV.out]
  clear hb HV
  go_loopw [4,9] (fun a j wr => ∃ (k : Nat),k ≤ 8 ∧ j = .int .i64 k ∧ a = .int .i64 (preH k : Nat) ∧ Bx wr w.heap.size (hc Cm.zeroF) 160 ∧ Bx wr (w.heap.size + 1) (hc (Cm.mix (rdH s) k)) 160 ∧ Below w.heap.size w wr) (fun _ j _ => 8 - (intOf j).toNat)
  case atStart => exact ⟨0,Nat.zero_le _,rfl,rfl,HB0.out,HB1.out,bV⟩
  case round =>
    obtain ⟨k,hk,rfl,rfl,b0,b1,hb⟩ := hrel
    have hpl := preH_le k hk
    have G0 := lH b0
    have G1 := lH b1
    clear HB0 HB1
    by_cases hlt : k < 8
    · have hlt2 : (k : Int) < 8 := by omega
      have hG := HG.out k hlt
      have HGk := lH hG
      have hk1 := wH_bd k
      obtain ⟨X,hX⟩ : ∃ Q_ : World,wr.setCell ⟨w.heap.size + 1,k,none⟩ (.int .i64 (rdH s k)) = Q_ := ⟨_,rfl⟩
      have X0 : Bx X w.heap.size (hc Cm.zeroF) 160 := hX ▸ b0.set' (by omega) _ _
      have X1 : Bx X (w.heap.size + 1) (hc (Cm.mix (rdH s) (k + 1))) 160 := by
        have := b1.set k (.int .i64 (rdH s k))
        rw [hX,hc_set,Cm.mix_succ] at this
        exact this
      have bX : Below w.heap.size w X := hX ▸ hb.trans (low_setCell _ _ (by omega))
      have hcl : wr.cell? ⟨w.heap.size + 1,k,none⟩ = some (.int .i64 (Cm.mix (rdH s) k k)) := by rw [b1.cell,hc_at _ _ hlt]
      have hfz : wr.frozen? ⟨w.heap.size + 1,k,none⟩ = false := b1.thawed k
      have HP : Hid (preH (k + 1) = preH k + wH k) := lH rfl
      have HX0 := lH X0
      have HX1 := lH X1
      clear hG X0 X1 b0 b1
      go_wp2_with fail
      refine (get_is HS.out HGk _).mono ?_
      rintro e w' ⟨rfl,rfl⟩
      go_wp2
      go_roundw
      case rel => exact ⟨k + 1,by omega,by go_num,by rw [HP.out];go_num,HX0.out,HX1.out,bX⟩
      case measure => simp [intOf];omega
    · obtain rfl : k = 8 := by omega
      have HE : Hid (hc (Cm.mix (rdH s) 8) = hc (rdH s)) := lH (hc_congr fun i hi => by unfold Cm.mix;rw [if_pos hi])
      obtain ⟨X,hX⟩ : ∃ Q_ : World,wr.setRow w.heap.size (hc (rdH s)) = Q_ := ⟨_,rfl⟩
      have X0 : Bx X w.heap.size (hc (rdH s)) 160 := hX ▸ b0.put _
      have bX : Below w.heap.size w X := hX ▸ hb.trans (low_setRow _ (by omega))
      have r1 := b1.row
      rw [HE.out] at r1
      have p0 := b0.plain (hc_size _)
      have x0 := X0.row
      clear b0 b1 G0 G1
      go_wp2
      exact bodyPost_ret (v := .agg (hc (rdH s))) (ret_H Tryz.results130 _ _ _ (by simp [go_sem,x0])) rfl ⟨rfl,bX⟩
end Go.Proofs.YtnnbjhpkgndclaaGreatDoor.Rc
namespace Go.Proofs.YtnnbjhpkgndclaaGreatDoor.Rc
open Go.RowKit
set_option maxRecDepth 20000
open Go.ChangeShapes Go.WideShapes Go.ChangeAt
open Go.Proofs.YtnnbjhpkgndclaaGreatDoor.Rw
open Go.Proofs.YtnnbjhpkgndclaaGreatDoor.Cm (Tab)
section
variable {H : Type} {enc : TypeId × Value → H} {W : World} {base : Nat} {sp : Nat → Bool} {held : Bool} {n : Nat}
end
abbrev laid1 : List (String × DataW Unit) := [("cambist/command.widths",Rows.laid_cambist_command_widths),("cambist/record.widths",Rows.laid_cambist_record_widths)]
def whL : List Int := [1,2,1,1,4,1,4,1]
theorem gR : Tryz.prog.globalNamed "cambist/record.widths" = some 0 := by kernel_rfl
theorem gRType : (Tryz.prog.globals[0]?).map (·.type) = some 160 := by kernel_rfl
theorem cellsR : Tryz.prog.cellsOf 160 = 8 := by kernel_rfl
theorem met (os : Os) (args : Array Value) : laidMetH Tryz.prog laid1 ((World.doorLaid Tryz.prog 400 os).forCall (fun _ _ => 0) ⟨#[],args,[]⟩).memory :=
  laidMetH_of_parts3 (fuel := 8) (laidMet_of_run' 8 (by kernel_rfl) (by kernel_rfl)) (by kernel_rfl) (by kernel_rfl)
theorem laid_tail {P : Program} {W : World} {x : String × DataW Unit} {r : List (String × DataW Unit)} (h : laidMet P (x :: r) W) : laidMet P r W := by
  obtain ⟨ps,⟨g',t',cs,fuel,p,q,hg',ht',hvar,hd,hr,hps⟩,hnd,hall⟩ := h
  subst hps
  exact ⟨q,hr,(List.nodup_append.1 hnd).2.1,fun b off hm => hall b off (List.mem_append_right _ hm)⟩
theorem tab_of {W : World} (h : laidMetH Tryz.prog laid1 W) : Tab W ∧ Tb W := by
  rw [MakeChecks.laidMetH_plain _ _ _ (by kernel_rfl)] at h
  refine ⟨?_,?_⟩
  · have hT := Lib.tabIs_of_head (k := .i64) (zs := Cm.wdL) Cm.gT Cm.gTType Tryz.underlying185 Tryz.underlying3 Cm.cellsI Cm.cellsT h
    unfold Lib.TabIs World.var? at hT
    rw [Cm.gT] at hT
    simp only [Option.bind_some] at hT
    unfold Tab row
    split at hT
    · rename_i cs t fr e
      rw [e]
      exact Option.some.inj hT
    · cases hT
  · have hT := Lib.tabIs_of_head (k := .i64) (zs := whL) (rest := []) gR gRType Tryz.underlying160 Tryz.underlying3 Cm.cellsI cellsR (laid_tail h)
    unfold Lib.TabIs World.var? at hT
    rw [gR] at hT
    simp only [Option.bind_some] at hT
    unfold Tb row
    split at hT
    · rename_i cs t fr e
      rw [e]
      exact Option.some.inj hT
    · cases hT
end Go.Proofs.YtnnbjhpkgndclaaGreatDoor.Rc
