/- Values and instances in memory: parts of a row, read as wholes. -/
import Derived.Test.YtmaecknjamnnpaaRcIns
import Derived.Test.YtmaecknjamnnpaaCmBr
import Derived.Test.YtmaecknjamnnpaaVeD
import Derived.Test.YtmaecknjamnnpaaBaC
import Derived.Test.YtmaecknjamnnpaaRh
import Derived.Deep.MidRow
import Derived.Lib.Hide
import Derived.StillTailTactics
import Derived.Test.YtmaecknjamnnpaaCmEq
namespace Go.Proofs.Ytmaecknjamnnpaa.Rc
open Go.RowKit
set_option linter.unusedVariables false
open Go.Proofs.Ytmaecknjamnnpaa.Rw
/-- The n cells of a row from where a pointer points on. -/
def part (n : Nat) (w : World) : Value → Array Value
  | .pointer (some ⟨b, o, none⟩) => (row w b).extract o (o + n)
  | _ => #[]
theorem part_at (n : Nat) (w : World) (b o : Nat) : part n w (.pointer (some ⟨b, o, none⟩)) = (row w b).extract o (o + n) := rfl
theorem run_part {P : Program} {T : TypeId} {n : Nat} {d : TypeDesc} {w : World} {v : Value} (hu : P.underlying T = some d) (hd : d.isRow = true) (hi : (P.info? T).map (·.size) = some (n + 1)) (h : (part (n + 1) w v).size = n + 1) : (Instr.loadAt T v).run P w = .ok (.agg (part (n + 1) w v)) w := by
  unfold part at h
  split at h
  · rename_i b o
    have hr : ∃ cs t fr, w.heap[b]? = some (.cells cs t fr) ∧ row w b = cs := by
      unfold row at h ⊢
      split at h
      · rename_i cs t fr e; exact ⟨cs, t, fr, e, rfl⟩
      · rw [Array.size_extract] at h; simp at h
    obtain ⟨cs, t, fr, e, hrow⟩ := hr
    rw [hrow] at h
    rw [part_at, hrow]
    have := run_loadAt_mid (P := P) w b o T (cs.extract o (o + (n + 1))).toList d (fun j v hj => by
      rw [cell_of_row w b (o + j) cs t fr e]
      rw [Array.getElem?_toList, Array.getElem?_extract] at hj
      split at hj
      · exact hj
      · cases hj) hu hd (by rw [Array.length_toList, h]; exact hi)
    rwa [Array.toArray_toList] at this
  · cases h
/-- The cells of a value, of an instance. -/
def cv (c : Nat → Int) (q : Int) (d : Nat → Int) : Array Value := #[.int .i64 (c 0), .int .i64 (c 1), .int .i64 (c 2), .int .i64 (c 3), .int .i64 (c 4), .int .i64 (c 5), .int .i64 (c 6), .int .i64 (c 7), .int .i64 (c 8), .int .i64 q, .int .i64 (d 0), .int .i64 (d 1), .int .i64 (d 2), .int .i64 (d 3), .int .i64 (d 4), .int .i64 (d 5), .int .i64 (d 6)]
def ci (i : Ins) : Array Value := #[.int .i64 i.pr, .int .i64 i.ps, .int .i64 i.bn, .int .i64 i.br, .int .i64 i.tn, .int .i64 i.tr, .int .i64 i.st, .int .i64 (i.c 0), .int .i64 (i.c 1), .int .i64 (i.c 2), .int .i64 (i.c 3), .int .i64 (i.c 4), .int .i64 (i.c 5), .int .i64 (i.c 6), .int .i64 (i.c 7), .int .i64 (i.c 8), .int .i64 i.q, .int .i64 (i.d 0), .int .i64 (i.d 1), .int .i64 (i.d 2), .int .i64 (i.d 3), .int .i64 (i.d 4), .int .i64 (i.d 5), .int .i64 (i.d 6), .bool i.sm]
theorem cv_size (c : Nat → Int) (q : Int) (d : Nat → Int) : (cv c q d).size = 17 := rfl
theorem ci_size (i : Ins) : (ci i).size = 25 := rfl
theorem cv_cmd (c : Nat → Int) (q : Int) (d : Nat → Int) : (cv c q d).extract 0 9 = Cm.fc c := by simp [cv]; rfl
theorem cv_dep (c : Nat → Int) (q : Int) (d : Nat → Int) : (cv c q d).extract 10 17 = Ve.fc d := by simp [cv]; rfl
theorem cv_all (c : Nat → Int) (q : Int) (d : Nat → Int) : (cv c q d).extract 0 17 = cv c q d := by simp [cv]
theorem ci_place (i : Ins) : (ci i).extract 0 2 = #[.int .i64 i.pr, .int .i64 i.ps] := by simp [ci]
theorem ci_prom (i : Ins) : (ci i).extract 2 4 = #[.int .i64 i.bn, .int .i64 i.br] := by simp [ci]
theorem ci_taken (i : Ins) : (ci i).extract 4 6 = #[.int .i64 i.tn, .int .i64 i.tr] := by simp [ci]
theorem ci_val (i : Ins) : (ci i).extract 7 24 = cv i.c i.q i.d := by simp [ci, cv]
theorem ci_all (i : Ins) : (ci i).extract 0 25 = ci i := by simp [ci]
section
variable (ρ : Operand → Value) (dst : Option Tmp) (ty : TypeId) (pos : String) (after : Array Edge) (guard : Option (Nat × Bool)) (w : World)
theorem ldP (x : Operand) (h : (part 2 w (ρ x)).size = 2) : (execOp ρ { dst, op := .load 24 x, type := ty, pos, after, guard }).run Try.prog w = .ok (.value (.agg (part 2 w (ρ x)))) w := by
  simp [execOp, run_part (n := 1) Try.underlying24 rfl (by kernel_rfl) h]
theorem ldB (x : Operand) (h : (part 2 w (ρ x)).size = 2) : (execOp ρ { dst, op := .load 26 x, type := ty, pos, after, guard }).run Try.prog w = .ok (.value (.agg (part 2 w (ρ x)))) w := by
  simp [execOp, run_part (n := 1) Try.underlying26 rfl (by kernel_rfl) h]
theorem ldC (x : Operand) (h : (part 9 w (ρ x)).size = 9) : (execOp ρ { dst, op := .load 28 x, type := ty, pos, after, guard }).run Try.prog w = .ok (.value (.agg (part 9 w (ρ x)))) w := by
  simp [execOp, run_part (n := 8) Try.underlying28 rfl (by kernel_rfl) h]
theorem ldD (x : Operand) (h : (part 7 w (ρ x)).size = 7) : (execOp ρ { dst, op := .load 30 x, type := ty, pos, after, guard }).run Try.prog w = .ok (.value (.agg (part 7 w (ρ x)))) w := by
  simp [execOp, run_part (n := 6) Try.underlying30 rfl (by kernel_rfl) h]
theorem ldV (x : Operand) (h : (part 17 w (ρ x)).size = 17) : (execOp ρ { dst, op := .load 32 x, type := ty, pos, after, guard }).run Try.prog w = .ok (.value (.agg (part 17 w (ρ x)))) w := by
  simp [execOp, run_part (n := 16) Try.underlying32 rfl (by kernel_rfl) h]
theorem ldI (x : Operand) (h : (part 25 w (ρ x)).size = 25) : (execOp ρ { dst, op := .load 37 x, type := ty, pos, after, guard }).run Try.prog w = .ok (.value (.agg (part 25 w (ρ x)))) w := by
  simp [execOp, run_part (n := 24) Try.underlying37 rfl (by kernel_rfl) h]
end
attribute [go_sem ↓] ldP ldB ldC ldD ldV ldI
attribute [go_sem] part_at cv_size ci_size cv_cmd cv_dep cv_all ci_place ci_prom ci_taken ci_val ci_all
theorem vfc_size (d : Nat → Int) : (Ve.fc d).size = 7 := rfl
attribute [go_sem] vfc_size
theorem two_size (a b : Value) : (#[a, b] : Array Value).size = 2 := rfl
attribute [go_sem] two_size
theorem agg_cells (a : Array Value) : (Value.agg a).cells = a := rfl
attribute [go_sem] agg_cells
/-- Block b is a variable with these cells. -/
theorem row_stays {w w' : World} {b : Nat} {cs : Array Value} (h : row w b = cs) (hb : b < w.heap.size) (k : Below w.heap.size w w') : row w' b = cs := by
  unfold row at h ⊢
  rw [k.block b hb]; exact h
theorem ret_bool {a b : Bool} (h : a = b) : Ending.returned (.bool a) = .returned (.bool b) := by rw [h]
end Go.Proofs.Ytmaecknjamnnpaa.Rc
/- The document's own of layer 16: value, place. -/
namespace Go.Proofs.Ytmaecknjamnnpaa.Rc
open Go.RowKit
set_option linter.unusedVariables false
open Go.Proofs.Ytmaecknjamnnpaa.Rw
open Go.Proofs.Ytmaecknjamnnpaa.Cm (chkB chkE rCheck_is)
open Go.Proofs.Ytmaecknjamnnpaa.Ve (rightB)
theorem rRightV_is {d : Nat → Int} {n : Int} {b : Bool} (H : Hid (rightB d n = b)) (w : World) :
    Calls Try.prog 59 #[.agg (Ve.fc d), .int .i64 n] w fun e w' => e = .returned (.bool b) ∧ Below w.heap.size w w' := by
  rw [← H.out]; exact Ve.rRight_any d n w
theorem chk_yes {c : Nat → Int} (h : chkB c = true) : chkE c = 0 := by unfold chkE; rw [h]; rfl
theorem chk_no {c : Nat → Int} (h : chkB c = false) : chkE c = 1 := by unfold chkE; rw [h]; rfl
set_option maxRecDepth 8000 in
set_option maxHeartbeats 2000000 in
theorem rValue_any (c : Nat → Int) (q : Int) (d : Nat → Int) (n : Int) (w : World) :
    Calls Try.prog 48 #[.agg (cv c q d), .int .i64 n] w fun e w' => e = .returned (.bool (okV c q d n)) ∧ Below w.heap.size w w' := by
  obtain ⟨V, hV⟩ : ∃ Q_ : World, w.alloc (.cells (cv c q d) 32) = Q_ := ⟨_, rfl⟩
  have bV : Below w.heap.size w V := hV ▸ below1 _ _
  have hr0 : row V w.heap.size = cv c q d := hV ▸ row_new _ _ _ _ rfl
  have hl0 : w.heap.size < V.heap.size := by rw [← hV]; simp
  have HK := Lib.hid (show ∀ u, Below V.heap.size V u → row u w.heap.size = cv c q d ∧ u.cell? ⟨w.heap.size, 9, none⟩ = some (.int .i64 q) ∧ w.heap.size < u.heap.size from fun u hu => by
    have h1 := row_stays hr0 hl0 hu
    refine ⟨h1, ?_, Nat.lt_of_lt_of_le hl0 hu.size⟩
    rw [cell_row (n := 16) u w.heap.size 9 (by rw [h1]; rfl), h1]; rfl)
  clear hl0
  cases h1 : chkB c with
  | false =>
    have HC := Lib.hid (chk_no h1)
    have HF : Hid (okV c q d n = false) := Lib.hid (by simp [okV, h1])
    clear h1
    go_enter Try.func48, Try.ntmps48
    go_wp2_with fail
    refine (rCheck_is HC _).mono ?_
    rintro e w1 ⟨rfl, hb1⟩
    go_wp2
    go_ret
    exact ⟨ret_bool HF.out.symm, nx bV hb1⟩
  | true =>
    have HC := Lib.hid (chk_yes h1)
    have HF : Hid (okV c q d n = (decide (0 ≤ q) && (decide (q ≤ 1073741824) && rightB d n))) := Lib.hid (by simp [okV, h1])
    clear h1
    by_cases h2 : 0 ≤ q
    · by_cases h3 : q ≤ 1073741824
      · obtain ⟨b, hb⟩ : ∃ b, rightB d n = b := ⟨_, rfl⟩
        have HB := Lib.hid hb
        have HE : Hid (okV c q d n = b) := Lib.hid (by rw [HF.out, hb]; simp [h2, h3])
        clear hb
        go_enter Try.func48, Try.ntmps48
        go_wp2_with fail
        refine (rCheck_is HC _).mono ?_
        rintro e w1 ⟨rfl, hb1⟩
        obtain ⟨m1, m2, m3⟩ := HK.out w1 hb1
        go_wp2_with fail
        refine (rRightV_is HB _).mono ?_
        rintro e w2 ⟨rfl, hb2⟩
        go_wp2
        go_ret
        exact ⟨ret_bool HE.out.symm, nx bV (nx hb1 hb2)⟩
      · have HE : Hid (okV c q d n = false) := Lib.hid (by rw [HF.out]; simp [h3])
        go_enter Try.func48, Try.ntmps48
        go_wp2_with fail
        refine (rCheck_is HC _).mono ?_
        rintro e w1 ⟨rfl, hb1⟩
        obtain ⟨m1, m2, m3⟩ := HK.out w1 hb1
        go_wp2
        go_ret
        exact ⟨ret_bool HE.out.symm, nx bV hb1⟩
    · have HE : Hid (okV c q d n = false) := Lib.hid (by rw [HF.out]; simp [h2])
      go_enter Try.func48, Try.ntmps48
      go_wp2_with fail
      refine (rCheck_is HC _).mono ?_
      rintro e w1 ⟨rfl, hb1⟩
      obtain ⟨m1, m2, m3⟩ := HK.out w1 hb1
      go_wp2
      go_ret
      exact ⟨ret_bool HE.out.symm, nx bV hb1⟩
theorem rValue_is {c : Nat → Int} {q : Int} {d : Nat → Int} {n : Int} {b : Bool} (H : Hid (okV c q d n = b)) (w : World) :
    Calls Try.prog 48 #[.agg (cv c q d), .int .i64 n] w fun e w' => e = .returned (.bool b) ∧ Below w.heap.size w w' := by
  rw [← H.out]; exact rValue_any c q d n w
def okP (r s n : Int) : Bool := decide (0 ≤ r ∧ r < n ∧ 1 ≤ s ∧ s ≤ 400)
theorem okP_no {r s n : Int} (h : ¬ (0 ≤ r ∧ r < n ∧ 1 ≤ s ∧ s ≤ 400)) : okP r s n = false := decide_eq_false h
set_option maxRecDepth 8000 in
set_option maxHeartbeats 2000000 in
theorem rPlace_any (r s n : Int) (w : World) :
    Calls Try.prog 46 #[.agg #[.int .i64 r, .int .i64 s], .int .i64 n] w fun e w' => e = .returned (.bool (okP r s n)) ∧ Below w.heap.size w w' := by
  by_cases h0 : 0 ≤ r
  · by_cases h1 : r < n
    · by_cases h2 : 1 ≤ s
      · by_cases h3 : s ≤ 400
        · have HE : Hid (okP r s n = true) := Lib.hid (decide_eq_true ⟨h0, h1, h2, h3⟩)
          go_enter Try.func46, Try.ntmps46
          go_wp2
          go_ret
          exact ⟨ret_bool HE.out.symm, below1 _ _⟩
        · have HE : Hid (okP r s n = false) := Lib.hid (okP_no (by omega))
          go_enter Try.func46, Try.ntmps46
          go_wp2
          go_ret
          exact ⟨ret_bool HE.out.symm, below1 _ _⟩
      · have HE : Hid (okP r s n = false) := Lib.hid (okP_no (by omega))
        go_enter Try.func46, Try.ntmps46
        go_wp2
        go_ret
        exact ⟨ret_bool HE.out.symm, below1 _ _⟩
    · have HE : Hid (okP r s n = false) := Lib.hid (okP_no (by omega))
      go_enter Try.func46, Try.ntmps46
      go_wp2
      go_ret
      exact ⟨ret_bool HE.out.symm, below1 _ _⟩
  · have HE : Hid (okP r s n = false) := Lib.hid (okP_no (by omega))
    go_enter Try.func46, Try.ntmps46
    go_wp2
    go_ret
    exact ⟨ret_bool HE.out.symm, below1 _ _⟩
theorem rPlace_is {r s n : Int} {b : Bool} (H : Hid (okP r s n = b)) (w : World) :
    Calls Try.prog 46 #[.agg #[.int .i64 r, .int .i64 s], .int .i64 n] w fun e w' => e = .returned (.bool b) ∧ Below w.heap.size w w' := by
  rw [← H.out]; exact rPlace_any r s n w
end Go.Proofs.Ytmaecknjamnnpaa.Rc
/- Values and instances compared as a whole. -/
namespace Go.Proofs.Ytmaecknjamnnpaa.Rc
open Go.RowKit
set_option linter.unusedVariables false
open Go.Proofs.Ytmaecknjamnnpaa.Rw
theorem eqI1 (m : Nat) (a b : Int) (w : World) : (Op.equalIn (m + 1) 3 (.int .i64 a) (.int .i64 b)).run Try.prog w = .ok (a == b) w := by
  rw [Op.equalIn]
  simp [run_underlying Try.underlying3]
theorem eqB1 (m : Nat) (a b : Bool) (w : World) : (Op.equalIn (m + 1) 4 (.bool a) (.bool b)).run Try.prog w = .ok (a == b) w := by
  rw [Op.equalIn]
  simp [run_underlying Try.underlying4]
theorem eqOne (m : Nat) (f g : Nat → Int) (k : Nat) (hk : k < 9) (nm : String) (hn : nm ≠ "_") (fl : Field) (hf : fl.name = nm) (ho : fl.offset = k) (ht : fl.type = 3) (fs : List Field) (w : World) :
    (Op.eqFields (m + 1) (Cm.fc f) (Cm.fc g) (fl :: fs)).run Try.prog w = if f k = g k then (Op.eqFields (m + 1) (Cm.fc f) (Cm.fc g) fs).run Try.prog w else .ok false w := by
  simp only [Op.eqFields, hf, ho, ht, hn, ne_eq, not_false_eq_true, if_true, Sem.run_bind, Cm.part_fc f k hk, Cm.part_fc g k hk, eqI1, Result.andThen_ok]
  by_cases h : f k = g k
  · simp [h]
  · simp [h]
theorem eqC2 (m : Nat) (f g : Nat → Int) (w : World) : (Op.equalIn (m + 2) 28 (.agg (Cm.fc f)) (.agg (Cm.fc g))).run Try.prog w = .ok (Cm.eqF f g) w := by
  rw [run_equalIn_agg w (m + 1) _ _ _ Cm.fieldsC (by kernel_rfl)]
  simp only [Program.fieldsOf, Try.underlying28]
  rw [eqOne m f g 0 (by omega) "Client" (by decide) _ rfl rfl rfl, eqOne m f g 1 (by omega) "Seq" (by decide) _ rfl rfl rfl, eqOne m f g 2 (by omega) "Kind" (by decide) _ rfl rfl rfl, eqOne m f g 3 (by omega) "Lane" (by decide) _ rfl rfl rfl,
    eqOne m f g 4 (by omega) "Asset" (by decide) _ rfl rfl rfl, eqOne m f g 5 (by omega) "Order" (by decide) _ rfl rfl rfl, eqOne m f g 6 (by omega) "Side" (by decide) _ rfl rfl rfl, eqOne m f g 7 (by omega) "Price" (by decide) _ rfl rfl rfl, eqOne m f g 8 (by omega) "Qty" (by decide) _ rfl rfl rfl]
  cases e : Cm.eqF f g
  · by_cases h : f 0 = g 0 ∧ f 1 = g 1 ∧ f 2 = g 2 ∧ f 3 = g 3 ∧ f 4 = g 4 ∧ f 5 = g 5 ∧ f 6 = g 6 ∧ f 7 = g 7 ∧ f 8 = g 8
    · obtain ⟨h0, h1, h2, h3, h4, h5, h6, h7, h8⟩ := h
      have : Cm.eqF f g = true := Cm.eqF_iff.2 fun i hi => by
        match i, hi with
        | 0, _ => exact h0
        | 1, _ => exact h1
        | 2, _ => exact h2
        | 3, _ => exact h3
        | 4, _ => exact h4
        | 5, _ => exact h5
        | 6, _ => exact h6
        | 7, _ => exact h7
        | 8, _ => exact h8
      rw [this] at e; cases e
    · by_cases h0 : f 0 = g 0 <;> by_cases h1 : f 1 = g 1 <;> try (simp only [h0, h1, if_false, if_true]; done)
      by_cases h2 : f 2 = g 2 <;> by_cases h3 : f 3 = g 3 <;> try (simp only [h0, h1, h2, h3, if_false, if_true]; done)
      by_cases h4 : f 4 = g 4 <;> by_cases h5 : f 5 = g 5 <;> try (simp only [h0, h1, h2, h3, h4, h5, if_false, if_true]; done)
      by_cases h6 : f 6 = g 6 <;> by_cases h7 : f 7 = g 7 <;> try (simp only [h0, h1, h2, h3, h4, h5, h6, h7, if_false, if_true]; done)
      by_cases h8 : f 8 = g 8
      · exact absurd ⟨h0, h1, h2, h3, h4, h5, h6, h7, h8⟩ h
      · simp only [h0, h1, h2, h3, h4, h5, h6, h7, h8, if_false, if_true]
  · have h := Cm.eqF_iff.1 e
    rw [if_pos (h 0 (by omega)), if_pos (h 1 (by omega)), if_pos (h 2 (by omega)), if_pos (h 3 (by omega)), if_pos (h 4 (by omega)), if_pos (h 5 (by omega)), if_pos (h 6 (by omega)), if_pos (h 7 (by omega)), if_pos (h 8 (by omega))]
    simp [Op.eqFields]
theorem eqAll (m : Nat) (f g : Nat → Int) (w : World) : ∀ (n s : Nat), s + n ≤ 7 →
    Sem.run Try.prog (forIn (List.range' s n) ((none : Option Bool), ()) fun i _ => (do
      if !(← Op.equalIn (m + 1) 3 (← Go.part 3 (Ve.fc f) (i * 1)) (← Go.part 3 (Ve.fc g) (i * 1))) then pure (ForInStep.done (some false, ())) else pure (ForInStep.yield (none, ())) : Sem (ForInStep (Option Bool × Unit)))) w =
    .ok (if (List.range' s n).all (fun i => decide (f i = g i)) then (none, ()) else (some false, ())) w
  | 0, s, _ => by simp
  | n + 1, s, h => by
    rw [List.range'_succ, List.forIn_cons]
    have h1 := Ve.part_fc f (s * 1) (by omega) w
    have h2 := Ve.part_fc g (s * 1) (by omega) w
    have h3 := eqI1 m (f (s * 1)) (g (s * 1)) w
    simp only [Sem.run_bind, h1, h2, h3, Result.andThen]
    rw [Nat.mul_one]
    by_cases e : f s = g s
    · have := eqAll m f g w n (s + 1) (by omega)
      rw [List.all_cons, decide_eq_true e, Bool.true_and]
      simpa [e] using this
    · rw [List.all_cons, decide_eq_false e, Bool.false_and]
      simp [e]
theorem eqD2 (m : Nat) (f g : Nat → Int) (w : World) : (Op.equalIn (m + 2) 30 (.agg (Ve.fc f)) (.agg (Ve.fc g))).run Try.prog w = .ok (Ve.eqV f g) w := by
  rw [show m + 2 = (m + 1) + 1 from rfl, Op.equalIn]
  simp only [Sem.run_bind, run_underlying Try.underlying30, Result.andThen_ok, Try.sizeOf3]
  have h := eqAll m f g w 7 0 (by omega)
  simp only [Std.Legacy.Range.forIn_eq_forIn_range', Std.Legacy.Range.size, Nat.sub_zero, Nat.add_sub_cancel, Nat.div_one]
  rw [h]
  by_cases e : (List.range' 0 7).all (fun i => decide (f i = g i)) = true
  · rw [if_pos e]
    have : Ve.eqV f g = true := e
    rw [this]; rfl
  · rw [if_neg e]
    have : Ve.eqV f g = false := Bool.eq_false_iff.2 e
    rw [this]; rfl
theorem fieldsV : Try.prog.underlying 32 = some (.struct (Try.prog.fieldsOf 32)) := by kernel_rfl
theorem fieldsI : Try.prog.underlying 37 = some (.struct (Try.prog.fieldsOf 37)) := by kernel_rfl
def eqVal (c : Nat → Int) (q : Int) (d : Nat → Int) (c' : Nat → Int) (q' : Int) (d' : Nat → Int) : Bool := Cm.eqF c c' && (decide (q = q') && Ve.eqV d d')
theorem partC (c : Nat → Int) (q : Int) (d : Nat → Int) (w : World) : (Go.part 28 (cv c q d) 0).run Try.prog w = .ok (.agg (Cm.fc c)) w := by
  simp [Go.part, Try.isAgg28, Try.sizeOf28, cv_cmd]
theorem partQ (c : Nat → Int) (q : Int) (d : Nat → Int) (w : World) : (Go.part 3 (cv c q d) 9).run Try.prog w = .ok (.int .i64 q) w := by
  simp [Go.part, Try.isAgg3, cv]
theorem partD (c : Nat → Int) (q : Int) (d : Nat → Int) (w : World) : (Go.part 30 (cv c q d) 10).run Try.prog w = .ok (.agg (Ve.fc d)) w := by
  simp [Go.part, Try.isAgg30, Try.sizeOf30, cv_dep]
theorem eqV3 (m : Nat) (c : Nat → Int) (q : Int) (d : Nat → Int) (c' : Nat → Int) (q' : Int) (d' : Nat → Int) (w : World) : (Op.equalIn (m + 3) 32 (.agg (cv c q d)) (.agg (cv c' q' d'))).run Try.prog w = .ok (eqVal c q d c' q' d') w := by
  rw [run_equalIn_agg w (m + 2) _ _ _ fieldsV (by kernel_rfl)]
  simp only [Program.fieldsOf, Try.underlying32]
  simp only [Op.eqFields]
  cases h1 : Cm.eqF c c'
  · simp [eqVal, h1, partC, eqC2]
  · by_cases h2 : q = q'
    · cases h3 : Ve.eqV d d' <;> simp [eqVal, h1, h2, h3, partC, eqC2, partD, eqD2, partQ, eqI1]
    · simp [eqVal, h1, h2, partC, eqC2, partQ, eqI1]
theorem eqlVal (c : Nat → Int) (q : Int) (d : Nat → Int) (c' : Nat → Int) (q' : Int) (d' : Nat → Int) (w : World) : (binOp .eql 32 (.agg (cv c q d)) (.agg (cv c' q' d'))).run Try.prog w = .ok (.bool (eqVal c q d c' q' d')) w := by
  rw [run_eql_struct, eqV3 9997]; rfl
theorem guardVal (op : BinOp) (x y : Operand) (c : Nat → Int) (q : Int) (d : Nat → Int) (c' : Nat → Int) (q' : Int) (d' : Nat → Int) (w : World) : (eqGuard op 32 x y (.agg (cv c q d)) (.agg (cv c' q' d'))).run Try.prog w = .ok () w :=
  run_eqGuard_agg w op _ x y _ _ (by kernel_rfl)
section
variable (ρ : Operand → Value) (dst : Option Tmp) (ty : TypeId) (pos : String) (after : Array Edge) (guard : Option (Nat × Bool)) (w : World)
theorem buildVal : (execOp ρ { dst, op := .build 32 #[], type := ty, pos, after, guard }).run Try.prog w = .ok (.value (.agg (cv Cm.zeroF 0 Ve.zeroV))) w := by
  have := run_build (P := Try.prog) w 32 #[] (cv Cm.zeroF 0 Ve.zeroV) (by kernel_rfl)
  simp [execOp, this]
end
attribute [go_sem ↓] eqlVal guardVal buildVal
end Go.Proofs.Ytmaecknjamnnpaa.Rc
