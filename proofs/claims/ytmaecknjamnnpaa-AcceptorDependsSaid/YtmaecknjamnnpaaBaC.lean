/- Ballots as pairs of numbers. -/
import Derived.Lib.Hide
import Derived.Test.YtmaecknjamnnpaaRows
import Derived.WalkKit
import Derived.ProofKit
import Derived.Below
import Derived.WalkLawsBesides
import Derived.WalkSpells
import Derived.BigQuiet
import Derived.Deep.QuietTactic
import Derived.Test.YtmaecknjamnnpaaFxC
import Derived.Deep.RegionHeld3
import Derived.Laws.StructEq
namespace Go.Proofs.Ytmaecknjamnnpaa.Ba
def lessB (a b c d : Int) : Bool := decide (a < c ∨ a = c ∧ b < d)
def valB (n r : Int) : Bool := decide (0 ≤ n ∧ n ≤ 1073741824 ∧ 0 ≤ r ∧ r < 7)
def latN (a b c d : Int) : Int := if lessB c d a b = true then a else c
def latR (a b c d : Int) : Int := if lessB c d a b = true then b else d
def nextE (n r p : Int) : Int := if valB n r = true ∧ valB 0 p = true then (if n = 1073741824 then 6 else 0) else 1
def nextN (n r p : Int) : Int := if nextE n r p = 0 then n + 1 else 0
def nextR (n r p : Int) : Int := if nextE n r p = 0 then p else 0
theorem lessB_iff {a b c d : Int} : lessB a b c d = true ↔ (a < c ∨ a = c ∧ b < d) := by simp [lessB]
theorem lessB_no {a b c d : Int} : lessB a b c d = false ↔ ¬ (a < c ∨ a = c ∧ b < d) := by simp [lessB]
theorem valB_iff {n r : Int} : valB n r = true ↔ (0 ≤ n ∧ n ≤ 1073741824 ∧ 0 ≤ r ∧ r < 7) := by simp [valB]
theorem valB_no {n r : Int} (h : ¬ (0 ≤ n ∧ n ≤ 1073741824 ∧ 0 ≤ r ∧ r < 7)) : valB n r = false := by simpa [valB] using h
theorem less_later (a b c d : Int) : ((latN a b c d == a) && (latR a b c d == b)) = !lessB a b c d := by
  unfold latN latR
  by_cases h : lessB c d a b = true
  · have h1 := lessB_iff.1 h
    have h2 : lessB a b c d = false := lessB_no.2 (by omega)
    rw [if_pos h, if_pos h, h2]; simp
  · have h1 : ¬ (c < a ∨ c = a ∧ d < b) := fun x => h (lessB_iff.2 x)
    rw [if_neg h, if_neg h]
    by_cases e : c = a ∧ d = b
    · obtain ⟨rfl, rfl⟩ := e
      have h2 : lessB c d c d = false := lessB_no.2 (by omega)
      simp [h2]
    · have h2 : lessB a b c d = true := lessB_iff.2 (by omega)
      rw [h2]; simp; exact fun x y => e ⟨x, y⟩
end Go.Proofs.Ytmaecknjamnnpaa.Ba
/- Valid, Later, First of package ballot; the document's own. -/
namespace Go.Proofs.Ytmaecknjamnnpaa.Ba
open Go.RowKit
set_option linter.unusedVariables false
open Go.Proofs.Ytmaecknjamnnpaa.Fx (nx nd)
theorem below1 (w : World) (o : Obj) : Below w.heap.size w (w.alloc o) := (Below.refl _ _).alloc (Nat.le_refl _) _
set_option maxHeartbeats 400000 in
theorem valid_any (n r : Int) (w : World) :
    Calls Try.prog 62 #[.agg #[.int .i64 n, .int .i64 r]] w fun e w' => e = .returned (.bool (valB n r)) ∧ Below w.heap.size w w' := by
  by_cases h0 : 0 ≤ n
  · by_cases h1 : n ≤ 1073741824
    · by_cases h2 : 0 ≤ r
      · by_cases h3 : r < 7
        · have H := Lib.hid (valB_iff.2 ⟨h0, h1, h2, h3⟩)
          go_enter Try.func62, Try.ntmps62
          go_wp2
          go_ret
          exact ⟨by rw [H.out]; rfl, below1 _ _⟩
        · have H := Lib.hid (valB_no (n := n) (r := r) (by omega))
          have hd : decide (r < 7) = false := by simpa using h3
          go_enter Try.func62, Try.ntmps62
          go_wp2
          go_ret
          exact ⟨by rw [H.out]; rfl, below1 _ _⟩
      · have H := Lib.hid (valB_no (n := n) (r := r) (by omega))
        have hd : decide (0 ≤ r) = false := by simpa using h2
        go_enter Try.func62, Try.ntmps62
        go_wp2
        go_ret
        exact ⟨by rw [H.out]; rfl, below1 _ _⟩
    · have H := Lib.hid (valB_no (n := n) (r := r) (by omega))
      have hd : decide (n ≤ 1073741824) = false := by simpa using h1
      go_enter Try.func62, Try.ntmps62
      go_wp2
      go_ret
      exact ⟨by rw [H.out]; rfl, below1 _ _⟩
  · have H := Lib.hid (valB_no (n := n) (r := r) (by omega))
    have hd : decide (0 ≤ n) = false := by simpa using h0
    go_enter Try.func62, Try.ntmps62
    go_wp2
    go_ret
    exact ⟨by rw [H.out]; rfl, below1 _ _⟩
set_option maxHeartbeats 400000 in
theorem rValid_any (n r : Int) (w : World) :
    Calls Try.prog 47 #[.agg #[.int .i64 n, .int .i64 r]] w fun e w' => e = .returned (.bool (valB n r)) ∧ Below w.heap.size w w' := by
  by_cases h0 : 0 ≤ n
  · by_cases h1 : n ≤ 1073741824
    · by_cases h2 : 0 ≤ r
      · by_cases h3 : r < 7
        · have H := Lib.hid (valB_iff.2 ⟨h0, h1, h2, h3⟩)
          go_enter Try.func47, Try.ntmps47
          go_wp2
          go_ret
          exact ⟨by rw [H.out]; rfl, below1 _ _⟩
        · have H := Lib.hid (valB_no (n := n) (r := r) (by omega))
          have hd : decide (r < 7) = false := by simpa using h3
          go_enter Try.func47, Try.ntmps47
          go_wp2
          go_ret
          exact ⟨by rw [H.out]; rfl, below1 _ _⟩
      · have H := Lib.hid (valB_no (n := n) (r := r) (by omega))
        have hd : decide (0 ≤ r) = false := by simpa using h2
        go_enter Try.func47, Try.ntmps47
        go_wp2
        go_ret
        exact ⟨by rw [H.out]; rfl, below1 _ _⟩
    · have H := Lib.hid (valB_no (n := n) (r := r) (by omega))
      have hd : decide (n ≤ 1073741824) = false := by simpa using h1
      go_enter Try.func47, Try.ntmps47
      go_wp2
      go_ret
      exact ⟨by rw [H.out]; rfl, below1 _ _⟩
  · have H := Lib.hid (valB_no (n := n) (r := r) (by omega))
    have hd : decide (0 ≤ n) = false := by simpa using h0
    go_enter Try.func47, Try.ntmps47
    go_wp2
    go_ret
    exact ⟨by rw [H.out]; rfl, below1 _ _⟩
set_option maxHeartbeats 800000 in
theorem later_any (a b c d : Int) (w : World) :
    Calls Try.prog 36 #[.agg #[.int .i64 a, .int .i64 b], .agg #[.int .i64 c, .int .i64 d]] w fun e w' => e = .returned (.agg #[.int .i64 (latN a b c d), .int .i64 (latR a b c d)]) ∧ Below w.heap.size w w' := by
  by_cases h0 : c < a
  · have H : Hid (latN a b c d = a ∧ latR a b c d = b) := Lib.hid (by unfold latN latR; rw [if_pos (lessB_iff.2 (.inl h0)), if_pos (lessB_iff.2 (.inl h0))]; exact ⟨rfl, rfl⟩)
    rw [H.out.1, H.out.2]
    go_enter Try.func36, Try.ntmps36
    go_wp2
    exact bodyPost_ret (v := .agg #[.int .i64 a, .int .i64 b]) (by simp [results, Try.results36, go_sem]) rfl ⟨rfl, nx (nx (below1 _ _) (below1 _ _)) (below1 _ _)⟩
  · have hd : decide (c < a) = false := by simpa using h0
    by_cases h1 : a = c
    · subst h1
      by_cases h2 : d < b
      · have H : Hid (latN a b a d = a ∧ latR a b a d = b) := Lib.hid (by unfold latN latR; rw [if_pos (lessB_iff.2 (.inr ⟨rfl, h2⟩)), if_pos (lessB_iff.2 (.inr ⟨rfl, h2⟩))]; exact ⟨rfl, rfl⟩)
        rw [H.out.1, H.out.2]
        go_enter Try.func36, Try.ntmps36
        go_wp2
        exact bodyPost_ret (v := .agg #[.int .i64 a, .int .i64 b]) (by simp [results, Try.results36, go_sem]) rfl ⟨rfl, nx (nx (below1 _ _) (below1 _ _)) (below1 _ _)⟩
      · have hd2 : decide (d < b) = false := by simpa using h2
        have hn : ¬ lessB a d a b = true := fun x => by have := lessB_iff.1 x; omega
        have H : Hid (latN a b a d = a ∧ latR a b a d = d) := Lib.hid (by unfold latN latR; rw [if_neg hn, if_neg hn]; exact ⟨rfl, rfl⟩)
        clear hn
        rw [H.out.1, H.out.2]
        go_enter Try.func36, Try.ntmps36
        go_wp2
        exact bodyPost_ret (v := .agg #[.int .i64 a, .int .i64 d]) (by simp [results, Try.results36, go_sem]) rfl ⟨rfl, nx (nx (below1 _ _) (below1 _ _)) (below1 _ _)⟩
    · have hd1 : (a == c) = false := by simpa using h1
      have hn : ¬ lessB c d a b = true := fun x => by have := lessB_iff.1 x; omega
      have H : Hid (latN a b c d = c ∧ latR a b c d = d) := Lib.hid (by unfold latN latR; rw [if_neg hn, if_neg hn]; exact ⟨rfl, rfl⟩)
      clear hn
      rw [H.out.1, H.out.2]
      go_enter Try.func36, Try.ntmps36
      go_wp2
      exact bodyPost_ret (v := .agg #[.int .i64 c, .int .i64 d]) (by simp [results, Try.results36, go_sem]) rfl ⟨rfl, nx (nx (below1 _ _) (below1 _ _)) (below1 _ _)⟩
set_option maxHeartbeats 400000 in
theorem rLess_any (a b c d : Int) (w : World) :
    Calls Try.prog 33 #[.agg #[.int .i64 a, .int .i64 b], .agg #[.int .i64 c, .int .i64 d]] w fun e w' => e = .returned (.bool (lessB a b c d)) ∧ Below w.heap.size w w' := by
  by_cases h0 : a = c
  · subst h0
    have hd : decide (b < d) = lessB a b a d := by unfold lessB; simp
    have H := Lib.hid hd
    clear hd
    go_enter Try.func33, Try.ntmps33
    go_wp2
    go_ret
    exact ⟨by rw [← H.out]; rfl, nx (below1 _ _) (below1 _ _)⟩
  · have hd : decide (a < c) = lessB a b c d := by unfold lessB; simp [h0]
    have H := Lib.hid hd
    have hd1 : (a == c) = false := by simpa using h0
    clear hd
    go_enter Try.func33, Try.ntmps33
    go_wp2
    go_ret
    exact ⟨by rw [← H.out]; rfl, nx (below1 _ _) (below1 _ _)⟩
end Go.Proofs.Ytmaecknjamnnpaa.Ba
/- Less, Next of package ballot; the document's Next, Later. -/
namespace Go.Proofs.Ytmaecknjamnnpaa.Ba
open Go.RowKit
set_option linter.unusedVariables false
open Go.Proofs.Ytmaecknjamnnpaa.Fx (nx nd)
theorem bcell {W w1 : World} (hb : Below W.heap.size W w1) : (∀ b o, b < W.heap.size → w1.cell? ⟨b, o, none⟩ = W.cell? ⟨b, o, none⟩) ∧ (∀ b o, b < W.heap.size → w1.frozen? ⟨b, o, none⟩ = W.frozen? ⟨b, o, none⟩) :=
  ⟨fun b o h => hb.cell (p := ⟨b, o, none⟩) h, fun b o h => hb.frozen (p := ⟨b, o, none⟩) h⟩
/-- A ballot lies in block b. -/
theorem lies (w : World) (n r : Int) (t : TypeId) {wr : World} (h : Below (w.alloc (.cells #[.int .i64 n, .int .i64 r] t)).heap.size (w.alloc (.cells #[.int .i64 n, .int .i64 r] t)) wr) :
    wr.cell? ⟨w.heap.size, 0, none⟩ = some (.int .i64 n) ∧ wr.cell? ⟨w.heap.size, 1, none⟩ = some (.int .i64 r) := by
  have hs : w.heap.size < (w.alloc (.cells #[.int .i64 n, .int .i64 r] t)).heap.size := by simp
  constructor
  · rw [h.cell hs, World.cell?_alloc_at _ _ _ _ rfl]; rfl
  · rw [h.cell hs, World.cell?_alloc_at _ _ _ _ rfl]; rfl
theorem fields : Try.prog.underlying 26 = some (.struct (Try.prog.fieldsOf 26)) := by kernel_rfl
theorem eqB (a b c d : Int) (w : World) : (Op.equalIn 10000 26 (.agg #[.int .i64 a, .int .i64 b]) (.agg #[.int .i64 c, .int .i64 d])).run Try.prog w = .ok ((a == c) && (b == d)) w := by
  rw [run_equalIn_agg w 9999 _ _ _ fields (by kernel_rfl)]
  simp only [Program.fieldsOf, Try.underlying26]
  simp [Op.eqFields, go_sem]
  by_cases h1 : a = c <;> by_cases h2 : b = d <;> simp [h1, h2]
theorem neqB (a b c d : Int) (w : World) : (binOp .neq 26 (.agg #[.int .i64 a, .int .i64 b]) (.agg #[.int .i64 c, .int .i64 d])).run Try.prog w = .ok (.bool (!((a == c) && (b == d)))) w := by
  rw [run_neq_struct, eqB]; rfl
theorem eqlB (a b c d : Int) (w : World) : (binOp .eql 26 (.agg #[.int .i64 a, .int .i64 b]) (.agg #[.int .i64 c, .int .i64 d])).run Try.prog w = .ok (.bool ((a == c) && (b == d))) w := by
  rw [run_eql_struct, eqB]; rfl
theorem guardB (op : BinOp) (x y : Operand) (a b c d : Int) (w : World) : (eqGuard op 26 x y (.agg #[.int .i64 a, .int .i64 b]) (.agg #[.int .i64 c, .int .i64 d])).run Try.prog w = .ok () w :=
  run_eqGuard_agg w op _ x y _ _ (by kernel_rfl)
/-- Two ballots lie in the two last blocks. -/
theorem lies2 (w : World) (a b c d : Int) (t u : TypeId) : ∃ W, W = (w.alloc (.cells #[.int .i64 a, .int .i64 b] t)).alloc (.cells #[.int .i64 c, .int .i64 d] u) ∧ Below w.heap.size w W ∧
    ∀ wr, Below W.heap.size W wr → Below W.heap.size W wr ∧ wr.cell? ⟨w.heap.size, 0, none⟩ = some (.int .i64 a) ∧ wr.cell? ⟨w.heap.size, 1, none⟩ = some (.int .i64 b) ∧ wr.cell? ⟨w.heap.size + 1, 0, none⟩ = some (.int .i64 c) ∧ wr.cell? ⟨w.heap.size + 1, 1, none⟩ = some (.int .i64 d) := by
  refine ⟨_, rfl, nx (below1 _ _) (below1 _ _), fun wr h => ⟨h, ?_⟩⟩
  have h1 := lies w a b t (nx (below1 (w.alloc (.cells #[.int .i64 a, .int .i64 b] t)) (.cells #[.int .i64 c, .int .i64 d] u)) h)
  have h2 := lies (w.alloc (.cells #[.int .i64 a, .int .i64 b] t)) c d u h
  have e : (w.alloc (.cells #[.int .i64 a, .int .i64 b] t)).heap.size = w.heap.size + 1 := by simp
  rw [e] at h2
  exact ⟨h1.1, h1.2, h2.1, h2.2⟩
set_option maxHeartbeats 800000 in
theorem less_any (a b c d : Int) (w : World) :
    Calls Try.prog 17 #[.agg #[.int .i64 a, .int .i64 b], .agg #[.int .i64 c, .int .i64 d]] w fun e w' => e = .returned (.bool (lessB a b c d)) ∧ Below w.heap.size w w' := by
  have hne : ∀ w, (binOp .neq 26 (.agg #[.int .i64 (latN a b c d), .int .i64 (latR a b c d)]) (.agg #[.int .i64 a, .int .i64 b])).run Try.prog w = .ok (.bool (lessB a b c d)) w := fun w => by
    rw [neqB, less_later, Bool.not_not]
  have hgd := fun op x y => guardB op x y (latN a b c d) (latR a b c d) a b
  obtain ⟨W, hW, hb0, hK⟩ := lies2 w a b c d 26 26
  go_enter Try.func17, Try.ntmps17
  go_wp2_with fail
  rw [← hW]
  clear hW
  go_region_held3 (fun wr => Below W.heap.size W wr ∧ wr.cell? ⟨w.heap.size, 0, none⟩ = some (.int .i64 a) ∧ wr.cell? ⟨w.heap.size, 1, none⟩ = some (.int .i64 b) ∧ wr.cell? ⟨w.heap.size + 1, 0, none⟩ = some (.int .i64 c) ∧ wr.cell? ⟨w.heap.size + 1, 1, none⟩ = some (.int .i64 d)) ((refine hK _ ?_; first | exact (Below.refl _ _).drew | exact nx (show Below W.heap.size W _ from (‹Below W.heap.size W _ ∧ _›).1) hb1)) ((go_at_call 36; refine (later_any _ _ _ _ _).mono ?_; rintro e w1 ⟨rfl, hb1⟩))
  go_wp2
  go_ret
  exact ⟨rfl, nx hb0 (nd hb1)⟩
theorem below2 (w : World) (o p : Obj) : Below w.heap.size w ((w.alloc o).alloc p) := nx (below1 _ _) (below1 _ _)
theorem below3 (w : World) (o p q : Obj) : Below w.heap.size w (((w.alloc o).alloc p).alloc q) := nx (below2 _ _ _) (below1 _ _)
set_option maxHeartbeats 800000 in
theorem rLater_any (a b c d : Int) (w : World) :
    Calls Try.prog 30 #[.agg #[.int .i64 a, .int .i64 b], .agg #[.int .i64 c, .int .i64 d]] w fun e w' => e = .returned (.agg #[.int .i64 (latN a b c d), .int .i64 (latR a b c d)]) ∧ Below w.heap.size w w' := by
  by_cases h : lessB a b c d = true
  · have h1 := lessB_iff.1 h
    have hn : ¬ lessB c d a b = true := fun x => by have := lessB_iff.1 x; omega
    have HN : Hid (latN a b c d = c) := Lib.hid (by unfold latN; rw [if_neg hn])
    have HR : Hid (latR a b c d = d) := Lib.hid (by unfold latR; rw [if_neg hn])
    have H := Lib.hid h
    clear h h1 hn
    rw [HN.out, HR.out]
    go_enter Try.func30, Try.ntmps30
    go_wp2_with fail
    refine (rLess_any a b c d _).mono ?_
    rintro e w1 ⟨rfl, hb1⟩
    obtain ⟨chb1, fhb1⟩ := bcell hb1
    rw [H.out]
    go_wp2
    exact bodyPost_ret (v := .agg #[.int .i64 c, .int .i64 d]) (by simp [results, Try.results30, go_sem, chb1]) rfl ⟨rfl, ((nx (below3 _ _ _ _) hb1).setCell (by simp <;> omega) _).setCell (by simp <;> omega) _⟩
  · have h1 : ¬ (a < c ∨ a = c ∧ b < d) := fun x => h (lessB_iff.2 x)
    have hE : latN a b c d = a ∧ latR a b c d = b := by
      unfold latN latR
      by_cases e : lessB c d a b = true
      · rw [if_pos e, if_pos e]; exact ⟨rfl, rfl⟩
      · have h2 : ¬ (c < a ∨ c = a ∧ d < b) := fun x => e (lessB_iff.2 x)
        rw [if_neg e, if_neg e]; constructor <;> omega
    have HN : Hid (latN a b c d = a) := Lib.hid hE.1
    have HR : Hid (latR a b c d = b) := Lib.hid hE.2
    have H : Hid (lessB a b c d = false) := Lib.hid (by simpa using h)
    clear h h1 hE
    rw [HN.out, HR.out]
    go_enter Try.func30, Try.ntmps30
    go_wp2_with fail
    refine (rLess_any a b c d _).mono ?_
    rintro e w1 ⟨rfl, hb1⟩
    obtain ⟨chb1, fhb1⟩ := bcell hb1
    rw [H.out]
    go_wp2
    exact bodyPost_ret (v := .agg #[.int .i64 a, .int .i64 b]) (by simp [results, Try.results30, go_sem, chb1]) rfl ⟨rfl, ((nx (below3 _ _ _ _) hb1).setCell (by simp <;> omega) _).setCell (by simp <;> omega) _⟩
end Go.Proofs.Ytmaecknjamnnpaa.Ba
/- awake of the law of layer 4. -/
namespace Go.Proofs.Ytmaecknjamnnpaa.Ba
open Go.RowKit
set_option linter.unusedVariables false
open Go.Proofs.Ytmaecknjamnnpaa.Fx (nx nd)
theorem less_is (a b c d : Int) (x : Bool) (h : lessB a b c d = x) (w : World) :
    Calls Try.prog 17 #[.agg #[.int .i64 a, .int .i64 b], .agg #[.int .i64 c, .int .i64 d]] w fun e w' => e = .returned (.bool x) ∧ Below w.heap.size w w' := by
  rw [← h]; exact less_any a b c d w
theorem later_is (a b c d x y : Int) (h : latN a b c d = x ∧ latR a b c d = y) (w : World) :
    Calls Try.prog 36 #[.agg #[.int .i64 a, .int .i64 b], .agg #[.int .i64 c, .int .i64 d]] w fun e w' => e = .returned (.agg #[.int .i64 x, .int .i64 y]) ∧ Below w.heap.size w w' := by
  rw [← h.1, ← h.2]; exact later_any a b c d w
theorem valid_is (a b : Int) (x : Bool) (h : valB a b = x) (w : World) :
    Calls Try.prog 62 #[.agg #[.int .i64 a, .int .i64 b]] w fun e w' => e = .returned (.bool x) ∧ Below w.heap.size w w' := by
  rw [← h]; exact valid_any a b w
/-- A ballot lies in the last block. -/
theorem lies1 (w : World) (a b : Int) (t : TypeId) : ∃ W, W = w.alloc (.cells #[.int .i64 a, .int .i64 b] t) ∧ Below w.heap.size w W ∧
    ∀ wr, Below W.heap.size W wr → Below W.heap.size W wr ∧ wr.cell? ⟨w.heap.size, 0, none⟩ = some (.int .i64 a) ∧ wr.cell? ⟨w.heap.size, 1, none⟩ = some (.int .i64 b) :=
  ⟨_, rfl, below1 _ _, fun _ h => ⟨h, lies w a b t h⟩⟩
end Go.Proofs.Ytmaecknjamnnpaa.Ba
