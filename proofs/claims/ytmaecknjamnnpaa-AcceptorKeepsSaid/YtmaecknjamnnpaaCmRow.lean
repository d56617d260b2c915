/- Commands, and arrays of nine numbers, as rows of nine cells. -/
import Derived.Test.YtmaecknjamnnpaaRows
import Derived.Test.YtmaecknjamnnpaaRw
import Derived.Test.YtmaecknjamnnpaaFxC
import Derived.Test.YtmaecknjamnnpaaCmPure
namespace Go.Proofs.Ytmaecknjamnnpaa.Cm
open Go.RowKit
set_option linter.unusedVariables false
open Go.Proofs.Ytmaecknjamnnpaa.Rw
def fc (f : Nat → Int) : Array Value := ((List.range 9).map fun i => Value.int .i64 (f i)).toArray
theorem fc_size (f : Nat → Int) : (fc f).size = 9 := by simp [fc]
theorem fc_at (f : Nat → Int) (k : Nat) (h : k < 9) : (fc f)[k]? = some (.int .i64 (f k)) := by simp [fc, h]
theorem fc_get (f : Nat → Int) (k : Nat) (h : k < (fc f).size) : (fc f)[k] = .int .i64 (f k) := by simp [fc]
theorem fc_set (f : Nat → Int) (k : Nat) (x : Int) : (fc f).setIfInBounds k (.int .i64 x) = fc (upd f k x) := by
  apply Array.ext'
  unfold fc
  rw [Array.toList_setIfInBounds]
  apply List.ext_getElem
  · simp
  · intro i h1 h2
    simp at h1 h2
    rw [List.getElem_set]
    by_cases h : k = i
    · subst h; simp [upd]
    · have h3 : ¬ i = k := fun e => h e.symm
      simp [h, upd, h3]
theorem fc_congr {f g : Nat → Int} (h : ∀ i, i < 9 → f i = g i) : fc f = fc g := by
  apply Array.ext'
  unfold fc
  simp only
  apply List.map_congr_left
  intro i hi
  rw [h i (by simpa using hi)]
theorem fc_list (f : Nat → Int) : (fc f).toList = [.int .i64 (f 0), .int .i64 (f 1), .int .i64 (f 2), .int .i64 (f 3), .int .i64 (f 4), .int .i64 (f 5), .int .i64 (f 6), .int .i64 (f 7), .int .i64 (f 8)] := rfl
theorem fc_lit (f : Nat → Int) : #[Value.int .i64 (f 0), .int .i64 (f 1), .int .i64 (f 2), .int .i64 (f 3), .int .i64 (f 4), .int .i64 (f 5), .int .i64 (f 6), .int .i64 (f 7), .int .i64 (f 8)] = fc f := rfl
theorem fc_one (f : Nat → Int) : oneAll (.agg (fc f)) = true := by
  show (fc f).all (·.oneCell') = true
  rw [← Array.all_toList, fc_list]; rfl
theorem cells_agg (c : Array Value) : (Value.agg c).cells = c := rfl
theorem zeroC : ∀ w, (zeroValue 28).run Try.prog w = .ok (.agg (fc zeroF)) w := (zero_of_info (n := 9) (by kernel_rfl)).1
section
variable (ρ : Operand → Value) (dst : Option Tmp) (ty : TypeId) (pos : String) (after : Array Edge) (guard : Option (Nat × Bool)) (w : World)
theorem loadC (x : Operand) (h : (rowOf w (ρ x)).size = 9) : (execOp ρ { dst, op := .load 28 x, type := ty, pos, after, guard }).run Try.prog w = .ok (.value (.agg (rowOf w (ρ x)))) w :=
  exec_load (n := 8) ρ dst ty pos after guard w Try.underlying28 rfl (by kernel_rfl) x h
theorem storeC (p x : Operand) (h : plainAt 9 w (ρ p) = true) (hs : (ρ x).cells.size = 9) (h1 : oneAll (ρ x) = true) (ha : ρ x = .agg (ρ x).cells) : (execOp ρ { dst, op := .store 28 p x, type := ty, pos, after, guard }).run Try.prog w = .ok .skip (putRow w (ρ p) (ρ x).cells) :=
  exec_store (n := 8) ρ dst ty pos after guard w (by kernel_rfl) p x h hs h1 ha
theorem allocC : (execOp ρ { dst, op := .alloc 28, type := ty, pos, after, guard }).run Try.prog w = .ok (.value (.pointer (some ⟨w.heap.size, 0, none⟩))) (w.alloc (.cells (fc zeroF) 28)) :=
  exec_alloc ρ dst ty pos after guard w zeroC
theorem buildC : (execOp ρ { dst, op := .build 28 #[], type := ty, pos, after, guard }).run Try.prog w = .ok (.value (.agg (fc zeroF))) w := by
  have := run_build (P := Try.prog) w 28 #[] (fc zeroF) (by kernel_rfl)
  simp [execOp, this]
end
attribute [go_sem ↓] loadC storeC allocC buildC
attribute [go_sem] fc_size fc_at fc_get fc_set fc_one cells_agg
/-- nine numbers, written out -/
def v9 (a b c d e f g h i : Int) : Nat → Int
  | 0 => a | 1 => b | 2 => c | 3 => d | 4 => e | 5 => f | 6 => g | 7 => h | 8 => i | _ => 0
theorem agg9 (a b c d e f g h i : Int) : Value.agg #[.int .i64 a, .int .i64 b, .int .i64 c, .int .i64 d, .int .i64 e, .int .i64 f, .int .i64 g, .int .i64 h, .int .i64 i] = .agg (fc (v9 a b c d e f g h i)) := rfl
section
variable (a b c d e f g h i : Int)
theorem v9_0 : v9 a b c d e f g h i 0 = a := rfl
theorem v9_1 : v9 a b c d e f g h i 1 = b := rfl
theorem v9_2 : v9 a b c d e f g h i 2 = c := rfl
theorem v9_3 : v9 a b c d e f g h i 3 = d := rfl
theorem v9_4 : v9 a b c d e f g h i 4 = e := rfl
theorem v9_5 : v9 a b c d e f g h i 5 = f := rfl
theorem v9_6 : v9 a b c d e f g h i 6 = g := rfl
theorem v9_7 : v9 a b c d e f g h i 7 = h := rfl
theorem v9_8 : v9 a b c d e f g h i 8 = i := rfl
theorem upd_0 (x : Int) : upd (v9 a b c d e f g h i) 0 x = v9 x b c d e f g h i := by funext j; unfold upd; match j with | 0 => rfl | 1 => rfl | 2 => rfl | 3 => rfl | 4 => rfl | 5 => rfl | 6 => rfl | 7 => rfl | 8 => rfl | (_ + 9) => exact if_neg (by omega)
theorem upd_1 (x : Int) : upd (v9 a b c d e f g h i) 1 x = v9 a x c d e f g h i := by funext j; unfold upd; match j with | 0 => rfl | 1 => rfl | 2 => rfl | 3 => rfl | 4 => rfl | 5 => rfl | 6 => rfl | 7 => rfl | 8 => rfl | (_ + 9) => exact if_neg (by omega)
theorem upd_2 (x : Int) : upd (v9 a b c d e f g h i) 2 x = v9 a b x d e f g h i := by funext j; unfold upd; match j with | 0 => rfl | 1 => rfl | 2 => rfl | 3 => rfl | 4 => rfl | 5 => rfl | 6 => rfl | 7 => rfl | 8 => rfl | (_ + 9) => exact if_neg (by omega)
theorem upd_3 (x : Int) : upd (v9 a b c d e f g h i) 3 x = v9 a b c x e f g h i := by funext j; unfold upd; match j with | 0 => rfl | 1 => rfl | 2 => rfl | 3 => rfl | 4 => rfl | 5 => rfl | 6 => rfl | 7 => rfl | 8 => rfl | (_ + 9) => exact if_neg (by omega)
theorem upd_4 (x : Int) : upd (v9 a b c d e f g h i) 4 x = v9 a b c d x f g h i := by funext j; unfold upd; match j with | 0 => rfl | 1 => rfl | 2 => rfl | 3 => rfl | 4 => rfl | 5 => rfl | 6 => rfl | 7 => rfl | 8 => rfl | (_ + 9) => exact if_neg (by omega)
theorem upd_5 (x : Int) : upd (v9 a b c d e f g h i) 5 x = v9 a b c d e x g h i := by funext j; unfold upd; match j with | 0 => rfl | 1 => rfl | 2 => rfl | 3 => rfl | 4 => rfl | 5 => rfl | 6 => rfl | 7 => rfl | 8 => rfl | (_ + 9) => exact if_neg (by omega)
theorem upd_6 (x : Int) : upd (v9 a b c d e f g h i) 6 x = v9 a b c d e f x h i := by funext j; unfold upd; match j with | 0 => rfl | 1 => rfl | 2 => rfl | 3 => rfl | 4 => rfl | 5 => rfl | 6 => rfl | 7 => rfl | 8 => rfl | (_ + 9) => exact if_neg (by omega)
theorem upd_7 (x : Int) : upd (v9 a b c d e f g h i) 7 x = v9 a b c d e f g x i := by funext j; unfold upd; match j with | 0 => rfl | 1 => rfl | 2 => rfl | 3 => rfl | 4 => rfl | 5 => rfl | 6 => rfl | 7 => rfl | 8 => rfl | (_ + 9) => exact if_neg (by omega)
theorem upd_8 (x : Int) : upd (v9 a b c d e f g h i) 8 x = v9 a b c d e f g h x := by funext j; unfold upd; match j with | 0 => rfl | 1 => rfl | 2 => rfl | 3 => rfl | 4 => rfl | 5 => rfl | 6 => rfl | 7 => rfl | 8 => rfl | (_ + 9) => exact if_neg (by omega)
end
theorem fc_ne (f : Nat → Int) : (fc f = #[]) = False := by
  apply propext; constructor
  · intro h; have := fc_size f; rw [h] at this; cases this
  · exact False.elim
attribute [go_sem] fc_ne upd_0 upd_1 upd_2 upd_3 upd_4 upd_5 upd_6 upd_7 upd_8 agg9 v9_0 v9_1 v9_2 v9_3 v9_4 v9_5 v9_6 v9_7 v9_8
theorem fc_ext {f g : Nat → Int} (h0 : f 0 = g 0) (h1 : f 1 = g 1) (h2 : f 2 = g 2) (h3 : f 3 = g 3) (h4 : f 4 = g 4) (h5 : f 5 = g 5) (h6 : f 6 = g 6) (h7 : f 7 = g 7) (h8 : f 8 = g 8) : fc f = fc g := fc_congr fun i hi => by
  match i, hi with
  | 0, _ => exact h0
  | 1, _ => exact h1
  | 2, _ => exact h2
  | 3, _ => exact h3
  | 4, _ => exact h4
  | 5, _ => exact h5
  | 6, _ => exact h6
  | 7, _ => exact h7
  | 8, _ => exact h8
theorem ret_C {fn : Func} {p : Tmp} (h : fn.results = #[.cell p 28]) (tmps : Array Value) (w : World) (f : Nat → Int) (hr : rowOf w (tmps.getD p undef) = fc f) : (results fn tmps).run Try.prog w = .ok (.agg (fc f)) w :=
  ret1 (n := 8) h Try.underlying28 rfl (by kernel_rfl) tmps w (fc_size f) hr
theorem ret_C3 {fn : Func} {p q r : Tmp} (h : fn.results = #[.cell p 28, .tmp q, .tmp r]) (tmps : Array Value) (w : World) (f : Nat → Int) (hr : rowOf w (tmps.getD p undef) = fc f) : (results fn tmps).run Try.prog w = .ok (.tuple #[.agg (fc f), tmps.getD q undef, tmps.getD r undef]) w :=
  ret3 (n := 8) h Try.underlying28 rfl (by kernel_rfl) tmps w (fc_size f) hr
end Go.Proofs.Ytmaecknjamnnpaa.Cm
