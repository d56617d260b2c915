/- The laws of layer 4: the calls. -/
import Derived.Test.YtkgjhfndlnoddaaBaC
namespace Go.Proofs.Ytkgjhfndlnoddaa.Ba
open Go.RowKit
set_option linter.unusedVariables false
open Go.Proofs.Ytkgjhfndlnoddaa.Fx (nx nd)
theorem lay1 (w : World) (o : Obj) (n r : Int) (t : TypeId) {wr : World} (h : Below ((w.alloc o).alloc (.cells #[.int .i64 n, .int .i64 r] t)).heap.size ((w.alloc o).alloc (.cells #[.int .i64 n, .int .i64 r] t)) wr) :
    wr.cell? ⟨w.heap.size + 1, 0, none⟩ = some (.int .i64 n) ∧ wr.cell? ⟨w.heap.size + 1, 1, none⟩ = some (.int .i64 r) := by
  have h1 := lies (w.alloc o) n r t h
  have e : (w.alloc o).heap.size = w.heap.size + 1 := by simp
  rw [e] at h1; exact h1
theorem lay2 (w : World) (o q : Obj) (n r : Int) (t : TypeId) {wr : World} (h : Below (((w.alloc o).alloc q).alloc (.cells #[.int .i64 n, .int .i64 r] t)).heap.size (((w.alloc o).alloc q).alloc (.cells #[.int .i64 n, .int .i64 r] t)) wr) :
    wr.cell? ⟨w.heap.size + 1 + 1, 0, none⟩ = some (.int .i64 n) ∧ wr.cell? ⟨w.heap.size + 1 + 1, 1, none⟩ = some (.int .i64 r) := by
  have h1 := lay1 (w.alloc o) q n r t h
  have e : (w.alloc o).heap.size = w.heap.size + 1 := by simp
  rw [e] at h1; exact h1
theorem same (a b : Int) (w : World) : (binOp .eql 23 (.agg #[.int .i64 a, .int .i64 b]) (.agg #[.int .i64 a, .int .i64 b])).run Try.prog w = .ok (.bool true) w := by
  rw [eqlB]; simp
set_option maxHeartbeats 1600000 in
theorem walkCalls (a b c d p : Int) (w : World) :
    Calls Try.prog 3 #[.agg #[.int .i64 a, .int .i64 b], .agg #[.int .i64 c, .int .i64 d], .int .i64 p] w fun e w' => e = .returned (.bool true) ∧ Below w.heap.size w w' := by
  have e1 := same 0 p
  have g1 := fun op x y => guardB op x y 0 p 0 p
  have e2 := same (nextN a b p) (nextR a b p)
  have g2 := fun op x y => guardB op x y (nextN a b p) (nextR a b p) (nextN a b p) (nextR a b p)
  have e3 := same (latN a b c d) (latR a b c d)
  have g3 := fun op x y => guardB op x y (latN a b c d) (latR a b c d) (latN a b c d) (latR a b c d)
  go_enter Try.func3, Try.ntmps3
  go_wp2_with fail
  refine (next_any a b p _).mono ?_
  rintro e w1 ⟨rfl, hb1⟩
  obtain ⟨chb1, fhb1⟩ := bcell hb1
  have hz1 : w.heap.size + 1 < w1.heap.size := by have := hb1.size; simp at this; omega
  have hz0 : w.heap.size < w1.heap.size := by omega
  go_wp2_with fail
  refine (rNext_any a b p _).mono ?_
  rintro e w2 ⟨rfl, hb2⟩
  go_wp2_with fail
  obtain ⟨W, hW⟩ : ∃ W, W = w2.alloc (.cells #[.int .i64 (nextN a b p), .int .i64 (nextR a b p)] 23) := ⟨_, rfl⟩
  have h2 := nx (below1 w1 (.cells #[.int .i64 (nextN a b p), .int .i64 (nextR a b p)] 23)) hb2
  have h3 : Below w2.heap.size w2 W := hW ▸ below1 w2 _
  have hK : ∀ wr, Below W.heap.size W wr → Below W.heap.size W wr ∧ wr.cell? ⟨w.heap.size, 0, none⟩ = some (.int .i64 a) ∧ wr.cell? ⟨w.heap.size, 1, none⟩ = some (.int .i64 b) ∧ wr.cell? ⟨w.heap.size + 1, 0, none⟩ = some (.int .i64 c) ∧ wr.cell? ⟨w.heap.size + 1, 1, none⟩ = some (.int .i64 d) ∧ wr.cell? ⟨w1.heap.size, 0, none⟩ = some (.int .i64 (nextN a b p)) ∧ wr.cell? ⟨w1.heap.size, 1, none⟩ = some (.int .i64 (nextR a b p)) ∧ wr.cell? ⟨w2.heap.size, 0, none⟩ = some (.int .i64 (nextN a b p)) ∧ wr.cell? ⟨w2.heap.size, 1, none⟩ = some (.int .i64 (nextR a b p)) := by
    intro wr h
    have k2 := lies w2 (nextN a b p) (nextR a b p) 23 (hW ▸ h)
    have k1 := lies w1 (nextN a b p) (nextR a b p) 23 (nx hb2 (nx h3 h))
    have k0 := lay1 w _ c d 23 (nx hb1 (nx h2 (nx h3 h)))
    have k := lies w a b 23 (nx (below1 _ _) (nx hb1 (nx h2 (nx h3 h))))
    exact ⟨h, k.1, k.2, k0.1, k0.2, k1.1, k1.2, k2.1, k2.2⟩
  have hb := nx (nx (nx (below2 w _ _) hb1) h2) h3
  rw [← hW]
  clear hW chb1 fhb1 hb1 hb2 h2 h3
  first | go_region_held3 (fun wr => Below W.heap.size W wr ∧ wr.cell? ⟨w.heap.size, 0, none⟩ = some (.int .i64 a) ∧ wr.cell? ⟨w.heap.size, 1, none⟩ = some (.int .i64 b) ∧ wr.cell? ⟨w.heap.size + 1, 0, none⟩ = some (.int .i64 c) ∧ wr.cell? ⟨w.heap.size + 1, 1, none⟩ = some (.int .i64 d) ∧ wr.cell? ⟨w1.heap.size, 0, none⟩ = some (.int .i64 (nextN a b p)) ∧ wr.cell? ⟨w1.heap.size, 1, none⟩ = some (.int .i64 (nextR a b p)) ∧ wr.cell? ⟨w2.heap.size, 0, none⟩ = some (.int .i64 (nextN a b p)) ∧ wr.cell? ⟨w2.heap.size, 1, none⟩ = some (.int .i64 (nextR a b p))) (first | assumption | (refine hK _ ?_; first | exact (Below.refl _ _).drew | exact nx (show Below W.heap.size W _ from (‹Below W.heap.size W _ ∧ _›).1) hb4)) ((first | (go_at_call 8; refine (valid_any _ _ _).mono ?_; rintro e w_ ⟨rfl, hb4⟩) | (go_at_call 9; refine (rValid_any _ _ _).mono ?_; rintro e w_ ⟨rfl, hb4⟩) | (go_at_call 10; refine (less_any _ _ _ _ _).mono ?_; rintro e w_ ⟨rfl, hb4⟩) | (go_at_call 11; refine (rLess_any _ _ _ _ _).mono ?_; rintro e w_ ⟨rfl, hb4⟩) | (go_at_call 12; refine (first_any _ _).mono ?_; rintro e w_ ⟨rfl, hb4⟩) | (go_at_call 13; refine (rFirst_any _ _).mono ?_; rintro e w_ ⟨rfl, hb4⟩) | (go_at_call 14; refine (later_any _ _ _ _ _).mono ?_; rintro e w_ ⟨rfl, hb4⟩) | (go_at_call 15; refine (rLater_any _ _ _ _ _).mono ?_; rintro e w_ ⟨rfl, hb4⟩) | (go_at_call 16; refine (awake_any _).mono ?_; rintro e w_ ⟨rfl, hb4⟩))) | fail "held"
  all_goals have hb4 := (‹Below W.heap.size W _ ∧ _›).1
  go_wp2
  go_ret
  exact ⟨rfl, nx hb hb4⟩
end Go.Proofs.Ytkgjhfndlnoddaa.Ba
