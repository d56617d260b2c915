/- AcceptorHears. -/
import Derived.Test.YtmaecknjamnnpaaAnK
import Derived.Test.YtmaecknjamnnpaaAnI
namespace Go.Proofs.Ytmaecknjamnnpaa.An
open Go.RowKit
set_option linter.unusedVariables false
open Go.Proofs.Ytmaecknjamnnpaa.Rw
open Go.Proofs.Ytmaecknjamnnpaa.Da
open Go.Proofs.Ytmaecknjamnnpaa.Bv
open Go.Proofs.Ytmaecknjamnnpaa.In
open Go.Proofs.Ytmaecknjamnnpaa.St
open Go.Proofs.Ytmaecknjamnnpaa.Rc (Ins ci cv zeroI okI eqVal eqIns)
set_option maxRecDepth 16000 in
set_option maxHeartbeats 16000000 in
theorem walkHears (l : List Ins) (v : Value) (n : Int) (m : Msg) (w : World) (h : TI w.heap.size l v w) (_ : l.length ≤ maxLen ∧ capOk v) (_ : (Lit.int .i64 n).wf = true) :
    Calls Try.prog 3 #[v, .int .i64 n, .agg (cg m)] w fun e w' => e = .returned (.bool true) ∧ Below w.heap.size w w' := by
  obtain ⟨q, hq⟩ : ∃ q, q = w.heap.size := ⟨_, rfl⟩
  rw [← hq] at h
  have hq0 : q ≤ w.heap.size := by omega
  clear hq
  obtain ⟨a1, c1, rfl⟩ := h.len
  obtain ⟨N, hN⟩ : ∃ N, l.length = N := ⟨_, rfl⟩
  have HN := Lib.hid hN
  rw [hN] at h ⊢
  have HT := Lib.hid h
  clear h hN
  obtain ⟨W1, eW1⟩ : ∃ Q_ : World, w.alloc (.cells (cg m) 34) = Q_ := ⟨_, rfl⟩
  have bW1 : Below w.heap.size w W1 := eW1 ▸ below1 _ _
  have hM : Gx W1 w.heap.size m := ⟨eW1 ▸ Bx.new _ _ _⟩
  have lW1 : w.heap.size < W1.heap.size := hM.bx.lt
  have bw : Below w.heap.size w W1 := bW1
  obtain ⟨fM_row_W1, -, -, -, -, -, -, -, -⟩ := hM.facts
  by_cases hlen : 60 < N
  · have hd : decide ((N : Int) > 60) = true := decide_eq_true (by omega)
    go_enter Try.func3, Try.ntmps3
    go_wp2_with fail
    refine (awake_any _).mono ?_
    rintro e w1 ⟨rfl, hb1⟩
    go_wp2
    go_ret
    exact ⟨rfl, nx bw hb1⟩
  have hd : decide ((N : Int) > 60) = false := decide_eq_false (by omega)
  have hm : l.length ≤ 1000000 := by rw [HN.out]; omega
  have Hm := Lib.hid hm
  clear hm
  obtain ⟨⟨x, r, b, c⟩, hR⟩ : ∃ R, hearR l n m = R := ⟨_, rfl⟩
  have H := Lib.hid hR
  obtain ⟨st, hst⟩ : ∃ t, (x.st == 3) = t := ⟨_, rfl⟩
  have HSt := Lib.hid hst
  obtain ⟨sl, hsl⟩ : ∃ t, staleB x m.bn m.br = t := ⟨_, rfl⟩
  have HSl := Lib.hid hsl
  clear hR hst hsl
  go_enter Try.func3, Try.ntmps3
  go_wp2_with fail
  refine (hear_is H _ W1 (HT.out.stays bw) Hm.out).mono ?_
  rintro e v2 ⟨rfl, bv2⟩
  clear fM_row_W1
  replace hM := hM.stays bv2
  have lv2 : W1.heap.size ≤ v2.heap.size := bv2.size
  replace bw := nx bw bv2
  obtain ⟨W3, eW3⟩ : ∃ Q_ : World, v2.alloc (.cells (ci zeroI) 37) = Q_ := ⟨_, rfl⟩
  have bW3 : Below v2.heap.size v2 W3 := eW3 ▸ below1 _ _
  replace hM := hM.stays bW3
  have hI7 : Ix W3 v2.heap.size zeroI := ⟨eW3 ▸ Bx.new _ _ _⟩
  have lW3 : v2.heap.size < W3.heap.size := hI7.bx.lt
  replace bw := nx bw bW3
  obtain ⟨W4, eW4⟩ : ∃ Q_ : World, W3.alloc (.cells (cg zeroM) 34) = Q_ := ⟨_, rfl⟩
  have bW4 : Below W3.heap.size W3 W4 := eW4 ▸ below1 _ _
  replace hM := hM.stays bW4
  replace hI7 := hI7.stays bW4
  have hM8 : Gx W4 W3.heap.size zeroM := ⟨eW4 ▸ Bx.new _ _ _⟩
  have lW4 : W3.heap.size < W4.heap.size := hM8.bx.lt
  replace bw := nx bw bW4
  obtain ⟨-, -, -, -, fI7_plain_W4, -⟩ := hI7.facts
  obtain ⟨W5, eW5⟩ : ∃ Q_ : World, W4.setRow (v2.heap.size) (ci (x)) = Q_ := ⟨_, rfl⟩
  replace hM : Gx W5 (w.heap.size) (m) := ⟨eW5 ▸ hM.bx.put' (by omega) _⟩
  replace hM8 : Gx W5 (W3.heap.size) (zeroM) := ⟨eW5 ▸ hM8.bx.put' (by omega) _⟩
  replace hI7 : Ix W5 (v2.heap.size) (x) := ⟨eW5 ▸ hI7.bx.put _⟩
  have lW5 : W4.heap.size ≤ W5.heap.size := eW5 ▸ (low_setRow (n := 0) _ (Nat.zero_le _)).size
  replace bw : Below w.heap.size w W5 := eW5 ▸ bw.trans (low_setRow _ (by omega))
  obtain ⟨-, -, -, -, -, -, -, fM8_plain_W5, -⟩ := hM8.facts
  obtain ⟨W6, eW6⟩ : ∃ Q_ : World, W5.setRow (W3.heap.size) (cg (r)) = Q_ := ⟨_, rfl⟩
  replace hM : Gx W6 (w.heap.size) (m) := ⟨eW6 ▸ hM.bx.put' (by omega) _⟩
  replace hI7 : Ix W6 (v2.heap.size) (x) := ⟨eW6 ▸ hI7.bx.put' (by omega) _⟩
  replace hM8 : Gx W6 (W3.heap.size) (r) := ⟨eW6 ▸ hM8.bx.put _⟩
  have lW6 : W5.heap.size ≤ W6.heap.size := eW6 ▸ (low_setRow (n := 0) _ (Nat.zero_le _)).size
  replace bw : Below w.heap.size w W6 := eW6 ▸ bw.trans (low_setRow _ (by omega))
  obtain ⟨fM_row_W6, -, -, -, -, -, -, -, -⟩ := hM.facts
  go_wp2_with fail
  refine (rHear_is H _ W6 (HT.out.stays bw) Hm.out).mono ?_
  rintro e v7 ⟨rfl, bv7⟩
  clear fI7_plain_W4 fM8_plain_W5 fM_row_W6
  replace hM := hM.stays bv7
  replace hI7 := hI7.stays bv7
  replace hM8 := hM8.stays bv7
  have lv7 : W6.heap.size ≤ v7.heap.size := bv7.size
  replace bw := nx bw bv7
  obtain ⟨W8, eW8⟩ : ∃ Q_ : World, v7.alloc (.cells (ci zeroI) 37) = Q_ := ⟨_, rfl⟩
  have bW8 : Below v7.heap.size v7 W8 := eW8 ▸ below1 _ _
  replace hM := hM.stays bW8
  replace hI7 := hI7.stays bW8
  replace hM8 := hM8.stays bW8
  have hI11 : Ix W8 v7.heap.size zeroI := ⟨eW8 ▸ Bx.new _ _ _⟩
  have lW8 : v7.heap.size < W8.heap.size := hI11.bx.lt
  replace bw := nx bw bW8
  obtain ⟨W9, eW9⟩ : ∃ Q_ : World, W8.alloc (.cells (cg zeroM) 34) = Q_ := ⟨_, rfl⟩
  have bW9 : Below W8.heap.size W8 W9 := eW9 ▸ below1 _ _
  replace hM := hM.stays bW9
  replace hI7 := hI7.stays bW9
  replace hM8 := hM8.stays bW9
  replace hI11 := hI11.stays bW9
  have hM12 : Gx W9 W8.heap.size zeroM := ⟨eW9 ▸ Bx.new _ _ _⟩
  have lW9 : W8.heap.size < W9.heap.size := hM12.bx.lt
  replace bw := nx bw bW9
  obtain ⟨-, -, -, -, fI11_plain_W9, -⟩ := hI11.facts
  obtain ⟨W10, eW10⟩ : ∃ Q_ : World, W9.setRow (v7.heap.size) (ci (x)) = Q_ := ⟨_, rfl⟩
  replace hM : Gx W10 (w.heap.size) (m) := ⟨eW10 ▸ hM.bx.put' (by omega) _⟩
  replace hI7 : Ix W10 (v2.heap.size) (x) := ⟨eW10 ▸ hI7.bx.put' (by omega) _⟩
  replace hM8 : Gx W10 (W3.heap.size) (r) := ⟨eW10 ▸ hM8.bx.put' (by omega) _⟩
  replace hM12 : Gx W10 (W8.heap.size) (zeroM) := ⟨eW10 ▸ hM12.bx.put' (by omega) _⟩
  replace hI11 : Ix W10 (v7.heap.size) (x) := ⟨eW10 ▸ hI11.bx.put _⟩
  have lW10 : W9.heap.size ≤ W10.heap.size := eW10 ▸ (low_setRow (n := 0) _ (Nat.zero_le _)).size
  replace bw : Below w.heap.size w W10 := eW10 ▸ bw.trans (low_setRow _ (by omega))
  obtain ⟨-, -, -, -, -, -, -, fM12_plain_W10, -⟩ := hM12.facts
  obtain ⟨W11, eW11⟩ : ∃ Q_ : World, W10.setRow (W8.heap.size) (cg (r)) = Q_ := ⟨_, rfl⟩
  replace hM : Gx W11 (w.heap.size) (m) := ⟨eW11 ▸ hM.bx.put' (by omega) _⟩
  replace hI7 : Ix W11 (v2.heap.size) (x) := ⟨eW11 ▸ hI7.bx.put' (by omega) _⟩
  replace hM8 : Gx W11 (W3.heap.size) (r) := ⟨eW11 ▸ hM8.bx.put' (by omega) _⟩
  replace hI11 : Ix W11 (v7.heap.size) (x) := ⟨eW11 ▸ hI11.bx.put' (by omega) _⟩
  replace hM12 : Gx W11 (W8.heap.size) (r) := ⟨eW11 ▸ hM12.bx.put _⟩
  have lW11 : W10.heap.size ≤ W11.heap.size := eW11 ▸ (low_setRow (n := 0) _ (Nat.zero_le _)).size
  replace bw : Below w.heap.size w W11 := eW11 ▸ bw.trans (low_setRow _ (by omega))
  have hK : ∀ u, Below W11.heap.size W11 u → row u (v2.heap.size) = ci x ∧ row u (v7.heap.size) = ci x ∧ row u (W3.heap.size) = cg r ∧ row u (W8.heap.size) = cg r ∧ row u (w.heap.size) = cg m := fun u h => ⟨(hI7.stays h).facts.1, (hI11.stays h).facts.1, (hM8.stays h).facts.1, (hM12.stays h).facts.1, (hM.stays h).facts.1⟩
  have heq : eqIns x x = true := Rc.eqIns_refl x
  go_wp2
  clear fI11_plain_W9 fM12_plain_W10
  refine Rg.region (by kernel_rfl) (by kernel_rfl) (by kernel_rfl) (fun _ _ d _ _ h => by cases d <;> exact h) _ rfl ?_
  repeat (first | (refine Rg.Seq.skip (by rfl) ?_; simp only [Act.put, List.setIfInBounds_toArray, List.set_cons_zero, List.set_cons_succ]) | (refine Rg.Seq.pure (v := ?_) (by rfl) ?_ ?_; rotate_left; (intro w_ hS_; have hk_ := hK w_ hS_; go_simp <;> with_reducible rfl); simp only [Act.put, List.setIfInBounds_toArray, List.set_cons_zero, List.set_cons_succ]) | (refine Rg.Seq.call (v := ?_) (f := ?_) (args := ?_) (by rfl) ?_ ?_ ?_; rotate_left 3; (intro w_ hS_; have hk_ := hK w_ hS_; go_simp <;> first | with_reducible rfl | (constructor <;> with_reducible rfl)); (intro w_ hS_; first | (go_at_call 11; refine (settled_is HSt _).mono ?_; rintro e w_ ⟨rfl, hb_⟩; refine ⟨?_, nx hS_ hb_⟩; with_reducible rfl) | (go_at_call 12; refine (rSettled_is HSt _).mono ?_; rintro e w_ ⟨rfl, hb_⟩; refine ⟨?_, nx hS_ hb_⟩; with_reducible rfl) | (go_at_call 13; refine (stale_is HSl _).mono ?_; rintro e w_ ⟨rfl, hb_⟩; refine ⟨?_, nx hS_ hb_⟩; with_reducible rfl) | (go_at_call 14; refine (rStale_is HSl _).mono ?_; rintro e w_ ⟨rfl, hb_⟩; refine ⟨?_, nx hS_ hb_⟩; with_reducible rfl) | (go_at_call 8; refine (awake_any _).mono ?_; rintro e w_ ⟨rfl, hb_⟩; refine ⟨?_, nx hS_ hb_⟩; with_reducible rfl)); simp only [Act.put, List.setIfInBounds_toArray, List.set_cons_zero, List.set_cons_succ]))
  intro w9 hb9
  go_wp2
  go_ret
  exact ⟨rfl, nx bw hb9⟩
end Go.Proofs.Ytmaecknjamnnpaa.An
