/- Layer 19: the document's own Settled, Stale, back, pre. -/
import Derived.Test.YtmaecknjamnnpaaAnF
import Derived.Test.YtmaecknjamnnpaaAnG
namespace Go.Proofs.Ytmaecknjamnnpaa.An
open Go.RowKit
set_option linter.unusedVariables false
open Go.Proofs.Ytmaecknjamnnpaa.Rw
open Go.Proofs.Ytmaecknjamnnpaa.Bv
open Go.Proofs.Ytmaecknjamnnpaa.In
open Go.Proofs.Ytmaecknjamnnpaa.St
open Go.Proofs.Ytmaecknjamnnpaa.Rc (Ins ci cv zeroI okI eqVal)
open Go.Proofs.Ytmaecknjamnnpaa.Ba (lessB latN latR)
open Go.Proofs.Ytmaecknjamnnpaa.Ve (zeroV maxV)
set_option maxHeartbeats 800000 in
theorem rSettled_any (i : Ins) (w : World) :
    Calls Try.prog 12 #[.agg (ci i)] w fun e w' => e = .returned (.bool (i.st == 3)) ∧ Below w.heap.size w w' := by
  go_enter Try.func12, Try.ntmps12
  go_wp2
  go_ret
  exact ⟨rfl, below1 _ _⟩
theorem rSettled_is {i : Ins} {b : Bool} (H : Hid ((i.st == 3) = b)) (w : World) :
    Calls Try.prog 12 #[.agg (ci i)] w fun e w' => e = .returned (.bool b) ∧ Below w.heap.size w w' := by
  rw [← H.out]; exact rSettled_any i w
set_option maxHeartbeats 800000 in
theorem rStale_any (i : Ins) (a b : Int) (w : World) :
    Calls Try.prog 14 #[.agg (ci i), .agg #[.int .i64 a, .int .i64 b]] w fun e w' => e = .returned (.bool (staleB i a b)) ∧ Below w.heap.size w w' := by
  obtain ⟨x, hx⟩ : ∃ x, staleB i a b = x := ⟨_, rfl⟩
  rw [hx]
  have H : lessB a b i.bn i.br = x := hx
  have HH := Lib.hid H
  clear hx H
  go_enter Try.func14, Try.ntmps14
  go_wp2_with fail
  refine (Rc.rLess_is HH _).mono ?_
  rintro e w1 ⟨rfl, hb1⟩
  go_wp2
  go_ret
  exact ⟨rfl, nx (below2 _ _ _) hb1⟩
theorem rStale_is {i : Ins} {a b : Int} {x : Bool} (H : Hid (staleB i a b = x)) (w : World) :
    Calls Try.prog 14 #[.agg (ci i), .agg #[.int .i64 a, .int .i64 b]] w fun e w' => e = .returned (.bool x) ∧ Below w.heap.size w w' := by
  rw [← H.out]; exact rStale_any i a b w
def backM (m : Msg) (k : Int) (i : Ins) : Msg := ⟨k, m.t, m.f, m.pr, m.ps, m.bn, m.br, i.c, i.q, i.d, i.st, i.tn, i.tr, i.sm⟩
theorem resp_back {m : Msg} {k : Int} {i : Ins} (h : k ≠ 8) : respM m k i = backM m k i := if_neg h
set_option maxRecDepth 8000 in
set_option maxHeartbeats 4000000 in
theorem back_any (m : Msg) (k : Int) (i : Ins) (w : World) :
    Calls Try.prog 31 #[.agg (cg m), .int .i64 k, .agg (ci i)] w fun e w' => e = .returned (.agg (cg (backM m k i))) ∧ Below w.heap.size w w' := by
  obtain ⟨W1, eW1⟩ : ∃ Q_ : World, w.alloc (.cells (cg m) 34) = Q_ := ⟨_, rfl⟩
  have bW1 : Below w.heap.size w W1 := eW1 ▸ below1 _ _
  have hM : Gx W1 w.heap.size m := ⟨eW1 ▸ Bx.new _ _ _⟩
  have lW1 : w.heap.size < W1.heap.size := hM.bx.lt
  have bw : Below w.heap.size w W1 := bW1
  obtain ⟨W2, eW2⟩ : ∃ Q_ : World, W1.alloc (.cells (ci i) 37) = Q_ := ⟨_, rfl⟩
  have bW2 : Below W1.heap.size W1 W2 := eW2 ▸ below1 _ _
  replace hM := hM.stays bW2
  have hI : Ix W2 W1.heap.size i := ⟨eW2 ▸ Bx.new _ _ _⟩
  have lW2 : W1.heap.size < W2.heap.size := hI.bx.lt
  replace bw := nx bw bW2
  obtain ⟨W3, eW3⟩ : ∃ Q_ : World, W2.alloc (.cells (cg zeroM) 34) = Q_ := ⟨_, rfl⟩
  have bW3 : Below W2.heap.size W2 W3 := eW3 ▸ below1 _ _
  replace hM := hM.stays bW3
  replace hI := hI.stays bW3
  have hR : Gx W3 W2.heap.size zeroM := ⟨eW3 ▸ Bx.new _ _ _⟩
  have lW3 : W2.heap.size < W3.heap.size := hR.bx.lt
  replace bw := nx bw bW3
  obtain ⟨fM_row_W3, -, fM_c1_W3, fM_c2_W3, -, -, -, -, -⟩ := hM.facts
  obtain ⟨fI_row_W3, fI_c6_W3, -, fI_c24_W3, -, -⟩ := hI.facts
  obtain ⟨-, -, -, -, -, -, -, fR_plain_W3, -⟩ := hR.facts
  obtain ⟨r, hr⟩ : ∃ r, backM m k i = r := ⟨_, rfl⟩
  have HR : Hid (cg ⟨k, m.t, m.f, m.pr, m.ps, m.bn, m.br, i.c, i.q, i.d, i.st, i.tn, i.tr, i.sm⟩ = cg r) := Lib.hid (by rw [← hr]; rfl)
  rw [hr]
  clear hr
  have hcg := HR.out
  go_enter Try.func31, Try.ntmps31
  go_wp2
  exact bodyPost_ret (v := .agg (cg r)) (ret_G Try.results31 _ _ r (by first | exact (hR.bx.put _).row | (rw [← hcg]; exact (hR.bx.put _).row))) rfl ⟨rfl, bw.trans (low_setRow _ (by omega))⟩
theorem back_is {m : Msg} {k : Int} {i : Ins} {r : Msg} (H : Hid (backM m k i = r)) (w : World) :
    Calls Try.prog 31 #[.agg (cg m), .int .i64 k, .agg (ci i)] w fun e w' => e = .returned (.agg (cg r)) ∧ Below w.heap.size w w' := by
  rw [← H.out]; exact back_any m k i w
theorem rMax_isH {a b c : Nat → Int} (h : Hid (maxV a b = c)) (w : World) :
    Calls Try.prog 50 #[.agg (Ve.fc a), .agg (Ve.fc b)] w fun e w' => e = .returned (.agg (Ve.fc c)) ∧ Below w.heap.size w w' := by
  rw [← h.out]; exact Ve.rMax_any a b w
theorem rLater_isH {a b c d x y : Int} (h : Hid (latN a b c d = x ∧ latR a b c d = y)) (w : World) :
    Calls Try.prog 30 #[.agg #[.int .i64 a, .int .i64 b], .agg #[.int .i64 c, .int .i64 d]] w fun e w' => e = .returned (.agg #[.int .i64 x, .int .i64 y]) ∧ Below w.heap.size w w' := by
  rw [← h.out.1, ← h.out.2]; exact Ba.rLater_any a b c d w
set_option maxRecDepth 8000 in
set_option maxHeartbeats 16000000 in
theorem pre_any (q : Nat) (l : List Ins) (v : Value) (i : Ins) (m : Msg) (w : World) (h : TI q l v w) (hm : l.length ≤ 1000000) {x : Ins} {c : Int} {r : Msg} (H : Hid (propR l i m = (x, c))) (H2 : Hid ((if c = 0 then zeroM else backM m c x) = r)) :
    Calls Try.prog 32 #[v, .agg (ci i), .agg (cg m)] w fun e w' => e = .returned (.tuple #[.agg (ci x), .agg (cg r), .bool (c != 0)]) ∧ Below w.heap.size w w' := by
  have HT := Lib.hid h
  clear h
  obtain ⟨W1, eW1⟩ : ∃ Q_ : World, w.alloc (.cells (ci i) 37) = Q_ := ⟨_, rfl⟩
  have bW1 : Below w.heap.size w W1 := eW1 ▸ below1 _ _
  have hI : Ix W1 w.heap.size i := ⟨eW1 ▸ Bx.new _ _ _⟩
  have lW1 : w.heap.size < W1.heap.size := hI.bx.lt
  have bw : Below w.heap.size w W1 := bW1
  obtain ⟨W2, eW2⟩ : ∃ Q_ : World, W1.alloc (.cells (cg m) 34) = Q_ := ⟨_, rfl⟩
  have bW2 : Below W1.heap.size W1 W2 := eW2 ▸ below1 _ _
  replace hI := hI.stays bW2
  have hM : Gx W2 W1.heap.size m := ⟨eW2 ▸ Bx.new _ _ _⟩
  have lW2 : W1.heap.size < W2.heap.size := hM.bx.lt
  replace bw := nx bw bW2
  obtain ⟨W3, eW3⟩ : ∃ Q_ : World, W2.alloc (.cells (ci zeroI) 37) = Q_ := ⟨_, rfl⟩
  have bW3 : Below W2.heap.size W2 W3 := eW3 ▸ below1 _ _
  replace hI := hI.stays bW3
  replace hM := hM.stays bW3
  have hR6 : Ix W3 W2.heap.size zeroI := ⟨eW3 ▸ Bx.new _ _ _⟩
  have lW3 : W2.heap.size < W3.heap.size := hR6.bx.lt
  replace bw := nx bw bW3
  obtain ⟨W4, eW4⟩ : ∃ Q_ : World, W3.alloc (.cells (cg zeroM) 34) = Q_ := ⟨_, rfl⟩
  have bW4 : Below W3.heap.size W3 W4 := eW4 ▸ below1 _ _
  replace hI := hI.stays bW4
  replace hM := hM.stays bW4
  replace hR6 := hR6.stays bW4
  have hR7 : Gx W4 W3.heap.size zeroM := ⟨eW4 ▸ Bx.new _ _ _⟩
  have lW4 : W3.heap.size < W4.heap.size := hR7.bx.lt
  replace bw := nx bw bW4
  obtain ⟨y, hy⟩ : ∃ y, againB i m = y := ⟨_, rfl⟩
  have HY := Lib.hid hy
  have hye : ((i.tn == m.bn) && (i.tr == m.br)) = y := hy
  obtain ⟨t, ht⟩ : ∃ t, i.st = t := ⟨_, rfl⟩
  have HS0 := Lib.hid ht
  clear hy
  obtain ⟨fI_row_W4, fI_c6_W4, -, -, -, -⟩ := hI.facts
  obtain ⟨fM_row_W4, -, -, -, -, -, -, -, -⟩ := hM.facts
  rw [ht] at fI_c6_W4
  clear ht
  by_cases ha : y = true ∧ 1 < t
  · obtain ⟨rfl, ht1⟩ := ha
    have HE : Hid (x = i ∧ c = 0) := Lib.hid (by
      have := H.out
      unfold propR at this
      rw [if_neg (by rw [HS0.out]; omega), if_pos ⟨HY.out, by rw [HS0.out]; exact ht1⟩] at this
      injection this with a1 a2
      exact ⟨a1.symm, a2.symm⟩)
    obtain ⟨rfl, rfl⟩ := HE.out
    have HE2 : Hid (zeroM = r) := Lib.hid (by rw [← H2.out]; rfl)
    obtain rfl := HE2.out
    have e1 : decide (t > 1) = true := decide_eq_true (by omega)
    obtain ⟨-, -, -, -, fR6_plain_W4, -⟩ := hR6.facts
    obtain ⟨W5, eW5⟩ : ∃ Q_ : World, W4.setRow (W2.heap.size) (ci (x)) = Q_ := ⟨_, rfl⟩
    replace hI : Ix W5 (w.heap.size) (x) := ⟨eW5 ▸ hI.bx.put' (by omega) _⟩
    replace hM : Gx W5 (W1.heap.size) (m) := ⟨eW5 ▸ hM.bx.put' (by omega) _⟩
    replace hR7 : Gx W5 (W3.heap.size) (zeroM) := ⟨eW5 ▸ hR7.bx.put' (by omega) _⟩
    replace hR6 : Ix W5 (W2.heap.size) (x) := ⟨eW5 ▸ hR6.bx.put _⟩
    have lW5 : W4.heap.size ≤ W5.heap.size := eW5 ▸ (low_setRow (n := 0) _ (Nat.zero_le _)).size
    replace bw : Below w.heap.size w W5 := eW5 ▸ bw.trans (low_setRow _ (by omega))
    obtain ⟨-, -, -, -, -, -, -, fR7_plain_W5, -⟩ := hR7.facts
    go_enter Try.func32, Try.ntmps32
    go_wp2
    exact bodyPost_ret (v := .tuple #[.agg (ci x), .agg (cg zeroM), .bool false]) (ret_IG3 Try.results32 _ _ x zeroM (hR6.bx.put' (by omega) _).row (hR7.bx.put _).row) rfl ⟨rfl, bw.trans (low_setRow _ (by omega))⟩
  by_cases hb : y = true ∧ t = 1
  · obtain ⟨rfl, rfl⟩ := hb
    have HE : Hid (x = i ∧ c = 2) := Lib.hid (by
      have := H.out
      unfold propR at this
      rw [if_pos ⟨HY.out, HS0.out⟩] at this
      injection this with a1 a2
      exact ⟨a1.symm, a2.symm⟩)
    obtain ⟨rfl, rfl⟩ := HE.out
    have HB : Hid (backM m 2 x = r) := Lib.hid (by rw [← H2.out]; rfl)
    clear ha
    go_enter Try.func32, Try.ntmps32
    have HS : Hid (SH w m x (W1.heap.size) (w.heap.size) W4) := Lib.hid ⟨bw, hM, hI⟩
    have HI := Lib.hid hR6
    have HO := Lib.hid hR7
    have hK : ∀ u, SH w m x (W1.heap.size) (w.heap.size) u → row u (W1.heap.size) = cg m ∧ row u (w.heap.size) = ci x := fun u h => ⟨h.gm.facts.1, h.ii.facts.1⟩
    have HKk := Lib.hid hK
    clear hK
    go_wp2
    refine Rh.region (SH w m x (W1.heap.size) (w.heap.size)) (fun u => Ix u (W2.heap.size) zeroI ∧ Gx u (W3.heap.size) zeroM) (fun _ _ h k => h.stays k) (fun _ _ h k => ⟨h.1.stays k, h.2.stays k⟩) (HS.out.stays (Below.refl _ _).drew) (⟨HI.out.stays (Below.refl _ _).drew, HO.out.stays (Below.refl _ _).drew⟩) [0, 1, 2, 3, 4, 5, 6] (by kernel_rfl) (by kernel_rfl) (by kernel_rfl) (fun _ _ d _ _ h => by cases d <;> exact h) ?_
    repeat (first | (refine Rh.Steps.skip (by rfl) (by kernel_rfl) (by rfl) ?_; simp only [Act.put, List.setIfInBounds_toArray, List.set_cons_zero, List.set_cons_succ]) | (refine Rh.Steps.pure (v := ?_) (by rfl) (by kernel_rfl) (by rfl) ?_ ?_; rotate_left; (intro w_ hS_; have hk_ := HKk.out w_ hS_; go_simp <;> with_reducible rfl); simp only [Act.put, List.setIfInBounds_toArray, List.set_cons_zero, List.set_cons_succ]) | (refine Rh.Steps.call (v := ?_) (f := ?_) (args := ?_) (by rfl) (by kernel_rfl) (by rfl) ?_ ?_ ?_; rotate_left 3; (intro w_ hS_; have hk_ := HKk.out w_ hS_; go_simp <;> first | with_reducible rfl | (constructor <;> with_reducible rfl)); (intro w_ hS_; have hk_ := HKk.out w_ hS_; first | (go_at_call 31; refine (back_is HB _).mono ?_; first | (rintro e w_ ⟨rfl, rfl⟩; refine ⟨?_, Below.refl _ _⟩; with_reducible rfl) | (rintro e w_ ⟨rfl, hb_⟩; refine ⟨?_, hb_⟩; with_reducible rfl))); simp only [Act.put, List.setIfInBounds_toArray, List.set_cons_zero, List.set_cons_succ]))
    refine Rh.Steps.forced (i := 4) (by kernel_rfl) ?_
    refine Rh.One.store (fun u => Ix u (W2.heap.size) x ∧ Gx u (W3.heap.size) zeroM) (fun _ _ h k => ⟨h.1.stays k, h.2.stays k⟩) (by rfl) (by rfl) ?_ ?_
    · intro w_ hS_ hG_
      obtain ⟨-, -, -, -, p3, -⟩ := hG_.1.facts
      refine ⟨_, ?_, hS_.put (b := W2.heap.size) (by omega) (by omega) (by omega) (ci x), ⟨hG_.1.bx.put _⟩, ⟨hG_.2.bx.put' (by omega) _⟩⟩
      go_simp
    simp only [Act.put]
    refine Rh.Steps.forced (i := 5) (by kernel_rfl) ?_
    refine Rh.One.store (fun u => Ix u (W2.heap.size) x ∧ Gx u (W3.heap.size) r) (fun _ _ h k => ⟨h.1.stays k, h.2.stays k⟩) (by rfl) (by rfl) ?_ ?_
    · intro w_ hS_ hG_
      obtain ⟨-, -, -, -, -, -, -, p4, -⟩ := hG_.2.facts
      refine ⟨_, ?_, hS_.put (b := W3.heap.size) (by omega) (by omega) (by omega) (cg r), ⟨hG_.1.bx.put' (by omega) _⟩, ⟨hG_.2.bx.put _⟩⟩
      go_simp
    simp only [Act.put]
    repeat (first | (refine Rh.Steps.skip (by rfl) (by kernel_rfl) (by rfl) ?_; simp only [Act.put, List.setIfInBounds_toArray, List.set_cons_zero, List.set_cons_succ]) | (refine Rh.Steps.pure (v := ?_) (by rfl) (by kernel_rfl) (by rfl) ?_ ?_; rotate_left; (intro w_ hS_; have hk_ := HKk.out w_ hS_; go_simp <;> with_reducible rfl); simp only [Act.put, List.setIfInBounds_toArray, List.set_cons_zero, List.set_cons_succ]))
    refine Rh.Steps.nil (by kernel_rfl) ?_
    intro u hS hG
    have hbu := hS.bw
    obtain ⟨hx, hr⟩ := hG
    clear hS
    go_wp2
    exact bodyPost_ret (v := .tuple #[.agg (ci x), .agg (cg r), .bool true]) (ret_IG3 Try.results32 _ _ x r hx.bx.row hr.bx.row) rfl ⟨rfl, hbu⟩
  obtain ⟨dn, hdn⟩ : ∃ g, depN l m.c m.pr m.ps = g := ⟨_, rfl⟩
  obtain ⟨dv, hdv⟩ : ∃ g, depV l m.c m.pr m.ps = g := ⟨_, rfl⟩
  obtain ⟨mq, hmq⟩ : ∃ g, m.q = g := ⟨_, rfl⟩
  obtain ⟨u1, hu1⟩ : ∃ g, (if dn < mq then mq else dn) = g := ⟨_, rfl⟩
  obtain ⟨z, hz⟩ : ∃ g, maxV dv m.d = g := ⟨_, rfl⟩
  have HZ := Lib.hid hz
  obtain ⟨b, hbb⟩ : ∃ b, eqVal m.c u1 z m.c mq m.d = b := ⟨_, rfl⟩
  have HE : Hid (x = ⟨m.pr, m.ps, m.bn, m.br, m.bn, m.br, 1, m.c, u1, z, b⟩ ∧ c = 2) := Lib.hid (by
    have := H.out
    unfold propR at this
    rw [if_neg (by rw [HY.out, HS0.out]; exact hb), if_neg (by rw [HY.out, HS0.out]; exact ha)] at this
    injection this with a1 a2
    refine ⟨?_, a2.symm⟩
    have e1 : newQ l m = u1 := by unfold newQ; rw [hdn, hmq, ← hu1]; split <;> omega
    have e2 : newD l m = z := by unfold newD; rw [hdv, Ve.max_comm, hz]
    rw [← a1]
    unfold propI
    rw [e1, e2, same_val, hmq, hbb])
  have HX : Hid (ci ⟨m.pr, m.ps, m.bn, m.br, m.bn, m.br, 1, m.c, u1, z, b⟩ = ci x) := Lib.hid (by rw [HE.out.1])
  have HC := Lib.hid HE.out.2
  obtain rfl := HC.out
  have HB : Hid (backM m 2 x = r) := Lib.hid (by rw [← H2.out]; rfl)
  have hor : y = false ∨ y = true ∧ (t == 1) = false ∧ decide (t > 1) = false := by
    cases y with
    | false => exact .inl rfl
    | true =>
      have h1 : ¬ t = 1 := fun e => hb ⟨rfl, e⟩
      have h2 : ¬ 1 < t := fun e => ha ⟨rfl, e⟩
      exact .inr ⟨rfl, by simpa using h1, decide_eq_false (by omega)⟩
  have HDn := Lib.hid hdn
  have HDv := Lib.hid hdv
  have HMq := Lib.hid hmq
  have HU1 := Lib.hid hu1
  have HBB := Lib.hid hbb
  have hdep := rDepends_any q l v m.c m.pr m.ps W4 (HT.out.stays bw) hm
  rw [HDn.out, HDv.out] at hdep
  have HDep := Lib.hid hdep
  clear hdn hdv hmq hu1 hz hbb ha hb hdep HE
  rcases hor with rfl | ⟨rfl, e1, e2⟩
  all_goals
    go_enter Try.func32, Try.ntmps32
    go_wp2_with fail
    refine (HDep.out).mono ?_
    rintro e v5 ⟨rfl, bv5⟩
    clear fI_row_W4 fI_c6_W4 fM_row_W4
    replace hI := hI.stays bv5
    replace hM := hM.stays bv5
    replace hR6 := hR6.stays bv5
    replace hR7 := hR7.stays bv5
    have lv5 : W4.heap.size ≤ v5.heap.size := bv5.size
    replace bw := nx bw bv5
    obtain ⟨D, hD⟩ : ∃ Q_ : World, (v5.alloc (.cells (Ve.fc zeroV) 30)).setRow v5.heap.size (Ve.fc dv) = Q_ := ⟨_, rfl⟩
    have dD : Bx D v5.heap.size (Ve.fc dv) 30 := hD ▸ Bx.put (Bx.new _ _ _) _
    have bD : Below v5.heap.size v5 D := hD ▸ below_setRow (below1 _ _) (Nat.le_refl _) _
    have dp := bx_vplain (Bx.new v5 (Ve.fc zeroV) 30) (Ve.fc_size _)
    replace hI := hI.stays bD
    replace hM := hM.stays bD
    replace hR6 := hR6.stays bD
    replace hR7 := hR7.stays bD
    have lD : v5.heap.size < D.heap.size := dD.lt
    replace bw := nx bw bD
    have HMD := Lib.hid hM
    have HDD := Lib.hid dD
    have hK6 : ∀ u, Below D.heap.size D u → row u (W1.heap.size) = cg m ∧ u.cell? ⟨W1.heap.size, 16, none⟩ = some (.int .i64 mq) ∧ Ve.row u v5.heap.size = Ve.fc dv := fun u h => ⟨(HMD.out.stays h).facts.1, by rw [← HMq.out]; exact (HMD.out.stays h).facts.2.2.2.2.1, bx_vrow (HDD.out.stays h)⟩
    have HK6 := Lib.hid hK6
    have hu1 := HU1.out
    clear hK6
    go_wp2
    refine Rh.region (fun u => Below D.heap.size D u) (fun _ => True) (fun _ _ h k => nx h k) (fun _ _ _ _ => trivial) ((Below.refl _ _).drew) (trivial) [0, 1, 2, 3, 4, 5, 6, 7, 8, 9, 10, 11, 12, 13, 14, 15] (by kernel_rfl) (by kernel_rfl) (by kernel_rfl) (fun _ _ d _ _ h => by cases d <;> exact h) ?_
    repeat (first | (refine Rh.Steps.skip (by rfl) (by kernel_rfl) (by rfl) ?_; simp only [Act.put, List.setIfInBounds_toArray, List.set_cons_zero, List.set_cons_succ]) | (refine Rh.Steps.pure (v := ?_) (by rfl) (by kernel_rfl) (by rfl) ?_ ?_; rotate_left; (intro w_ hS_; have hk_ := HK6.out w_ hS_; go_simp <;> with_reducible rfl); simp only [Act.put, List.setIfInBounds_toArray, List.set_cons_zero, List.set_cons_succ]) | (refine Rh.Steps.call (v := ?_) (f := ?_) (args := ?_) (by rfl) (by kernel_rfl) (by rfl) ?_ ?_ ?_; rotate_left 3; (intro w_ hS_; have hk_ := HK6.out w_ hS_; go_simp <;> first | with_reducible rfl | (constructor <;> with_reducible rfl)); (intro w_ hS_; have hk_ := HK6.out w_ hS_; first | (go_at_call 50; refine (rMax_isH HZ _).mono ?_; first | (rintro e w_ ⟨rfl, rfl⟩; refine ⟨?_, Below.refl _ _⟩; with_reducible rfl) | (rintro e w_ ⟨rfl, hb_⟩; refine ⟨?_, hb_⟩; with_reducible rfl))); simp only [Act.put, List.setIfInBounds_toArray, List.set_cons_zero, List.set_cons_succ]))
    refine Rh.Steps.forced (i := 14) (by kernel_rfl) ?_
    refine Rh.One.val (fun v u => ∃ b1 : Nat, v = .pointer (some ⟨b1, 0, none⟩) ∧ D.heap.size ≤ b1 ∧ Bx u b1 (cv Cm.zeroF 0 Ve.zeroV) 32) (fun v w1 w2 ⟨b1, h1, h2, h3⟩ k => ⟨b1, h1, h2, h3.stays k⟩) (by rfl) (by rfl) ?_ ?_
    · intro w_ hS_ hG_
      refine ⟨_, _, ?_, below1 _ _, w_.heap.size, rfl, hS_.size, Bx.new _ _ _⟩
      go_simp
    intro v14 u14 hv14
    obtain ⟨b1, rfl, hb1, -⟩ := hv14
    simp only [Act.put, List.setIfInBounds_toArray, List.set_cons_zero, List.set_cons_succ]
    refine Rh.Steps.forced (i := 15) (by kernel_rfl) ?_
    refine Rh.One.store (fun u => Bx u b1 (cv m.c u1 z) 32) (fun _ _ h k => h.stays k) (by rfl) (by rfl) ?_ ?_
    · intro w_ hS_ hG_
      obtain ⟨-, b2, e2, -, hbx⟩ := hG_
      injection e2 with e2; injection e2 with e2; injection e2 with e2
      subst e2
      have p3 := hbx.plain (n := 17) rfl
      refine ⟨_, ?_, hS_.trans (low_setRow _ hb1), hbx.put (cv m.c u1 z)⟩
      go_simp
    simp only [Act.put]
    refine Rh.Steps.nil (by kernel_rfl) ?_
    intro u6 hS6 hG6
    have hlv := hG6.lt
    have HM6 := Lib.hid (HMD.out.stays hS6)
    have HG6 := Lib.hid hG6
    have hK7 : ∀ u, Below u6.heap.size u6 u → row u (W1.heap.size) = cg m ∧ row u b1 = cv m.c u1 z := fun u h => ⟨(HM6.out.stays h).facts.1, (HG6.out.stays h).row⟩
    have HK7 := Lib.hid hK7
    have hbb : eqVal m.c u1 z m.c m.q m.d = b := by rw [HMq.out]; exact HBB.out
    have hci := HX.out
    clear hK7 hG6
    go_wp2
    refine Rh.region (fun u => Below u6.heap.size u6 u) (fun _ => True) (fun _ _ h k => nx h k) (fun _ _ _ _ => trivial) ((Below.refl _ _).drew) (trivial) [0, 1, 2, 3, 4, 5, 6, 7, 8, 9, 10, 11, 12, 13] (by kernel_rfl) (by kernel_rfl) (by kernel_rfl) (fun _ _ d _ _ h => by cases d <;> exact h) ?_
    repeat (first | (refine Rh.Steps.skip (by rfl) (by kernel_rfl) (by rfl) ?_; simp only [Act.put, List.setIfInBounds_toArray, List.set_cons_zero, List.set_cons_succ]) | (refine Rh.Steps.pure (v := ?_) (by rfl) (by kernel_rfl) (by rfl) ?_ ?_; rotate_left; (intro w_ hS_; have hk_ := HK7.out w_ hS_; go_simp <;> with_reducible rfl); simp only [Act.put, List.setIfInBounds_toArray, List.set_cons_zero, List.set_cons_succ]))
    refine Rh.Steps.forced (i := 12) (by kernel_rfl) ?_
    refine Rh.One.val (fun v u => ∃ b3 : Nat, v = .pointer (some ⟨b3, 0, none⟩) ∧ u6.heap.size ≤ b3 ∧ Bx u b3 (ci zeroI) 37) (fun v w1 w2 ⟨b3, h1, h2, h3⟩ k => ⟨b3, h1, h2, h3.stays k⟩) (by rfl) (by rfl) ?_ ?_
    · intro w_ hS_ hG_
      refine ⟨_, _, ?_, below1 _ _, w_.heap.size, rfl, hS_.size, Bx.new _ _ _⟩
      go_simp
    intro v12 u12 hv12
    obtain ⟨b3, rfl, hb3, -⟩ := hv12
    simp only [Act.put, List.setIfInBounds_toArray, List.set_cons_zero, List.set_cons_succ]
    refine Rh.Steps.forced (i := 13) (by kernel_rfl) ?_
    refine Rh.One.store (fun u => Bx u b3 (ci x) 37) (fun _ _ h k => h.stays k) (by rfl) (by rfl) ?_ ?_
    · intro w_ hS_ hG_
      obtain ⟨-, b2, e2, -, hbx⟩ := hG_
      injection e2 with e2; injection e2 with e2; injection e2 with e2
      subst e2
      have p3 := hbx.plain (n := 25) rfl
      refine ⟨_, ?_, hS_.trans (low_setRow _ hb3), hbx.put (ci x)⟩
      go_simp
    simp only [Act.put]
    refine Rh.Steps.nil (by kernel_rfl) ?_
    intro u7 hS7 hG7
    have hS7b : Below D.heap.size D u7 := nx hS6 hS7
    have hsz6 := hS6.size
    have hsz7 := hS7.size
    replace bw := nx bw hS7b
    replace hM := hM.stays hS7b
    replace hR6 := hR6.stays hS7b
    replace hR7 := hR7.stays hS7b
    have hX : Ix u7 b3 x := ⟨hG7⟩
    clear hS7b hG7 hbb hu1
    have HS : Hid (SH w m x (W1.heap.size) (b3) u7) := Lib.hid ⟨bw, hM, hX⟩
    have HI := Lib.hid hR6
    have HO := Lib.hid hR7
    have hK : ∀ u, SH w m x (W1.heap.size) (b3) u → row u (W1.heap.size) = cg m ∧ row u (b3) = ci x := fun u h => ⟨h.gm.facts.1, h.ii.facts.1⟩
    have HKk := Lib.hid hK
    clear hK
    go_wp2
    refine Rh.region (SH w m x (W1.heap.size) (b3)) (fun u => Ix u (W2.heap.size) zeroI ∧ Gx u (W3.heap.size) zeroM) (fun _ _ h k => h.stays k) (fun _ _ h k => ⟨h.1.stays k, h.2.stays k⟩) (HS.out.stays (Below.refl _ _).drew) (⟨HI.out.stays (Below.refl _ _).drew, HO.out.stays (Below.refl _ _).drew⟩) [0, 1, 2, 3, 4, 5, 6] (by kernel_rfl) (by kernel_rfl) (by kernel_rfl) (fun _ _ d _ _ h => by cases d <;> exact h) ?_
    repeat (first | (refine Rh.Steps.skip (by rfl) (by kernel_rfl) (by rfl) ?_; simp only [Act.put, List.setIfInBounds_toArray, List.set_cons_zero, List.set_cons_succ]) | (refine Rh.Steps.pure (v := ?_) (by rfl) (by kernel_rfl) (by rfl) ?_ ?_; rotate_left; (intro w_ hS_; have hk_ := HKk.out w_ hS_; go_simp <;> with_reducible rfl); simp only [Act.put, List.setIfInBounds_toArray, List.set_cons_zero, List.set_cons_succ]) | (refine Rh.Steps.call (v := ?_) (f := ?_) (args := ?_) (by rfl) (by kernel_rfl) (by rfl) ?_ ?_ ?_; rotate_left 3; (intro w_ hS_; have hk_ := HKk.out w_ hS_; go_simp <;> first | with_reducible rfl | (constructor <;> with_reducible rfl)); (intro w_ hS_; have hk_ := HKk.out w_ hS_; first | (go_at_call 31; refine (back_is HB _).mono ?_; first | (rintro e w_ ⟨rfl, rfl⟩; refine ⟨?_, Below.refl _ _⟩; with_reducible rfl) | (rintro e w_ ⟨rfl, hb_⟩; refine ⟨?_, hb_⟩; with_reducible rfl))); simp only [Act.put, List.setIfInBounds_toArray, List.set_cons_zero, List.set_cons_succ]))
    refine Rh.Steps.forced (i := 4) (by kernel_rfl) ?_
    refine Rh.One.store (fun u => Ix u (W2.heap.size) x ∧ Gx u (W3.heap.size) zeroM) (fun _ _ h k => ⟨h.1.stays k, h.2.stays k⟩) (by rfl) (by rfl) ?_ ?_
    · intro w_ hS_ hG_
      obtain ⟨-, -, -, -, p3, -⟩ := hG_.1.facts
      refine ⟨_, ?_, hS_.put (b := W2.heap.size) (by omega) (by omega) (by omega) (ci x), ⟨hG_.1.bx.put _⟩, ⟨hG_.2.bx.put' (by omega) _⟩⟩
      go_simp
    simp only [Act.put]
    refine Rh.Steps.forced (i := 5) (by kernel_rfl) ?_
    refine Rh.One.store (fun u => Ix u (W2.heap.size) x ∧ Gx u (W3.heap.size) r) (fun _ _ h k => ⟨h.1.stays k, h.2.stays k⟩) (by rfl) (by rfl) ?_ ?_
    · intro w_ hS_ hG_
      obtain ⟨-, -, -, -, -, -, -, p4, -⟩ := hG_.2.facts
      refine ⟨_, ?_, hS_.put (b := W3.heap.size) (by omega) (by omega) (by omega) (cg r), ⟨hG_.1.bx.put' (by omega) _⟩, ⟨hG_.2.bx.put _⟩⟩
      go_simp
    simp only [Act.put]
    repeat (first | (refine Rh.Steps.skip (by rfl) (by kernel_rfl) (by rfl) ?_; simp only [Act.put, List.setIfInBounds_toArray, List.set_cons_zero, List.set_cons_succ]) | (refine Rh.Steps.pure (v := ?_) (by rfl) (by kernel_rfl) (by rfl) ?_ ?_; rotate_left; (intro w_ hS_; have hk_ := HKk.out w_ hS_; go_simp <;> with_reducible rfl); simp only [Act.put, List.setIfInBounds_toArray, List.set_cons_zero, List.set_cons_succ]))
    refine Rh.Steps.nil (by kernel_rfl) ?_
    intro u hS hG
    have hbu := hS.bw
    obtain ⟨hx, hr⟩ := hG
    clear hS
    go_wp2
    exact bodyPost_ret (v := .tuple #[.agg (ci x), .agg (cg r), .bool true]) (ret_IG3 Try.results32 _ _ x r hx.bx.row hr.bx.row) rfl ⟨rfl, hbu⟩
end Go.Proofs.Ytmaecknjamnnpaa.An
