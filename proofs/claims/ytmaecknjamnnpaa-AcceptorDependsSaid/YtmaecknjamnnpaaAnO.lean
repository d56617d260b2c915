/- AcceptorDepends. -/
import Derived.Test.YtmaecknjamnnpaaAnK
import Derived.Test.YtmaecknjamnnpaaAnN
import Derived.Test.YtmaecknjamnnpaaVeC
namespace Go.Proofs.Ytmaecknjamnnpaa.An
open Go.RowKit
set_option linter.unusedVariables false
open Go.Proofs.Ytmaecknjamnnpaa.Rw
open Go.Proofs.Ytmaecknjamnnpaa.Da
open Go.Proofs.Ytmaecknjamnnpaa.Bv
open Go.Proofs.Ytmaecknjamnnpaa.In
open Go.Proofs.Ytmaecknjamnnpaa.St
open Go.Proofs.Ytmaecknjamnnpaa.Rc (Ins ci cv zeroI okI eqVal eqIns)
open Go.Proofs.Ytmaecknjamnnpaa.Cm (meetB eqF)
open Go.Proofs.Ytmaecknjamnnpaa.Ve (zeroV maxV covB undB)
theorem set_gk (m : Msg) (k : Int) : (cg m).setIfInBounds 0 (.int .i64 k) = cg { m with k := k } := rfl
theorem covers_isH {v : Nat → Int} {r s : Int} {x : Bool} (h : Hid (covB v r s = x)) (w : World) :
    Calls Try.prog 21 #[.agg (Ve.fc v), .agg #[.int .i64 r, .int .i64 s]] w fun e w' => e = .returned (.bool x) ∧ Below w.heap.size w w' := Ve.covers_is v r s x h.out w
theorem under_isH {a b : Nat → Int} {x : Bool} (h : Hid (undB a b = x)) (w : World) :
    Calls Try.prog 19 #[.agg (Ve.fc a), .agg (Ve.fc b)] w fun e w' => e = .returned (.bool x) ∧ Below w.heap.size w w' := Ve.under_is a b x h.out w
theorem cov_max {a b : Nat → Int} {r s : Int} (h : covB b r s = true) : covB (maxV a b) r s = true := by
  unfold covB maxV at *
  rw [decide_eq_true_eq] at h ⊢
  omega
theorem dep_way {l : List Ins} {m : Msg} {x : Ins} {r : Msg} (hk : m.k = 1) (h : hearR l 3 m = ⟨x, r, true, 0⟩) (h2 : r.k = 2) (hn : eqIns x (gotI l m.pr m.ps) = false) : x = propI l m ∧ r = respM m 2 (propI l m) := by
  obtain ⟨k, hk0, hr, hc⟩ := says h
  have he := hear_err (l := l) (n := 3) (m := m) (by rw [h])
  rw [hear_ok he.1 he.2] at h
  have hw := way l (gotI l m.pr m.ps) m
  generalize hR : reactR l (gotI l m.pr m.ps) m = R at hw
  obtain ⟨y, k'⟩ := R
  unfold hearOk at h
  rw [hR] at h
  have hne : x ≠ gotI l m.pr m.ps := fun e => by rw [e, Rc.eqIns_refl] at hn; cases hn
  by_cases hk' : k' = 0
  · rw [if_pos hk'] at h; injection h with _ _ h _; cases h
  rw [if_neg hk'] at h
  injection h with h1 h3 _ _
  have h1 : y = x := h1
  subst h1
  simp only at hw
  have rk : ∀ k2 : Int, (respM m k2 y).k = k2 := fun k2 => by
    unfold respM; split
    · rename_i e; exact e.symm
    · rfl
  have hk2 : k' = 2 := by rw [← h2, ← h3]; exact (rk k').symm
  subst hk2
  cases hw with
  | again => exact absurd rfl hne
  | prop => exact ⟨rfl, h3.symm⟩
set_option maxRecDepth 16000 in
set_option maxHeartbeats 16000000 in
theorem walkDepends (l : List Ins) (v : Value) (m : Msg) (w : World) (h : TI w.heap.size l v w) (hwf : l.length ≤ maxLen ∧ capOk v) :
    Calls Try.prog 7 #[v, .agg (cg m)] w fun e w' => e = .returned (.bool true) ∧ Below w.heap.size w w' := by
  obtain ⟨q, hq⟩ : ∃ q, q = w.heap.size := ⟨_, rfl⟩
  rw [← hq] at h
  have hq0 : q ≤ w.heap.size := by omega
  clear hq
  obtain ⟨a1, c1, rfl⟩ := h.len
  obtain ⟨N, hN⟩ : ∃ N, l.length = N := ⟨_, rfl⟩
  have HN := Lib.hid hN
  rw [hN] at h ⊢
  have HT := Lib.hid h
  clear h hN
  obtain ⟨W1, eW1⟩ : ∃ Q_ : World, w.alloc (.cells (cg m) 34) = Q_ := ⟨_, rfl⟩
  have bW1 : Below w.heap.size w W1 := eW1 ▸ below1 _ _
  have hM : Gx W1 w.heap.size m := ⟨eW1 ▸ Bx.new _ _ _⟩
  have lW1 : w.heap.size < W1.heap.size := hM.bx.lt
  have bw : Below w.heap.size w W1 := bW1
  by_cases hlen : 60 < N
  · have hd : decide ((N : Int) > 60) = true := decide_eq_true (by omega)
    go_enter Try.func7, Try.ntmps7
    go_wp2_with fail
    refine (awake_any _).mono ?_
    rintro e w1 ⟨rfl, hb1⟩
    go_wp2
    go_ret
    exact ⟨rfl, nx bw hb1⟩
  have hd : decide ((N : Int) > 60) = false := decide_eq_false (by omega)
  have hm : l.length ≤ 1000000 := by rw [HN.out]; omega
  have Hm := Lib.hid hm
  clear hm
  obtain ⟨rt, hrt⟩ : ∃ g, rightT l 3 = g := ⟨_, rfl⟩
  have HRt := Lib.hid hrt
  clear hrt
  cases rt with
  | false =>
    go_enter Try.func7, Try.ntmps7
    go_wp2_with fail
    refine (In.right_is HRt _ W1 (HT.out.stays bw) Hm.out).mono ?_
    rintro e w1 ⟨rfl, hb1⟩
    go_wp2_with fail
    refine (awake_any _).mono ?_
    rintro e w2 ⟨rfl, hb2⟩
    go_wp2
    go_ret
    exact ⟨rfl, nx (nx bw hb1) hb2⟩
  | true =>
  obtain ⟨m1, hm1⟩ : ∃ m1 : Msg, { m with k := 1 } = m1 := ⟨_, rfl⟩
  have HM1 := Lib.hid hm1
  have HK1 : Hid (m1.k = 1) := Lib.hid (by rw [← hm1])
  obtain ⟨⟨x, r, b, c⟩, hR⟩ : ∃ R, hearR l 3 m1 = R := ⟨_, rfl⟩
  have H := Lib.hid hR
  obtain ⟨g, hg⟩ : ∃ g, gotI l m1.pr m1.ps = g := ⟨_, rfl⟩
  obtain ⟨gb, hgb⟩ : ∃ g, hasI l m1.pr m1.ps = g := ⟨_, rfl⟩
  have HG := Lib.hid (And.intro hg hgb)
  obtain ⟨eq, heq⟩ : ∃ t, eqIns x g = t := ⟨_, rfl⟩
  have HEq := Lib.hid heq
  obtain ⟨rk, hrk⟩ : ∃ t, r.k = t := ⟨_, rfl⟩
  have HRk := Lib.hid hrk
  clear hm1 hR hg hgb heq hrk
  have hor : ((c != 0) = true ∨ ((c != 0) = false ∧ b = false) ∨ ((c != 0) = false ∧ b = true ∧ (rk != 2) = true) ∨ ((c != 0) = false ∧ b = true ∧ (rk != 2) = false ∧ eq = true)) ∨ c = 0 ∧ b = true ∧ rk = 2 ∧ eq = false := by
    by_cases e : c = 0
    · have e1 : (c != 0) = false := by simpa using e
      cases b with
      | false => exact .inl (.inr (.inl ⟨e1, rfl⟩))
      | true =>
        by_cases e2 : rk = 2
        · cases eq with
          | true => exact .inl (.inr (.inr (.inr ⟨e1, rfl, by simpa using e2, rfl⟩)))
          | false => exact .inr ⟨e, rfl, e2, rfl⟩
        · exact .inl (.inr (.inr (.inl ⟨e1, rfl, by simpa using e2⟩)))
    · exact .inl (.inl (by simpa using e))
  rcases hor with hor | ⟨rfl, rfl, rfl, rfl⟩
  · rcases hor with ec | ⟨ec, rfl⟩ | ⟨ec, rfl, e2⟩ | ⟨ec, rfl, e2, rfl⟩
    all_goals
      go_enter Try.func7, Try.ntmps7
      go_wp2_with fail
      refine (In.right_is HRt _ W1 (HT.out.stays bw) Hm.out).mono ?_
      rintro e v2 ⟨rfl, bv2⟩
      replace hM := hM.stays bv2
      have lv2 : W1.heap.size ≤ v2.heap.size := bv2.size
      replace bw := nx bw bv2
      obtain ⟨-, fM_c0_v2, -, -, -, -, -, -, -⟩ := hM.facts
      have zW3 : v2.frozen? ⟨w.heap.size, 0, none⟩ = false := hM.bx.thawed _
      obtain ⟨W3, eW3⟩ : ∃ Q_ : World, v2.setCell ⟨w.heap.size, 0, none⟩ (.int .i64 1) = Q_ := ⟨_, rfl⟩
      replace hM : Gx W3 (w.heap.size) ({ m with k := 1 }) := ⟨by
        have t_ := hM.bx.set 0 (.int .i64 1)
        rw [set_gk] at t_
        exact eW3 ▸ t_⟩
      have lW3 : v2.heap.size ≤ W3.heap.size := eW3 ▸ (low_setCell (n := 0) _ _ (Nat.zero_le _)).size
      replace bw : Below w.heap.size w W3 := eW3 ▸ bw.trans (low_setCell _ _ (by omega))
      rw [HM1.out] at hM
      obtain ⟨fM_row_W3, -, -, -, -, -, -, -, -⟩ := hM.facts
      go_wp2_with fail
      refine (get_is HG _ W3 (HT.out.stays bw) Hm.out).mono ?_
      rintro e v4 ⟨rfl, bv4⟩
      clear fM_c0_v2 fM_row_W3
      replace hM := hM.stays bv4
      have lv4 : W3.heap.size ≤ v4.heap.size := bv4.size
      replace bw := nx bw bv4
      obtain ⟨W5, eW5⟩ : ∃ Q_ : World, (v4.alloc (.cells (ci zeroI) 37)).setRow v4.heap.size (ci g) = Q_ := ⟨_, rfl⟩
      have bW5 : Below v4.heap.size v4 W5 := eW5 ▸ below_setRow (below1 _ _) (Nat.le_refl _) _
      have pW5 := (Bx.new v4 (ci zeroI) 37).plain (n := 25) rfl
      replace hM := hM.stays bW5
      have hI5 : Ix W5 v4.heap.size g := ⟨eW5 ▸ Bx.put (Bx.new _ _ _) _⟩
      have lW5 : v4.heap.size < W5.heap.size := hI5.bx.lt
      replace bw := nx bw bW5
      obtain ⟨fM_row_W5, -, -, -, -, -, -, -, -⟩ := hM.facts
      go_wp2_with fail
      refine (hear_is H _ W5 (HT.out.stays bw) Hm.out).mono ?_
      rintro e v6 ⟨rfl, bv6⟩
      clear fM_row_W5
      replace hM := hM.stays bv6
      replace hI5 := hI5.stays bv6
      have lv6 : W5.heap.size ≤ v6.heap.size := bv6.size
      replace bw := nx bw bv6
      obtain ⟨W7, eW7⟩ : ∃ Q_ : World, v6.alloc (.cells (ci zeroI) 37) = Q_ := ⟨_, rfl⟩
      have bW7 : Below v6.heap.size v6 W7 := eW7 ▸ below1 _ _
      replace hM := hM.stays bW7
      replace hI5 := hI5.stays bW7
      have hI7 : Ix W7 v6.heap.size zeroI := ⟨eW7 ▸ Bx.new _ _ _⟩
      have lW7 : v6.heap.size < W7.heap.size := hI7.bx.lt
      replace bw := nx bw bW7
      obtain ⟨W8, eW8⟩ : ∃ Q_ : World, W7.alloc (.cells (cg zeroM) 34) = Q_ := ⟨_, rfl⟩
      have bW8 : Below W7.heap.size W7 W8 := eW8 ▸ below1 _ _
      replace hM := hM.stays bW8
      replace hI5 := hI5.stays bW8
      replace hI7 := hI7.stays bW8
      have hM8 : Gx W8 W7.heap.size zeroM := ⟨eW8 ▸ Bx.new _ _ _⟩
      have lW8 : W7.heap.size < W8.heap.size := hM8.bx.lt
      replace bw := nx bw bW8
      obtain ⟨-, -, -, -, fI7_plain_W8, -⟩ := hI7.facts
      obtain ⟨W9, eW9⟩ : ∃ Q_ : World, W8.setRow (v6.heap.size) (ci (x)) = Q_ := ⟨_, rfl⟩
      replace hM : Gx W9 (w.heap.size) (m1) := ⟨eW9 ▸ hM.bx.put' (by omega) _⟩
      replace hI5 : Ix W9 (v4.heap.size) (g) := ⟨eW9 ▸ hI5.bx.put' (by omega) _⟩
      replace hM8 : Gx W9 (W7.heap.size) (zeroM) := ⟨eW9 ▸ hM8.bx.put' (by omega) _⟩
      replace hI7 : Ix W9 (v6.heap.size) (x) := ⟨eW9 ▸ hI7.bx.put _⟩
      have lW9 : W8.heap.size ≤ W9.heap.size := eW9 ▸ (low_setRow (n := 0) _ (Nat.zero_le _)).size
      replace bw : Below w.heap.size w W9 := eW9 ▸ bw.trans (low_setRow _ (by omega))
      obtain ⟨-, -, -, -, -, -, -, fM8_plain_W9, -⟩ := hM8.facts
      obtain ⟨W10, eW10⟩ : ∃ Q_ : World, W9.setRow (W7.heap.size) (cg (r)) = Q_ := ⟨_, rfl⟩
      replace hM : Gx W10 (w.heap.size) (m1) := ⟨eW10 ▸ hM.bx.put' (by omega) _⟩
      replace hI5 : Ix W10 (v4.heap.size) (g) := ⟨eW10 ▸ hI5.bx.put' (by omega) _⟩
      replace hI7 : Ix W10 (v6.heap.size) (x) := ⟨eW10 ▸ hI7.bx.put' (by omega) _⟩
      replace hM8 : Gx W10 (W7.heap.size) (r) := ⟨eW10 ▸ hM8.bx.put _⟩
      have lW10 : W9.heap.size ≤ W10.heap.size := eW10 ▸ (low_setRow (n := 0) _ (Nat.zero_le _)).size
      replace bw : Below w.heap.size w W10 := eW10 ▸ bw.trans (low_setRow _ (by omega))
      obtain ⟨-, fM8_c0_W10, -, -, -, -, -, -, -⟩ := hM8.facts
      obtain ⟨fI7_row_W10, -, -, -, -, -⟩ := hI7.facts
      obtain ⟨fI5_row_W10, -, -, -, -, -⟩ := hI5.facts
      rw [HRk.out] at fM8_c0_W10
      have he := HEq.out
      go_wp2_with fail
      refine (awake_any W10).mono ?_
      rintro e v11 ⟨rfl, bv11⟩
      clear fI7_plain_W8 fM8_plain_W9 fM8_c0_W10 fI7_row_W10 fI5_row_W10
      replace hM := hM.stays bv11
      replace hI5 := hI5.stays bv11
      replace hI7 := hI7.stays bv11
      replace hM8 := hM8.stays bv11
      have lv11 : W10.heap.size ≤ v11.heap.size := bv11.size
      replace bw := nx bw bv11
      go_wp2
      go_ret
      exact ⟨rfl, bw⟩
  have hdw := dep_way HK1.out H.out HRk.out (by rw [HG.out.1]; exact HEq.out)
  obtain ⟨nq, hnq⟩ : ∃ t, newQ l m1 = t := ⟨_, rfl⟩
  obtain ⟨nd, hnd⟩ : ∃ t, newD l m1 = t := ⟨_, rfl⟩
  obtain ⟨sm, hsm⟩ : ∃ t, sameV m1.c nq nd m1.c m1.q m1.d = t := ⟨_, rfl⟩
  have hx2 : x = (⟨m1.pr, m1.ps, m1.bn, m1.br, m1.bn, m1.br, 1, m1.c, nq, nd, sm⟩ : Ins) := by rw [hdw.1]; unfold propI; rw [hnq, hnd, hsm]
  have hr2 : r = (⟨2, m1.t, m1.f, m1.pr, m1.ps, m1.bn, m1.br, m1.c, nq, nd, 1, m1.bn, m1.br, sm⟩ : Msg) := by rw [hdw.2]; unfold propI respM; rw [hnq, hnd, hsm]; rfl
  subst hx2 hr2
  have HSm : Hid (eqVal m1.c nq nd m1.c m1.q m1.d = sm) := Lib.hid hsm
  have HU : Hid (undB m1.d nd = true) := Lib.hid (by rw [← hnd]; exact Ve.und_left _ _)
  have hq1 : decide (nq < m1.q) = false := decide_eq_false (by rw [← hnq]; unfold newQ; omega)
  have HQ1 := Lib.hid hq1
  have HCc := Lib.hid (Cm.eqF_refl m1.c)
  have HRt2 := Lib.hid (rightT_iff.1 HRt.out)
  have HDep : Hid (∀ y ∈ l, consB m1.c m1.pr m1.ps y = true → okI y 7 = true → covB nd y.pr y.ps = true ∧ (decide (nq ≤ y.q) = false ∨ decide (nq ≤ y.q) = true ∧ decide (y.q < 1073741824) = false)) := Lib.hid fun y hy hc ho => by
    have h := cov_of hy hc ho
    refine ⟨by rw [← hnd]; exact cov_max h.1, ?_⟩
    have hq : depN l m1.c m1.pr m1.ps ≤ nq := by rw [← hnq]; unfold newQ; omega
    by_cases e : nq ≤ y.q
    · exact .inr ⟨decide_eq_true e, decide_eq_false (by omega)⟩
    · exact .inl (decide_eq_false e)
  have ok7 : ∀ y, okI y 3 = true → okI y 7 = true := fun y hy => by
    obtain ⟨_, b1, b2, b3, b4, b5, b6, b7⟩ := Rc.okI_iff.1 hy
    obtain ⟨v1, v2, v3, v4⟩ := Rc.okV_iff.1 b6
    obtain ⟨_, v5⟩ := Ve.rightB_iff.1 v4
    refine Rc.okI_iff.2 ⟨by omega, ⟨b1.1, by omega, b1.2.2⟩, b2, b3, b4, b5, Rc.okV_iff.2 ⟨v1, v2, v3, Ve.rightB_iff.2 ⟨by omega, fun i hi => ?_⟩⟩, b7⟩
    have := Ve.okAt_iff.1 (v5 i hi)
    exact Ve.okAt_iff.2 ⟨this.1, this.2.1, fun h => by omega⟩
  have HOk7 := Lib.hid ok7
  clear hdw hnq hnd hsm ok7 hq1
  go_enter Try.func7, Try.ntmps7
  go_wp2_with fail
  refine (In.right_is HRt _ W1 (HT.out.stays bw) Hm.out).mono ?_
  rintro e v2 ⟨rfl, bv2⟩
  replace hM := hM.stays bv2
  have lv2 : W1.heap.size ≤ v2.heap.size := bv2.size
  replace bw := nx bw bv2
  obtain ⟨-, fM_c0_v2, -, -, -, -, -, -, -⟩ := hM.facts
  have zW3 : v2.frozen? ⟨w.heap.size, 0, none⟩ = false := hM.bx.thawed _
  obtain ⟨W3, eW3⟩ : ∃ Q_ : World, v2.setCell ⟨w.heap.size, 0, none⟩ (.int .i64 1) = Q_ := ⟨_, rfl⟩
  replace hM : Gx W3 (w.heap.size) ({ m with k := 1 }) := ⟨by
    have t_ := hM.bx.set 0 (.int .i64 1)
    rw [set_gk] at t_
    exact eW3 ▸ t_⟩
  have lW3 : v2.heap.size ≤ W3.heap.size := eW3 ▸ (low_setCell (n := 0) _ _ (Nat.zero_le _)).size
  replace bw : Below w.heap.size w W3 := eW3 ▸ bw.trans (low_setCell _ _ (by omega))
  rw [HM1.out] at hM
  obtain ⟨fM_row_W3, -, -, -, -, -, -, -, -⟩ := hM.facts
  go_wp2_with fail
  refine (get_is HG _ W3 (HT.out.stays bw) Hm.out).mono ?_
  rintro e v4 ⟨rfl, bv4⟩
  clear fM_c0_v2 fM_row_W3
  replace hM := hM.stays bv4
  have lv4 : W3.heap.size ≤ v4.heap.size := bv4.size
  replace bw := nx bw bv4
  obtain ⟨W5, eW5⟩ : ∃ Q_ : World, (v4.alloc (.cells (ci zeroI) 37)).setRow v4.heap.size (ci g) = Q_ := ⟨_, rfl⟩
  have bW5 : Below v4.heap.size v4 W5 := eW5 ▸ below_setRow (below1 _ _) (Nat.le_refl _) _
  have pW5 := (Bx.new v4 (ci zeroI) 37).plain (n := 25) rfl
  replace hM := hM.stays bW5
  have hI5 : Ix W5 v4.heap.size g := ⟨eW5 ▸ Bx.put (Bx.new _ _ _) _⟩
  have lW5 : v4.heap.size < W5.heap.size := hI5.bx.lt
  replace bw := nx bw bW5
  obtain ⟨fM_row_W5, -, -, -, -, -, -, -, -⟩ := hM.facts
  go_wp2_with fail
  refine (hear_is H _ W5 (HT.out.stays bw) Hm.out).mono ?_
  rintro e v6 ⟨rfl, bv6⟩
  clear fM_row_W5
  replace hM := hM.stays bv6
  replace hI5 := hI5.stays bv6
  have lv6 : W5.heap.size ≤ v6.heap.size := bv6.size
  replace bw := nx bw bv6
  obtain ⟨W7, eW7⟩ : ∃ Q_ : World, v6.alloc (.cells (ci zeroI) 37) = Q_ := ⟨_, rfl⟩
  have bW7 : Below v6.heap.size v6 W7 := eW7 ▸ below1 _ _
  replace hM := hM.stays bW7
  replace hI5 := hI5.stays bW7
  have hI7 : Ix W7 v6.heap.size zeroI := ⟨eW7 ▸ Bx.new _ _ _⟩
  have lW7 : v6.heap.size < W7.heap.size := hI7.bx.lt
  replace bw := nx bw bW7
  obtain ⟨W8, eW8⟩ : ∃ Q_ : World, W7.alloc (.cells (cg zeroM) 34) = Q_ := ⟨_, rfl⟩
  have bW8 : Below W7.heap.size W7 W8 := eW8 ▸ below1 _ _
  replace hM := hM.stays bW8
  replace hI5 := hI5.stays bW8
  replace hI7 := hI7.stays bW8
  have hM8 : Gx W8 W7.heap.size zeroM := ⟨eW8 ▸ Bx.new _ _ _⟩
  have lW8 : W7.heap.size < W8.heap.size := hM8.bx.lt
  replace bw := nx bw bW8
  obtain ⟨-, -, -, -, fI7_plain_W8, -⟩ := hI7.facts
  obtain ⟨W9, eW9⟩ : ∃ Q_ : World, W8.setRow (v6.heap.size) (ci ((⟨m1.pr, m1.ps, m1.bn, m1.br, m1.bn, m1.br, 1, m1.c, nq, nd, sm⟩ : Ins))) = Q_ := ⟨_, rfl⟩
  replace hM : Gx W9 (w.heap.size) (m1) := ⟨eW9 ▸ hM.bx.put' (by omega) _⟩
  replace hI5 : Ix W9 (v4.heap.size) (g) := ⟨eW9 ▸ hI5.bx.put' (by omega) _⟩
  replace hM8 : Gx W9 (W7.heap.size) (zeroM) := ⟨eW9 ▸ hM8.bx.put' (by omega) _⟩
  replace hI7 : Ix W9 (v6.heap.size) ((⟨m1.pr, m1.ps, m1.bn, m1.br, m1.bn, m1.br, 1, m1.c, nq, nd, sm⟩ : Ins)) := ⟨eW9 ▸ hI7.bx.put _⟩
  have lW9 : W8.heap.size ≤ W9.heap.size := eW9 ▸ (low_setRow (n := 0) _ (Nat.zero_le _)).size
  replace bw : Below w.heap.size w W9 := eW9 ▸ bw.trans (low_setRow _ (by omega))
  obtain ⟨-, -, -, -, -, -, -, fM8_plain_W9, -⟩ := hM8.facts
  obtain ⟨W10, eW10⟩ : ∃ Q_ : World, W9.setRow (W7.heap.size) (cg ((⟨2, m1.t, m1.f, m1.pr, m1.ps, m1.bn, m1.br, m1.c, nq, nd, 1, m1.bn, m1.br, sm⟩ : Msg))) = Q_ := ⟨_, rfl⟩
  replace hM : Gx W10 (w.heap.size) (m1) := ⟨eW10 ▸ hM.bx.put' (by omega) _⟩
  replace hI5 : Ix W10 (v4.heap.size) (g) := ⟨eW10 ▸ hI5.bx.put' (by omega) _⟩
  replace hI7 : Ix W10 (v6.heap.size) ((⟨m1.pr, m1.ps, m1.bn, m1.br, m1.bn, m1.br, 1, m1.c, nq, nd, sm⟩ : Ins)) := ⟨eW10 ▸ hI7.bx.put' (by omega) _⟩
  replace hM8 : Gx W10 (W7.heap.size) ((⟨2, m1.t, m1.f, m1.pr, m1.ps, m1.bn, m1.br, m1.c, nq, nd, 1, m1.bn, m1.br, sm⟩ : Msg)) := ⟨eW10 ▸ hM8.bx.put _⟩
  have lW10 : W9.heap.size ≤ W10.heap.size := eW10 ▸ (low_setRow (n := 0) _ (Nat.zero_le _)).size
  replace bw : Below w.heap.size w W10 := eW10 ▸ bw.trans (low_setRow _ (by omega))
  have gM8_0_W10 : W10.cell? ⟨W7.heap.size, 0, none⟩ = some (.int .i64 2) := hM8.bx.cell 0
  obtain ⟨fI7_row_W10, -, -, -, -, -⟩ := hI7.facts
  obtain ⟨fI5_row_W10, -, -, -, -, -⟩ := hI5.facts
  obtain ⟨fM8_row_W10, -, -, -, -, -, -, -, -⟩ := hM8.facts
  obtain ⟨fM_row_W10, -, -, -, -, -, -, -, -⟩ := hM.facts
  have he := HEq.out
  go_wp2_with fail
  refine (under_isH HU W10).mono ?_
  rintro e v11 ⟨rfl, bv11⟩
  clear fI7_plain_W8 fM8_plain_W9 gM8_0_W10 fI7_row_W10 fI5_row_W10 fM8_row_W10 fM_row_W10
  replace hM := hM.stays bv11
  replace hI5 := hI5.stays bv11
  replace hI7 := hI7.stays bv11
  replace hM8 := hM8.stays bv11
  have lv11 : W10.heap.size ≤ v11.heap.size := bv11.size
  replace bw := nx bw bv11
  clear he
  have gM8_16_v11 : v11.cell? ⟨W7.heap.size, 16, none⟩ = some (.int .i64 nq) := hM8.bx.cell 16
  obtain ⟨fM_row_v11, -, -, -, fM_c16_v11, -, -, -, -⟩ := hM.facts
  obtain ⟨fM8_row_v11, -, -, -, -, -, -, -, -⟩ := hM8.facts
  have hq1 := HQ1.out
  have hcc := HCc.out
  go_wp2
  clear gM8_16_v11 fM_row_v11 fM_c16_v11 fM8_row_v11
  clear hq1 hcc
  have HM := Lib.hid hM
  have HM8 := Lib.hid hM8
  go_loopw [83] (fun i wr => ∃ k : Nat, k ≤ N ∧ i = .int .i64 k ∧ Below v11.heap.size v11 wr) (fun i _ => N - (intOf i).toNat)
  case atStart => exact ⟨0, Nat.zero_le _, rfl, Below.refl _ _⟩
  case round =>
    obtain ⟨k, hk, rfl, hb⟩ := hrel
    have bwr := nx bw hb
    have hMr := HM.out.stays hb
    have hM8r := HM8.out.stays hb
    by_cases hlt : k < N
    · have hkl : k < l.length := by rw [HN.out]; exact hlt
      have hlt2 : (k : Int) < N := by omega
      obtain ⟨b, off, rfl, hbb, hK0⟩ := TI.all HT.out bwr hkl
      have hx := (hK0 wr (Below.refl _ _)).1
      have HMem := Lib.hid (List.getElem_mem hkl)
      obtain ⟨y, hyy⟩ : ∃ y, l[k] = y := ⟨_, rfl⟩
      rw [hyy] at hx HMem
      have HOy := Lib.hid (HRt2.out.2.1 y HMem.out)
      clear hyy hK0
      obtain ⟨V, hV⟩ : ∃ Q_ : World, (wr.alloc (.cells (ci zeroI) 37)).setRow wr.heap.size (ci y) = Q_ := ⟨_, rfl⟩
      have xV : Ix V wr.heap.size y := ⟨hV ▸ Bx.put (Bx.new _ _ _) _⟩
      have bV : Below wr.heap.size wr V := hV ▸ below_setRow (below1 _ _) (Nat.le_refl _) _
      have hplain := (Bx.new wr (ci zeroI) 37).plain (n := 25) rfl
      have hMV := hMr.stays bV
      have hM8V := hM8r.stays bV
      have hbV := nx hb bV
      obtain ⟨f1, f6, -, -, -, -⟩ := xV.facts
      obtain ⟨f2, -, -, -, -, -, -, -, -⟩ := hMV.facts
      cases hat : atP y m1.pr m1.ps with
      | true =>
        have hq2 : (y.pr == m1.pr && y.ps == m1.ps) = true := hat
        clear hat
        go_wp2
        go_roundw
        case rel => exact ⟨k + 1, by omega, by go_num, hbV⟩
        case measure => simp [intOf]; omega
      | false =>
        have hq2 : (y.pr == m1.pr && y.ps == m1.ps) = false := hat
        by_cases hst : 1 ≤ y.st
        · have hs1 : decide (y.st < 1) = false := decide_eq_false (by omega)
          cases hmt : meetB y.c m1.c with
          | false =>
            have HMt := Lib.hid hmt
            clear hat hmt hst
            go_wp2_with fail
            refine (meets_is HMt _).mono ?_
            rintro e w3 ⟨rfl, hb3⟩
            have hb4 := nx hbV hb3
            go_wp2
            go_roundw
            case rel => exact ⟨k + 1, by omega, by go_num, hb4⟩
            case measure => simp [intOf]; omega
          | true =>
            have HMt := Lib.hid hmt
            have hc : consB m1.c m1.pr m1.ps y = true := consB_iff.2 ⟨hat, hst, hmt⟩
            have hcv := HDep.out y HMem.out hc (HOk7.out y HOy.out)
            have HCov := Lib.hid hcv.1
            have HOr := Lib.hid hcv.2
            clear hat hmt hst hcv hc
            go_wp2_with fail
            refine (meets_is HMt _).mono ?_
            rintro e w3 ⟨rfl, hb3⟩
            have x3 := xV.stays hb3
            have hM83 := hM8V.stays hb3
            have hb4 := nx hbV hb3
            obtain ⟨f3, -, -, -, -, -⟩ := x3.facts
            obtain ⟨f4, -, -, -, -, -, -, -, -⟩ := hM83.facts
            clear f1 f2 f6
            go_wp2_with fail
            refine (covers_isH HCov _).mono ?_
            rintro e w4 ⟨rfl, hb5⟩
            have k16 : w4.cell? ⟨wr.heap.size, 16, none⟩ = some (.int .i64 y.q) := (x3.stays hb5).bx.cell 16
            have k8 : w4.cell? ⟨W7.heap.size, 16, none⟩ = some (.int .i64 nq) := (hM83.stays hb5).bx.cell 16
            have hb6 := nx hb4 hb5
            clear f3 f4
            rcases HOr.out with e1 | ⟨e1, e2⟩
            all_goals
              go_wp2
              go_roundw
              case rel => exact ⟨k + 1, by omega, by go_num, hb6⟩
              case measure => simp [intOf]; omega
        · have hs1 : decide (y.st < 1) = true := decide_eq_true (by omega)
          clear hat hst
          go_wp2
          go_roundw
          case rel => exact ⟨k + 1, by omega, by go_num, hbV⟩
          case measure => simp [intOf]; omega
    · obtain rfl : k = N := by omega
      have hK : ∀ u, Below wr.heap.size wr u → row u (W7.heap.size) = cg ((⟨2, m1.t, m1.f, m1.pr, m1.ps, m1.bn, m1.br, m1.c, nq, nd, 1, m1.bn, m1.br, sm⟩ : Msg)) ∧ u.cell? ⟨W7.heap.size, 27, none⟩ = some (.bool sm) ∧ row u (w.heap.size) = cg m1 ∧ eqVal m1.c nq nd m1.c m1.q m1.d = sm := fun u h => ⟨(hM8r.stays h).bx.row, (hM8r.stays h).bx.cell 27, (hMr.stays h).facts.1, HSm.out⟩
      go_wp2
      refine Rg.region (by kernel_rfl) (by kernel_rfl) (by kernel_rfl) (fun _ _ d _ _ h => by cases d <;> exact h) _ rfl ?_
      repeat (first | (refine Rg.Seq.skip (by rfl) ?_; simp only [Act.put, List.setIfInBounds_toArray, List.set_cons_zero, List.set_cons_succ]) | (refine Rg.Seq.pure (v := ?_) (by rfl) ?_ ?_; rotate_left; (intro w_ hS_; have hk_ := hK w_ hS_; go_simp <;> with_reducible rfl); simp only [Act.put, List.setIfInBounds_toArray, List.set_cons_zero, List.set_cons_succ]) | (refine Rg.Seq.call (v := ?_) (f := ?_) (args := ?_) (by rfl) ?_ ?_ ?_; rotate_left 3; (intro w_ hS_; have hk_ := hK w_ hS_; go_simp <;> first | with_reducible rfl | (constructor <;> with_reducible rfl)); (intro w_ hS_; first | (go_at_call 8; refine (awake_any _).mono ?_; rintro e w_ ⟨rfl, hb_⟩; refine ⟨?_, nx hS_ hb_⟩; with_reducible rfl)); simp only [Act.put, List.setIfInBounds_toArray, List.set_cons_zero, List.set_cons_succ]))
      intro w9 hb9
      go_wp2
      go_ret
      exact ⟨rfl, nx bwr hb9⟩
end Go.Proofs.Ytmaecknjamnnpaa.An
