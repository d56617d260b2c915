/- AcceptorSays. -/
import Derived.Test.YtmaecknjamnnpaaAnK
import Derived.Test.YtmaecknjamnnpaaAnM
namespace Go.Proofs.Ytmaecknjamnnpaa.An
open Go.RowKit
set_option linter.unusedVariables false
open Go.Proofs.Ytmaecknjamnnpaa.Rw
open Go.Proofs.Ytmaecknjamnnpaa.Da
open Go.Proofs.Ytmaecknjamnnpaa.Bv
open Go.Proofs.Ytmaecknjamnnpaa.In
open Go.Proofs.Ytmaecknjamnnpaa.St
open Go.Proofs.Ytmaecknjamnnpaa.Rc (Ins ci cv zeroI okI eqVal eqIns)
open Go.Proofs.Ytmaecknjamnnpaa.Ba (lessB lessB_no)
theorem hear_zero {l : List Ins} {n : Int} {m : Msg} {x : Ins} {r : Msg} {b : Bool} {c : Int} (h : hearR l n m = ⟨x, r, b, c⟩) (k : c ≠ 0 ∨ b = false) : r = zeroM := by
  by_cases e : rightT l n = true ∧ mayB m n = true
  · rw [hear_ok e.1 e.2] at h
    unfold hearOk at h
    split at h
    · injection h with _ h _ _; exact h.symm
    · injection h with _ _ h3 h4
      rcases k with k | k
      · exact absurd h4.symm k
      · rw [k] at h3; cases h3
  · rw [hear_no e] at h
    injection h with _ h _ _; exact h.symm
/-- P19.5. -/
theorem says {l : List Ins} {m : Msg} {x : Ins} {r : Msg} (h : hearR l 3 m = ⟨x, r, true, 0⟩) : ∃ k, k ≠ 0 ∧ r = respM m k x ∧
    ((k = 2 ∧ x.st = 1 ∧ ((x.tn == m.bn) && (x.tr == m.br)) = true ∧ ((x.bn == m.bn) && (x.br == m.br)) = true) ∨ (k = 4 ∧ x = takenI m 2) ∨ (k = 7 ∧ x = promI (gotI l m.pr m.ps) m) ∨ (k = 5 ∧ (x.st == 3) = true) ∨ (k = 8 ∧ lessB m.bn m.br x.bn x.br = true)) := by
  have he := hear_err (l := l) (n := 3) (m := m) (by rw [h])
  have hg := may_good he.2
  have hgo := (got_ok he.1 hg).1
  rw [hear_ok he.1 he.2] at h
  have hw := way l (gotI l m.pr m.ps) m
  generalize hR : reactR l (gotI l m.pr m.ps) m = R at hw
  obtain ⟨y, k⟩ := R
  unfold hearOk at h
  rw [hR] at h
  by_cases hk : k = 0
  · rw [if_pos hk] at h; injection h with _ _ h _; cases h
  rw [if_neg hk] at h
  injection h with h1 h2 _ _
  subst h1
  refine ⟨k, hk, h2.symm, ?_⟩
  simp only at hw
  cases hw with
  | old5 => exact absurd rfl hk
  | new5 => exact absurd rfl hk
  | silent => exact absurd rfl hk
  | settled _ h => exact .inr (.inr (.inr (.inl ⟨rfl, by simpa using h⟩)))
  | stale _ _ s => exact .inr (.inr (.inr (.inr ⟨rfl, s⟩)))
  | again _ h1 s a =>
    refine .inl ⟨rfl, h1, a, ?_⟩
    have h5 := (Rc.okI_iff.1 hgo).2.2.2.2.1
    have hs : lessB m.bn m.br (gotI l m.pr m.ps).bn (gotI l m.pr m.ps).br = false := s
    unfold againB at a
    rw [Bool.and_eq_true, beq_iff_eq, beq_iff_eq] at a ⊢
    rw [a.1, a.2] at h5
    rw [lessB_no] at h5 hs
    show (gotI l m.pr m.ps).bn = m.bn ∧ (gotI l m.pr m.ps).br = m.br
    omega
  | prop => exact .inl ⟨rfl, rfl, by show ((m.bn == m.bn) && (m.br == m.br)) = true; simp, by show ((m.bn == m.bn) && (m.br == m.br)) = true; simp⟩
  | acc => exact .inr (.inl ⟨rfl, rfl⟩)
  | prep => exact .inr (.inr (.inl ⟨rfl, rfl⟩))
set_option maxRecDepth 16000 in
set_option maxHeartbeats 16000000 in
theorem walkSays (l : List Ins) (v : Value) (m : Msg) (w : World) (h : TI w.heap.size l v w) (hwf : l.length ≤ maxLen ∧ capOk v) :
    Calls Try.prog 5 #[v, .agg (cg m)] w fun e w' => e = .returned (.bool true) ∧ Below w.heap.size w w' := by
  obtain ⟨q, hq⟩ : ∃ q, q = w.heap.size := ⟨_, rfl⟩
  rw [← hq] at h
  have hq0 : q ≤ w.heap.size := by omega
  clear hq
  obtain ⟨a1, c1, rfl⟩ := h.len
  obtain ⟨N, hN⟩ : ∃ N, l.length = N := ⟨_, rfl⟩
  have HN := Lib.hid hN
  rw [hN] at h ⊢
  have HT := Lib.hid h
  clear h hN
  obtain ⟨W1, eW1⟩ : ∃ Q_ : World, w.alloc (.cells (cg m) 34) = Q_ := ⟨_, rfl⟩
  have bW1 : Below w.heap.size w W1 := eW1 ▸ below1 _ _
  have hM : Gx W1 w.heap.size m := ⟨eW1 ▸ Bx.new _ _ _⟩
  have lW1 : w.heap.size < W1.heap.size := hM.bx.lt
  have bw : Below w.heap.size w W1 := bW1
  by_cases hlen : 60 < N
  · have hd : decide ((N : Int) > 60) = true := decide_eq_true (by omega)
    go_enter Try.func5, Try.ntmps5
    go_wp2_with fail
    refine (awake_any _).mono ?_
    rintro e w1 ⟨rfl, hb1⟩
    go_wp2
    go_ret
    exact ⟨rfl, nx bw hb1⟩
  have hd : decide ((N : Int) > 60) = false := decide_eq_false (by omega)
  have hm : l.length ≤ 1000000 := by rw [HN.out]; omega
  have Hm := Lib.hid hm
  clear hm
  obtain ⟨rt, hrt⟩ : ∃ g, rightT l 3 = g := ⟨_, rfl⟩
  have HRt := Lib.hid hrt
  clear hrt
  cases rt with
  | false =>
    go_enter Try.func5, Try.ntmps5
    go_wp2_with fail
    refine (In.right_is HRt _ W1 (HT.out.stays bw) Hm.out).mono ?_
    rintro e w1 ⟨rfl, hb1⟩
    go_wp2_with fail
    refine (awake_any _).mono ?_
    rintro e w2 ⟨rfl, hb2⟩
    go_wp2
    go_ret
    exact ⟨rfl, nx (nx bw hb1) hb2⟩
  | true =>
  obtain ⟨⟨x, r, b, c⟩, hR⟩ : ∃ R, hearR l 3 m = R := ⟨_, rfl⟩
  have H := Lib.hid hR
  clear hR
  have hor : ((c != 0) = true ∨ (c != 0) = false ∧ b = false) ∨ c = 0 ∧ b = true := by
    by_cases e : c = 0
    · cases b with
      | false => exact .inl (.inr ⟨by simpa using e, rfl⟩)
      | true => exact .inr ⟨e, rfl⟩
    · exact .inl (.inl (by simpa using e))
  rcases hor with hor | ⟨rfl, rfl⟩
  · have hz : r = zeroM := hear_zero H.out (by rcases hor with h | h; exact .inl (by simpa using h); exact .inr h.2)
    subst hz
    rcases hor with ec | ⟨ec, rfl⟩
    all_goals
      go_enter Try.func5, Try.ntmps5
      go_wp2_with fail
      refine (In.right_is HRt _ W1 (HT.out.stays bw) Hm.out).mono ?_
      rintro e v2 ⟨rfl, bv2⟩
      replace hM := hM.stays bv2
      have lv2 : W1.heap.size ≤ v2.heap.size := bv2.size
      replace bw := nx bw bv2
      obtain ⟨fM_row_v2, -, -, -, -, -, -, -, -⟩ := hM.facts
      go_wp2_with fail
      refine (hear_is H _ v2 (HT.out.stays bw) Hm.out).mono ?_
      rintro e v3 ⟨rfl, bv3⟩
      clear fM_row_v2
      replace hM := hM.stays bv3
      have lv3 : v2.heap.size ≤ v3.heap.size := bv3.size
      replace bw := nx bw bv3
      obtain ⟨W4, eW4⟩ : ∃ Q_ : World, v3.alloc (.cells (ci zeroI) 37) = Q_ := ⟨_, rfl⟩
      have bW4 : Below v3.heap.size v3 W4 := eW4 ▸ below1 _ _
      replace hM := hM.stays bW4
      have hI5 : Ix W4 v3.heap.size zeroI := ⟨eW4 ▸ Bx.new _ _ _⟩
      have lW4 : v3.heap.size < W4.heap.size := hI5.bx.lt
      replace bw := nx bw bW4
      obtain ⟨W5, eW5⟩ : ∃ Q_ : World, W4.alloc (.cells (cg zeroM) 34) = Q_ := ⟨_, rfl⟩
      have bW5 : Below W4.heap.size W4 W5 := eW5 ▸ below1 _ _
      replace hM := hM.stays bW5
      replace hI5 := hI5.stays bW5
      have hM6 : Gx W5 W4.heap.size zeroM := ⟨eW5 ▸ Bx.new _ _ _⟩
      have lW5 : W4.heap.size < W5.heap.size := hM6.bx.lt
      replace bw := nx bw bW5
      obtain ⟨-, -, -, -, fI5_plain_W5, -⟩ := hI5.facts
      obtain ⟨W6, eW6⟩ : ∃ Q_ : World, W5.setRow (v3.heap.size) (ci (x)) = Q_ := ⟨_, rfl⟩
      replace hM : Gx W6 (w.heap.size) (m) := ⟨eW6 ▸ hM.bx.put' (by omega) _⟩
      replace hM6 : Gx W6 (W4.heap.size) (zeroM) := ⟨eW6 ▸ hM6.bx.put' (by omega) _⟩
      replace hI5 : Ix W6 (v3.heap.size) (x) := ⟨eW6 ▸ hI5.bx.put _⟩
      have lW6 : W5.heap.size ≤ W6.heap.size := eW6 ▸ (low_setRow (n := 0) _ (Nat.zero_le _)).size
      replace bw : Below w.heap.size w W6 := eW6 ▸ bw.trans (low_setRow _ (by omega))
      obtain ⟨-, -, -, -, -, -, -, fM6_plain_W6, -⟩ := hM6.facts
      obtain ⟨W7, eW7⟩ : ∃ Q_ : World, W6.setRow (W4.heap.size) (cg (zeroM)) = Q_ := ⟨_, rfl⟩
      replace hM : Gx W7 (w.heap.size) (m) := ⟨eW7 ▸ hM.bx.put' (by omega) _⟩
      replace hI5 : Ix W7 (v3.heap.size) (x) := ⟨eW7 ▸ hI5.bx.put' (by omega) _⟩
      replace hM6 : Gx W7 (W4.heap.size) (zeroM) := ⟨eW7 ▸ hM6.bx.put _⟩
      have lW7 : W6.heap.size ≤ W7.heap.size := eW7 ▸ (low_setRow (n := 0) _ (Nat.zero_le _)).size
      replace bw : Below w.heap.size w W7 := eW7 ▸ bw.trans (low_setRow _ (by omega))
      obtain ⟨fM6_row_W7, -, -, -, -, -, -, -, -⟩ := hM6.facts
      go_wp2_with fail
      refine (awake_any W7).mono ?_
      rintro e v8 ⟨rfl, bv8⟩
      clear fI5_plain_W5 fM6_plain_W6 fM6_row_W7
      replace hM := hM.stays bv8
      replace hI5 := hI5.stays bv8
      replace hM6 := hM6.stays bv8
      have lv8 : W7.heap.size ≤ v8.heap.size := bv8.size
      replace bw := nx bw bv8
      go_wp2
      go_ret
      exact ⟨rfl, bw⟩
  obtain ⟨k, hk0, hr, hc⟩ := says H.out
  rcases hc with ⟨rfl, hst, ht, hp⟩ | ⟨rfl, hx⟩ | ⟨rfl, hx⟩ | ⟨rfl, hst⟩ | ⟨rfl, hl⟩
  · have hr2 : r = (⟨2, m.t, m.f, m.pr, m.ps, m.bn, m.br, x.c, x.q, x.d, x.st, x.tn, x.tr, x.sm⟩ : Msg) := hr
    subst hr2
    have HSt := Lib.hid hst
    have HTt := Lib.hid ht
    have HPp := Lib.hid hp
    have HV := Lib.hid (Rc.eqVal_refl x.c x.q x.d)
    clear hr hst ht hp hk0
    go_enter Try.func5, Try.ntmps5
    go_wp2_with fail
    refine (In.right_is HRt _ W1 (HT.out.stays bw) Hm.out).mono ?_
    rintro e v2 ⟨rfl, bv2⟩
    replace hM := hM.stays bv2
    have lv2 : W1.heap.size ≤ v2.heap.size := bv2.size
    replace bw := nx bw bv2
    obtain ⟨fM_row_v2, -, -, -, -, -, -, -, -⟩ := hM.facts
    go_wp2_with fail
    refine (hear_is H _ v2 (HT.out.stays bw) Hm.out).mono ?_
    rintro e v3 ⟨rfl, bv3⟩
    clear fM_row_v2
    replace hM := hM.stays bv3
    have lv3 : v2.heap.size ≤ v3.heap.size := bv3.size
    replace bw := nx bw bv3
    obtain ⟨W4, eW4⟩ : ∃ Q_ : World, v3.alloc (.cells (ci zeroI) 37) = Q_ := ⟨_, rfl⟩
    have bW4 : Below v3.heap.size v3 W4 := eW4 ▸ below1 _ _
    replace hM := hM.stays bW4
    have hI5 : Ix W4 v3.heap.size zeroI := ⟨eW4 ▸ Bx.new _ _ _⟩
    have lW4 : v3.heap.size < W4.heap.size := hI5.bx.lt
    replace bw := nx bw bW4
    obtain ⟨W5, eW5⟩ : ∃ Q_ : World, W4.alloc (.cells (cg zeroM) 34) = Q_ := ⟨_, rfl⟩
    have bW5 : Below W4.heap.size W4 W5 := eW5 ▸ below1 _ _
    replace hM := hM.stays bW5
    replace hI5 := hI5.stays bW5
    have hM6 : Gx W5 W4.heap.size zeroM := ⟨eW5 ▸ Bx.new _ _ _⟩
    have lW5 : W4.heap.size < W5.heap.size := hM6.bx.lt
    replace bw := nx bw bW5
    obtain ⟨-, -, -, -, fI5_plain_W5, -⟩ := hI5.facts
    obtain ⟨W6, eW6⟩ : ∃ Q_ : World, W5.setRow (v3.heap.size) (ci (x)) = Q_ := ⟨_, rfl⟩
    replace hM : Gx W6 (w.heap.size) (m) := ⟨eW6 ▸ hM.bx.put' (by omega) _⟩
    replace hM6 : Gx W6 (W4.heap.size) (zeroM) := ⟨eW6 ▸ hM6.bx.put' (by omega) _⟩
    replace hI5 : Ix W6 (v3.heap.size) (x) := ⟨eW6 ▸ hI5.bx.put _⟩
    have lW6 : W5.heap.size ≤ W6.heap.size := eW6 ▸ (low_setRow (n := 0) _ (Nat.zero_le _)).size
    replace bw : Below w.heap.size w W6 := eW6 ▸ bw.trans (low_setRow _ (by omega))
    obtain ⟨-, -, -, -, -, -, -, fM6_plain_W6, -⟩ := hM6.facts
    obtain ⟨W7, eW7⟩ : ∃ Q_ : World, W6.setRow (W4.heap.size) (cg ((⟨2, m.t, m.f, m.pr, m.ps, m.bn, m.br, x.c, x.q, x.d, x.st, x.tn, x.tr, x.sm⟩ : Msg))) = Q_ := ⟨_, rfl⟩
    replace hM : Gx W7 (w.heap.size) (m) := ⟨eW7 ▸ hM.bx.put' (by omega) _⟩
    replace hI5 : Ix W7 (v3.heap.size) (x) := ⟨eW7 ▸ hI5.bx.put' (by omega) _⟩
    replace hM6 : Gx W7 (W4.heap.size) ((⟨2, m.t, m.f, m.pr, m.ps, m.bn, m.br, x.c, x.q, x.d, x.st, x.tn, x.tr, x.sm⟩ : Msg)) := ⟨eW7 ▸ hM6.bx.put _⟩
    have lW7 : W6.heap.size ≤ W7.heap.size := eW7 ▸ (low_setRow (n := 0) _ (Nat.zero_le _)).size
    replace bw : Below w.heap.size w W7 := eW7 ▸ bw.trans (low_setRow _ (by omega))
    obtain ⟨fM6_row_W7, -, -, -, -, -, -, -, -⟩ := hM6.facts
    have gM6_0_W7 : W7.cell? ⟨W4.heap.size, 0, none⟩ = some (.int .i64 2) := hM6.bx.cell 0
    have gM6_1_W7 : W7.cell? ⟨W4.heap.size, 1, none⟩ = some (.int .i64 m.t) := hM6.bx.cell 1
    have gM6_2_W7 : W7.cell? ⟨W4.heap.size, 2, none⟩ = some (.int .i64 m.f) := hM6.bx.cell 2
    have gM6_24_W7 : W7.cell? ⟨W4.heap.size, 24, none⟩ = some (.int .i64 x.st) := hM6.bx.cell 24
    have gM6_27_W7 : W7.cell? ⟨W4.heap.size, 27, none⟩ = some (.bool x.sm) := hM6.bx.cell 27
    obtain ⟨fM_row_W7, -, fM_c1_W7, fM_c2_W7, -, -, -, -, -⟩ := hM.facts
    obtain ⟨fI5_row_W7, -, -, fI5_c24_W7, -, -⟩ := hI5.facts
    have gI5_6_W7 : W7.cell? ⟨v3.heap.size, 6, none⟩ = some (.int .i64 x.st) := hI5.bx.cell 6
    rw [HSt.out] at gI5_6_W7
    have ht := HTt.out
    have hp := HPp.out
    have hv := HV.out
    go_wp2_with fail
    refine (awake_any W7).mono ?_
    rintro e v8 ⟨rfl, bv8⟩
    clear fI5_plain_W5 fM6_plain_W6 fM6_row_W7 gM6_0_W7 gM6_1_W7 gM6_2_W7 gM6_24_W7 gM6_27_W7 fM_row_W7 fM_c1_W7 fM_c2_W7 fI5_row_W7 fI5_c24_W7 gI5_6_W7
    replace hM := hM.stays bv8
    replace hI5 := hI5.stays bv8
    replace hM6 := hM6.stays bv8
    have lv8 : W7.heap.size ≤ v8.heap.size := bv8.size
    replace bw := nx bw bv8
    go_wp2
    go_ret
    exact ⟨rfl, bw⟩
  · have hx2 : x = (⟨m.pr, m.ps, m.bn, m.br, m.bn, m.br, 2, m.c, m.q, m.d, false⟩ : Ins) := hx
    have hr2 : r = (⟨4, m.t, m.f, m.pr, m.ps, m.bn, m.br, m.c, m.q, m.d, 2, m.bn, m.br, false⟩ : Msg) := by rw [hr, hx]; rfl
    subst hx2 hr2
    have HV := Lib.hid (Rc.eqVal_refl m.c m.q m.d)
    clear hr hx hk0
    go_enter Try.func5, Try.ntmps5
    go_wp2_with fail
    refine (In.right_is HRt _ W1 (HT.out.stays bw) Hm.out).mono ?_
    rintro e v2 ⟨rfl, bv2⟩
    replace hM := hM.stays bv2
    have lv2 : W1.heap.size ≤ v2.heap.size := bv2.size
    replace bw := nx bw bv2
    obtain ⟨fM_row_v2, -, -, -, -, -, -, -, -⟩ := hM.facts
    go_wp2_with fail
    refine (hear_is H _ v2 (HT.out.stays bw) Hm.out).mono ?_
    rintro e v3 ⟨rfl, bv3⟩
    clear fM_row_v2
    replace hM := hM.stays bv3
    have lv3 : v2.heap.size ≤ v3.heap.size := bv3.size
    replace bw := nx bw bv3
    obtain ⟨W4, eW4⟩ : ∃ Q_ : World, v3.alloc (.cells (ci zeroI) 37) = Q_ := ⟨_, rfl⟩
    have bW4 : Below v3.heap.size v3 W4 := eW4 ▸ below1 _ _
    replace hM := hM.stays bW4
    have hI5 : Ix W4 v3.heap.size zeroI := ⟨eW4 ▸ Bx.new _ _ _⟩
    have lW4 : v3.heap.size < W4.heap.size := hI5.bx.lt
    replace bw := nx bw bW4
    obtain ⟨W5, eW5⟩ : ∃ Q_ : World, W4.alloc (.cells (cg zeroM) 34) = Q_ := ⟨_, rfl⟩
    have bW5 : Below W4.heap.size W4 W5 := eW5 ▸ below1 _ _
    replace hM := hM.stays bW5
    replace hI5 := hI5.stays bW5
    have hM6 : Gx W5 W4.heap.size zeroM := ⟨eW5 ▸ Bx.new _ _ _⟩
    have lW5 : W4.heap.size < W5.heap.size := hM6.bx.lt
    replace bw := nx bw bW5
    obtain ⟨-, -, -, -, fI5_plain_W5, -⟩ := hI5.facts
    obtain ⟨W6, eW6⟩ : ∃ Q_ : World, W5.setRow (v3.heap.size) (ci ((⟨m.pr, m.ps, m.bn, m.br, m.bn, m.br, 2, m.c, m.q, m.d, false⟩ : Ins))) = Q_ := ⟨_, rfl⟩
    replace hM : Gx W6 (w.heap.size) (m) := ⟨eW6 ▸ hM.bx.put' (by omega) _⟩
    replace hM6 : Gx W6 (W4.heap.size) (zeroM) := ⟨eW6 ▸ hM6.bx.put' (by omega) _⟩
    replace hI5 : Ix W6 (v3.heap.size) ((⟨m.pr, m.ps, m.bn, m.br, m.bn, m.br, 2, m.c, m.q, m.d, false⟩ : Ins)) := ⟨eW6 ▸ hI5.bx.put _⟩
    have lW6 : W5.heap.size ≤ W6.heap.size := eW6 ▸ (low_setRow (n := 0) _ (Nat.zero_le _)).size
    replace bw : Below w.heap.size w W6 := eW6 ▸ bw.trans (low_setRow _ (by omega))
    obtain ⟨-, -, -, -, -, -, -, fM6_plain_W6, -⟩ := hM6.facts
    obtain ⟨W7, eW7⟩ : ∃ Q_ : World, W6.setRow (W4.heap.size) (cg ((⟨4, m.t, m.f, m.pr, m.ps, m.bn, m.br, m.c, m.q, m.d, 2, m.bn, m.br, false⟩ : Msg))) = Q_ := ⟨_, rfl⟩
    replace hM : Gx W7 (w.heap.size) (m) := ⟨eW7 ▸ hM.bx.put' (by omega) _⟩
    replace hI5 : Ix W7 (v3.heap.size) ((⟨m.pr, m.ps, m.bn, m.br, m.bn, m.br, 2, m.c, m.q, m.d, false⟩ : Ins)) := ⟨eW7 ▸ hI5.bx.put' (by omega) _⟩
    replace hM6 : Gx W7 (W4.heap.size) ((⟨4, m.t, m.f, m.pr, m.ps, m.bn, m.br, m.c, m.q, m.d, 2, m.bn, m.br, false⟩ : Msg)) := ⟨eW7 ▸ hM6.bx.put _⟩
    have lW7 : W6.heap.size ≤ W7.heap.size := eW7 ▸ (low_setRow (n := 0) _ (Nat.zero_le _)).size
    replace bw : Below w.heap.size w W7 := eW7 ▸ bw.trans (low_setRow _ (by omega))
    obtain ⟨fM6_row_W7, -, -, -, -, -, -, -, -⟩ := hM6.facts
    have gM6_0_W7 : W7.cell? ⟨W4.heap.size, 0, none⟩ = some (.int .i64 4) := hM6.bx.cell 0
    have gM6_1_W7 : W7.cell? ⟨W4.heap.size, 1, none⟩ = some (.int .i64 m.t) := hM6.bx.cell 1
    have gM6_2_W7 : W7.cell? ⟨W4.heap.size, 2, none⟩ = some (.int .i64 m.f) := hM6.bx.cell 2
    have gM6_24_W7 : W7.cell? ⟨W4.heap.size, 24, none⟩ = some (.int .i64 2) := hM6.bx.cell 24
    have gM6_27_W7 : W7.cell? ⟨W4.heap.size, 27, none⟩ = some (.bool false) := hM6.bx.cell 27
    obtain ⟨fM_row_W7, -, fM_c1_W7, fM_c2_W7, -, -, -, -, -⟩ := hM.facts
    obtain ⟨fI5_row_W7, -, -, -, -, -⟩ := hI5.facts
    have gI5_6_W7 : W7.cell? ⟨v3.heap.size, 6, none⟩ = some (.int .i64 2) := hI5.bx.cell 6
    have hv := HV.out
    go_wp2_with fail
    refine (awake_any W7).mono ?_
    rintro e v8 ⟨rfl, bv8⟩
    clear fI5_plain_W5 fM6_plain_W6 fM6_row_W7 gM6_0_W7 gM6_1_W7 gM6_2_W7 gM6_24_W7 gM6_27_W7 fM_row_W7 fM_c1_W7 fM_c2_W7 fI5_row_W7 gI5_6_W7
    replace hM := hM.stays bv8
    replace hI5 := hI5.stays bv8
    replace hM6 := hM6.stays bv8
    have lv8 : W7.heap.size ≤ v8.heap.size := bv8.size
    replace bw := nx bw bv8
    go_wp2
    go_ret
    exact ⟨rfl, bw⟩
  · obtain ⟨g, hg⟩ : ∃ g, gotI l m.pr m.ps = g := ⟨_, rfl⟩
    obtain ⟨gb, hgb⟩ : ∃ g, hasI l m.pr m.ps = g := ⟨_, rfl⟩
    have HG := Lib.hid (And.intro hg hgb)
    rw [hg] at hx
    have hx2 : x = (⟨g.pr, g.ps, m.bn, m.br, g.tn, g.tr, g.st, g.c, g.q, g.d, g.sm⟩ : Ins) := hx
    have hr2 : r = (⟨7, m.t, m.f, m.pr, m.ps, m.bn, m.br, g.c, g.q, g.d, g.st, g.tn, g.tr, g.sm⟩ : Msg) := by rw [hr, hx]; rfl
    subst hx2 hr2
    have HV := Lib.hid (Rc.eqVal_refl g.c g.q g.d)
    clear hr hx hk0 hg hgb
    go_enter Try.func5, Try.ntmps5
    go_wp2_with fail
    refine (In.right_is HRt _ W1 (HT.out.stays bw) Hm.out).mono ?_
    rintro e v2 ⟨rfl, bv2⟩
    replace hM := hM.stays bv2
    have lv2 : W1.heap.size ≤ v2.heap.size := bv2.size
    replace bw := nx bw bv2
    obtain ⟨fM_row_v2, -, -, -, -, -, -, -, -⟩ := hM.facts
    go_wp2_with fail
    refine (hear_is H _ v2 (HT.out.stays bw) Hm.out).mono ?_
    rintro e v3 ⟨rfl, bv3⟩
    clear fM_row_v2
    replace hM := hM.stays bv3
    have lv3 : v2.heap.size ≤ v3.heap.size := bv3.size
    replace bw := nx bw bv3
    obtain ⟨W4, eW4⟩ : ∃ Q_ : World, v3.alloc (.cells (ci zeroI) 37) = Q_ := ⟨_, rfl⟩
    have bW4 : Below v3.heap.size v3 W4 := eW4 ▸ below1 _ _
    replace hM := hM.stays bW4
    have hI5 : Ix W4 v3.heap.size zeroI := ⟨eW4 ▸ Bx.new _ _ _⟩
    have lW4 : v3.heap.size < W4.heap.size := hI5.bx.lt
    replace bw := nx bw bW4
    obtain ⟨W5, eW5⟩ : ∃ Q_ : World, W4.alloc (.cells (cg zeroM) 34) = Q_ := ⟨_, rfl⟩
    have bW5 : Below W4.heap.size W4 W5 := eW5 ▸ below1 _ _
    replace hM := hM.stays bW5
    replace hI5 := hI5.stays bW5
    have hM6 : Gx W5 W4.heap.size zeroM := ⟨eW5 ▸ Bx.new _ _ _⟩
    have lW5 : W4.heap.size < W5.heap.size := hM6.bx.lt
    replace bw := nx bw bW5
    obtain ⟨-, -, -, -, fI5_plain_W5, -⟩ := hI5.facts
    obtain ⟨W6, eW6⟩ : ∃ Q_ : World, W5.setRow (v3.heap.size) (ci ((⟨g.pr, g.ps, m.bn, m.br, g.tn, g.tr, g.st, g.c, g.q, g.d, g.sm⟩ : Ins))) = Q_ := ⟨_, rfl⟩
    replace hM : Gx W6 (w.heap.size) (m) := ⟨eW6 ▸ hM.bx.put' (by omega) _⟩
    replace hM6 : Gx W6 (W4.heap.size) (zeroM) := ⟨eW6 ▸ hM6.bx.put' (by omega) _⟩
    replace hI5 : Ix W6 (v3.heap.size) ((⟨g.pr, g.ps, m.bn, m.br, g.tn, g.tr, g.st, g.c, g.q, g.d, g.sm⟩ : Ins)) := ⟨eW6 ▸ hI5.bx.put _⟩
    have lW6 : W5.heap.size ≤ W6.heap.size := eW6 ▸ (low_setRow (n := 0) _ (Nat.zero_le _)).size
    replace bw : Below w.heap.size w W6 := eW6 ▸ bw.trans (low_setRow _ (by omega))
    obtain ⟨-, -, -, -, -, -, -, fM6_plain_W6, -⟩ := hM6.facts
    obtain ⟨W7, eW7⟩ : ∃ Q_ : World, W6.setRow (W4.heap.size) (cg ((⟨7, m.t, m.f, m.pr, m.ps, m.bn, m.br, g.c, g.q, g.d, g.st, g.tn, g.tr, g.sm⟩ : Msg))) = Q_ := ⟨_, rfl⟩
    replace hM : Gx W7 (w.heap.size) (m) := ⟨eW7 ▸ hM.bx.put' (by omega) _⟩
    replace hI5 : Ix W7 (v3.heap.size) ((⟨g.pr, g.ps, m.bn, m.br, g.tn, g.tr, g.st, g.c, g.q, g.d, g.sm⟩ : Ins)) := ⟨eW7 ▸ hI5.bx.put' (by omega) _⟩
    replace hM6 : Gx W7 (W4.heap.size) ((⟨7, m.t, m.f, m.pr, m.ps, m.bn, m.br, g.c, g.q, g.d, g.st, g.tn, g.tr, g.sm⟩ : Msg)) := ⟨eW7 ▸ hM6.bx.put _⟩
    have lW7 : W6.heap.size ≤ W7.heap.size := eW7 ▸ (low_setRow (n := 0) _ (Nat.zero_le _)).size
    replace bw : Below w.heap.size w W7 := eW7 ▸ bw.trans (low_setRow _ (by omega))
    obtain ⟨fM6_row_W7, -, -, -, -, -, -, -, -⟩ := hM6.facts
    have gM6_0_W7 : W7.cell? ⟨W4.heap.size, 0, none⟩ = some (.int .i64 7) := hM6.bx.cell 0
    have gM6_1_W7 : W7.cell? ⟨W4.heap.size, 1, none⟩ = some (.int .i64 m.t) := hM6.bx.cell 1
    have gM6_2_W7 : W7.cell? ⟨W4.heap.size, 2, none⟩ = some (.int .i64 m.f) := hM6.bx.cell 2
    have gM6_24_W7 : W7.cell? ⟨W4.heap.size, 24, none⟩ = some (.int .i64 g.st) := hM6.bx.cell 24
    have gM6_27_W7 : W7.cell? ⟨W4.heap.size, 27, none⟩ = some (.bool g.sm) := hM6.bx.cell 27
    obtain ⟨fM_row_W7, -, fM_c1_W7, fM_c2_W7, -, -, -, -, -⟩ := hM.facts
    go_wp2_with fail
    refine (get_is HG _ W7 (HT.out.stays bw) Hm.out).mono ?_
    rintro e v8 ⟨rfl, bv8⟩
    clear fI5_plain_W5 fM6_plain_W6 fM6_row_W7 gM6_0_W7 gM6_1_W7 gM6_2_W7 gM6_24_W7 gM6_27_W7 fM_row_W7 fM_c1_W7 fM_c2_W7
    replace hM := hM.stays bv8
    replace hI5 := hI5.stays bv8
    replace hM6 := hM6.stays bv8
    have lv8 : W7.heap.size ≤ v8.heap.size := bv8.size
    replace bw := nx bw bv8
    obtain ⟨W9, eW9⟩ : ∃ Q_ : World, (v8.alloc (.cells (ci zeroI) 37)).setRow v8.heap.size (ci g) = Q_ := ⟨_, rfl⟩
    have bW9 : Below v8.heap.size v8 W9 := eW9 ▸ below_setRow (below1 _ _) (Nat.le_refl _) _
    have pW9 := (Bx.new v8 (ci zeroI) 37).plain (n := 25) rfl
    replace hM := hM.stays bW9
    replace hI5 := hI5.stays bW9
    replace hM6 := hM6.stays bW9
    have hG9 : Ix W9 v8.heap.size g := ⟨eW9 ▸ Bx.put (Bx.new _ _ _) _⟩
    have lW9 : v8.heap.size < W9.heap.size := hG9.bx.lt
    replace bw := nx bw bW9
    obtain ⟨fI5_row_W9, -, -, -, -, -⟩ := hI5.facts
    obtain ⟨fM6_row_W9, -, -, -, -, -, -, -, -⟩ := hM6.facts
    have gM6_0_W9 : W9.cell? ⟨W4.heap.size, 0, none⟩ = some (.int .i64 7) := hM6.bx.cell 0
    have gM6_1_W9 : W9.cell? ⟨W4.heap.size, 1, none⟩ = some (.int .i64 m.t) := hM6.bx.cell 1
    have gM6_2_W9 : W9.cell? ⟨W4.heap.size, 2, none⟩ = some (.int .i64 m.f) := hM6.bx.cell 2
    have gM6_24_W9 : W9.cell? ⟨W4.heap.size, 24, none⟩ = some (.int .i64 g.st) := hM6.bx.cell 24
    have gM6_27_W9 : W9.cell? ⟨W4.heap.size, 27, none⟩ = some (.bool g.sm) := hM6.bx.cell 27
    obtain ⟨fM_row_W9, -, fM_c1_W9, fM_c2_W9, -, -, -, -, -⟩ := hM.facts
    obtain ⟨fG9_row_W9, fG9_c6_W9, -, -, -, -⟩ := hG9.facts
    have hv := HV.out
    go_wp2_with fail
    refine (awake_any W9).mono ?_
    rintro e v10 ⟨rfl, bv10⟩
    clear fI5_row_W9 fM6_row_W9 gM6_0_W9 gM6_1_W9 gM6_2_W9 gM6_24_W9 gM6_27_W9 fM_row_W9 fM_c1_W9 fM_c2_W9 fG9_row_W9 fG9_c6_W9
    replace hM := hM.stays bv10
    replace hI5 := hI5.stays bv10
    replace hM6 := hM6.stays bv10
    replace hG9 := hG9.stays bv10
    have lv10 : W9.heap.size ≤ v10.heap.size := bv10.size
    replace bw := nx bw bv10
    go_wp2
    go_ret
    exact ⟨rfl, bw⟩
  · have hr2 : r = (⟨5, m.t, m.f, m.pr, m.ps, m.bn, m.br, x.c, x.q, x.d, x.st, x.tn, x.tr, x.sm⟩ : Msg) := hr
    subst hr2
    have HSt := Lib.hid hst
    have HV := Lib.hid (Rc.eqVal_refl x.c x.q x.d)
    clear hr hst hk0
    go_enter Try.func5, Try.ntmps5
    go_wp2_with fail
    refine (In.right_is HRt _ W1 (HT.out.stays bw) Hm.out).mono ?_
    rintro e v2 ⟨rfl, bv2⟩
    replace hM := hM.stays bv2
    have lv2 : W1.heap.size ≤ v2.heap.size := bv2.size
    replace bw := nx bw bv2
    obtain ⟨fM_row_v2, -, -, -, -, -, -, -, -⟩ := hM.facts
    go_wp2_with fail
    refine (hear_is H _ v2 (HT.out.stays bw) Hm.out).mono ?_
    rintro e v3 ⟨rfl, bv3⟩
    clear fM_row_v2
    replace hM := hM.stays bv3
    have lv3 : v2.heap.size ≤ v3.heap.size := bv3.size
    replace bw := nx bw bv3
    obtain ⟨W4, eW4⟩ : ∃ Q_ : World, v3.alloc (.cells (ci zeroI) 37) = Q_ := ⟨_, rfl⟩
    have bW4 : Below v3.heap.size v3 W4 := eW4 ▸ below1 _ _
    replace hM := hM.stays bW4
    have hI5 : Ix W4 v3.heap.size zeroI := ⟨eW4 ▸ Bx.new _ _ _⟩
    have lW4 : v3.heap.size < W4.heap.size := hI5.bx.lt
    replace bw := nx bw bW4
    obtain ⟨W5, eW5⟩ : ∃ Q_ : World, W4.alloc (.cells (cg zeroM) 34) = Q_ := ⟨_, rfl⟩
    have bW5 : Below W4.heap.size W4 W5 := eW5 ▸ below1 _ _
    replace hM := hM.stays bW5
    replace hI5 := hI5.stays bW5
    have hM6 : Gx W5 W4.heap.size zeroM := ⟨eW5 ▸ Bx.new _ _ _⟩
    have lW5 : W4.heap.size < W5.heap.size := hM6.bx.lt
    replace bw := nx bw bW5
    obtain ⟨-, -, -, -, fI5_plain_W5, -⟩ := hI5.facts
    obtain ⟨W6, eW6⟩ : ∃ Q_ : World, W5.setRow (v3.heap.size) (ci (x)) = Q_ := ⟨_, rfl⟩
    replace hM : Gx W6 (w.heap.size) (m) := ⟨eW6 ▸ hM.bx.put' (by omega) _⟩
    replace hM6 : Gx W6 (W4.heap.size) (zeroM) := ⟨eW6 ▸ hM6.bx.put' (by omega) _⟩
    replace hI5 : Ix W6 (v3.heap.size) (x) := ⟨eW6 ▸ hI5.bx.put _⟩
    have lW6 : W5.heap.size ≤ W6.heap.size := eW6 ▸ (low_setRow (n := 0) _ (Nat.zero_le _)).size
    replace bw : Below w.heap.size w W6 := eW6 ▸ bw.trans (low_setRow _ (by omega))
    obtain ⟨-, -, -, -, -, -, -, fM6_plain_W6, -⟩ := hM6.facts
    obtain ⟨W7, eW7⟩ : ∃ Q_ : World, W6.setRow (W4.heap.size) (cg ((⟨5, m.t, m.f, m.pr, m.ps, m.bn, m.br, x.c, x.q, x.d, x.st, x.tn, x.tr, x.sm⟩ : Msg))) = Q_ := ⟨_, rfl⟩
    replace hM : Gx W7 (w.heap.size) (m) := ⟨eW7 ▸ hM.bx.put' (by omega) _⟩
    replace hI5 : Ix W7 (v3.heap.size) (x) := ⟨eW7 ▸ hI5.bx.put' (by omega) _⟩
    replace hM6 : Gx W7 (W4.heap.size) ((⟨5, m.t, m.f, m.pr, m.ps, m.bn, m.br, x.c, x.q, x.d, x.st, x.tn, x.tr, x.sm⟩ : Msg)) := ⟨eW7 ▸ hM6.bx.put _⟩
    have lW7 : W6.heap.size ≤ W7.heap.size := eW7 ▸ (low_setRow (n := 0) _ (Nat.zero_le _)).size
    replace bw : Below w.heap.size w W7 := eW7 ▸ bw.trans (low_setRow _ (by omega))
    obtain ⟨fM6_row_W7, -, -, -, -, -, -, -, -⟩ := hM6.facts
    have gM6_0_W7 : W7.cell? ⟨W4.heap.size, 0, none⟩ = some (.int .i64 5) := hM6.bx.cell 0
    have gM6_1_W7 : W7.cell? ⟨W4.heap.size, 1, none⟩ = some (.int .i64 m.t) := hM6.bx.cell 1
    have gM6_2_W7 : W7.cell? ⟨W4.heap.size, 2, none⟩ = some (.int .i64 m.f) := hM6.bx.cell 2
    have gM6_24_W7 : W7.cell? ⟨W4.heap.size, 24, none⟩ = some (.int .i64 x.st) := hM6.bx.cell 24
    have gM6_27_W7 : W7.cell? ⟨W4.heap.size, 27, none⟩ = some (.bool x.sm) := hM6.bx.cell 27
    obtain ⟨fM_row_W7, -, fM_c1_W7, fM_c2_W7, -, -, -, -, -⟩ := hM.facts
    obtain ⟨fI5_row_W7, -, -, -, -, -⟩ := hI5.facts
    go_wp2_with fail
    refine (settled_is HSt W7).mono ?_
    rintro e v8 ⟨rfl, bv8⟩
    clear fI5_plain_W5 fM6_plain_W6 fM6_row_W7 gM6_0_W7 gM6_1_W7 gM6_2_W7 gM6_24_W7 gM6_27_W7 fM_row_W7 fM_c1_W7 fM_c2_W7 fI5_row_W7
    replace hM := hM.stays bv8
    replace hI5 := hI5.stays bv8
    replace hM6 := hM6.stays bv8
    have lv8 : W7.heap.size ≤ v8.heap.size := bv8.size
    replace bw := nx bw bv8
    obtain ⟨fM6_row_v8, -, -, -, -, -, -, -, -⟩ := hM6.facts
    obtain ⟨fI5_row_v8, -, -, -, -, -⟩ := hI5.facts
    have hv := HV.out
    go_wp2_with fail
    refine (awake_any v8).mono ?_
    rintro e v9 ⟨rfl, bv9⟩
    clear fM6_row_v8 fI5_row_v8
    replace hM := hM.stays bv9
    replace hI5 := hI5.stays bv9
    replace hM6 := hM6.stays bv9
    have lv9 : v8.heap.size ≤ v9.heap.size := bv9.size
    replace bw := nx bw bv9
    go_wp2
    go_ret
    exact ⟨rfl, bw⟩
  · have hr2 : r = (⟨8, m.t, m.f, m.pr, m.ps, x.bn, x.br, Cm.zeroF, 0, Ve.zeroV, 0, m.bn, m.br, false⟩ : Msg) := hr
    subst hr2
    have HL := Lib.hid hl
    clear hr hl hk0
    go_enter Try.func5, Try.ntmps5
    go_wp2_with fail
    refine (In.right_is HRt _ W1 (HT.out.stays bw) Hm.out).mono ?_
    rintro e v2 ⟨rfl, bv2⟩
    replace hM := hM.stays bv2
    have lv2 : W1.heap.size ≤ v2.heap.size := bv2.size
    replace bw := nx bw bv2
    obtain ⟨fM_row_v2, -, -, -, -, -, -, -, -⟩ := hM.facts
    go_wp2_with fail
    refine (hear_is H _ v2 (HT.out.stays bw) Hm.out).mono ?_
    rintro e v3 ⟨rfl, bv3⟩
    clear fM_row_v2
    replace hM := hM.stays bv3
    have lv3 : v2.heap.size ≤ v3.heap.size := bv3.size
    replace bw := nx bw bv3
    obtain ⟨W4, eW4⟩ : ∃ Q_ : World, v3.alloc (.cells (ci zeroI) 37) = Q_ := ⟨_, rfl⟩
    have bW4 : Below v3.heap.size v3 W4 := eW4 ▸ below1 _ _
    replace hM := hM.stays bW4
    have hI5 : Ix W4 v3.heap.size zeroI := ⟨eW4 ▸ Bx.new _ _ _⟩
    have lW4 : v3.heap.size < W4.heap.size := hI5.bx.lt
    replace bw := nx bw bW4
    obtain ⟨W5, eW5⟩ : ∃ Q_ : World, W4.alloc (.cells (cg zeroM) 34) = Q_ := ⟨_, rfl⟩
    have bW5 : Below W4.heap.size W4 W5 := eW5 ▸ below1 _ _
    replace hM := hM.stays bW5
    replace hI5 := hI5.stays bW5
    have hM6 : Gx W5 W4.heap.size zeroM := ⟨eW5 ▸ Bx.new _ _ _⟩
    have lW5 : W4.heap.size < W5.heap.size := hM6.bx.lt
    replace bw := nx bw bW5
    obtain ⟨-, -, -, -, fI5_plain_W5, -⟩ := hI5.facts
    obtain ⟨W6, eW6⟩ : ∃ Q_ : World, W5.setRow (v3.heap.size) (ci (x)) = Q_ := ⟨_, rfl⟩
    replace hM : Gx W6 (w.heap.size) (m) := ⟨eW6 ▸ hM.bx.put' (by omega) _⟩
    replace hM6 : Gx W6 (W4.heap.size) (zeroM) := ⟨eW6 ▸ hM6.bx.put' (by omega) _⟩
    replace hI5 : Ix W6 (v3.heap.size) (x) := ⟨eW6 ▸ hI5.bx.put _⟩
    have lW6 : W5.heap.size ≤ W6.heap.size := eW6 ▸ (low_setRow (n := 0) _ (Nat.zero_le _)).size
    replace bw : Below w.heap.size w W6 := eW6 ▸ bw.trans (low_setRow _ (by omega))
    obtain ⟨-, -, -, -, -, -, -, fM6_plain_W6, -⟩ := hM6.facts
    obtain ⟨W7, eW7⟩ : ∃ Q_ : World, W6.setRow (W4.heap.size) (cg ((⟨8, m.t, m.f, m.pr, m.ps, x.bn, x.br, Cm.zeroF, 0, Ve.zeroV, 0, m.bn, m.br, false⟩ : Msg))) = Q_ := ⟨_, rfl⟩
    replace hM : Gx W7 (w.heap.size) (m) := ⟨eW7 ▸ hM.bx.put' (by omega) _⟩
    replace hI5 : Ix W7 (v3.heap.size) (x) := ⟨eW7 ▸ hI5.bx.put' (by omega) _⟩
    replace hM6 : Gx W7 (W4.heap.size) ((⟨8, m.t, m.f, m.pr, m.ps, x.bn, x.br, Cm.zeroF, 0, Ve.zeroV, 0, m.bn, m.br, false⟩ : Msg)) := ⟨eW7 ▸ hM6.bx.put _⟩
    have lW7 : W6.heap.size ≤ W7.heap.size := eW7 ▸ (low_setRow (n := 0) _ (Nat.zero_le _)).size
    replace bw : Below w.heap.size w W7 := eW7 ▸ bw.trans (low_setRow _ (by omega))
    obtain ⟨fM6_row_W7, -, -, -, -, -, -, -, -⟩ := hM6.facts
    have gM6_0_W7 : W7.cell? ⟨W4.heap.size, 0, none⟩ = some (.int .i64 8) := hM6.bx.cell 0
    have gM6_1_W7 : W7.cell? ⟨W4.heap.size, 1, none⟩ = some (.int .i64 m.t) := hM6.bx.cell 1
    have gM6_2_W7 : W7.cell? ⟨W4.heap.size, 2, none⟩ = some (.int .i64 m.f) := hM6.bx.cell 2
    have gM6_24_W7 : W7.cell? ⟨W4.heap.size, 24, none⟩ = some (.int .i64 0) := hM6.bx.cell 24
    have gM6_27_W7 : W7.cell? ⟨W4.heap.size, 27, none⟩ = some (.bool false) := hM6.bx.cell 27
    obtain ⟨fM_row_W7, -, fM_c1_W7, fM_c2_W7, -, -, -, -, -⟩ := hM.facts
    go_wp2_with fail
    refine (Ba.less_is _ _ _ _ _ HL.out W7).mono ?_
    rintro e v8 ⟨rfl, bv8⟩
    clear fI5_plain_W5 fM6_plain_W6 fM6_row_W7 gM6_0_W7 gM6_1_W7 gM6_2_W7 gM6_24_W7 gM6_27_W7 fM_row_W7 fM_c1_W7 fM_c2_W7
    replace hM := hM.stays bv8
    replace hI5 := hI5.stays bv8
    replace hM6 := hM6.stays bv8
    have lv8 : W7.heap.size ≤ v8.heap.size := bv8.size
    replace bw := nx bw bv8
    obtain ⟨fM6_row_v8, -, -, -, -, -, -, -, -⟩ := hM6.facts
    obtain ⟨fI5_row_v8, -, -, -, -, -⟩ := hI5.facts
    go_wp2_with fail
    refine (awake_any v8).mono ?_
    rintro e v9 ⟨rfl, bv9⟩
    clear fM6_row_v8 fI5_row_v8
    replace hM := hM.stays bv9
    replace hI5 := hI5.stays bv9
    replace hM6 := hM6.stays bv9
    have lv9 : v8.heap.size ≤ v9.heap.size := bv9.size
    replace bw := nx bw bv9
    go_wp2
    go_ret
    exact ⟨rfl, bw⟩
end Go.Proofs.Ytmaecknjamnnpaa.An
