/- AcceptorKeeps. -/
import Derived.Test.YtmaecknjamnnpaaAnK
import Derived.Test.YtmaecknjamnnpaaAnM
import Derived.Deep.DeepCutAuto
namespace Go.Proofs.Ytmaecknjamnnpaa.An
open Go.RowKit
set_option linter.unusedVariables false
open Go.Proofs.Ytmaecknjamnnpaa.Rw
open Go.Proofs.Ytmaecknjamnnpaa.Da
open Go.Proofs.Ytmaecknjamnnpaa.Bv
open Go.Proofs.Ytmaecknjamnnpaa.In
open Go.Proofs.Ytmaecknjamnnpaa.St
open Go.Proofs.Ytmaecknjamnnpaa.Rc (Ins ci cv zeroI okI eqVal eqIns)
open Go.Proofs.Ytmaecknjamnnpaa.Ba (lessB)
theorem keeps {L : List Ins} {y : Msg} {x g : Ins} {r : Msg} {b : Bool} (hr : rightT L 3 = true) (hg : gotI L y.pr y.ps = g) (h : hearR L 3 y = ⟨x, r, b, 0⟩) :
    ((x.pr == y.pr) && (x.ps == y.ps)) = true ∧ lessB x.bn x.br g.bn g.br = false ∧ (lessB x.tn x.tr g.tn g.tr = false ∨ lessB x.tn x.tr g.tn g.tr = true ∧ (x.st == 3) = true) ∧ ((g.st == 3) = false ∨ (g.st == 3) = true ∧ eqIns x g = true) ∧
      (decide (x.st < g.st) = false ∨ decide (x.st < g.st) = true ∧ ((x.tn == g.tn) && (x.tr == g.tr)) = false) ∧ rightT (putG x L) 3 = true := by
  have he := hear_err (l := L) (n := 3) (m := y) (by rw [h])
  have hgd := may_good he.2
  have hgo := got_ok he.1 hgd
  rw [hear_ok he.1 he.2] at h
  have hx : (reactR L (gotI L y.pr y.ps) y).1 = x := by rw [← ok_i, h]
  have hw := way L (gotI L y.pr y.ps) y
  have ho := way_ok hw he.1 hgo.1 hgd
  have hp := way_place hw hgo.2
  have hk := way_keeps hw hgo.1
  rw [hx] at ho hp hk
  rw [hg] at hk
  obtain ⟨k1, k2, k3, k4⟩ := hk
  refine ⟨by rw [Bool.and_eq_true, beq_iff_eq, beq_iff_eq]; exact hp, k1, ?_, ?_, ?_, ?_⟩
  · cases e : lessB x.tn x.tr g.tn g.tr with
    | false => exact .inl rfl
    | true =>
      refine .inr ⟨rfl, ?_⟩
      rcases k2 with k2 | k2
      · rw [e] at k2; cases k2
      · simpa using k2
  · by_cases e : g.st = 3
    · exact .inr ⟨by simpa using e, by rw [k3 e]; exact Rc.eqIns_refl g⟩
    · exact .inl (by simpa using e)
  · by_cases e : x.st < g.st
    · refine .inr ⟨decide_eq_true e, ?_⟩
      rw [Bool.and_eq_false_iff, beq_eq_false_iff_ne, beq_eq_false_iff_ne]
      by_cases e2 : x.tn = g.tn
      · exact .inr fun e3 => k4 ⟨e, e2, e3⟩
      · exact .inl e2
    · exact .inl (decide_eq_false e)
  · obtain ⟨h1, h2, h3⟩ := rightT_iff.1 he.1
    rw [put_srt_eq h3]
    refine rightT_iff.2 ⟨h1, fun i hi => ?_, put_srt x h3⟩
    rcases put_mem hi with rfl | hi
    · exact ho
    · exact h2 i hi
theorem keeps_no {L : List Ins} {y : Msg} {x g : Ins} {r : Msg} {b : Bool} {c : Int} (hg : gotI L y.pr y.ps = g) (h : hearR L 3 y = ⟨x, r, b, c⟩) (hc : c ≠ 0) : x = g := by
  by_cases e : rightT L 3 = true ∧ mayB y 3 = true
  · rw [hear_ok e.1 e.2] at h
    have := ok_e L y
    rw [h] at this
    exact absurd this hc
  · rw [hear_no e, hg] at h
    injection h with h _ _ _; exact h.symm
def KeP (q N2 : Nat) (W : World) (s0 i : Value) (wr : World) : Prop := ∃ (k : Nat) (L : List Ins), k ≤ N2 ∧ i = .int .i64 k ∧ TI q L s0 wr ∧ capOk s0 ∧ rightT L 3 = true ∧ L.length ≤ 30 + k ∧ Below W.heap.size W wr
set_option maxRecDepth 16000 in
set_option maxHeartbeats 16000000 in
theorem walkKeeps (l : List Ins) (v : Value) (ms : List Msg) (vm : Value) (w : World) (h : TI w.heap.size l v w) (hwf : l.length ≤ maxLen ∧ capOk v) (hms : TG w.heap.size ms vm w) (_ : ms.length ≤ maxLen) :
    Calls Try.prog 4 #[v, vm] w fun e w' => e = .returned (.bool true) ∧ Below w.heap.size w w' := by
  obtain ⟨q, hq⟩ : ∃ q, q = w.heap.size := ⟨_, rfl⟩
  rw [← hq] at h hms
  have hq0 : q ≤ w.heap.size := by omega
  clear hq
  obtain ⟨a1, c1, rfl⟩ := h.len
  obtain ⟨a2, c2, rfl⟩ := hms.len
  obtain ⟨N, hN⟩ : ∃ N, l.length = N := ⟨_, rfl⟩
  obtain ⟨N2, hN2⟩ : ∃ N, ms.length = N := ⟨_, rfl⟩
  have HN := Lib.hid hN
  have HN2 := Lib.hid hN2
  have hcap := hwf.2
  rw [hN] at h hcap ⊢
  rw [hN2] at hms ⊢
  have HT := Lib.hid h
  have HC := Lib.hid hcap
  have HG0 := Lib.hid hms
  clear h hN hN2 hms hwf hcap
  have hor : (decide ((N : Int) > 30) = true ∨ decide ((N : Int) > 30) = false ∧ decide ((N2 : Int) > 40) = true) ∨ N ≤ 30 ∧ N2 ≤ 40 := by
    by_cases e : 30 < N
    · exact .inl (.inl (decide_eq_true (by omega)))
    · by_cases e2 : 40 < N2
      · exact .inl (.inr ⟨decide_eq_false (by omega), decide_eq_true (by omega)⟩)
      · exact .inr ⟨by omega, by omega⟩
  rcases hor with hor | ⟨hN30, hN40⟩
  · rcases hor with hd | ⟨hd, hd2⟩
    all_goals
      go_enter Try.func4, Try.ntmps4
      go_wp2_with fail
      refine (awake_any _).mono ?_
      rintro e w1 ⟨rfl, hb1⟩
      go_wp2
      go_ret
      exact ⟨rfl, hb1⟩
  have hd : decide ((N : Int) > 30) = false := decide_eq_false (by omega)
  have hd2 : decide ((N2 : Int) > 40) = false := decide_eq_false (by omega)
  have Hm : Hid (l.length ≤ 1000000) := Lib.hid (by rw [HN.out]; omega)
  obtain ⟨rt, hrt⟩ : ∃ g, rightT l 3 = g := ⟨_, rfl⟩
  have HRt := Lib.hid hrt
  clear hrt
  cases rt with
  | false =>
    go_enter Try.func4, Try.ntmps4
    go_wp2_with fail
    refine (In.right_is HRt _ w HT.out Hm.out).mono ?_
    rintro e w1 ⟨rfl, hb1⟩
    go_wp2_with fail
    refine (awake_any _).mono ?_
    rintro e w2 ⟨rfl, hb2⟩
    go_wp2
    go_ret
    exact ⟨rfl, nx hb1 hb2⟩
  | true =>
  go_enter Try.func4, Try.ntmps4
  go_wp2_with fail
  refine (In.right_is HRt _ w HT.out Hm.out).mono ?_
  rintro e w1 ⟨rfl, hb1⟩
  have H0 : Hid (KeP q N2 w1 (.slice a1 N c1) (.int .i64 ((0 : Nat) : Int)) w1) := Lib.hid ⟨0, l, Nat.zero_le _, rfl, HT.out.stays hb1, HC.out, HRt.out, by rw [HN.out]; omega, Below.refl _ _⟩
  have HG1 := Lib.hid (HG0.out.stays hb1)
  have hs1 : w.heap.size ≤ w1.heap.size := hb1.size
  clear hd hd2
  go_wp2
  go_loopw [0, 29] (KeP q N2 w1) (fun _ i _ => N2 - (intOf i).toNat)
  case atStart => exact H0.out
  case round =>
    obtain ⟨k, L, hk, rfl, ht, hcp, hrt, hlen, hb⟩ := hrel
    obtain ⟨aL, cL, rfl⟩ := ht.len
    obtain ⟨NL, hNL⟩ : ∃ N, L.length = N := ⟨_, rfl⟩
    have HNL := Lib.hid hNL
    rw [hNL] at ht hcp hlen ⊢
    have HTL := Lib.hid ht
    have HCL := Lib.hid hcp
    have HRL := Lib.hid hrt
    have HmL : Hid (L.length ≤ 1000000) := Lib.hid (by rw [hNL]; omega)
    have bwr := nx hb1 hb
    clear ht hcp hrt hNL
    by_cases hlt : k < N2
    · have hkl : k < ms.length := by rw [HN2.out]; exact hlt
      have hlt2 : (k : Int) < N2 := by omega
      obtain ⟨bb, off, rfl, hx, hbb⟩ := TG.at HG1.out hb hkl
      obtain ⟨y, hyy⟩ : ∃ y, ms[k] = y := ⟨_, rfl⟩
      rw [hyy] at hx
      clear hyy
      obtain ⟨g, hg⟩ : ∃ g, gotI L y.pr y.ps = g := ⟨_, rfl⟩
      obtain ⟨gb, hgb⟩ : ∃ g, hasI L y.pr y.ps = g := ⟨_, rfl⟩
      have HG := Lib.hid (And.intro hg hgb)
      obtain ⟨⟨x, r, b, c⟩, hR⟩ : ∃ R, hearR L 3 y = R := ⟨_, rfl⟩
      have H := Lib.hid hR
      clear hg hgb hR
      have bw : Below w.heap.size w wr := bwr
      have lwr : w.heap.size ≤ wr.heap.size := bwr.size
      have bw1 : Below w1.heap.size w1 wr := hb
      obtain ⟨W1, eW1⟩ : ∃ Q_ : World, (wr.alloc (.cells (cg zeroM) 34)).setRow wr.heap.size (cg y) = Q_ := ⟨_, rfl⟩
      have bW1 : Below wr.heap.size wr W1 := eW1 ▸ below_setRow (below1 _ _) (Nat.le_refl _) _
      have pW1 := (Bx.new wr (cg zeroM) 34).plain (n := 28) rfl
      have hM6 : Gx W1 wr.heap.size y := ⟨eW1 ▸ Bx.put (Bx.new _ _ _) _⟩
      have lW1 : wr.heap.size < W1.heap.size := hM6.bx.lt
      replace bw := nx bw bW1
      have kb := bW1
      obtain ⟨fM6_row_W1, -, -, -, -, -, -, -, -⟩ := hM6.facts
      go_wp2_with fail
      refine (get_is HG _ W1 (HTL.out.stays kb) HmL.out).mono ?_
      rintro e v2 ⟨rfl, bv2⟩
      clear fM6_row_W1
      replace hM6 := hM6.stays bv2
      have lv2 : W1.heap.size ≤ v2.heap.size := bv2.size
      replace bw := nx bw bv2
      replace kb := nx kb bv2
      obtain ⟨W3, eW3⟩ : ∃ Q_ : World, (v2.alloc (.cells (ci zeroI) 37)).setRow v2.heap.size (ci g) = Q_ := ⟨_, rfl⟩
      have bW3 : Below v2.heap.size v2 W3 := eW3 ▸ below_setRow (below1 _ _) (Nat.le_refl _) _
      have pW3 := (Bx.new v2 (ci zeroI) 37).plain (n := 25) rfl
      replace hM6 := hM6.stays bW3
      have hG7 : Ix W3 v2.heap.size g := ⟨eW3 ▸ Bx.put (Bx.new _ _ _) _⟩
      have lW3 : v2.heap.size < W3.heap.size := hG7.bx.lt
      replace bw := nx bw bW3
      replace kb := nx kb bW3
      obtain ⟨fM6_row_W3, -, -, -, -, -, -, -, -⟩ := hM6.facts
      go_wp2_with fail
      refine (hear_is H _ W3 (HTL.out.stays kb) HmL.out).mono ?_
      rintro e v4 ⟨rfl, bv4⟩
      clear fM6_row_W3
      replace hM6 := hM6.stays bv4
      replace hG7 := hG7.stays bv4
      have lv4 : W3.heap.size ≤ v4.heap.size := bv4.size
      replace bw := nx bw bv4
      replace kb := nx kb bv4
      obtain ⟨W5, eW5⟩ : ∃ Q_ : World, v4.alloc (.cells (ci zeroI) 37) = Q_ := ⟨_, rfl⟩
      have bW5 : Below v4.heap.size v4 W5 := eW5 ▸ below1 _ _
      replace hM6 := hM6.stays bW5
      replace hG7 := hG7.stays bW5
      have hI9 : Ix W5 v4.heap.size zeroI := ⟨eW5 ▸ Bx.new _ _ _⟩
      have lW5 : v4.heap.size < W5.heap.size := hI9.bx.lt
      replace bw := nx bw bW5
      replace kb := nx kb bW5
      obtain ⟨W6, eW6⟩ : ∃ Q_ : World, W5.alloc (.cells (cg zeroM) 34) = Q_ := ⟨_, rfl⟩
      have bW6 : Below W5.heap.size W5 W6 := eW6 ▸ below1 _ _
      replace hM6 := hM6.stays bW6
      replace hG7 := hG7.stays bW6
      replace hI9 := hI9.stays bW6
      have hM10 : Gx W6 W5.heap.size zeroM := ⟨eW6 ▸ Bx.new _ _ _⟩
      have lW6 : W5.heap.size < W6.heap.size := hM10.bx.lt
      replace bw := nx bw bW6
      replace kb := nx kb bW6
      obtain ⟨-, -, -, -, fI9_plain_W6, -⟩ := hI9.facts
      obtain ⟨W7, eW7⟩ : ∃ Q_ : World, W6.setRow (v4.heap.size) (ci (x)) = Q_ := ⟨_, rfl⟩
      replace hM6 : Gx W7 (wr.heap.size) (y) := ⟨eW7 ▸ hM6.bx.put' (by omega) _⟩
      replace hG7 : Ix W7 (v2.heap.size) (g) := ⟨eW7 ▸ hG7.bx.put' (by omega) _⟩
      replace hM10 : Gx W7 (W5.heap.size) (zeroM) := ⟨eW7 ▸ hM10.bx.put' (by omega) _⟩
      replace hI9 : Ix W7 (v4.heap.size) (x) := ⟨eW7 ▸ hI9.bx.put _⟩
      have lW7 : W6.heap.size ≤ W7.heap.size := eW7 ▸ (low_setRow (n := 0) _ (Nat.zero_le _)).size
      replace bw : Below w.heap.size w W7 := eW7 ▸ bw.trans (low_setRow _ (by omega))
      replace kb : Below wr.heap.size wr W7 := eW7 ▸ kb.trans (low_setRow _ (by omega))
      obtain ⟨-, -, -, -, -, -, -, fM10_plain_W7, -⟩ := hM10.facts
      obtain ⟨W8, eW8⟩ : ∃ Q_ : World, W7.setRow (W5.heap.size) (cg (r)) = Q_ := ⟨_, rfl⟩
      replace hM6 : Gx W8 (wr.heap.size) (y) := ⟨eW8 ▸ hM6.bx.put' (by omega) _⟩
      replace hG7 : Ix W8 (v2.heap.size) (g) := ⟨eW8 ▸ hG7.bx.put' (by omega) _⟩
      replace hI9 : Ix W8 (v4.heap.size) (x) := ⟨eW8 ▸ hI9.bx.put' (by omega) _⟩
      replace hM10 : Gx W8 (W5.heap.size) (r) := ⟨eW8 ▸ hM10.bx.put _⟩
      have lW8 : W7.heap.size ≤ W8.heap.size := eW8 ▸ (low_setRow (n := 0) _ (Nat.zero_le _)).size
      replace bw : Below w.heap.size w W8 := eW8 ▸ bw.trans (low_setRow _ (by omega))
      replace kb : Below wr.heap.size wr W8 := eW8 ▸ kb.trans (low_setRow _ (by omega))
      have HTW := Lib.hid (HTL.out.stays kb)
      have hb2 : Below w1.heap.size w1 W8 := nx hb kb
      by_cases hc : c = 0
      case neg =>
        have ec : (c != 0) = true := by simpa using hc
        obtain rfl : x = g := keeps_no HG.out.1 H.out hc
        have he : eqIns x x = true := Rc.eqIns_refl x
        clear hc
        obtain ⟨fI9_row_W8, -, -, -, -, -⟩ := hI9.facts
        obtain ⟨fG7_row_W8, -, -, -, -, -⟩ := hG7.facts
        go_wp2
        go_roundw
        case rel => exact ⟨k + 1, L, by omega, by go_num, HTW.out, HCL.out, HRL.out, by rw [HNL.out]; omega, hb2⟩
        case measure => simp [intOf]; omega
      subst hc
      have HKe := Lib.hid (keeps HRL.out HG.out.1 H.out)
      have hp0 := HKe.out.1
      have HI9 := Lib.hid hI9
      have HG7 := Lib.hid hG7
      have HM6 := Lib.hid hM6
      go_upto_region 11 with fail
      clear fI9_plain_W6 fM10_plain_W7
      go_cut [99] (fun s wx => s = .bool false ∧ Below W8.heap.size W8 wx)
      case first =>
        have bw : Below W8.heap.size W8 W8 := Below.refl _ _
        obtain ⟨fI9_row_W8, -, -, -, -, -⟩ := hI9.facts
        obtain ⟨fM6_row_W8, -, -, -, -, -, -, -, -⟩ := hM6.facts
        obtain ⟨fG7_row_W8, -, -, -, -, -⟩ := hG7.facts
        go_wp2_with fail
        refine (Ba.less_is _ _ _ _ _ HKe.out.2.1 W8).mono ?_
        rintro e v9 ⟨rfl, bv9⟩
        clear fI9_row_W8 fM6_row_W8 fG7_row_W8
        replace hM6 := hM6.stays bv9
        replace hG7 := hG7.stays bv9
        replace hI9 := hI9.stays bv9
        replace hM10 := hM10.stays bv9
        have lv9 : W8.heap.size ≤ v9.heap.size := bv9.size
        replace bw := nx bw bv9
        obtain ⟨fI9_row_v9, -, -, -, -, -⟩ := hI9.facts
        obtain ⟨fG7_row_v9, -, -, -, -, -⟩ := hG7.facts
        rcases HKe.out.2.2.1 with t1 | ⟨t1, t2⟩
        · have HT1 := Lib.hid t1
          clear t1
          go_wp2_with fail
          refine (Ba.less_is _ _ _ _ _ HT1.out v9).mono ?_
          rintro e v10 ⟨rfl, bv10⟩
          clear fI9_row_v9 fG7_row_v9
          replace hM6 := hM6.stays bv10
          replace hG7 := hG7.stays bv10
          replace hI9 := hI9.stays bv10
          replace hM10 := hM10.stays bv10
          have lv10 : v9.heap.size ≤ v10.heap.size := bv10.size
          replace bw := nx bw bv10
          obtain ⟨fI9_row_v10, -, -, -, -, -⟩ := hI9.facts
          obtain ⟨fG7_row_v10, -, -, -, -, -⟩ := hG7.facts
          rcases HKe.out.2.2.2.1 with s1 | ⟨s1, s2⟩
          · have HS1 : Hid ((g.st == 3) = false) := Lib.hid s1
            clear s1
            go_wp2_with fail
            refine (settled_is HS1 v10).mono ?_
            rintro e v11 ⟨rfl, bv11⟩
            clear fI9_row_v10 fG7_row_v10
            replace hM6 := hM6.stays bv11
            replace hG7 := hG7.stays bv11
            replace hI9 := hI9.stays bv11
            replace hM10 := hM10.stays bv11
            have lv11 : v10.heap.size ≤ v11.heap.size := bv11.size
            replace bw := nx bw bv11
            obtain ⟨fI9_row_v11, fI9_c6_v11, -, -, -, -⟩ := hI9.facts
            obtain ⟨fG7_row_v11, fG7_c6_v11, -, -, -, -⟩ := hG7.facts
            rcases HKe.out.2.2.2.2.1 with d1 | ⟨d1, d2⟩
            all_goals
              go_wp2
              go_meet
              exact ⟨rfl, bw⟩
          · have HS1 : Hid ((g.st == 3) = true) := Lib.hid s1
            have HS2 := Lib.hid s2
            clear s1 s2
            go_wp2_with fail
            refine (settled_is HS1 v10).mono ?_
            rintro e v11 ⟨rfl, bv11⟩
            clear fI9_row_v10 fG7_row_v10
            replace hM6 := hM6.stays bv11
            replace hG7 := hG7.stays bv11
            replace hI9 := hI9.stays bv11
            replace hM10 := hM10.stays bv11
            have lv11 : v10.heap.size ≤ v11.heap.size := bv11.size
            replace bw := nx bw bv11
            obtain ⟨fI9_row_v11, fI9_c6_v11, -, -, -, -⟩ := hI9.facts
            obtain ⟨fG7_row_v11, fG7_c6_v11, -, -, -, -⟩ := hG7.facts
            have he := HS2.out
            rcases HKe.out.2.2.2.2.1 with d1 | ⟨d1, d2⟩
            all_goals
              go_wp2
              go_meet
              exact ⟨rfl, bw⟩
        · have HT1 := Lib.hid t1
          have HT2 : Hid ((x.st == 3) = true) := Lib.hid t2
          clear t1 t2
          go_wp2_with fail
          refine (Ba.less_is _ _ _ _ _ HT1.out v9).mono ?_
          rintro e v10 ⟨rfl, bv10⟩
          clear fI9_row_v9 fG7_row_v9
          replace hM6 := hM6.stays bv10
          replace hG7 := hG7.stays bv10
          replace hI9 := hI9.stays bv10
          replace hM10 := hM10.stays bv10
          have lv10 : v9.heap.size ≤ v10.heap.size := bv10.size
          replace bw := nx bw bv10
          obtain ⟨fI9_row_v10, -, -, -, -, -⟩ := hI9.facts
          go_wp2_with fail
          refine (settled_is HT2 v10).mono ?_
          rintro e v11 ⟨rfl, bv11⟩
          clear fI9_row_v10
          replace hM6 := hM6.stays bv11
          replace hG7 := hG7.stays bv11
          replace hI9 := hI9.stays bv11
          replace hM10 := hM10.stays bv11
          have lv11 : v10.heap.size ≤ v11.heap.size := bv11.size
          replace bw := nx bw bv11
          obtain ⟨fG7_row_v11, -, -, -, -, -⟩ := hG7.facts
          rcases HKe.out.2.2.2.1 with s1 | ⟨s1, s2⟩
          · have HS1 : Hid ((g.st == 3) = false) := Lib.hid s1
            clear s1
            go_wp2_with fail
            refine (settled_is HS1 v11).mono ?_
            rintro e v12 ⟨rfl, bv12⟩
            clear fG7_row_v11
            replace hM6 := hM6.stays bv12
            replace hG7 := hG7.stays bv12
            replace hI9 := hI9.stays bv12
            replace hM10 := hM10.stays bv12
            have lv12 : v11.heap.size ≤ v12.heap.size := bv12.size
            replace bw := nx bw bv12
            obtain ⟨fI9_row_v12, fI9_c6_v12, -, -, -, -⟩ := hI9.facts
            obtain ⟨fG7_row_v12, fG7_c6_v12, -, -, -, -⟩ := hG7.facts
            rcases HKe.out.2.2.2.2.1 with d1 | ⟨d1, d2⟩
            all_goals
              go_wp2
              go_meet
              exact ⟨rfl, bw⟩
          · have HS1 : Hid ((g.st == 3) = true) := Lib.hid s1
            have HS2 := Lib.hid s2
            clear s1 s2
            go_wp2_with fail
            refine (settled_is HS1 v11).mono ?_
            rintro e v12 ⟨rfl, bv12⟩
            clear fG7_row_v11
            replace hM6 := hM6.stays bv12
            replace hG7 := hG7.stays bv12
            replace hI9 := hI9.stays bv12
            replace hM10 := hM10.stays bv12
            have lv12 : v11.heap.size ≤ v12.heap.size := bv12.size
            replace bw := nx bw bv12
            obtain ⟨fI9_row_v12, fI9_c6_v12, -, -, -, -⟩ := hI9.facts
            obtain ⟨fG7_row_v12, fG7_c6_v12, -, -, -, -⟩ := hG7.facts
            have he := HS2.out
            rcases HKe.out.2.2.2.2.1 with d1 | ⟨d1, d2⟩
            all_goals
              go_wp2
              go_meet
              exact ⟨rfl, bw⟩
      case rest =>
      obtain ⟨rfl, hbc⟩ := hcut
      clear hp0
      obtain ⟨X, hX⟩ : ∃ X : World, wc = X := ⟨_, rfl⟩
      rw [hX] at hbc ⊢
      clear hX
      have hI := HI9.out.stays hbc
      have hGg := HG7.out.stays hbc
      have HTX := Lib.hid (HTW.out.stays hbc)
      have hb3 := nx hb2 hbc
      obtain ⟨eq, heq⟩ : ∃ t, eqIns x g = t := ⟨_, rfl⟩
      have HEq := Lib.hid heq
      obtain ⟨f1, -, -, -, -, -⟩ := hI.facts
      obtain ⟨f2, -, -, -, -, -⟩ := hGg.facts
      have hqX : q ≤ X.heap.size := by have := hb3.size; omega
      cases eq with
      | true =>
        go_wp2_with fail
        refine (In.right_is HRL _ X HTX.out HmL.out).mono ?_
        rintro e w8 ⟨rfl, hb8⟩
        have HTE := Lib.hid (HTX.out.stays hb8)
        have hbE := nx hb3 hb8
        clear f1 f2 heq
        go_wp2
        go_roundw
        case rel => exact ⟨k + 1, L, by omega, by go_num, HTE.out, HCL.out, HRL.out, by rw [HNL.out]; omega, hbE⟩
        case measure => simp [intOf]; omega
      | false =>
        have HRP := Lib.hid HKe.out.2.2.2.2.2
        have HPl := Lib.hid (putG_len x L)
        have HmP : Hid ((putG x L).length ≤ 1000000) := Lib.hid (by have := HPl.out; have := HNL.out; omega)
        go_wp2_with fail
        refine (put_any q L _ x X HTX.out HCL.out hqX HmL.out).mono ?_
        rintro e w8 ⟨vp, rfl, hb8, ho8⟩
        have HTE := Lib.hid (ho8.ti hqX)
        have HCE := Lib.hid ho8.cap
        have hbE := nx hb3 hb8
        clear f1 f2 heq ho8
        go_wp2_with fail
        refine (In.right_is HRP _ w8 HTE.out HmP.out).mono ?_
        rintro e w9 ⟨rfl, hb9⟩
        have HTF := Lib.hid (HTE.out.stays hb9)
        have hbF := nx hbE hb9
        go_wp2
        go_roundw
        case rel => exact ⟨k + 1, putG x L, by omega, by go_num, HTF.out, HCE.out, HRP.out, by have := HPl.out; have := HNL.out; omega, hbF⟩
        case measure => simp [intOf]; omega
    · obtain rfl : k = N2 := by omega
      go_wp2_with fail
      refine (awake_any _).mono ?_
      rintro e w9 ⟨rfl, hb9⟩
      go_wp2
      go_ret
      exact ⟨rfl, nx bwr hb9⟩
end Go.Proofs.Ytmaecknjamnnpaa.An
