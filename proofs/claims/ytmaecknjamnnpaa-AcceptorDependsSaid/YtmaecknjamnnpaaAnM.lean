/- AcceptorTwice. -/
import Derived.Test.YtmaecknjamnnpaaAnK
namespace Go.Proofs.Ytmaecknjamnnpaa.An
open Go.RowKit
set_option linter.unusedVariables false
open Go.Proofs.Ytmaecknjamnnpaa.Rw
open Go.Proofs.Ytmaecknjamnnpaa.Da
open Go.Proofs.Ytmaecknjamnnpaa.Bv
open Go.Proofs.Ytmaecknjamnnpaa.In
open Go.Proofs.Ytmaecknjamnnpaa.St
open Go.Proofs.Ytmaecknjamnnpaa.Rc (Ins ci cv zeroI okI eqVal eqIns)
/-- Three may come now, the others have to wait. -/
theorem steps_three {P : Program} {ops : Array Oper} {Q : Exit → Act → World → Prop} {md : Region.Mode} {S G : World → Prop} {i j k : Nat} {ord ord' ord'' : List Nat} {listed : Array Bool} {a : Act}
    (hr : Region.ready md ops listed = [i, j, k]) (hl : ord'.length = ord.length) (hl2 : ord''.length = ord.length) (h : Rh.One P md ops Q S i ord listed a G) (h2 : Rh.One P md ops Q S j ord' listed a G) (h3 : Rh.One P md ops Q S k ord'' listed a G) : Rh.Steps P md ops Q S (i :: ord) listed a G := fun hs hQ sS st =>
  ⟨fun e => absurd hr (by rw [e]; exact fun x => by cases x), fun x hx => by
    rw [hr] at hx
    simp at hx
    rcases hx with rfl | rfl | rfl
    · exact h hs hQ sS st
    · have := h2 hs hQ sS st
      rw [hl] at this
      exact this
    · have := h3 hs hQ sS st
      rw [hl2] at this
      exact this⟩
theorem steps_two {P : Program} {ops : Array Oper} {Q : Exit → Act → World → Prop} {md : Region.Mode} {S G : World → Prop} {i j : Nat} {ord ord' : List Nat} {listed : Array Bool} {a : Act}
    (hr : Region.ready md ops listed = [i, j]) (hl : ord'.length = ord.length) (h : Rh.One P md ops Q S i ord listed a G) (k : Rh.One P md ops Q S j ord' listed a G) : Rh.Steps P md ops Q S (i :: ord) listed a G := fun hs hQ sS st =>
  ⟨fun e => absurd hr (by rw [e]; exact fun x => by cases x), fun x hx => by
    rw [hr] at hx
    simp at hx
    rcases hx with rfl | rfl
    · exact h hs hQ sS st
    · have := k hs hQ sS st
      rw [hl] at this
      exact this⟩
theorem weakA {P : Program} {ops : Array Oper} {Q : Exit → Act → World → Prop} {md : Region.Mode} {S : World → Prop} : ∀ (n : Nat) (listed : Array Bool) (a : Act) (G G' : World → Prop), (∀ u, G u → G' u) → Rh.Any P md ops Q S n listed a G' → Rh.Any P md ops Q S n listed a G
  | 0, _, _, _, _, hg, h => ⟨h.1, fun w hS hG => h.2 w hS (hg w hG)⟩
  | n + 1, _, _, _, _, hg, h => ⟨fun e w hS hG => h.1 e w hS (hg w hG), fun i hi w hS hG => h.2 i hi w hS (hg w hG)⟩
theorem weakG {P : Program} {ops : Array Oper} {Q : Exit → Act → World → Prop} {md : Region.Mode} {S G G' : World → Prop} {ord : List Nat} {listed : Array Bool} {a : Act} (hg : ∀ u, G u → G' u) (st : Rh.Stays G') (h : Rh.Steps P md ops Q S ord listed a G') : Rh.Steps P md ops Q S ord listed a G :=
  fun hs hQ sS _ => weakA _ _ _ _ _ hg (h hs hQ sS st)
/-- A variable of n cells, made behind W, that is not b0. -/
def Px (n b0 : Nat) (W : World) (v : Value) (u : World) : Prop := ∃ b cs T, v = .pointer (some ⟨b, 0, none⟩) ∧ W.heap.size ≤ b ∧ b ≠ b0 ∧ Bx u b cs T ∧ cs.size = n
theorem Px.stays {n b0 : Nat} {W u u' : World} {v : Value} (h : Px n b0 W v u) (k : Below u.heap.size u u') : Px n b0 W v u' := by
  obtain ⟨b, cs, T, h1, h2, h3, h4, h5⟩ := h
  exact ⟨b, cs, T, h1, h2, h3, h4.stays k, h5⟩
/-- Block b is a variable of n cells. -/
def Vx (n b : Nat) (u : World) : Prop := ∃ cs T, Bx u b cs T ∧ cs.size = n
theorem Vx.stays {n b : Nat} {u u' : World} (h : Vx n b u) (k : Below u.heap.size u u') : Vx n b u' := by
  obtain ⟨cs, T, h4, h5⟩ := h
  exact ⟨cs, T, h4.stays k, h5⟩
theorem Vx.lt {n b : Nat} {u : World} (h : Vx n b u) : b < u.heap.size := by obtain ⟨cs, T, h4, h5⟩ := h; exact h4.lt
/-- Behind the second hearing. -/
def TwP (W : World) (x : Ins) (r : Msg) (b : Bool) (s9 s10 s11 s12 : Value) (wx : World) : Prop := ∃ b9 b10 : Nat, s9 = .pointer (some ⟨b9, 0, none⟩) ∧ s10 = .pointer (some ⟨b10, 0, none⟩) ∧ s11 = .bool b ∧ s12 = .int .i64 0 ∧ Below W.heap.size W wx ∧ Ix wx b9 x ∧ Gx wx b10 r
theorem twice {l : List Ins} {m : Msg} {x : Ins} {r : Msg} {b : Bool} (h : hearR l 3 m = ⟨x, r, b, 0⟩) : okI x 3 = true ∧ x.pr = m.pr ∧ x.ps = m.ps ∧ hearR (putG x l) 3 m = ⟨x, r, b, 0⟩ := by
  have he := hear_err (l := l) (n := 3) (m := m) (by rw [h])
  have hg := may_good he.2
  have hgo := got_ok he.1 hg
  rw [hear_ok he.1 he.2] at h
  have hx : (reactR l (gotI l m.pr m.ps) m).1 = x := by rw [← ok_i, h]
  have hw := way l (gotI l m.pr m.ps) m
  have ho := way_ok hw he.1 hgo.1 hg
  have hp := way_place hw hgo.2
  rw [hx] at ho hp hw
  refine ⟨ho, hp.1, hp.2, ?_⟩
  obtain ⟨h1, h2, h3⟩ := rightT_iff.1 he.1
  have hr : rightT (putG x l) 3 = true := by
    rw [put_srt_eq h3]
    refine rightT_iff.2 ⟨h1, fun i hi => ?_, put_srt x h3⟩
    rcases put_mem hi with rfl | hi
    · exact ho
    · exact h2 i hi
  rw [hear_ok hr he.2]
  have hgot : gotI (putG x l) m.pr m.ps = x := by
    rw [put_srt_eq h3, got_put h3, if_pos (atP_iff.2 hp)]
  unfold hearOk at h ⊢
  rw [hgot, way_twice (l' := putG x l) hw]
  rw [hx] at h
  exact h
set_option maxRecDepth 16000 in
set_option maxHeartbeats 16000000 in
theorem walkTwice (l : List Ins) (v : Value) (m : Msg) (w : World) (h : TI w.heap.size l v w) (hwf : l.length ≤ maxLen ∧ capOk v) :
    Calls Try.prog 6 #[v, .agg (cg m)] w fun e w' => e = .returned (.bool true) ∧ Below w.heap.size w w' := by
  have HC := Lib.hid hwf.2
  clear hwf
  obtain ⟨q, hq⟩ : ∃ q, q = w.heap.size := ⟨_, rfl⟩
  rw [← hq] at h
  have hq0 : q ≤ w.heap.size := by omega
  clear hq
  obtain ⟨a1, c1, rfl⟩ := h.len
  obtain ⟨N, hN⟩ : ∃ N, l.length = N := ⟨_, rfl⟩
  have HN := Lib.hid hN
  rw [hN] at h ⊢
  have HT := Lib.hid h
  clear h hN
  obtain ⟨W1, eW1⟩ : ∃ Q_ : World, w.alloc (.cells (cg m) 34) = Q_ := ⟨_, rfl⟩
  have bW1 : Below w.heap.size w W1 := eW1 ▸ below1 _ _
  have hM : Gx W1 w.heap.size m := ⟨eW1 ▸ Bx.new _ _ _⟩
  have lW1 : w.heap.size < W1.heap.size := hM.bx.lt
  have bw : Below w.heap.size w W1 := bW1
  by_cases hlen : 60 < N
  · have hd : decide ((N : Int) > 60) = true := decide_eq_true (by omega)
    go_enter Try.func6, Try.ntmps6
    go_wp2_with fail
    refine (awake_any _).mono ?_
    rintro e w1 ⟨rfl, hb1⟩
    go_wp2
    go_ret
    exact ⟨rfl, nx bw hb1⟩
  have hd : decide ((N : Int) > 60) = false := decide_eq_false (by omega)
  have hm : l.length ≤ 1000000 := by rw [HN.out]; omega
  have Hm := Lib.hid hm
  clear hm
  obtain ⟨rt, hrt⟩ : ∃ g, rightT l 3 = g := ⟨_, rfl⟩
  have HRt := Lib.hid hrt
  clear hrt
  cases rt with
  | false =>
    go_enter Try.func6, Try.ntmps6
    go_wp2_with fail
    refine (In.right_is HRt _ W1 (HT.out.stays bw) Hm.out).mono ?_
    rintro e w1 ⟨rfl, hb1⟩
    go_wp2_with fail
    refine (awake_any _).mono ?_
    rintro e w2 ⟨rfl, hb2⟩
    go_wp2
    go_ret
    exact ⟨rfl, nx (nx bw hb1) hb2⟩
  | true =>
  obtain ⟨⟨x, r, b, c⟩, hR⟩ : ∃ R, hearR l 3 m = R := ⟨_, rfl⟩
  have H := Lib.hid hR
  clear hR
  by_cases hc : c = 0
  case neg =>
    have ec : (c != 0) = true := by simpa using hc
    clear hc
    go_enter Try.func6, Try.ntmps6
    go_wp2_with fail
    refine (In.right_is HRt _ W1 (HT.out.stays bw) Hm.out).mono ?_
    rintro e v2 ⟨rfl, bv2⟩
    replace hM := hM.stays bv2
    have lv2 : W1.heap.size ≤ v2.heap.size := bv2.size
    replace bw := nx bw bv2
    obtain ⟨fM_row_v2, -, -, -, -, -, -, -, -⟩ := hM.facts
    go_wp2_with fail
    refine (hear_is H _ v2 (HT.out.stays bw) Hm.out).mono ?_
    rintro e v3 ⟨rfl, bv3⟩
    clear fM_row_v2
    replace hM := hM.stays bv3
    have lv3 : v2.heap.size ≤ v3.heap.size := bv3.size
    replace bw := nx bw bv3
    obtain ⟨W4, eW4⟩ : ∃ Q_ : World, v3.alloc (.cells (ci zeroI) 37) = Q_ := ⟨_, rfl⟩
    have bW4 : Below v3.heap.size v3 W4 := eW4 ▸ below1 _ _
    replace hM := hM.stays bW4
    have hI5 : Ix W4 v3.heap.size zeroI := ⟨eW4 ▸ Bx.new _ _ _⟩
    have lW4 : v3.heap.size < W4.heap.size := hI5.bx.lt
    replace bw := nx bw bW4
    obtain ⟨W5, eW5⟩ : ∃ Q_ : World, W4.alloc (.cells (cg zeroM) 34) = Q_ := ⟨_, rfl⟩
    have bW5 : Below W4.heap.size W4 W5 := eW5 ▸ below1 _ _
    replace hM := hM.stays bW5
    replace hI5 := hI5.stays bW5
    have hM6 : Gx W5 W4.heap.size zeroM := ⟨eW5 ▸ Bx.new _ _ _⟩
    have lW5 : W4.heap.size < W5.heap.size := hM6.bx.lt
    replace bw := nx bw bW5
    obtain ⟨-, -, -, -, fI5_plain_W5, -⟩ := hI5.facts
    obtain ⟨W6, eW6⟩ : ∃ Q_ : World, W5.setRow (v3.heap.size) (ci (x)) = Q_ := ⟨_, rfl⟩
    replace hM : Gx W6 (w.heap.size) (m) := ⟨eW6 ▸ hM.bx.put' (by omega) _⟩
    replace hM6 : Gx W6 (W4.heap.size) (zeroM) := ⟨eW6 ▸ hM6.bx.put' (by omega) _⟩
    replace hI5 : Ix W6 (v3.heap.size) (x) := ⟨eW6 ▸ hI5.bx.put _⟩
    have lW6 : W5.heap.size ≤ W6.heap.size := eW6 ▸ (low_setRow (n := 0) _ (Nat.zero_le _)).size
    replace bw : Below w.heap.size w W6 := eW6 ▸ bw.trans (low_setRow _ (by omega))
    obtain ⟨-, -, -, -, -, -, -, fM6_plain_W6, -⟩ := hM6.facts
    obtain ⟨W7, eW7⟩ : ∃ Q_ : World, W6.setRow (W4.heap.size) (cg (r)) = Q_ := ⟨_, rfl⟩
    replace hM : Gx W7 (w.heap.size) (m) := ⟨eW7 ▸ hM.bx.put' (by omega) _⟩
    replace hI5 : Ix W7 (v3.heap.size) (x) := ⟨eW7 ▸ hI5.bx.put' (by omega) _⟩
    replace hM6 : Gx W7 (W4.heap.size) (r) := ⟨eW7 ▸ hM6.bx.put _⟩
    have lW7 : W6.heap.size ≤ W7.heap.size := eW7 ▸ (low_setRow (n := 0) _ (Nat.zero_le _)).size
    replace bw : Below w.heap.size w W7 := eW7 ▸ bw.trans (low_setRow _ (by omega))
    go_wp2_with fail
    refine (awake_any W7).mono ?_
    rintro e v8 ⟨rfl, bv8⟩
    clear fI5_plain_W5 fM6_plain_W6
    replace hM := hM.stays bv8
    replace hI5 := hI5.stays bv8
    replace hM6 := hM6.stays bv8
    have lv8 : W7.heap.size ≤ v8.heap.size := bv8.size
    replace bw := nx bw bv8
    go_wp2
    go_ret
    exact ⟨rfl, bw⟩
  subst hc
  have H2 := Lib.hid (twice H.out)
  have HPl := Lib.hid (putG_len x l)
  go_enter Try.func6, Try.ntmps6
  go_wp2_with fail
  refine (In.right_is HRt _ W1 (HT.out.stays bw) Hm.out).mono ?_
  rintro e v2 ⟨rfl, bv2⟩
  replace hM := hM.stays bv2
  have lv2 : W1.heap.size ≤ v2.heap.size := bv2.size
  replace bw := nx bw bv2
  obtain ⟨fM_row_v2, -, -, -, -, -, -, -, -⟩ := hM.facts
  go_wp2_with fail
  refine (hear_is H _ v2 (HT.out.stays bw) Hm.out).mono ?_
  rintro e v3 ⟨rfl, bv3⟩
  clear fM_row_v2
  replace hM := hM.stays bv3
  have lv3 : v2.heap.size ≤ v3.heap.size := bv3.size
  replace bw := nx bw bv3
  obtain ⟨W4, eW4⟩ : ∃ Q_ : World, v3.alloc (.cells (ci zeroI) 37) = Q_ := ⟨_, rfl⟩
  have bW4 : Below v3.heap.size v3 W4 := eW4 ▸ below1 _ _
  replace hM := hM.stays bW4
  have hI5 : Ix W4 v3.heap.size zeroI := ⟨eW4 ▸ Bx.new _ _ _⟩
  have lW4 : v3.heap.size < W4.heap.size := hI5.bx.lt
  replace bw := nx bw bW4
  obtain ⟨W5, eW5⟩ : ∃ Q_ : World, W4.alloc (.cells (cg zeroM) 34) = Q_ := ⟨_, rfl⟩
  have bW5 : Below W4.heap.size W4 W5 := eW5 ▸ below1 _ _
  replace hM := hM.stays bW5
  replace hI5 := hI5.stays bW5
  have hM6 : Gx W5 W4.heap.size zeroM := ⟨eW5 ▸ Bx.new _ _ _⟩
  have lW5 : W4.heap.size < W5.heap.size := hM6.bx.lt
  replace bw := nx bw bW5
  obtain ⟨-, -, -, -, fI5_plain_W5, -⟩ := hI5.facts
  obtain ⟨W6, eW6⟩ : ∃ Q_ : World, W5.setRow (v3.heap.size) (ci (x)) = Q_ := ⟨_, rfl⟩
  replace hM : Gx W6 (w.heap.size) (m) := ⟨eW6 ▸ hM.bx.put' (by omega) _⟩
  replace hM6 : Gx W6 (W4.heap.size) (zeroM) := ⟨eW6 ▸ hM6.bx.put' (by omega) _⟩
  replace hI5 : Ix W6 (v3.heap.size) (x) := ⟨eW6 ▸ hI5.bx.put _⟩
  have lW6 : W5.heap.size ≤ W6.heap.size := eW6 ▸ (low_setRow (n := 0) _ (Nat.zero_le _)).size
  replace bw : Below w.heap.size w W6 := eW6 ▸ bw.trans (low_setRow _ (by omega))
  obtain ⟨-, -, -, -, -, -, -, fM6_plain_W6, -⟩ := hM6.facts
  obtain ⟨W7, eW7⟩ : ∃ Q_ : World, W6.setRow (W4.heap.size) (cg (r)) = Q_ := ⟨_, rfl⟩
  replace hM : Gx W7 (w.heap.size) (m) := ⟨eW7 ▸ hM.bx.put' (by omega) _⟩
  replace hI5 : Ix W7 (v3.heap.size) (x) := ⟨eW7 ▸ hI5.bx.put' (by omega) _⟩
  replace hM6 : Gx W7 (W4.heap.size) (r) := ⟨eW7 ▸ hM6.bx.put _⟩
  have lW7 : W6.heap.size ≤ W7.heap.size := eW7 ▸ (low_setRow (n := 0) _ (Nat.zero_le _)).size
  replace bw : Below w.heap.size w W7 := eW7 ▸ bw.trans (low_setRow _ (by omega))
  have HS : Hid (∀ u, Below W7.heap.size W7 u → row u (v3.heap.size) = ci x ∧ row u (w.heap.size) = cg m) := Lib.hid fun u h => ⟨(hI5.stays h).facts.1, (hM.stays h).facts.1⟩
  have HT6 := Lib.hid (HT.out.stays bw)
  have hqW : q ≤ W7.heap.size := by omega
  have HI5 := Lib.hid hI5
  have HM6 := Lib.hid hM6
  go_upto_region 6 with fail
  clear fI5_plain_W5 fM6_plain_W6
  have HPm : Hid ((putG x l).length ≤ 1000000) := Lib.hid (by have := HPl.out; rw [HN.out] at this; omega)
  have H2h : Hid (Hid (hearR (putG x l) 3 m = ⟨x, r, b, 0⟩)) := Lib.hid (Lib.hid H2.out.2.2.2)
  have HC2 : Hid (capOk (.slice a1 N c1)) := Lib.hid (by rw [← HN.out]; exact HC.out)
  go_cut [9, 10, 11, 12] (TwP W7 x r b)
  case first =>
    refine Rh.region (fun u => Below W7.heap.size W7 u) (fun _ => True) (fun _ _ h k => nx h k) (fun _ _ _ _ => trivial) ((Below.refl _ _).drew) (trivial) [0, 1, 3, 2, 4, 5, 6, 7, 8, 9, 10, 11, 12, 13, 14, 15] (by kernel_rfl) (by kernel_rfl) (by kernel_rfl) (fun _ _ d _ _ h => by cases d <;> exact h) ?_
    repeat (first | (refine Rh.Steps.skip (by rfl) (by kernel_rfl) (by rfl) ?_; simp only [Act.put, List.setIfInBounds_toArray, List.set_cons_zero, List.set_cons_succ]) | (refine Rh.Steps.pure (v := ?_) (by rfl) (by kernel_rfl) (by rfl) ?_ ?_; rotate_left; (intro w_ hS_; have hk_ := HS.out w_ hS_; go_simp <;> with_reducible rfl); simp only [Act.put, List.setIfInBounds_toArray, List.set_cons_zero, List.set_cons_succ]))
    refine steps_three (i := 2) (j := 10) (k := 11) (ord' := [2, 4, 5, 6, 7, 8, 9, 11, 12, 13, 14, 15]) (ord'' := [2, 4, 5, 6, 7, 8, 9, 10, 12, 13, 14, 15]) (by kernel_rfl) rfl rfl ?_ ?_ ?_
    · refine Rh.One.call (fun v u => TI q (putG x l) v u) (fun _ _ _ h k => TI.stays h k) (f := ?_) (args := ?_) (by rfl) (by rfl) ?_ ?_ ?_
      rotate_left 2
      · intro w_ hS_ hG_; go_simp <;> first | with_reducible rfl | (constructor <;> with_reducible rfl)
      · intro w_ hS_ hG_; (go_at_call 18; refine (put_any q l _ x w_ (HT6.out.stays hS_) HC2.out (by have := hS_.size; omega) Hm.out).mono ?_; rintro e w' ⟨v, rfl, hb_, ho_⟩; exact ⟨v, rfl, hb_, ho_.ti (by have := hS_.size; omega)⟩)
      intro v36 u_ hv36
      simp only [Act.put, List.setIfInBounds_toArray, List.set_cons_zero, List.set_cons_succ]
      refine steps_three (i := 4) (j := 10) (k := 11) (ord' := [4, 5, 6, 7, 8, 9, 11, 12, 13, 14, 15]) (ord'' := [4, 5, 6, 7, 8, 9, 10, 12, 13, 14, 15]) (by kernel_rfl) rfl rfl ?_ ?_ ?_
      · refine Rh.One.call (fun v u => v = .tuple #[.agg (ci x), .agg (cg r), .bool b, .int .i64 0]) (fun _ _ _ h _ => h) (f := ?_) (args := ?_) (by rfl) (by rfl) ?_ ?_ ?_
        rotate_left 2
        · intro w_ hS_ hG_; go_simp <;> first | with_reducible rfl | (constructor <;> with_reducible rfl)
        · intro w_ hS_ hG_; (go_at_call 9; refine (hear_is H2h.out _ w_ hG_.2 HPm.out).mono ?_; rintro e w' ⟨rfl, hb_⟩; exact ⟨_, rfl, hb_, rfl⟩)
        intro v38 u_ hv38
        simp only [Act.put, List.setIfInBounds_toArray, List.set_cons_zero, List.set_cons_succ]
        obtain rfl : v38 = .tuple #[.agg (ci x), .agg (cg r), .bool b, .int .i64 0] := hv38
        repeat (first | (refine Rh.Steps.skip (by rfl) (by kernel_rfl) (by rfl) ?_; simp only [Act.put, List.setIfInBounds_toArray, List.set_cons_zero, List.set_cons_succ]) | (refine Rh.Steps.pure (v := ?_) (by rfl) (by kernel_rfl) (by rfl) ?_ ?_; rotate_left; (intro w_ hS_; skip; go_simp <;> with_reducible rfl); simp only [Act.put, List.setIfInBounds_toArray, List.set_cons_zero, List.set_cons_succ]))
        refine steps_two (i := 10) (j := 11) (ord' := [10, 12, 13, 14, 15]) (by kernel_rfl) rfl ?_ ?_
        · refine Rh.One.val (fun v u => ∃ b_ : Nat, v = .pointer (some ⟨b_, 0, none⟩) ∧ W7.heap.size ≤ b_ ∧ Ix u b_ zeroI) (fun v w1 w2 h k => by obtain ⟨b_, h1, h2, h4⟩ := h; exact ⟨b_, h1, h2, h4.stays k⟩) (by rfl) (by rfl) ?_ ?_
          · intro w_ hS_ hG_
            refine ⟨_, _, ?_, below1 _ _, w_.heap.size, rfl, hS_.size, ⟨Bx.new w_ (ci zeroI) 37⟩⟩
            go_simp
          intro v_ u_ hv_
          obtain ⟨b9, rfl, hb9, -⟩ := hv_
          simp only [Act.put, List.setIfInBounds_toArray, List.set_cons_zero, List.set_cons_succ]
          refine weakG (G' := fun u => (((True) ∧ TI q (putG x l) v36 u) ∧ True) ∧ Ix u b9 zeroI) (fun u h => ⟨h.1, by obtain ⟨b_, e_, _, h_⟩ := h.2; injection e_ with e_; injection e_ with e_; injection e_ with e_; subst e_; exact h_⟩) (fun _ _ h k => ⟨⟨⟨trivial, TI.stays (h.1.1.2) k⟩, trivial⟩, Ix.stays (h.2) k⟩) ?_
          refine Rh.Steps.forced (i := 11) (by kernel_rfl) ?_
          refine Rh.One.val (fun v u => ∃ b_ : Nat, v = .pointer (some ⟨b_, 0, none⟩) ∧ W7.heap.size ≤ b_ ∧ b_ ≠ b9 ∧ Gx u b_ zeroM) (fun v w1 w2 h k => by obtain ⟨b_, h1, h2, h3, h4⟩ := h; exact ⟨b_, h1, h2, h3, h4.stays k⟩) (by rfl) (by rfl) ?_ ?_
          · intro w_ hS_ hG_
            have hlt := hG_.2.bx.lt
            refine ⟨_, _, ?_, below1 _ _, w_.heap.size, rfl, hS_.size, (by omega), ⟨Bx.new w_ (cg zeroM) 34⟩⟩
            go_simp
          intro v_ u_ hv_
          obtain ⟨b10, rfl, hb10, hb10n, -⟩ := hv_
          simp only [Act.put, List.setIfInBounds_toArray, List.set_cons_zero, List.set_cons_succ]
          refine weakG (G' := fun u => ((((True) ∧ TI q (putG x l) v36 u) ∧ True) ∧ Ix u b9 zeroI) ∧ Gx u b10 zeroM) (fun u h => ⟨h.1, by obtain ⟨b_, e_, _, _, h_⟩ := h.2; injection e_ with e_; injection e_ with e_; injection e_ with e_; subst e_; exact h_⟩) (fun _ _ h k => ⟨⟨⟨⟨trivial, TI.stays (h.1.1.1.2) k⟩, trivial⟩, Ix.stays (h.1.2) k⟩, Gx.stays (h.2) k⟩) ?_
          refine Rh.Steps.forced (i := 12) (by kernel_rfl) ?_
          refine Rh.One.store (fun u => Ix u b9 x ∧ Gx u b10 zeroM) (fun _ _ h k => ⟨h.1.stays k, h.2.stays k⟩) (by rfl) (by rfl) ?_ ?_
          · intro w_ hS_ hG_
            have h1 := hG_.1.2
            have h2 := hG_.2
            obtain ⟨-, -, -, -, p3, -⟩ := h1.facts
            refine ⟨_, ?_, hS_.trans (low_setRow _ hb9), ⟨h1.bx.put _⟩, ⟨h2.bx.put' (by omega) _⟩⟩
            go_simp
          simp only [Act.put]
          refine Rh.Steps.forced (i := 13) (by kernel_rfl) ?_
          refine Rh.One.store (fun u => Ix u b9 x ∧ Gx u b10 r) (fun _ _ h k => ⟨h.1.stays k, h.2.stays k⟩) (by rfl) (by rfl) ?_ ?_
          · intro w_ hS_ hG_
            have h2 := hG_.2
            obtain ⟨-, -, -, -, -, -, -, p3, -⟩ := h2.facts
            refine ⟨_, ?_, hS_.trans (low_setRow _ hb10), ⟨hG_.1.bx.put' (by omega) _⟩, ⟨h2.bx.put _⟩⟩
            go_simp
          simp only [Act.put]
          repeat (first | (refine Rh.Steps.skip (by rfl) (by kernel_rfl) (by rfl) ?_; simp only [Act.put, List.setIfInBounds_toArray, List.set_cons_zero, List.set_cons_succ]) | (refine Rh.Steps.pure (v := ?_) (by rfl) (by kernel_rfl) (by rfl) ?_ ?_; rotate_left; (intro w_ hS_; have hk_ := HS.out w_ hS_; go_simp <;> with_reducible rfl); simp only [Act.put, List.setIfInBounds_toArray, List.set_cons_zero, List.set_cons_succ]))
          refine Rh.Steps.nil (by kernel_rfl) ?_
          intro u hS hG
          go_wp2
          go_meet
          exact ⟨b9, b10, rfl, rfl, rfl, rfl, hS, hG.1, hG.2⟩
        · refine Rh.One.val (fun v u => ∃ b_ : Nat, v = .pointer (some ⟨b_, 0, none⟩) ∧ W7.heap.size ≤ b_ ∧ Gx u b_ zeroM) (fun v w1 w2 h k => by obtain ⟨b_, h1, h2, h4⟩ := h; exact ⟨b_, h1, h2, h4.stays k⟩) (by rfl) (by rfl) ?_ ?_
          · intro w_ hS_ hG_
            refine ⟨_, _, ?_, below1 _ _, w_.heap.size, rfl, hS_.size, ⟨Bx.new w_ (cg zeroM) 34⟩⟩
            go_simp
          intro v_ u_ hv_
          obtain ⟨b10, rfl, hb10, -⟩ := hv_
          simp only [Act.put, List.setIfInBounds_toArray, List.set_cons_zero, List.set_cons_succ]
          refine weakG (G' := fun u => (((True) ∧ TI q (putG x l) v36 u) ∧ True) ∧ Gx u b10 zeroM) (fun u h => ⟨h.1, by obtain ⟨b_, e_, _, h_⟩ := h.2; injection e_ with e_; injection e_ with e_; injection e_ with e_; subst e_; exact h_⟩) (fun _ _ h k => ⟨⟨⟨trivial, TI.stays (h.1.1.2) k⟩, trivial⟩, Gx.stays (h.2) k⟩) ?_
          refine Rh.Steps.forced (i := 10) (by kernel_rfl) ?_
          refine Rh.One.val (fun v u => ∃ b_ : Nat, v = .pointer (some ⟨b_, 0, none⟩) ∧ W7.heap.size ≤ b_ ∧ b_ ≠ b10 ∧ Ix u b_ zeroI) (fun v w1 w2 h k => by obtain ⟨b_, h1, h2, h3, h4⟩ := h; exact ⟨b_, h1, h2, h3, h4.stays k⟩) (by rfl) (by rfl) ?_ ?_
          · intro w_ hS_ hG_
            have hlt := hG_.2.bx.lt
            refine ⟨_, _, ?_, below1 _ _, w_.heap.size, rfl, hS_.size, (by omega), ⟨Bx.new w_ (ci zeroI) 37⟩⟩
            go_simp
          intro v_ u_ hv_
          obtain ⟨b9, rfl, hb9, hb9n, -⟩ := hv_
          simp only [Act.put, List.setIfInBounds_toArray, List.set_cons_zero, List.set_cons_succ]
          refine weakG (G' := fun u => ((((True) ∧ TI q (putG x l) v36 u) ∧ True) ∧ Gx u b10 zeroM) ∧ Ix u b9 zeroI) (fun u h => ⟨h.1, by obtain ⟨b_, e_, _, _, h_⟩ := h.2; injection e_ with e_; injection e_ with e_; injection e_ with e_; subst e_; exact h_⟩) (fun _ _ h k => ⟨⟨⟨⟨trivial, TI.stays (h.1.1.1.2) k⟩, trivial⟩, Gx.stays (h.1.2) k⟩, Ix.stays (h.2) k⟩) ?_
          refine Rh.Steps.forced (i := 12) (by kernel_rfl) ?_
          refine Rh.One.store (fun u => Ix u b9 x ∧ Gx u b10 zeroM) (fun _ _ h k => ⟨h.1.stays k, h.2.stays k⟩) (by rfl) (by rfl) ?_ ?_
          · intro w_ hS_ hG_
            have h1 := hG_.2
            have h2 := hG_.1.2
            obtain ⟨-, -, -, -, p3, -⟩ := h1.facts
            refine ⟨_, ?_, hS_.trans (low_setRow _ hb9), ⟨h1.bx.put _⟩, ⟨h2.bx.put' (by omega) _⟩⟩
            go_simp
          simp only [Act.put]
          refine Rh.Steps.forced (i := 13) (by kernel_rfl) ?_
          refine Rh.One.store (fun u => Ix u b9 x ∧ Gx u b10 r) (fun _ _ h k => ⟨h.1.stays k, h.2.stays k⟩) (by rfl) (by rfl) ?_ ?_
          · intro w_ hS_ hG_
            have h2 := hG_.2
            obtain ⟨-, -, -, -, -, -, -, p3, -⟩ := h2.facts
            refine ⟨_, ?_, hS_.trans (low_setRow _ hb10), ⟨hG_.1.bx.put' (by omega) _⟩, ⟨h2.bx.put _⟩⟩
            go_simp
          simp only [Act.put]
          repeat (first | (refine Rh.Steps.skip (by rfl) (by kernel_rfl) (by rfl) ?_; simp only [Act.put, List.setIfInBounds_toArray, List.set_cons_zero, List.set_cons_succ]) | (refine Rh.Steps.pure (v := ?_) (by rfl) (by kernel_rfl) (by rfl) ?_ ?_; rotate_left; (intro w_ hS_; have hk_ := HS.out w_ hS_; go_simp <;> with_reducible rfl); simp only [Act.put, List.setIfInBounds_toArray, List.set_cons_zero, List.set_cons_succ]))
          refine Rh.Steps.nil (by kernel_rfl) ?_
          intro u hS hG
          go_wp2
          go_meet
          exact ⟨b9, b10, rfl, rfl, rfl, rfl, hS, hG.1, hG.2⟩
      · refine Rh.One.val (fun v u => ∃ b_ : Nat, v = .pointer (some ⟨b_, 0, none⟩) ∧ W7.heap.size ≤ b_ ∧ Ix u b_ zeroI) (fun v w1 w2 h k => by obtain ⟨b_, h1, h2, h4⟩ := h; exact ⟨b_, h1, h2, h4.stays k⟩) (by rfl) (by rfl) ?_ ?_
        · intro w_ hS_ hG_
          refine ⟨_, _, ?_, below1 _ _, w_.heap.size, rfl, hS_.size, ⟨Bx.new w_ (ci zeroI) 37⟩⟩
          go_simp
        intro v_ u_ hv_
        obtain ⟨b9, rfl, hb9, -⟩ := hv_
        simp only [Act.put, List.setIfInBounds_toArray, List.set_cons_zero, List.set_cons_succ]
        refine weakG (G' := fun u => ((True) ∧ TI q (putG x l) v36 u) ∧ Ix u b9 zeroI) (fun u h => ⟨h.1, by obtain ⟨b_, e_, _, h_⟩ := h.2; injection e_ with e_; injection e_ with e_; injection e_ with e_; subst e_; exact h_⟩) (fun _ _ h k => ⟨⟨trivial, TI.stays (h.1.2) k⟩, Ix.stays (h.2) k⟩) ?_
        refine steps_two (i := 4) (j := 11) (ord' := [4, 5, 6, 7, 8, 9, 12, 13, 14, 15]) (by kernel_rfl) rfl ?_ ?_
        · refine Rh.One.call (fun v u => v = .tuple #[.agg (ci x), .agg (cg r), .bool b, .int .i64 0]) (fun _ _ _ h _ => h) (f := ?_) (args := ?_) (by rfl) (by rfl) ?_ ?_ ?_
          rotate_left 2
          · intro w_ hS_ hG_; go_simp <;> first | with_reducible rfl | (constructor <;> with_reducible rfl)
          · intro w_ hS_ hG_; (go_at_call 9; refine (hear_is H2h.out _ w_ hG_.1.2 HPm.out).mono ?_; rintro e w' ⟨rfl, hb_⟩; exact ⟨_, rfl, hb_, rfl⟩)
          intro v38 u_ hv38
          simp only [Act.put, List.setIfInBounds_toArray, List.set_cons_zero, List.set_cons_succ]
          obtain rfl : v38 = .tuple #[.agg (ci x), .agg (cg r), .bool b, .int .i64 0] := hv38
          repeat (first | (refine Rh.Steps.skip (by rfl) (by kernel_rfl) (by rfl) ?_; simp only [Act.put, List.setIfInBounds_toArray, List.set_cons_zero, List.set_cons_succ]) | (refine Rh.Steps.pure (v := ?_) (by rfl) (by kernel_rfl) (by rfl) ?_ ?_; rotate_left; (intro w_ hS_; skip; go_simp <;> with_reducible rfl); simp only [Act.put, List.setIfInBounds_toArray, List.set_cons_zero, List.set_cons_succ]))
          refine Rh.Steps.forced (i := 11) (by kernel_rfl) ?_
          refine Rh.One.val (fun v u => ∃ b_ : Nat, v = .pointer (some ⟨b_, 0, none⟩) ∧ W7.heap.size ≤ b_ ∧ b_ ≠ b9 ∧ Gx u b_ zeroM) (fun v w1 w2 h k => by obtain ⟨b_, h1, h2, h3, h4⟩ := h; exact ⟨b_, h1, h2, h3, h4.stays k⟩) (by rfl) (by rfl) ?_ ?_
          · intro w_ hS_ hG_
            have hlt := hG_.1.2.bx.lt
            refine ⟨_, _, ?_, below1 _ _, w_.heap.size, rfl, hS_.size, (by omega), ⟨Bx.new w_ (cg zeroM) 34⟩⟩
            go_simp
          intro v_ u_ hv_
          obtain ⟨b10, rfl, hb10, hb10n, -⟩ := hv_
          simp only [Act.put, List.setIfInBounds_toArray, List.set_cons_zero, List.set_cons_succ]
          refine weakG (G' := fun u => ((((True) ∧ TI q (putG x l) v36 u) ∧ Ix u b9 zeroI) ∧ True) ∧ Gx u b10 zeroM) (fun u h => ⟨h.1, by obtain ⟨b_, e_, _, _, h_⟩ := h.2; injection e_ with e_; injection e_ with e_; injection e_ with e_; subst e_; exact h_⟩) (fun _ _ h k => ⟨⟨⟨⟨trivial, TI.stays (h.1.1.1.2) k⟩, Ix.stays (h.1.1.2) k⟩, trivial⟩, Gx.stays (h.2) k⟩) ?_
          refine Rh.Steps.forced (i := 12) (by kernel_rfl) ?_
          refine Rh.One.store (fun u => Ix u b9 x ∧ Gx u b10 zeroM) (fun _ _ h k => ⟨h.1.stays k, h.2.stays k⟩) (by rfl) (by rfl) ?_ ?_
          · intro w_ hS_ hG_
            have h1 := hG_.1.1.2
            have h2 := hG_.2
            obtain ⟨-, -, -, -, p3, -⟩ := h1.facts
            refine ⟨_, ?_, hS_.trans (low_setRow _ hb9), ⟨h1.bx.put _⟩, ⟨h2.bx.put' (by omega) _⟩⟩
            go_simp
          simp only [Act.put]
          refine Rh.Steps.forced (i := 13) (by kernel_rfl) ?_
          refine Rh.One.store (fun u => Ix u b9 x ∧ Gx u b10 r) (fun _ _ h k => ⟨h.1.stays k, h.2.stays k⟩) (by rfl) (by rfl) ?_ ?_
          · intro w_ hS_ hG_
            have h2 := hG_.2
            obtain ⟨-, -, -, -, -, -, -, p3, -⟩ := h2.facts
            refine ⟨_, ?_, hS_.trans (low_setRow _ hb10), ⟨hG_.1.bx.put' (by omega) _⟩, ⟨h2.bx.put _⟩⟩
            go_simp
          simp only [Act.put]
          repeat (first | (refine Rh.Steps.skip (by rfl) (by kernel_rfl) (by rfl) ?_; simp only [Act.put, List.setIfInBounds_toArray, List.set_cons_zero, List.set_cons_succ]) | (refine Rh.Steps.pure (v := ?_) (by rfl) (by kernel_rfl) (by rfl) ?_ ?_; rotate_left; (intro w_ hS_; have hk_ := HS.out w_ hS_; go_simp <;> with_reducible rfl); simp only [Act.put, List.setIfInBounds_toArray, List.set_cons_zero, List.set_cons_succ]))
          refine Rh.Steps.nil (by kernel_rfl) ?_
          intro u hS hG
          go_wp2
          go_meet
          exact ⟨b9, b10, rfl, rfl, rfl, rfl, hS, hG.1, hG.2⟩
        · refine Rh.One.val (fun v u => ∃ b_ : Nat, v = .pointer (some ⟨b_, 0, none⟩) ∧ W7.heap.size ≤ b_ ∧ b_ ≠ b9 ∧ Gx u b_ zeroM) (fun v w1 w2 h k => by obtain ⟨b_, h1, h2, h3, h4⟩ := h; exact ⟨b_, h1, h2, h3, h4.stays k⟩) (by rfl) (by rfl) ?_ ?_
          · intro w_ hS_ hG_
            have hlt := hG_.2.bx.lt
            refine ⟨_, _, ?_, below1 _ _, w_.heap.size, rfl, hS_.size, (by omega), ⟨Bx.new w_ (cg zeroM) 34⟩⟩
            go_simp
          intro v_ u_ hv_
          obtain ⟨b10, rfl, hb10, hb10n, -⟩ := hv_
          simp only [Act.put, List.setIfInBounds_toArray, List.set_cons_zero, List.set_cons_succ]
          refine weakG (G' := fun u => (((True) ∧ TI q (putG x l) v36 u) ∧ Ix u b9 zeroI) ∧ Gx u b10 zeroM) (fun u h => ⟨h.1, by obtain ⟨b_, e_, _, _, h_⟩ := h.2; injection e_ with e_; injection e_ with e_; injection e_ with e_; subst e_; exact h_⟩) (fun _ _ h k => ⟨⟨⟨trivial, TI.stays (h.1.1.2) k⟩, Ix.stays (h.1.2) k⟩, Gx.stays (h.2) k⟩) ?_
          refine Rh.Steps.forced (i := 4) (by kernel_rfl) ?_
          refine Rh.One.call (fun v u => v = .tuple #[.agg (ci x), .agg (cg r), .bool b, .int .i64 0]) (fun _ _ _ h _ => h) (f := ?_) (args := ?_) (by rfl) (by rfl) ?_ ?_ ?_
          rotate_left 2
          · intro w_ hS_ hG_; go_simp <;> first | with_reducible rfl | (constructor <;> with_reducible rfl)
          · intro w_ hS_ hG_; (go_at_call 9; refine (hear_is H2h.out _ w_ hG_.1.1.2 HPm.out).mono ?_; rintro e w' ⟨rfl, hb_⟩; exact ⟨_, rfl, hb_, rfl⟩)
          intro v38 u_ hv38
          simp only [Act.put, List.setIfInBounds_toArray, List.set_cons_zero, List.set_cons_succ]
          obtain rfl : v38 = .tuple #[.agg (ci x), .agg (cg r), .bool b, .int .i64 0] := hv38
          repeat (first | (refine Rh.Steps.skip (by rfl) (by kernel_rfl) (by rfl) ?_; simp only [Act.put, List.setIfInBounds_toArray, List.set_cons_zero, List.set_cons_succ]) | (refine Rh.Steps.pure (v := ?_) (by rfl) (by kernel_rfl) (by rfl) ?_ ?_; rotate_left; (intro w_ hS_; skip; go_simp <;> with_reducible rfl); simp only [Act.put, List.setIfInBounds_toArray, List.set_cons_zero, List.set_cons_succ]))
          refine Rh.Steps.forced (i := 12) (by kernel_rfl) ?_
          refine Rh.One.store (fun u => Ix u b9 x ∧ Gx u b10 zeroM) (fun _ _ h k => ⟨h.1.stays k, h.2.stays k⟩) (by rfl) (by rfl) ?_ ?_
          · intro w_ hS_ hG_
            have h1 := hG_.1.1.2
            have h2 := hG_.1.2
            obtain ⟨-, -, -, -, p3, -⟩ := h1.facts
            refine ⟨_, ?_, hS_.trans (low_setRow _ hb9), ⟨h1.bx.put _⟩, ⟨h2.bx.put' (by omega) _⟩⟩
            go_simp
          simp only [Act.put]
          refine Rh.Steps.forced (i := 13) (by kernel_rfl) ?_
          refine Rh.One.store (fun u => Ix u b9 x ∧ Gx u b10 r) (fun _ _ h k => ⟨h.1.stays k, h.2.stays k⟩) (by rfl) (by rfl) ?_ ?_
          · intro w_ hS_ hG_
            have h2 := hG_.2
            obtain ⟨-, -, -, -, -, -, -, p3, -⟩ := h2.facts
            refine ⟨_, ?_, hS_.trans (low_setRow _ hb10), ⟨hG_.1.bx.put' (by omega) _⟩, ⟨h2.bx.put _⟩⟩
            go_simp
          simp only [Act.put]
          repeat (first | (refine Rh.Steps.skip (by rfl) (by kernel_rfl) (by rfl) ?_; simp only [Act.put, List.setIfInBounds_toArray, List.set_cons_zero, List.set_cons_succ]) | (refine Rh.Steps.pure (v := ?_) (by rfl) (by kernel_rfl) (by rfl) ?_ ?_; rotate_left; (intro w_ hS_; have hk_ := HS.out w_ hS_; go_simp <;> with_reducible rfl); simp only [Act.put, List.setIfInBounds_toArray, List.set_cons_zero, List.set_cons_succ]))
          refine Rh.Steps.nil (by kernel_rfl) ?_
          intro u hS hG
          go_wp2
          go_meet
          exact ⟨b9, b10, rfl, rfl, rfl, rfl, hS, hG.1, hG.2⟩
      · refine Rh.One.val (fun v u => ∃ b_ : Nat, v = .pointer (some ⟨b_, 0, none⟩) ∧ W7.heap.size ≤ b_ ∧ Gx u b_ zeroM) (fun v w1 w2 h k => by obtain ⟨b_, h1, h2, h4⟩ := h; exact ⟨b_, h1, h2, h4.stays k⟩) (by rfl) (by rfl) ?_ ?_
        · intro w_ hS_ hG_
          refine ⟨_, _, ?_, below1 _ _, w_.heap.size, rfl, hS_.size, ⟨Bx.new w_ (cg zeroM) 34⟩⟩
          go_simp
        intro v_ u_ hv_
        obtain ⟨b10, rfl, hb10, -⟩ := hv_
        simp only [Act.put, List.setIfInBounds_toArray, List.set_cons_zero, List.set_cons_succ]
        refine weakG (G' := fun u => ((True) ∧ TI q (putG x l) v36 u) ∧ Gx u b10 zeroM) (fun u h => ⟨h.1, by obtain ⟨b_, e_, _, h_⟩ := h.2; injection e_ with e_; injection e_ with e_; injection e_ with e_; subst e_; exact h_⟩) (fun _ _ h k => ⟨⟨trivial, TI.stays (h.1.2) k⟩, Gx.stays (h.2) k⟩) ?_
        refine steps_two (i := 4) (j := 10) (ord' := [4, 5, 6, 7, 8, 9, 12, 13, 14, 15]) (by kernel_rfl) rfl ?_ ?_
        · refine Rh.One.call (fun v u => v = .tuple #[.agg (ci x), .agg (cg r), .bool b, .int .i64 0]) (fun _ _ _ h _ => h) (f := ?_) (args := ?_) (by rfl) (by rfl) ?_ ?_ ?_
          rotate_left 2
          · intro w_ hS_ hG_; go_simp <;> first | with_reducible rfl | (constructor <;> with_reducible rfl)
          · intro w_ hS_ hG_; (go_at_call 9; refine (hear_is H2h.out _ w_ hG_.1.2 HPm.out).mono ?_; rintro e w' ⟨rfl, hb_⟩; exact ⟨_, rfl, hb_, rfl⟩)
          intro v38 u_ hv38
          simp only [Act.put, List.setIfInBounds_toArray, List.set_cons_zero, List.set_cons_succ]
          obtain rfl : v38 = .tuple #[.agg (ci x), .agg (cg r), .bool b, .int .i64 0] := hv38
          repeat (first | (refine Rh.Steps.skip (by rfl) (by kernel_rfl) (by rfl) ?_; simp only [Act.put, List.setIfInBounds_toArray, List.set_cons_zero, List.set_cons_succ]) | (refine Rh.Steps.pure (v := ?_) (by rfl) (by kernel_rfl) (by rfl) ?_ ?_; rotate_left; (intro w_ hS_; skip; go_simp <;> with_reducible rfl); simp only [Act.put, List.setIfInBounds_toArray, List.set_cons_zero, List.set_cons_succ]))
          refine Rh.Steps.forced (i := 10) (by kernel_rfl) ?_
          refine Rh.One.val (fun v u => ∃ b_ : Nat, v = .pointer (some ⟨b_, 0, none⟩) ∧ W7.heap.size ≤ b_ ∧ b_ ≠ b10 ∧ Ix u b_ zeroI) (fun v w1 w2 h k => by obtain ⟨b_, h1, h2, h3, h4⟩ := h; exact ⟨b_, h1, h2, h3, h4.stays k⟩) (by rfl) (by rfl) ?_ ?_
          · intro w_ hS_ hG_
            have hlt := hG_.1.2.bx.lt
            refine ⟨_, _, ?_, below1 _ _, w_.heap.size, rfl, hS_.size, (by omega), ⟨Bx.new w_ (ci zeroI) 37⟩⟩
            go_simp
          intro v_ u_ hv_
          obtain ⟨b9, rfl, hb9, hb9n, -⟩ := hv_
          simp only [Act.put, List.setIfInBounds_toArray, List.set_cons_zero, List.set_cons_succ]
          refine weakG (G' := fun u => ((((True) ∧ TI q (putG x l) v36 u) ∧ Gx u b10 zeroM) ∧ True) ∧ Ix u b9 zeroI) (fun u h => ⟨h.1, by obtain ⟨b_, e_, _, _, h_⟩ := h.2; injection e_ with e_; injection e_ with e_; injection e_ with e_; subst e_; exact h_⟩) (fun _ _ h k => ⟨⟨⟨⟨trivial, TI.stays (h.1.1.1.2) k⟩, Gx.stays (h.1.1.2) k⟩, trivial⟩, Ix.stays (h.2) k⟩) ?_
          refine Rh.Steps.forced (i := 12) (by kernel_rfl) ?_
          refine Rh.One.store (fun u => Ix u b9 x ∧ Gx u b10 zeroM) (fun _ _ h k => ⟨h.1.stays k, h.2.stays k⟩) (by rfl) (by rfl) ?_ ?_
          · intro w_ hS_ hG_
            have h1 := hG_.2
            have h2 := hG_.1.1.2
            obtain ⟨-, -, -, -, p3, -⟩ := h1.facts
            refine ⟨_, ?_, hS_.trans (low_setRow _ hb9), ⟨h1.bx.put _⟩, ⟨h2.bx.put' (by omega) _⟩⟩
            go_simp
          simp only [Act.put]
          refine Rh.Steps.forced (i := 13) (by kernel_rfl) ?_
          refine Rh.One.store (fun u => Ix u b9 x ∧ Gx u b10 r) (fun _ _ h k => ⟨h.1.stays k, h.2.stays k⟩) (by rfl) (by rfl) ?_ ?_
          · intro w_ hS_ hG_
            have h2 := hG_.2
            obtain ⟨-, -, -, -, -, -, -, p3, -⟩ := h2.facts
            refine ⟨_, ?_, hS_.trans (low_setRow _ hb10), ⟨hG_.1.bx.put' (by omega) _⟩, ⟨h2.bx.put _⟩⟩
            go_simp
          simp only [Act.put]
          repeat (first | (refine Rh.Steps.skip (by rfl) (by kernel_rfl) (by rfl) ?_; simp only [Act.put, List.setIfInBounds_toArray, List.set_cons_zero, List.set_cons_succ]) | (refine Rh.Steps.pure (v := ?_) (by rfl) (by kernel_rfl) (by rfl) ?_ ?_; rotate_left; (intro w_ hS_; have hk_ := HS.out w_ hS_; go_simp <;> with_reducible rfl); simp only [Act.put, List.setIfInBounds_toArray, List.set_cons_zero, List.set_cons_succ]))
          refine Rh.Steps.nil (by kernel_rfl) ?_
          intro u hS hG
          go_wp2
          go_meet
          exact ⟨b9, b10, rfl, rfl, rfl, rfl, hS, hG.1, hG.2⟩
        · refine Rh.One.val (fun v u => ∃ b_ : Nat, v = .pointer (some ⟨b_, 0, none⟩) ∧ W7.heap.size ≤ b_ ∧ b_ ≠ b10 ∧ Ix u b_ zeroI) (fun v w1 w2 h k => by obtain ⟨b_, h1, h2, h3, h4⟩ := h; exact ⟨b_, h1, h2, h3, h4.stays k⟩) (by rfl) (by rfl) ?_ ?_
          · intro w_ hS_ hG_
            have hlt := hG_.2.bx.lt
            refine ⟨_, _, ?_, below1 _ _, w_.heap.size, rfl, hS_.size, (by omega), ⟨Bx.new w_ (ci zeroI) 37⟩⟩
            go_simp
          intro v_ u_ hv_
          obtain ⟨b9, rfl, hb9, hb9n, -⟩ := hv_
          simp only [Act.put, List.setIfInBounds_toArray, List.set_cons_zero, List.set_cons_succ]
          refine weakG (G' := fun u => (((True) ∧ TI q (putG x l) v36 u) ∧ Gx u b10 zeroM) ∧ Ix u b9 zeroI) (fun u h => ⟨h.1, by obtain ⟨b_, e_, _, _, h_⟩ := h.2; injection e_ with e_; injection e_ with e_; injection e_ with e_; subst e_; exact h_⟩) (fun _ _ h k => ⟨⟨⟨trivial, TI.stays (h.1.1.2) k⟩, Gx.stays (h.1.2) k⟩, Ix.stays (h.2) k⟩) ?_
          refine Rh.Steps.forced (i := 4) (by kernel_rfl) ?_
          refine Rh.One.call (fun v u => v = .tuple #[.agg (ci x), .agg (cg r), .bool b, .int .i64 0]) (fun _ _ _ h _ => h) (f := ?_) (args := ?_) (by rfl) (by rfl) ?_ ?_ ?_
          rotate_left 2
          · intro w_ hS_ hG_; go_simp <;> first | with_reducible rfl | (constructor <;> with_reducible rfl)
          · intro w_ hS_ hG_; (go_at_call 9; refine (hear_is H2h.out _ w_ hG_.1.1.2 HPm.out).mono ?_; rintro e w' ⟨rfl, hb_⟩; exact ⟨_, rfl, hb_, rfl⟩)
          intro v38 u_ hv38
          simp only [Act.put, List.setIfInBounds_toArray, List.set_cons_zero, List.set_cons_succ]
          obtain rfl : v38 = .tuple #[.agg (ci x), .agg (cg r), .bool b, .int .i64 0] := hv38
          repeat (first | (refine Rh.Steps.skip (by rfl) (by kernel_rfl) (by rfl) ?_; simp only [Act.put, List.setIfInBounds_toArray, List.set_cons_zero, List.set_cons_succ]) | (refine Rh.Steps.pure (v := ?_) (by rfl) (by kernel_rfl) (by rfl) ?_ ?_; rotate_left; (intro w_ hS_; skip; go_simp <;> with_reducible rfl); simp only [Act.put, List.setIfInBounds_toArray, List.set_cons_zero, List.set_cons_succ]))
          refine Rh.Steps.forced (i := 12) (by kernel_rfl) ?_
          refine Rh.One.store (fun u => Ix u b9 x ∧ Gx u b10 zeroM) (fun _ _ h k => ⟨h.1.stays k, h.2.stays k⟩) (by rfl) (by rfl) ?_ ?_
          · intro w_ hS_ hG_
            have h1 := hG_.1.2
            have h2 := hG_.1.1.2
            obtain ⟨-, -, -, -, p3, -⟩ := h1.facts
            refine ⟨_, ?_, hS_.trans (low_setRow _ hb9), ⟨h1.bx.put _⟩, ⟨h2.bx.put' (by omega) _⟩⟩
            go_simp
          simp only [Act.put]
          refine Rh.Steps.forced (i := 13) (by kernel_rfl) ?_
          refine Rh.One.store (fun u => Ix u b9 x ∧ Gx u b10 r) (fun _ _ h k => ⟨h.1.stays k, h.2.stays k⟩) (by rfl) (by rfl) ?_ ?_
          · intro w_ hS_ hG_
            have h2 := hG_.2
            obtain ⟨-, -, -, -, -, -, -, p3, -⟩ := h2.facts
            refine ⟨_, ?_, hS_.trans (low_setRow _ hb10), ⟨hG_.1.bx.put' (by omega) _⟩, ⟨h2.bx.put _⟩⟩
            go_simp
          simp only [Act.put]
          repeat (first | (refine Rh.Steps.skip (by rfl) (by kernel_rfl) (by rfl) ?_; simp only [Act.put, List.setIfInBounds_toArray, List.set_cons_zero, List.set_cons_succ]) | (refine Rh.Steps.pure (v := ?_) (by rfl) (by kernel_rfl) (by rfl) ?_ ?_; rotate_left; (intro w_ hS_; have hk_ := HS.out w_ hS_; go_simp <;> with_reducible rfl); simp only [Act.put, List.setIfInBounds_toArray, List.set_cons_zero, List.set_cons_succ]))
          refine Rh.Steps.nil (by kernel_rfl) ?_
          intro u hS hG
          go_wp2
          go_meet
          exact ⟨b9, b10, rfl, rfl, rfl, rfl, hS, hG.1, hG.2⟩
    · refine Rh.One.val (fun v u => ∃ b_ : Nat, v = .pointer (some ⟨b_, 0, none⟩) ∧ W7.heap.size ≤ b_ ∧ Ix u b_ zeroI) (fun v w1 w2 h k => by obtain ⟨b_, h1, h2, h4⟩ := h; exact ⟨b_, h1, h2, h4.stays k⟩) (by rfl) (by rfl) ?_ ?_
      · intro w_ hS_ hG_
        refine ⟨_, _, ?_, below1 _ _, w_.heap.size, rfl, hS_.size, ⟨Bx.new w_ (ci zeroI) 37⟩⟩
        go_simp
      intro v_ u_ hv_
      obtain ⟨b9, rfl, hb9, -⟩ := hv_
      simp only [Act.put, List.setIfInBounds_toArray, List.set_cons_zero, List.set_cons_succ]
      refine weakG (G' := fun u => (True) ∧ Ix u b9 zeroI) (fun u h => ⟨h.1, by obtain ⟨b_, e_, _, h_⟩ := h.2; injection e_ with e_; injection e_ with e_; injection e_ with e_; subst e_; exact h_⟩) (fun _ _ h k => ⟨trivial, Ix.stays (h.2) k⟩) ?_
      refine steps_two (i := 2) (j := 11) (ord' := [2, 4, 5, 6, 7, 8, 9, 12, 13, 14, 15]) (by kernel_rfl) rfl ?_ ?_
      · refine Rh.One.call (fun v u => TI q (putG x l) v u) (fun _ _ _ h k => TI.stays h k) (f := ?_) (args := ?_) (by rfl) (by rfl) ?_ ?_ ?_
        rotate_left 2
        · intro w_ hS_ hG_; go_simp <;> first | with_reducible rfl | (constructor <;> with_reducible rfl)
        · intro w_ hS_ hG_; (go_at_call 18; refine (put_any q l _ x w_ (HT6.out.stays hS_) HC2.out (by have := hS_.size; omega) Hm.out).mono ?_; rintro e w' ⟨v, rfl, hb_, ho_⟩; exact ⟨v, rfl, hb_, ho_.ti (by have := hS_.size; omega)⟩)
        intro v36 u_ hv36
        simp only [Act.put, List.setIfInBounds_toArray, List.set_cons_zero, List.set_cons_succ]
        refine steps_two (i := 4) (j := 11) (ord' := [4, 5, 6, 7, 8, 9, 12, 13, 14, 15]) (by kernel_rfl) rfl ?_ ?_
        · refine Rh.One.call (fun v u => v = .tuple #[.agg (ci x), .agg (cg r), .bool b, .int .i64 0]) (fun _ _ _ h _ => h) (f := ?_) (args := ?_) (by rfl) (by rfl) ?_ ?_ ?_
          rotate_left 2
          · intro w_ hS_ hG_; go_simp <;> first | with_reducible rfl | (constructor <;> with_reducible rfl)
          · intro w_ hS_ hG_; (go_at_call 9; refine (hear_is H2h.out _ w_ hG_.2 HPm.out).mono ?_; rintro e w' ⟨rfl, hb_⟩; exact ⟨_, rfl, hb_, rfl⟩)
          intro v38 u_ hv38
          simp only [Act.put, List.setIfInBounds_toArray, List.set_cons_zero, List.set_cons_succ]
          obtain rfl : v38 = .tuple #[.agg (ci x), .agg (cg r), .bool b, .int .i64 0] := hv38
          repeat (first | (refine Rh.Steps.skip (by rfl) (by kernel_rfl) (by rfl) ?_; simp only [Act.put, List.setIfInBounds_toArray, List.set_cons_zero, List.set_cons_succ]) | (refine Rh.Steps.pure (v := ?_) (by rfl) (by kernel_rfl) (by rfl) ?_ ?_; rotate_left; (intro w_ hS_; skip; go_simp <;> with_reducible rfl); simp only [Act.put, List.setIfInBounds_toArray, List.set_cons_zero, List.set_cons_succ]))
          refine Rh.Steps.forced (i := 11) (by kernel_rfl) ?_
          refine Rh.One.val (fun v u => ∃ b_ : Nat, v = .pointer (some ⟨b_, 0, none⟩) ∧ W7.heap.size ≤ b_ ∧ b_ ≠ b9 ∧ Gx u b_ zeroM) (fun v w1 w2 h k => by obtain ⟨b_, h1, h2, h3, h4⟩ := h; exact ⟨b_, h1, h2, h3, h4.stays k⟩) (by rfl) (by rfl) ?_ ?_
          · intro w_ hS_ hG_
            have hlt := hG_.1.1.2.bx.lt
            refine ⟨_, _, ?_, below1 _ _, w_.heap.size, rfl, hS_.size, (by omega), ⟨Bx.new w_ (cg zeroM) 34⟩⟩
            go_simp
          intro v_ u_ hv_
          obtain ⟨b10, rfl, hb10, hb10n, -⟩ := hv_
          simp only [Act.put, List.setIfInBounds_toArray, List.set_cons_zero, List.set_cons_succ]
          refine weakG (G' := fun u => ((((True) ∧ Ix u b9 zeroI) ∧ TI q (putG x l) v36 u) ∧ True) ∧ Gx u b10 zeroM) (fun u h => ⟨h.1, by obtain ⟨b_, e_, _, _, h_⟩ := h.2; injection e_ with e_; injection e_ with e_; injection e_ with e_; subst e_; exact h_⟩) (fun _ _ h k => ⟨⟨⟨⟨trivial, Ix.stays (h.1.1.1.2) k⟩, TI.stays (h.1.1.2) k⟩, trivial⟩, Gx.stays (h.2) k⟩) ?_
          refine Rh.Steps.forced (i := 12) (by kernel_rfl) ?_
          refine Rh.One.store (fun u => Ix u b9 x ∧ Gx u b10 zeroM) (fun _ _ h k => ⟨h.1.stays k, h.2.stays k⟩) (by rfl) (by rfl) ?_ ?_
          · intro w_ hS_ hG_
            have h1 := hG_.1.1.1.2
            have h2 := hG_.2
            obtain ⟨-, -, -, -, p3, -⟩ := h1.facts
            refine ⟨_, ?_, hS_.trans (low_setRow _ hb9), ⟨h1.bx.put _⟩, ⟨h2.bx.put' (by omega) _⟩⟩
            go_simp
          simp only [Act.put]
          refine Rh.Steps.forced (i := 13) (by kernel_rfl) ?_
          refine Rh.One.store (fun u => Ix u b9 x ∧ Gx u b10 r) (fun _ _ h k => ⟨h.1.stays k, h.2.stays k⟩) (by rfl) (by rfl) ?_ ?_
          · intro w_ hS_ hG_
            have h2 := hG_.2
            obtain ⟨-, -, -, -, -, -, -, p3, -⟩ := h2.facts
            refine ⟨_, ?_, hS_.trans (low_setRow _ hb10), ⟨hG_.1.bx.put' (by omega) _⟩, ⟨h2.bx.put _⟩⟩
            go_simp
          simp only [Act.put]
          repeat (first | (refine Rh.Steps.skip (by rfl) (by kernel_rfl) (by rfl) ?_; simp only [Act.put, List.setIfInBounds_toArray, List.set_cons_zero, List.set_cons_succ]) | (refine Rh.Steps.pure (v := ?_) (by rfl) (by kernel_rfl) (by rfl) ?_ ?_; rotate_left; (intro w_ hS_; have hk_ := HS.out w_ hS_; go_simp <;> with_reducible rfl); simp only [Act.put, List.setIfInBounds_toArray, List.set_cons_zero, List.set_cons_succ]))
          refine Rh.Steps.nil (by kernel_rfl) ?_
          intro u hS hG
          go_wp2
          go_meet
          exact ⟨b9, b10, rfl, rfl, rfl, rfl, hS, hG.1, hG.2⟩
        · refine Rh.One.val (fun v u => ∃ b_ : Nat, v = .pointer (some ⟨b_, 0, none⟩) ∧ W7.heap.size ≤ b_ ∧ b_ ≠ b9 ∧ Gx u b_ zeroM) (fun v w1 w2 h k => by obtain ⟨b_, h1, h2, h3, h4⟩ := h; exact ⟨b_, h1, h2, h3, h4.stays k⟩) (by rfl) (by rfl) ?_ ?_
          · intro w_ hS_ hG_
            have hlt := hG_.1.2.bx.lt
            refine ⟨_, _, ?_, below1 _ _, w_.heap.size, rfl, hS_.size, (by omega), ⟨Bx.new w_ (cg zeroM) 34⟩⟩
            go_simp
          intro v_ u_ hv_
          obtain ⟨b10, rfl, hb10, hb10n, -⟩ := hv_
          simp only [Act.put, List.setIfInBounds_toArray, List.set_cons_zero, List.set_cons_succ]
          refine weakG (G' := fun u => (((True) ∧ Ix u b9 zeroI) ∧ TI q (putG x l) v36 u) ∧ Gx u b10 zeroM) (fun u h => ⟨h.1, by obtain ⟨b_, e_, _, _, h_⟩ := h.2; injection e_ with e_; injection e_ with e_; injection e_ with e_; subst e_; exact h_⟩) (fun _ _ h k => ⟨⟨⟨trivial, Ix.stays (h.1.1.2) k⟩, TI.stays (h.1.2) k⟩, Gx.stays (h.2) k⟩) ?_
          refine Rh.Steps.forced (i := 4) (by kernel_rfl) ?_
          refine Rh.One.call (fun v u => v = .tuple #[.agg (ci x), .agg (cg r), .bool b, .int .i64 0]) (fun _ _ _ h _ => h) (f := ?_) (args := ?_) (by rfl) (by rfl) ?_ ?_ ?_
          rotate_left 2
          · intro w_ hS_ hG_; go_simp <;> first | with_reducible rfl | (constructor <;> with_reducible rfl)
          · intro w_ hS_ hG_; (go_at_call 9; refine (hear_is H2h.out _ w_ hG_.1.2 HPm.out).mono ?_; rintro e w' ⟨rfl, hb_⟩; exact ⟨_, rfl, hb_, rfl⟩)
          intro v38 u_ hv38
          simp only [Act.put, List.setIfInBounds_toArray, List.set_cons_zero, List.set_cons_succ]
          obtain rfl : v38 = .tuple #[.agg (ci x), .agg (cg r), .bool b, .int .i64 0] := hv38
          repeat (first | (refine Rh.Steps.skip (by rfl) (by kernel_rfl) (by rfl) ?_; simp only [Act.put, List.setIfInBounds_toArray, List.set_cons_zero, List.set_cons_succ]) | (refine Rh.Steps.pure (v := ?_) (by rfl) (by kernel_rfl) (by rfl) ?_ ?_; rotate_left; (intro w_ hS_; skip; go_simp <;> with_reducible rfl); simp only [Act.put, List.setIfInBounds_toArray, List.set_cons_zero, List.set_cons_succ]))
          refine Rh.Steps.forced (i := 12) (by kernel_rfl) ?_
          refine Rh.One.store (fun u => Ix u b9 x ∧ Gx u b10 zeroM) (fun _ _ h k => ⟨h.1.stays k, h.2.stays k⟩) (by rfl) (by rfl) ?_ ?_
          · intro w_ hS_ hG_
            have h1 := hG_.1.1.1.2
            have h2 := hG_.1.2
            obtain ⟨-, -, -, -, p3, -⟩ := h1.facts
            refine ⟨_, ?_, hS_.trans (low_setRow _ hb9), ⟨h1.bx.put _⟩, ⟨h2.bx.put' (by omega) _⟩⟩
            go_simp
          simp only [Act.put]
          refine Rh.Steps.forced (i := 13) (by kernel_rfl) ?_
          refine Rh.One.store (fun u => Ix u b9 x ∧ Gx u b10 r) (fun _ _ h k => ⟨h.1.stays k, h.2.stays k⟩) (by rfl) (by rfl) ?_ ?_
          · intro w_ hS_ hG_
            have h2 := hG_.2
            obtain ⟨-, -, -, -, -, -, -, p3, -⟩ := h2.facts
            refine ⟨_, ?_, hS_.trans (low_setRow _ hb10), ⟨hG_.1.bx.put' (by omega) _⟩, ⟨h2.bx.put _⟩⟩
            go_simp
          simp only [Act.put]
          repeat (first | (refine Rh.Steps.skip (by rfl) (by kernel_rfl) (by rfl) ?_; simp only [Act.put, List.setIfInBounds_toArray, List.set_cons_zero, List.set_cons_succ]) | (refine Rh.Steps.pure (v := ?_) (by rfl) (by kernel_rfl) (by rfl) ?_ ?_; rotate_left; (intro w_ hS_; have hk_ := HS.out w_ hS_; go_simp <;> with_reducible rfl); simp only [Act.put, List.setIfInBounds_toArray, List.set_cons_zero, List.set_cons_succ]))
          refine Rh.Steps.nil (by kernel_rfl) ?_
          intro u hS hG
          go_wp2
          go_meet
          exact ⟨b9, b10, rfl, rfl, rfl, rfl, hS, hG.1, hG.2⟩
      · refine Rh.One.val (fun v u => ∃ b_ : Nat, v = .pointer (some ⟨b_, 0, none⟩) ∧ W7.heap.size ≤ b_ ∧ b_ ≠ b9 ∧ Gx u b_ zeroM) (fun v w1 w2 h k => by obtain ⟨b_, h1, h2, h3, h4⟩ := h; exact ⟨b_, h1, h2, h3, h4.stays k⟩) (by rfl) (by rfl) ?_ ?_
        · intro w_ hS_ hG_
          have hlt := hG_.2.bx.lt
          refine ⟨_, _, ?_, below1 _ _, w_.heap.size, rfl, hS_.size, (by omega), ⟨Bx.new w_ (cg zeroM) 34⟩⟩
          go_simp
        intro v_ u_ hv_
        obtain ⟨b10, rfl, hb10, hb10n, -⟩ := hv_
        simp only [Act.put, List.setIfInBounds_toArray, List.set_cons_zero, List.set_cons_succ]
        refine weakG (G' := fun u => ((True) ∧ Ix u b9 zeroI) ∧ Gx u b10 zeroM) (fun u h => ⟨h.1, by obtain ⟨b_, e_, _, _, h_⟩ := h.2; injection e_ with e_; injection e_ with e_; injection e_ with e_; subst e_; exact h_⟩) (fun _ _ h k => ⟨⟨trivial, Ix.stays (h.1.2) k⟩, Gx.stays (h.2) k⟩) ?_
        refine Rh.Steps.forced (i := 2) (by kernel_rfl) ?_
        refine Rh.One.call (fun v u => TI q (putG x l) v u) (fun _ _ _ h k => TI.stays h k) (f := ?_) (args := ?_) (by rfl) (by rfl) ?_ ?_ ?_
        rotate_left 2
        · intro w_ hS_ hG_; go_simp <;> first | with_reducible rfl | (constructor <;> with_reducible rfl)
        · intro w_ hS_ hG_; (go_at_call 18; refine (put_any q l _ x w_ (HT6.out.stays hS_) HC2.out (by have := hS_.size; omega) Hm.out).mono ?_; rintro e w' ⟨v, rfl, hb_, ho_⟩; exact ⟨v, rfl, hb_, ho_.ti (by have := hS_.size; omega)⟩)
        intro v36 u_ hv36
        simp only [Act.put, List.setIfInBounds_toArray, List.set_cons_zero, List.set_cons_succ]
        refine Rh.Steps.forced (i := 4) (by kernel_rfl) ?_
        refine Rh.One.call (fun v u => v = .tuple #[.agg (ci x), .agg (cg r), .bool b, .int .i64 0]) (fun _ _ _ h _ => h) (f := ?_) (args := ?_) (by rfl) (by rfl) ?_ ?_ ?_
        rotate_left 2
        · intro w_ hS_ hG_; go_simp <;> first | with_reducible rfl | (constructor <;> with_reducible rfl)
        · intro w_ hS_ hG_; (go_at_call 9; refine (hear_is H2h.out _ w_ hG_.2 HPm.out).mono ?_; rintro e w' ⟨rfl, hb_⟩; exact ⟨_, rfl, hb_, rfl⟩)
        intro v38 u_ hv38
        simp only [Act.put, List.setIfInBounds_toArray, List.set_cons_zero, List.set_cons_succ]
        obtain rfl : v38 = .tuple #[.agg (ci x), .agg (cg r), .bool b, .int .i64 0] := hv38
        repeat (first | (refine Rh.Steps.skip (by rfl) (by kernel_rfl) (by rfl) ?_; simp only [Act.put, List.setIfInBounds_toArray, List.set_cons_zero, List.set_cons_succ]) | (refine Rh.Steps.pure (v := ?_) (by rfl) (by kernel_rfl) (by rfl) ?_ ?_; rotate_left; (intro w_ hS_; skip; go_simp <;> with_reducible rfl); simp only [Act.put, List.setIfInBounds_toArray, List.set_cons_zero, List.set_cons_succ]))
        refine Rh.Steps.forced (i := 12) (by kernel_rfl) ?_
        refine Rh.One.store (fun u => Ix u b9 x ∧ Gx u b10 zeroM) (fun _ _ h k => ⟨h.1.stays k, h.2.stays k⟩) (by rfl) (by rfl) ?_ ?_
        · intro w_ hS_ hG_
          have h1 := hG_.1.1.1.2
          have h2 := hG_.1.1.2
          obtain ⟨-, -, -, -, p3, -⟩ := h1.facts
          refine ⟨_, ?_, hS_.trans (low_setRow _ hb9), ⟨h1.bx.put _⟩, ⟨h2.bx.put' (by omega) _⟩⟩
          go_simp
        simp only [Act.put]
        refine Rh.Steps.forced (i := 13) (by kernel_rfl) ?_
        refine Rh.One.store (fun u => Ix u b9 x ∧ Gx u b10 r) (fun _ _ h k => ⟨h.1.stays k, h.2.stays k⟩) (by rfl) (by rfl) ?_ ?_
        · intro w_ hS_ hG_
          have h2 := hG_.2
          obtain ⟨-, -, -, -, -, -, -, p3, -⟩ := h2.facts
          refine ⟨_, ?_, hS_.trans (low_setRow _ hb10), ⟨hG_.1.bx.put' (by omega) _⟩, ⟨h2.bx.put _⟩⟩
          go_simp
        simp only [Act.put]
        repeat (first | (refine Rh.Steps.skip (by rfl) (by kernel_rfl) (by rfl) ?_; simp only [Act.put, List.setIfInBounds_toArray, List.set_cons_zero, List.set_cons_succ]) | (refine Rh.Steps.pure (v := ?_) (by rfl) (by kernel_rfl) (by rfl) ?_ ?_; rotate_left; (intro w_ hS_; have hk_ := HS.out w_ hS_; go_simp <;> with_reducible rfl); simp only [Act.put, List.setIfInBounds_toArray, List.set_cons_zero, List.set_cons_succ]))
        refine Rh.Steps.nil (by kernel_rfl) ?_
        intro u hS hG
        go_wp2
        go_meet
        exact ⟨b9, b10, rfl, rfl, rfl, rfl, hS, hG.1, hG.2⟩
    · refine Rh.One.val (fun v u => ∃ b_ : Nat, v = .pointer (some ⟨b_, 0, none⟩) ∧ W7.heap.size ≤ b_ ∧ Gx u b_ zeroM) (fun v w1 w2 h k => by obtain ⟨b_, h1, h2, h4⟩ := h; exact ⟨b_, h1, h2, h4.stays k⟩) (by rfl) (by rfl) ?_ ?_
      · intro w_ hS_ hG_
        refine ⟨_, _, ?_, below1 _ _, w_.heap.size, rfl, hS_.size, ⟨Bx.new w_ (cg zeroM) 34⟩⟩
        go_simp
      intro v_ u_ hv_
      obtain ⟨b10, rfl, hb10, -⟩ := hv_
      simp only [Act.put, List.setIfInBounds_toArray, List.set_cons_zero, List.set_cons_succ]
      refine weakG (G' := fun u => (True) ∧ Gx u b10 zeroM) (fun u h => ⟨h.1, by obtain ⟨b_, e_, _, h_⟩ := h.2; injection e_ with e_; injection e_ with e_; injection e_ with e_; subst e_; exact h_⟩) (fun _ _ h k => ⟨trivial, Gx.stays (h.2) k⟩) ?_
      refine steps_two (i := 2) (j := 10) (ord' := [2, 4, 5, 6, 7, 8, 9, 12, 13, 14, 15]) (by kernel_rfl) rfl ?_ ?_
      · refine Rh.One.call (fun v u => TI q (putG x l) v u) (fun _ _ _ h k => TI.stays h k) (f := ?_) (args := ?_) (by rfl) (by rfl) ?_ ?_ ?_
        rotate_left 2
        · intro w_ hS_ hG_; go_simp <;> first | with_reducible rfl | (constructor <;> with_reducible rfl)
        · intro w_ hS_ hG_; (go_at_call 18; refine (put_any q l _ x w_ (HT6.out.stays hS_) HC2.out (by have := hS_.size; omega) Hm.out).mono ?_; rintro e w' ⟨v, rfl, hb_, ho_⟩; exact ⟨v, rfl, hb_, ho_.ti (by have := hS_.size; omega)⟩)
        intro v36 u_ hv36
        simp only [Act.put, List.setIfInBounds_toArray, List.set_cons_zero, List.set_cons_succ]
        refine steps_two (i := 4) (j := 10) (ord' := [4, 5, 6, 7, 8, 9, 12, 13, 14, 15]) (by kernel_rfl) rfl ?_ ?_
        · refine Rh.One.call (fun v u => v = .tuple #[.agg (ci x), .agg (cg r), .bool b, .int .i64 0]) (fun _ _ _ h _ => h) (f := ?_) (args := ?_) (by rfl) (by rfl) ?_ ?_ ?_
          rotate_left 2
          · intro w_ hS_ hG_; go_simp <;> first | with_reducible rfl | (constructor <;> with_reducible rfl)
          · intro w_ hS_ hG_; (go_at_call 9; refine (hear_is H2h.out _ w_ hG_.2 HPm.out).mono ?_; rintro e w' ⟨rfl, hb_⟩; exact ⟨_, rfl, hb_, rfl⟩)
          intro v38 u_ hv38
          simp only [Act.put, List.setIfInBounds_toArray, List.set_cons_zero, List.set_cons_succ]
          obtain rfl : v38 = .tuple #[.agg (ci x), .agg (cg r), .bool b, .int .i64 0] := hv38
          repeat (first | (refine Rh.Steps.skip (by rfl) (by kernel_rfl) (by rfl) ?_; simp only [Act.put, List.setIfInBounds_toArray, List.set_cons_zero, List.set_cons_succ]) | (refine Rh.Steps.pure (v := ?_) (by rfl) (by kernel_rfl) (by rfl) ?_ ?_; rotate_left; (intro w_ hS_; skip; go_simp <;> with_reducible rfl); simp only [Act.put, List.setIfInBounds_toArray, List.set_cons_zero, List.set_cons_succ]))
          refine Rh.Steps.forced (i := 10) (by kernel_rfl) ?_
          refine Rh.One.val (fun v u => ∃ b_ : Nat, v = .pointer (some ⟨b_, 0, none⟩) ∧ W7.heap.size ≤ b_ ∧ b_ ≠ b10 ∧ Ix u b_ zeroI) (fun v w1 w2 h k => by obtain ⟨b_, h1, h2, h3, h4⟩ := h; exact ⟨b_, h1, h2, h3, h4.stays k⟩) (by rfl) (by rfl) ?_ ?_
          · intro w_ hS_ hG_
            have hlt := hG_.1.1.2.bx.lt
            refine ⟨_, _, ?_, below1 _ _, w_.heap.size, rfl, hS_.size, (by omega), ⟨Bx.new w_ (ci zeroI) 37⟩⟩
            go_simp
          intro v_ u_ hv_
          obtain ⟨b9, rfl, hb9, hb9n, -⟩ := hv_
          simp only [Act.put, List.setIfInBounds_toArray, List.set_cons_zero, List.set_cons_succ]
          refine weakG (G' := fun u => ((((True) ∧ Gx u b10 zeroM) ∧ TI q (putG x l) v36 u) ∧ True) ∧ Ix u b9 zeroI) (fun u h => ⟨h.1, by obtain ⟨b_, e_, _, _, h_⟩ := h.2; injection e_ with e_; injection e_ with e_; injection e_ with e_; subst e_; exact h_⟩) (fun _ _ h k => ⟨⟨⟨⟨trivial, Gx.stays (h.1.1.1.2) k⟩, TI.stays (h.1.1.2) k⟩, trivial⟩, Ix.stays (h.2) k⟩) ?_
          refine Rh.Steps.forced (i := 12) (by kernel_rfl) ?_
          refine Rh.One.store (fun u => Ix u b9 x ∧ Gx u b10 zeroM) (fun _ _ h k => ⟨h.1.stays k, h.2.stays k⟩) (by rfl) (by rfl) ?_ ?_
          · intro w_ hS_ hG_
            have h1 := hG_.2
            have h2 := hG_.1.1.1.2
            obtain ⟨-, -, -, -, p3, -⟩ := h1.facts
            refine ⟨_, ?_, hS_.trans (low_setRow _ hb9), ⟨h1.bx.put _⟩, ⟨h2.bx.put' (by omega) _⟩⟩
            go_simp
          simp only [Act.put]
          refine Rh.Steps.forced (i := 13) (by kernel_rfl) ?_
          refine Rh.One.store (fun u => Ix u b9 x ∧ Gx u b10 r) (fun _ _ h k => ⟨h.1.stays k, h.2.stays k⟩) (by rfl) (by rfl) ?_ ?_
          · intro w_ hS_ hG_
            have h2 := hG_.2
            obtain ⟨-, -, -, -, -, -, -, p3, -⟩ := h2.facts
            refine ⟨_, ?_, hS_.trans (low_setRow _ hb10), ⟨hG_.1.bx.put' (by omega) _⟩, ⟨h2.bx.put _⟩⟩
            go_simp
          simp only [Act.put]
          repeat (first | (refine Rh.Steps.skip (by rfl) (by kernel_rfl) (by rfl) ?_; simp only [Act.put, List.setIfInBounds_toArray, List.set_cons_zero, List.set_cons_succ]) | (refine Rh.Steps.pure (v := ?_) (by rfl) (by kernel_rfl) (by rfl) ?_ ?_; rotate_left; (intro w_ hS_; have hk_ := HS.out w_ hS_; go_simp <;> with_reducible rfl); simp only [Act.put, List.setIfInBounds_toArray, List.set_cons_zero, List.set_cons_succ]))
          refine Rh.Steps.nil (by kernel_rfl) ?_
          intro u hS hG
          go_wp2
          go_meet
          exact ⟨b9, b10, rfl, rfl, rfl, rfl, hS, hG.1, hG.2⟩
        · refine Rh.One.val (fun v u => ∃ b_ : Nat, v = .pointer (some ⟨b_, 0, none⟩) ∧ W7.heap.size ≤ b_ ∧ b_ ≠ b10 ∧ Ix u b_ zeroI) (fun v w1 w2 h k => by obtain ⟨b_, h1, h2, h3, h4⟩ := h; exact ⟨b_, h1, h2, h3, h4.stays k⟩) (by rfl) (by rfl) ?_ ?_
          · intro w_ hS_ hG_
            have hlt := hG_.1.2.bx.lt
            refine ⟨_, _, ?_, below1 _ _, w_.heap.size, rfl, hS_.size, (by omega), ⟨Bx.new w_ (ci zeroI) 37⟩⟩
            go_simp
          intro v_ u_ hv_
          obtain ⟨b9, rfl, hb9, hb9n, -⟩ := hv_
          simp only [Act.put, List.setIfInBounds_toArray, List.set_cons_zero, List.set_cons_succ]
          refine weakG (G' := fun u => (((True) ∧ Gx u b10 zeroM) ∧ TI q (putG x l) v36 u) ∧ Ix u b9 zeroI) (fun u h => ⟨h.1, by obtain ⟨b_, e_, _, _, h_⟩ := h.2; injection e_ with e_; injection e_ with e_; injection e_ with e_; subst e_; exact h_⟩) (fun _ _ h k => ⟨⟨⟨trivial, Gx.stays (h.1.1.2) k⟩, TI.stays (h.1.2) k⟩, Ix.stays (h.2) k⟩) ?_
          refine Rh.Steps.forced (i := 4) (by kernel_rfl) ?_
          refine Rh.One.call (fun v u => v = .tuple #[.agg (ci x), .agg (cg r), .bool b, .int .i64 0]) (fun _ _ _ h _ => h) (f := ?_) (args := ?_) (by rfl) (by rfl) ?_ ?_ ?_
          rotate_left 2
          · intro w_ hS_ hG_; go_simp <;> first | with_reducible rfl | (constructor <;> with_reducible rfl)
          · intro w_ hS_ hG_; (go_at_call 9; refine (hear_is H2h.out _ w_ hG_.1.2 HPm.out).mono ?_; rintro e w' ⟨rfl, hb_⟩; exact ⟨_, rfl, hb_, rfl⟩)
          intro v38 u_ hv38
          simp only [Act.put, List.setIfInBounds_toArray, List.set_cons_zero, List.set_cons_succ]
          obtain rfl : v38 = .tuple #[.agg (ci x), .agg (cg r), .bool b, .int .i64 0] := hv38
          repeat (first | (refine Rh.Steps.skip (by rfl) (by kernel_rfl) (by rfl) ?_; simp only [Act.put, List.setIfInBounds_toArray, List.set_cons_zero, List.set_cons_succ]) | (refine Rh.Steps.pure (v := ?_) (by rfl) (by kernel_rfl) (by rfl) ?_ ?_; rotate_left; (intro w_ hS_; skip; go_simp <;> with_reducible rfl); simp only [Act.put, List.setIfInBounds_toArray, List.set_cons_zero, List.set_cons_succ]))
          refine Rh.Steps.forced (i := 12) (by kernel_rfl) ?_
          refine Rh.One.store (fun u => Ix u b9 x ∧ Gx u b10 zeroM) (fun _ _ h k => ⟨h.1.stays k, h.2.stays k⟩) (by rfl) (by rfl) ?_ ?_
          · intro w_ hS_ hG_
            have h1 := hG_.1.2
            have h2 := hG_.1.1.1.2
            obtain ⟨-, -, -, -, p3, -⟩ := h1.facts
            refine ⟨_, ?_, hS_.trans (low_setRow _ hb9), ⟨h1.bx.put _⟩, ⟨h2.bx.put' (by omega) _⟩⟩
            go_simp
          simp only [Act.put]
          refine Rh.Steps.forced (i := 13) (by kernel_rfl) ?_
          refine Rh.One.store (fun u => Ix u b9 x ∧ Gx u b10 r) (fun _ _ h k => ⟨h.1.stays k, h.2.stays k⟩) (by rfl) (by rfl) ?_ ?_
          · intro w_ hS_ hG_
            have h2 := hG_.2
            obtain ⟨-, -, -, -, -, -, -, p3, -⟩ := h2.facts
            refine ⟨_, ?_, hS_.trans (low_setRow _ hb10), ⟨hG_.1.bx.put' (by omega) _⟩, ⟨h2.bx.put _⟩⟩
            go_simp
          simp only [Act.put]
          repeat (first | (refine Rh.Steps.skip (by rfl) (by kernel_rfl) (by rfl) ?_; simp only [Act.put, List.setIfInBounds_toArray, List.set_cons_zero, List.set_cons_succ]) | (refine Rh.Steps.pure (v := ?_) (by rfl) (by kernel_rfl) (by rfl) ?_ ?_; rotate_left; (intro w_ hS_; have hk_ := HS.out w_ hS_; go_simp <;> with_reducible rfl); simp only [Act.put, List.setIfInBounds_toArray, List.set_cons_zero, List.set_cons_succ]))
          refine Rh.Steps.nil (by kernel_rfl) ?_
          intro u hS hG
          go_wp2
          go_meet
          exact ⟨b9, b10, rfl, rfl, rfl, rfl, hS, hG.1, hG.2⟩
      · refine Rh.One.val (fun v u => ∃ b_ : Nat, v = .pointer (some ⟨b_, 0, none⟩) ∧ W7.heap.size ≤ b_ ∧ b_ ≠ b10 ∧ Ix u b_ zeroI) (fun v w1 w2 h k => by obtain ⟨b_, h1, h2, h3, h4⟩ := h; exact ⟨b_, h1, h2, h3, h4.stays k⟩) (by rfl) (by rfl) ?_ ?_
        · intro w_ hS_ hG_
          have hlt := hG_.2.bx.lt
          refine ⟨_, _, ?_, below1 _ _, w_.heap.size, rfl, hS_.size, (by omega), ⟨Bx.new w_ (ci zeroI) 37⟩⟩
          go_simp
        intro v_ u_ hv_
        obtain ⟨b9, rfl, hb9, hb9n, -⟩ := hv_
        simp only [Act.put, List.setIfInBounds_toArray, List.set_cons_zero, List.set_cons_succ]
        refine weakG (G' := fun u => ((True) ∧ Gx u b10 zeroM) ∧ Ix u b9 zeroI) (fun u h => ⟨h.1, by obtain ⟨b_, e_, _, _, h_⟩ := h.2; injection e_ with e_; injection e_ with e_; injection e_ with e_; subst e_; exact h_⟩) (fun _ _ h k => ⟨⟨trivial, Gx.stays (h.1.2) k⟩, Ix.stays (h.2) k⟩) ?_
        refine Rh.Steps.forced (i := 2) (by kernel_rfl) ?_
        refine Rh.One.call (fun v u => TI q (putG x l) v u) (fun _ _ _ h k => TI.stays h k) (f := ?_) (args := ?_) (by rfl) (by rfl) ?_ ?_ ?_
        rotate_left 2
        · intro w_ hS_ hG_; go_simp <;> first | with_reducible rfl | (constructor <;> with_reducible rfl)
        · intro w_ hS_ hG_; (go_at_call 18; refine (put_any q l _ x w_ (HT6.out.stays hS_) HC2.out (by have := hS_.size; omega) Hm.out).mono ?_; rintro e w' ⟨v, rfl, hb_, ho_⟩; exact ⟨v, rfl, hb_, ho_.ti (by have := hS_.size; omega)⟩)
        intro v36 u_ hv36
        simp only [Act.put, List.setIfInBounds_toArray, List.set_cons_zero, List.set_cons_succ]
        refine Rh.Steps.forced (i := 4) (by kernel_rfl) ?_
        refine Rh.One.call (fun v u => v = .tuple #[.agg (ci x), .agg (cg r), .bool b, .int .i64 0]) (fun _ _ _ h _ => h) (f := ?_) (args := ?_) (by rfl) (by rfl) ?_ ?_ ?_
        rotate_left 2
        · intro w_ hS_ hG_; go_simp <;> first | with_reducible rfl | (constructor <;> with_reducible rfl)
        · intro w_ hS_ hG_; (go_at_call 9; refine (hear_is H2h.out _ w_ hG_.2 HPm.out).mono ?_; rintro e w' ⟨rfl, hb_⟩; exact ⟨_, rfl, hb_, rfl⟩)
        intro v38 u_ hv38
        simp only [Act.put, List.setIfInBounds_toArray, List.set_cons_zero, List.set_cons_succ]
        obtain rfl : v38 = .tuple #[.agg (ci x), .agg (cg r), .bool b, .int .i64 0] := hv38
        repeat (first | (refine Rh.Steps.skip (by rfl) (by kernel_rfl) (by rfl) ?_; simp only [Act.put, List.setIfInBounds_toArray, List.set_cons_zero, List.set_cons_succ]) | (refine Rh.Steps.pure (v := ?_) (by rfl) (by kernel_rfl) (by rfl) ?_ ?_; rotate_left; (intro w_ hS_; skip; go_simp <;> with_reducible rfl); simp only [Act.put, List.setIfInBounds_toArray, List.set_cons_zero, List.set_cons_succ]))
        refine Rh.Steps.forced (i := 12) (by kernel_rfl) ?_
        refine Rh.One.store (fun u => Ix u b9 x ∧ Gx u b10 zeroM) (fun _ _ h k => ⟨h.1.stays k, h.2.stays k⟩) (by rfl) (by rfl) ?_ ?_
        · intro w_ hS_ hG_
          have h1 := hG_.1.1.2
          have h2 := hG_.1.1.1.2
          obtain ⟨-, -, -, -, p3, -⟩ := h1.facts
          refine ⟨_, ?_, hS_.trans (low_setRow _ hb9), ⟨h1.bx.put _⟩, ⟨h2.bx.put' (by omega) _⟩⟩
          go_simp
        simp only [Act.put]
        refine Rh.Steps.forced (i := 13) (by kernel_rfl) ?_
        refine Rh.One.store (fun u => Ix u b9 x ∧ Gx u b10 r) (fun _ _ h k => ⟨h.1.stays k, h.2.stays k⟩) (by rfl) (by rfl) ?_ ?_
        · intro w_ hS_ hG_
          have h2 := hG_.2
          obtain ⟨-, -, -, -, -, -, -, p3, -⟩ := h2.facts
          refine ⟨_, ?_, hS_.trans (low_setRow _ hb10), ⟨hG_.1.bx.put' (by omega) _⟩, ⟨h2.bx.put _⟩⟩
          go_simp
        simp only [Act.put]
        repeat (first | (refine Rh.Steps.skip (by rfl) (by kernel_rfl) (by rfl) ?_; simp only [Act.put, List.setIfInBounds_toArray, List.set_cons_zero, List.set_cons_succ]) | (refine Rh.Steps.pure (v := ?_) (by rfl) (by kernel_rfl) (by rfl) ?_ ?_; rotate_left; (intro w_ hS_; have hk_ := HS.out w_ hS_; go_simp <;> with_reducible rfl); simp only [Act.put, List.setIfInBounds_toArray, List.set_cons_zero, List.set_cons_succ]))
        refine Rh.Steps.nil (by kernel_rfl) ?_
        intro u hS hG
        go_wp2
        go_meet
        exact ⟨b9, b10, rfl, rfl, rfl, rfl, hS, hG.1, hG.2⟩
  case rest =>
  obtain ⟨b9, b10, rfl, rfl, rfl, rfl, hbw, hx9, hr10⟩ := hcut
  have heq : eqIns x x = true := Rc.eqIns_refl x
  obtain ⟨f1, -, -, -, -, -⟩ := hx9.facts
  obtain ⟨f2, -, -, -, -, -⟩ := (HI5.out.stays hbw).facts
  obtain ⟨f3, -, -, -, -, -, -, -, -⟩ := hr10.facts
  obtain ⟨f4, -, -, -, -, -, -, -, -⟩ := (HM6.out.stays hbw).facts
  go_wp2_with fail
  refine (awake_any _).mono ?_
  rintro e w9 ⟨rfl, hb9⟩
  go_wp2
  go_ret
  exact ⟨rfl, nx (nx bw hbw) hb9⟩
end Go.Proofs.Ytmaecknjamnnpaa.An
