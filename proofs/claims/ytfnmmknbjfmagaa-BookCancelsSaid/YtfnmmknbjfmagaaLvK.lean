/- Package level as it landed: Put. -/
import Derived.Test.YtfnmmknbjfmagaaLvJ
import Derived.Test.YtfnmmknbjfmagaaLvD
import Derived.RegionTactic
import Derived.ChangeAlike
import Derived.BigRegion
import Derived.Laws.EntriesVeiled
namespace Go.Proofs.Ytfnmmknbjfmagaa.Le
open Go.RowKit
set_option linter.unusedVariables false
open Go.Proofs.Ytfnmmknbjfmagaa.Rw
open Go.Proofs.Ytfnmmknbjfmagaa.Da
open Go.Proofs.Ytfnmmknbjfmagaa.Ro
theorem box1 (v : Value) (T : TypeId) (w : World) : (w.alloc (.cells #[v] T)).cell? ⟨w.heap.size, 0, none⟩ = some v := by simp [go_sem]
set_option maxHeartbeats 4000000 in
theorem put_big (B : Bs) (l : List Lv) (v : Value) (o1 o2 o3 o4 o5 : Int) (w : World) (h : LL B l v w) (hB : B.le w.heap.size) (hm : l.length ≤ 100000) (hf : (flat l).length ≤ 100000) :
    Calls Try.prog 36 #[v, .agg #[.int .i64 o1, .int .i64 o2, .int .i64 o3, .int .i64 o4, .int .i64 o5]] w (PostP B l (o1, o2, o3, o4, o5) w) := by
  obtain ⟨q, hq⟩ : ∃ q, fnd (flat l) o1 = q := ⟨_, rfl⟩
  obtain ⟨rr, hrr⟩ : ∃ r, rightL o3 l = r := ⟨_, rfl⟩
  obtain ⟨mm, hmm⟩ : ∃ r, omay (o1, o2, o3, o4, o5) o3 = r := ⟨_, rfl⟩
  have HQ := Lib.hid hq
  have HR := Lib.hid hrr
  have HM := Lib.hid hmm
  obtain ⟨a1, c1, rfl, h1⟩ := id h
  have hcs := cO_size q
  have h1c : oneAll (.agg (cO q)) = true := by cases q <;> exact one5 _ _ _ _ _
  obtain ⟨n, hn⟩ : ∃ n, n = l.length := ⟨_, rfl⟩
  obtain ⟨V, hV⟩ : ∃ V, V = (w.alloc (.cells #[.slice a1 n c1] 24)).alloc (.cells #[.int .i64 o1, .int .i64 o2, .int .i64 o3, .int .i64 o4, .int .i64 o5] 31) := ⟨_, rfl⟩
  have hbV : Below w.heap.size w V := hV ▸ below2 w _ _
  have hzV : V.heap.size = w.heap.size + 2 := by rw [hV]; simp
  have hKV : ∀ u, Below V.heap.size V u → u.cell? ⟨w.heap.size, 0, none⟩ = some (.slice a1 n c1) ∧ u.cell? ⟨w.heap.size + 1, 0, none⟩ = some (.int .i64 o1) ∧ u.cell? ⟨w.heap.size + 1, 2, none⟩ = some (.int .i64 o3) ∧ u.cell? ⟨w.heap.size + 1, 3, none⟩ = some (.int .i64 o4) ∧ row u (w.heap.size + 1) = #[.int .i64 o1, .int .i64 o2, .int .i64 o3, .int .i64 o4, .int .i64 o5] ∧ w.heap.size + 1 < u.heap.size ∧ w.heap.size < u.heap.size := by
    intro u hu
    have hz := hu.size
    refine ⟨?_, ?_, ?_, ?_, ?_, by omega, by omega⟩
    · rw [hu.cell (p := ⟨w.heap.size, 0, none⟩) (by show w.heap.size < _; omega), hV]; simp [go_sem]
    · rw [hu.cell (p := ⟨w.heap.size + 1, 0, none⟩) (by show w.heap.size + 1 < _; omega), hV]; simp [go_sem]
    · rw [hu.cell (p := ⟨w.heap.size + 1, 2, none⟩) (by show w.heap.size + 1 < _; omega), hV]; simp [go_sem]
    · rw [hu.cell (p := ⟨w.heap.size + 1, 3, none⟩) (by show w.heap.size + 1 < _; omega), hV]; simp [go_sem]
    · rw [(bcell hu).2.2.1 (w.heap.size + 1) (by omega), hV]; simp [go_sem]
  have HK := Lib.hid hKV
  have HLv := Lib.hid (show ∀ u, Below w.heap.size w u → LL B l (.slice a1 l.length c1) u ∧ B.le u.heap.size from fun u hu => ⟨Is.stays eL 48 h hu, hB.mono hu.size⟩)
  rw [hn] at hV HK
  have HV := Lib.hid hV
  have HN := Lib.hid hn
  have hm6 : l.length ≤ 1000000 := by omega
  have hf6 : (flat l).length ≤ 1000000 := by omega
  have hcase : (q.isSome = true) ∨ (q = none ∧ mm = false) ∨ (q = none ∧ mm = true ∧ rr = false) ∨ (q = none ∧ mm = true ∧ rr = true) := by
    cases q <;> cases mm <;> cases rr <;> simp
  have hend : ∀ u, Below w.heap.size w u → putE l (o1, o2, o3, o4, o5) = 1 → PostP B l (o1, o2, o3, o4, o5) w (.returned (.tuple #[.slice a1 l.length c1, .int .i64 1])) u := fun u hu he =>
    ⟨_, by rw [he], hu, by unfold put; rw [if_neg (by rw [he]; decide)]; exact (HLv.out u hu).1⟩
  have HEnd := Lib.hid hend
  clear h hq hrr hmm hV hKV h1 hn hB hend
  go_enter Try.func36, Try.ntmps36
  go_wp2_with fail
  rw [← HV.out]
  refine (find_big B l _ o1 V (HLv.out V hbV).1 hm6 hf6).mono ?_
  rintro e w1 ⟨rfl, hb1⟩
  rw [fV_is, HQ.out]
  obtain ⟨m0, m1, m2, m3, mr, mz, mz'⟩ := HK.out _ hb1
  rcases hcase with hq1 | ⟨rfl, rfl⟩ | ⟨rfl, rfl, rfl⟩ | ⟨rfl, rfl, rfl⟩
  · rw [hq1]
    have hE : putE l (o1, o2, o3, o4, o5) = 1 := by
      unfold putE
      rw [HQ.out]
      cases q
      · cases hq1
      · simp
    have HE := Lib.hid hE
    clear hE hq1
    go_wp2
    go_ret2
    exact HEnd.out _ (nx hbV (nx hb1 (below1 _ _))) HE.out
  · have hE : putE l (o1, o2, o3, o4, o5) = 1 := by
      unfold putE
      simp [HM.out]
    have HE := Lib.hid hE
    clear hE
    go_wp2_with fail
    have hb2 := nx hb1 (below1 w1 (.cells (cO none) 31))
    clear m0 m1 m2 m3 mr mz mz'
    refine (mayRest_is HM _).mono ?_
    rintro e w2 ⟨rfl, hb3⟩
    have hb4 := nx hb2 hb3
    obtain ⟨m0, m1, m2, m3, mr, mz, mz'⟩ := HK.out _ hb4
    go_wp2
    go_ret2
    exact HEnd.out _ (nx hbV hb4) HE.out
  · have hE : putE l (o1, o2, o3, o4, o5) = 1 := by
      unfold putE
      simp [HR.out]
    have HE := Lib.hid hE
    clear hE
    go_wp2_with fail
    have hb2 := nx hb1 (below1 w1 (.cells (cO none) 31))
    clear m0 m1 m2 m3 mr mz mz'
    refine (mayRest_is HM _).mono ?_
    rintro e w2 ⟨rfl, hb3⟩
    have hb4 := nx hb2 hb3
    obtain ⟨m0, m1, m2, m3, mr, mz, mz'⟩ := HK.out _ hb4
    go_wp2_with fail
    clear m0 m1 m2 m3 mr mz mz'
    refine (right_big B l _ o3 w2 (HLv.out _ (nx hbV hb4)).1 (HLv.out _ (nx hbV hb4)).2 hm6 hf6).mono ?_
    rintro e w3 ⟨rfl, hb5⟩
    rw [HR.out]
    have hb6 := nx hb4 hb5
    obtain ⟨m0, m1, m2, m3, mr, mz, mz'⟩ := HK.out _ hb6
    go_wp2
    go_ret2
    exact HEnd.out _ (nx hbV hb6) HE.out
  · have hrl : RightL o3 l := rightL_iff.1 HR.out
    have hE : putE l (o1, o2, o3, o4, o5) = 0 ∧ put l (o1, o2, o3, o4, o5) = putL o3 (o1, o2, o3, o4, o5) l := by
      have : putE l (o1, o2, o3, o4, o5) = 0 := by unfold putE; rw [HQ.out]; simp only; rw [HR.out, HM.out]; rfl
      exact ⟨this, by unfold put; rw [if_pos this]⟩
    have HE := Lib.hid hE
    have HRL := Lib.hid hrl
    clear hE hrl
    go_wp2_with fail
    have hb2 := nx hb1 (below1 w1 (.cells (cO none) 31))
    clear m0 m1 m2 m3 mr mz mz'
    refine (mayRest_is HM _).mono ?_
    rintro e w2 ⟨rfl, hb3⟩
    have hb4 := nx hb2 hb3
    obtain ⟨m0, m1, m2, m3, mr, mz, mz'⟩ := HK.out _ hb4
    go_wp2_with fail
    clear m0 m1 m2 m3 mr mz mz'
    refine (right_big B l _ o3 w2 (HLv.out _ (nx hbV hb4)).1 (HLv.out _ (nx hbV hb4)).2 hm6 hf6).mono ?_
    rintro e w3 ⟨rfl, hb5⟩
    rw [HR.out]
    have hb6 := nx hb4 hb5
    clear hb1 hb2 hb3 hb4 hb5
    obtain ⟨m0, m1, m2, m3, mr, mz, mz'⟩ := HK.out _ hb6
    go_wp2_with fail
    refine (aheadOn_any o3 _).mono ?_
    rintro e w4 ⟨f, rfl, hb7, hah⟩
    have hb8 := nx hb6 hb7
    have HAh := Lib.hid hah
    obtain ⟨g0, hf0, _, _⟩ := hah
    subst hf0
    clear m0 m1 m2 m3 mr mz mz'
    obtain ⟨m0, m1, m2, m3, mr, mz, mz'⟩ := HK.out _ hb8
    have hbx := below1 w4 (.cells #[.func (.func 78) #[] #[.pointer (some ⟨g0, 0, none⟩)]] 89)
    have hb9 := nx hb8 hbx
    have henv : Env B o3 o4 l w4.heap.size w.heap.size (w.heap.size + 1) (w4.alloc (.cells #[.func (.func 78) #[] #[.pointer (some ⟨g0, 0, none⟩)]] 89)) := by
      obtain ⟨k0, k1, k2, k3, kr, kz, kz'⟩ := HK.out _ hb9
      exact ⟨_, _, ⟨HAh.out.stays hbx, box1 _ _ _, by simp⟩, ⟨(HLv.out _ (nx hbV hb9)).1, k0, kz'⟩, k3, kz⟩
    have HEnv := Lib.hid henv
    clear henv
    go_wp2_with fail
    clear m0 m1 m2 m3 mr mz mz'
    refine (search_any B o3 o4 l w4.heap.size w.heap.size (w.heap.size + 1) hm6 _ HEnv.out HRL.out.2.2.1).mono ?_
    rintro e w5 ⟨rfl, hb10⟩
    have hb11 := nx hb9 hb10
    clear hb6 hb7 hb8 hbx hb9 hb10
    obtain ⟨m0, m1, m2, m3, mr, mz, mz'⟩ := HK.out _ hb11
    go_wp2_with fail
    clear m0 m1 m2 m3 mr mz mz'
    refine (cloned_any B l _ w5 (HLv.out _ (nx hbV hb11)).1 (HLv.out _ (nx hbV hb11)).2 hm6 hf6).mono ?_
    rintro e w6 ⟨_, rfl, hb12, g, hs, rfl, hg5, hhl, hrow, hmine⟩
    have hb13 := nx hb11 hb12
    obtain ⟨m0, m1, m2, m3, mr, mz, mz'⟩ := HK.out _ hb13
    obtain ⟨i, hi⟩ : ∃ i, cntA o3 o4 l = i := ⟨_, rfl⟩
    have hile : i ≤ l.length := hi ▸ cntA_le _ _ _
    rw [hi]
    have hway : (∀ (hl : i < l.length), l[i].1 ≠ o4) ∨ ∃ hl : i < l.length, l[i].1 = o4 := by
      by_cases hl : i < l.length
      · by_cases he : l[i].1 = o4
        · exact .inr ⟨hl, he⟩
        · exact .inl fun _ => he
      · exact .inl fun h => absurd h hl
    have HW6 := Lib.hid (show ∀ u, Below w6.heap.size w6 u → LL B l (.slice a1 l.length c1) u ∧ _ from fun u hu => ⟨(HLv.out u (nx hbV (nx hb13 hu))).1, HK.out u (nx hb13 hu)⟩)
    have HRo := Lib.hid hrow
    have HMi := Lib.hid hmine
    have HI := Lib.hid hi
    clear hrow hmine hi m0 m1 m2 m3 mr mz mz'
    rcases hway with hne | ⟨hl, he⟩
    · have HNe := Lib.hid hne
      have hpl := putL_ins (o := (o1, o2, o3, o4, o5)) HI.out hne
      have HPl := Lib.hid hpl
      rcases Nat.lt_or_ge i l.length with hlt | hge
      case' inl =>
        have hn4 := hne hlt
        obtain ⟨hll, m0, m1, m2, m3, mr, mz, mz'⟩ := HW6.out w6 (Below.refl _ _)
        rcases hll.cases with ⟨e, _⟩ | ⟨_, b, off, c, e, hat⟩
        · rw [e] at hlt; cases hlt
        simp only [Value.slice.injEq] at e
        obtain ⟨rfl, _, rfl⟩ := e
        obtain ⟨x, q0, _, _⟩ := atL hat i hlt
        obtain ⟨pp, hpp⟩ : ∃ pp, (l[i]'hlt).1 = pp := ⟨_, rfl⟩
        rw [hpp] at q0 hn4
        have hbb := hat.1
        have hd1 : ((i : Int) == (l.length : Nat)) = false := by simp; omega
        have hd2 : (pp != o4) = true := by simpa using hn4
        have hlt2 : (i : Int) < l.length := by omega
        have hF : ∀ u, Below w6.heap.size w6 u → (u.cell? ⟨w.heap.size, 0, none⟩ = some (.slice (some ⟨b, off, none⟩) l.length c1)) ∧ u.cell? ⟨w.heap.size + 1, 3, none⟩ = some (.int .i64 o4) ∧ u.cell? ⟨b, off + i * 2, none⟩ = some (.int .i64 pp) := fun u hu =>
          ⟨(HW6.out u hu).2.1, (HW6.out u hu).2.2.2.2.1, (hu.cell (p := ⟨b, off + i * 2, none⟩) hbb).trans q0⟩
        clear hll hat hn4 hpp hne hpl q0 m0 m1 m2 m3 mr mz mz'
        go_wp2
        refine Rf.region [0, 1, 2, 3, 4, 5, 6, 7, 8, 9, 10, 11, 12, 13] (by kernel_rfl) (by kernel_rfl) (by kernel_rfl) (fun _ _ d _ _ h => by cases d <;> exact h) ?_
        repeat (first | (refine Rf.Steps.skip (by rfl) (by kernel_rfl) (by rfl) ?_; simp only [Act.put, List.setIfInBounds_toArray, List.set_cons_zero, List.set_cons_succ]) | (refine Rf.Steps.pure (v := ?_) (by rfl) (by kernel_rfl) (by rfl) ?_ ?_; rotate_left; (intro w_ hS_; have hk_ := hF w_ hS_; go_simp <;> with_reducible rfl); simp only [Act.put, List.setIfInBounds_toArray, List.set_cons_zero, List.set_cons_succ]))
        refine Rf.Steps.nil (by kernel_rfl) ?_
        intro w7 hb14
      case' inr =>
        have hd1 : ((i : Int) == (l.length : Nat)) = true := by simp; omega
        have hF : ∀ u, Below w6.heap.size w6 u → (u.cell? ⟨w.heap.size, 0, none⟩ = some (.slice a1 l.length c1)) ∧ u.cell? ⟨w.heap.size + 1, 3, none⟩ = some (.int .i64 o4) := fun u hu =>
          ⟨(HW6.out u hu).2.1, (HW6.out u hu).2.2.2.2.1⟩
        clear hne hpl
        go_wp2
        refine Rf.region [0, 1, 2, 3, 4, 5, 6, 7, 8, 9, 10, 11, 12, 13] (by kernel_rfl) (by kernel_rfl) (by kernel_rfl) (fun _ _ d _ _ h => by cases d <;> exact h) ?_
        repeat (first | (refine Rf.Steps.skip (by rfl) (by kernel_rfl) (by rfl) ?_; simp only [Act.put, List.setIfInBounds_toArray, List.set_cons_zero, List.set_cons_succ]) | (refine Rf.Steps.pure (v := ?_) (by rfl) (by kernel_rfl) (by rfl) ?_ ?_; rotate_left; (intro w_ hS_; have hk_ := hF w_ hS_; go_simp <;> with_reducible rfl); simp only [Act.put, List.setIfInBounds_toArray, List.set_cons_zero, List.set_cons_succ]))
        refine Rf.Steps.nil (by kernel_rfl) ?_
        intro w7 hb14
      all_goals
        clear hF hd1
        obtain ⟨hll, m0, m1, m2, m3, mr, mz, mz'⟩ := HW6.out w7 hb14
        have hbx := below1 w7 (.cells #[.int .i64 o4, .slice none 0 0] 48)
        have hrx := row_one w7 o4
        go_wp2_with fail
        clear m0 m1 m2 m3 mr mz mz' hll
        refine (insert_any g l.length _ w7.heap.size hs (o4, none, 0, 0) _ ((HRo.out.stays hb14).stays hbx) hhl.symm hile hm6 hrx).mono ?_
        rintro e w8 ⟨g2, c2, rfl, hr8, hg8, hb15, HC2⟩
        replace hr8 : RowF g2 c2 (insA i (o4, none, 0, 0) hs) w8 := hr8
        have hb16 := nx hb13 (nx hb14 (nx hbx hb15))
        have hsz8 : w5.heap.size ≤ w8.heap.size := Nat.le_trans hb12.size (Nat.le_trans hb14.size (nx hbx hb15).size)
        have hBo : B.le w5.heap.size := (HLv.out _ (nx hbV hb11)).2
        have hg5 : w5.heap.size ≤ g2 := Nat.le_trans hb12.size (Nat.le_trans hb14.size (Nat.le_trans hbx.size hg8))
        have hM8 := (((HMi.out.stays hb14).stays hbx).stays hb15).ins hile o4
        have hiy : i ≤ hs.length := by rw [hhl]; exact hile
        have hgx : (insA i ((o4, []) : Lv) l)[i]? = some (o4, []) := by rw [insA_get hile, if_neg (Nat.lt_irrefl _), if_pos rfl]
        have hgy : (insA i ((o4, none, 0, 0) : Hw) hs)[i]? = some (o4, none, 0, 0) := by rw [insA_get hiy, if_neg (Nat.lt_irrefl _), if_pos rfl]
        obtain ⟨a', n', c', w9, hrun, hlow, hG9, ⟨ce, fe⟩, hlvs, hrow9⟩ := appAt hBo hsz8 hg5 hr8 hM8 hgx hgy (by simp) (o1, o2, o3, o4, o5)
        simp only [hv] at hrun ce
        rw [insA_set hile] at hlvs
        rw [insA_set hiy] at hlvs hrow9
        have hll9 := rowF_ll hBo hg5 HC2.out hlvs hrow9
        rw [insA_len hiy, hhl] at hll9
        have HLL := Lib.hid hll9
        obtain ⟨e0, e1, _, _⟩ := rowF_at hr8 hgy
        simp only [hv] at e1
        have hg2z := hr8.lt
        have hi1 : (i : Int) < l.length + 1 := by omega
        have hi1' : (i : Int) ≤ l.length := by omega
        have hbF : Below w.heap.size w (w9.setCell ⟨g2, i * 2 + 1, none⟩ (.slice a' n' c')) := by
          have h1 : Below w.heap.size w w8 := nx hbV hb16
          have h2 : Below w.heap.size w w9 := h1.trans (hlow.mono (nx hbV hb11).size)
          exact h2.setCell (Nat.le_trans (nx hbV hb11).size hg5) _
        obtain ⟨hll, m0, m1, m2, m3, mr, mz, mz'⟩ := HW6.out w8 (nx hb14 (nx hbx hb15))
        have HZ : Hid (PostP B l (o1, o2, o3, o4, o5) w (.returned (.tuple #[.slice (some ⟨g2, 0, none⟩) (l.length + 1) c2, .int .i64 0])) (w9.setCell ⟨g2, i * 2 + 1, none⟩ (.slice a' n' c'))) := Lib.hid ⟨_, by rw [HE.out.1], hbF, by rw [HE.out.2, HPl.out]; exact HLL.out⟩
        clear hb14 hb15 hbx hrx hr8 hM8 hlvs hrow9 hlow hll hll9 hgx hgy e0
        go_wp2
        go_region
        clear hrun
        go_wp2
        go_ret2
        exact HZ.out
    · have hpl := putL_set (o := (o1, o2, o3, o4, o5)) HI.out hl he
      have HPl := Lib.hid hpl
      obtain ⟨hll, m0, m1, m2, m3, mr, mz, mz'⟩ := HW6.out w6 (Below.refl _ _)
      rcases hll.cases with ⟨e, _⟩ | ⟨_, b, off, c, e, hat⟩
      · rw [e] at hl; cases hl
      simp only [Value.slice.injEq] at e
      obtain ⟨rfl, _, rfl⟩ := e
      obtain ⟨x, q0, _, _⟩ := atL hat i hl
      have HEq := Lib.hid he
      rw [he] at q0
      have hbb := hat.1
      have hd1 : ((i : Int) == (l.length : Nat)) = false := by simp; omega
      have hlt2 : (i : Int) < l.length := by omega
      have hF : ∀ u, Below w6.heap.size w6 u → (u.cell? ⟨w.heap.size, 0, none⟩ = some (.slice (some ⟨b, off, none⟩) l.length c1)) ∧ u.cell? ⟨w.heap.size + 1, 3, none⟩ = some (.int .i64 o4) ∧ u.cell? ⟨b, off + i * 2, none⟩ = some (.int .i64 o4) := fun u hu =>
        ⟨(HW6.out u hu).2.1, (HW6.out u hu).2.2.2.2.1, (hu.cell (p := ⟨b, off + i * 2, none⟩) hbb).trans q0⟩
      clear hll hat he hpl q0 m0 m1 m2 m3 mr mz mz'
      go_wp2
      refine Rf.region [0, 1, 2, 3, 4, 5, 6, 7, 8, 9, 10, 11, 12, 13] (by kernel_rfl) (by kernel_rfl) (by kernel_rfl) (fun _ _ d _ _ h => by cases d <;> exact h) ?_
      repeat (first | (refine Rf.Steps.skip (by rfl) (by kernel_rfl) (by rfl) ?_; simp only [Act.put, List.setIfInBounds_toArray, List.set_cons_zero, List.set_cons_succ]) | (refine Rf.Steps.pure (v := ?_) (by rfl) (by kernel_rfl) (by rfl) ?_ ?_; rotate_left; (intro w_ hS_; have hk_ := hF w_ hS_; go_simp <;> with_reducible rfl); simp only [Act.put, List.setIfInBounds_toArray, List.set_cons_zero, List.set_cons_succ]))
      refine Rf.Steps.nil (by kernel_rfl) ?_
      intro w7 hb14
      clear hF
      have hb16 := nx hb13 hb14
      have hsz8 : w5.heap.size ≤ w7.heap.size := Nat.le_trans hb12.size hb14.size
      have hBo : B.le w5.heap.size := (HLv.out _ (nx hbV hb11)).2
      have hM8 := HMi.out.stays hb14
      have hr8 := HRo.out.stays hb14
      have hih : i < hs.length := by rw [hhl]; exact hl
      obtain ⟨⟨yp, ya, yn, yc⟩, hy⟩ : ∃ y, hs[i]'hih = y := ⟨_, rfl⟩
      have hgx : l[i]? = some (l[i]'hl) := List.getElem?_eq_getElem hl
      have hgy : hs[i]? = some (yp, ya, yn, yc) := by rw [← hy]; exact List.getElem?_eq_getElem hih
      have hosl : (l[i]'hl).2.length ≤ 1000000 := by
        have h1 := flat_take_le l (i + 1)
        rw [flat_take_snoc hl, List.length_append] at h1; omega
      have hyp := (hM8.own i _ _ hgx hgy).1
      simp only [HEq.out] at hyp
      subst hyp
      obtain ⟨a', n', c', w9, hrun, hlow, hG9, ⟨ce, fe⟩, hlvs, hrow9⟩ := appAt hBo hsz8 hg5 hr8 hM8 hgx hgy hosl (o1, o2, o3, yp, o5)
      simp only [hv] at hrun ce
      have hll9 := rowF_ll hBo hg5 (by unfold maxLen; omega) hlvs hrow9
      rw [List.length_set, hhl, HEq.out] at hll9
      have HLL := Lib.hid hll9
      obtain ⟨e0, e1, _, _⟩ := rowF_at hr8 hgy
      simp only [hv] at e1
      have hg2z := hr8.lt
      have hbF : Below w.heap.size w (w9.setCell ⟨g, i * 2 + 1, none⟩ (.slice a' n' c')) := by
        have h1 : Below w.heap.size w w7 := nx hbV hb16
        have h2 : Below w.heap.size w w9 := h1.trans (hlow.mono (nx hbV hb11).size)
        exact h2.setCell (Nat.le_trans (nx hbV hb11).size hg5) _
      obtain ⟨hll, m0, m1, m2, m3, mr, mz, mz'⟩ := HW6.out w7 hb14
      have HZ : Hid (PostP B l (o1, o2, o3, yp, o5) w (.returned (.tuple #[.slice (some ⟨g, 0, none⟩) l.length l.length, .int .i64 0])) (w9.setCell ⟨g, i * 2 + 1, none⟩ (.slice a' n' c'))) := Lib.hid ⟨_, by rw [HE.out.1], hbF, by rw [HE.out.2, HPl.out]; exact HLL.out⟩
      clear hb14 hr8 hM8 hlvs hrow9 hlow hll hll9 hgx hgy e0 hy
      go_wp2
      go_region
      clear hrun
      go_wp2
      go_ret2
      exact HZ.out
end Go.Proofs.Ytfnmmknbjfmagaa.Le
