/- Package level as it landed: Put. -/
import Derived.Test.YthecinmekoaphaaGreatQaBG
import Derived.Test.YthecinmekoaphaaGreatQaBI
import Derived.RegionTactic
import Derived.ChangeAlike
import Derived.BigRegion
import Derived.Laws.EntriesVeiled
import Derived.Test.YthecinmekoaphaaGreatQaBL
import Derived.Test.YthecinmekoaphaaGreatQaBJ
set_option linter.unusedVariables false
namespace Go.Proofs.YthecinmekoaphaaGreat.Le
open Go.RowKit
open Go.Proofs.YthecinmekoaphaaGreat.Rw
open Go.Proofs.YthecinmekoaphaaGreat.Da
open Go.Proofs.YthecinmekoaphaaGreat.Ro
theorem box1 (v : Value) (T : TypeId) (w : World) : (w.alloc (.cells #[v] T)).cell? ⟨w.heap.size, 0, none⟩ = some v := by simp [go_sem]
set_option maxHeartbeats 4000000 in
theorem put_big (B : Bs) (l : List Lv) (v : Value) (o1 o2 o3 o4 o5 : Int) (w : World) (h : LL B l v w) (hB : B.le w.heap.size) (hm : l.length ≤ 100000) (hf : (flat l).length ≤ 100000) :
    Calls Tryz.prog 90 #[v, .agg #[.int .i64 o1, .int .i64 o2, .int .i64 o3, .int .i64 o4, .int .i64 o5]] w (PostP B l (o1, o2, o3, o4, o5) w) := by
  obtain ⟨q, hq⟩ : ∃ q, fnd (flat l) o1 = q := ⟨_, rfl⟩
  obtain ⟨rr, hrr⟩ : ∃ r, rightL o3 l = r := ⟨_, rfl⟩
  obtain ⟨mm, hmm⟩ : ∃ r, omay (o1, o2, o3, o4, o5) o3 = r := ⟨_, rfl⟩
  have HQ := Lib.hid hq
  have HR := Lib.hid hrr
  have HM := Lib.hid hmm
  obtain ⟨a1, c1, rfl, h1⟩ := id h
  have hcs := cO_size q
  have h1c : oneAll (.agg (cO q)) = true := by cases q <;> exact one5 _ _ _ _ _
  obtain ⟨n, hn⟩ : ∃ n, n = l.length := ⟨_, rfl⟩
  obtain ⟨V, hV⟩ : ∃ V, V = (w.alloc (.cells #[.slice a1 n c1] 23)).alloc (.cells #[.int .i64 o1, .int .i64 o2, .int .i64 o3, .int .i64 o4, .int .i64 o5] 70) := ⟨_, rfl⟩
  have hbV : Below w.heap.size w V := hV ▸ below2 w _ _
  have hzV : V.heap.size = w.heap.size + 2 := by rw [hV]; simp
  have hKV : ∀ u, Below V.heap.size V u → u.cell? ⟨w.heap.size, 0, none⟩ = some (.slice a1 n c1) ∧ u.cell? ⟨w.heap.size + 1, 0, none⟩ = some (.int .i64 o1) ∧ u.cell? ⟨w.heap.size + 1, 2, none⟩ = some (.int .i64 o3) ∧ u.cell? ⟨w.heap.size + 1, 3, none⟩ = some (.int .i64 o4) ∧ row u (w.heap.size + 1) = #[.int .i64 o1, .int .i64 o2, .int .i64 o3, .int .i64 o4, .int .i64 o5] ∧ w.heap.size + 1 < u.heap.size ∧ w.heap.size < u.heap.size := by
    intro u hu
    have hz := hu.size
    refine ⟨?_, ?_, ?_, ?_, ?_, by omega, by omega⟩
    · rw [hu.cell (p := ⟨w.heap.size, 0, none⟩) (by show w.heap.size < _; omega), hV]; simp [go_sem]
    · rw [hu.cell (p := ⟨w.heap.size + 1, 0, none⟩) (by show w.heap.size + 1 < _; omega), hV]; simp [go_sem]
    · rw [hu.cell (p := ⟨w.heap.size + 1, 2, none⟩) (by show w.heap.size + 1 < _; omega), hV]; simp [go_sem]
    · rw [hu.cell (p := ⟨w.heap.size + 1, 3, none⟩) (by show w.heap.size + 1 < _; omega), hV]; simp [go_sem]
    · rw [(bcell hu).2.2.1 (w.heap.size + 1) (by omega), hV]; simp [go_sem]
  have HK := Lib.hid hKV
  have HLv := Lib.hid (show ∀ u, Below w.heap.size w u → LL B l (.slice a1 l.length c1) u ∧ B.le u.heap.size from fun u hu => ⟨Is.stays eL 98 h hu, hB.mono hu.size⟩)
  rw [hn] at hV HK
  have HV := Lib.hid hV
  have HN := Lib.hid hn
  have hm6 : l.length ≤ 1000000 := by omega
  have hf6 : (flat l).length ≤ 1000000 := by omega
  have hcase : (q.isSome = true) ∨ (q = none ∧ mm = false) ∨ (q = none ∧ mm = true ∧ rr = false) ∨ (q = none ∧ mm = true ∧ rr = true) := by
    cases q <;> cases mm <;> cases rr <;> simp
  have hend : ∀ u, Below w.heap.size w u → putE l (o1, o2, o3, o4, o5) = 1 → PostP B l (o1, o2, o3, o4, o5) w (.returned (.tuple #[.slice a1 l.length c1, .int .i64 1])) u := fun u hu he =>
    ⟨_, by rw [he], hu, by unfold put; rw [if_neg (by rw [he]; decide)]; exact (HLv.out u hu).1⟩
  have HEnd := Lib.hid hend
  clear h hq hrr hmm hV hKV h1 hn hB hend
  go_enter Tryz.func90, Tryz.ntmps90
  go_wp2_with fail
  rw [← HV.out]
  refine (find_big B l _ o1 V (HLv.out V hbV).1 hm6 hf6).mono ?_
  rintro e w1 ⟨rfl, hb1⟩
  rw [fV_is, HQ.out]
  obtain ⟨m0, m1, m2, m3, mr, mz, mz'⟩ := HK.out _ hb1
  rcases hcase with hq1 | ⟨rfl, rfl⟩ | ⟨rfl, rfl, rfl⟩ | ⟨rfl, rfl, rfl⟩
  · rw [hq1]
    have hE : putE l (o1, o2, o3, o4, o5) = 1 := by
      unfold putE
      rw [HQ.out]
      cases q
      · cases hq1
      · simp
    have HE := Lib.hid hE
    clear hE hq1
    go_wp2
    go_ret2
    exact HEnd.out _ (nx hbV (nx hb1 (below1 _ _))) HE.out
  · have hE : putE l (o1, o2, o3, o4, o5) = 1 := by
      unfold putE
      simp [HM.out]
    have HE := Lib.hid hE
    clear hE
    go_wp2_with fail
    have hb2 := nx hb1 (below1 w1 (.cells (cO none) 70))
    clear m0 m1 m2 m3 mr mz mz'
    refine (mayRest_is HM _).mono ?_
    rintro e w2 ⟨rfl, hb3⟩
    have hb4 := nx hb2 hb3
    obtain ⟨m0, m1, m2, m3, mr, mz, mz'⟩ := HK.out _ hb4
    go_wp2
    go_ret2
    exact HEnd.out _ (nx hbV hb4) HE.out
  · have hE : putE l (o1, o2, o3, o4, o5) = 1 := by
      unfold putE
      simp [HR.out]
    have HE := Lib.hid hE
    clear hE
    go_wp2_with fail
    have hb2 := nx hb1 (below1 w1 (.cells (cO none) 70))
    clear m0 m1 m2 m3 mr mz mz'
    refine (mayRest_is HM _).mono ?_
    rintro e w2 ⟨rfl, hb3⟩
    have hb4 := nx hb2 hb3
    obtain ⟨m0, m1, m2, m3, mr, mz, mz'⟩ := HK.out _ hb4
    go_wp2_with fail
    clear m0 m1 m2 m3 mr mz mz'
    refine (right_big B l _ o3 w2 (HLv.out _ (nx hbV hb4)).1 (HLv.out _ (nx hbV hb4)).2 hm6 hf6).mono ?_
    rintro e w3 ⟨rfl, hb5⟩
    rw [HR.out]
    have hb6 := nx hb4 hb5
    obtain ⟨m0, m1, m2, m3, mr, mz, mz'⟩ := HK.out _ hb6
    go_wp2
    go_ret2
    exact HEnd.out _ (nx hbV hb6) HE.out
  · have hrl : RightL o3 l := rightL_iff.1 HR.out
    have hE : putE l (o1, o2, o3, o4, o5) = 0 ∧ put l (o1, o2, o3, o4, o5) = putL o3 (o1, o2, o3, o4, o5) l := by
      have : putE l (o1, o2, o3, o4, o5) = 0 := by unfold putE; rw [HQ.out]; simp only; rw [HR.out, HM.out]; rfl
      exact ⟨this, by unfold put; rw [if_pos this]⟩
    have HE := Lib.hid hE
    have HRL := Lib.hid hrl
    clear hE hrl
    go_wp2_with fail
    have hb2 := nx hb1 (below1 w1 (.cells (cO none) 70))
    clear m0 m1 m2 m3 mr mz mz'
    refine (mayRest_is HM _).mono ?_
    rintro e w2 ⟨rfl, hb3⟩
    have hb4 := nx hb2 hb3
    obtain ⟨m0, m1, m2, m3, mr, mz, mz'⟩ := HK.out _ hb4
    go_wp2_with fail
    clear m0 m1 m2 m3 mr mz mz'
    refine (right_big B l _ o3 w2 (HLv.out _ (nx hbV hb4)).1 (HLv.out _ (nx hbV hb4)).2 hm6 hf6).mono ?_
    rintro e w3 ⟨rfl, hb5⟩
    rw [HR.out]
    have hb6 := nx hb4 hb5
    clear hb1 hb2 hb3 hb4 hb5
    obtain ⟨m0, m1, m2, m3, mr, mz, mz'⟩ := HK.out _ hb6
    go_wp2_with fail
    refine (aheadOn_any o3 _).mono ?_
    rintro e w4 ⟨f, rfl, hb7, hah⟩
    have hb8 := nx hb6 hb7
    have HAh := Lib.hid hah
    obtain ⟨g0, hf0, _, _⟩ := hah
    subst hf0
    clear m0 m1 m2 m3 mr mz mz'
    obtain ⟨m0, m1, m2, m3, mr, mz, mz'⟩ := HK.out _ hb8
    have hbx := below1 w4 (.cells #[.func (.func 142) #[] #[.pointer (some ⟨g0, 0, none⟩)]] 145)
    have hb9 := nx hb8 hbx
    have henv : Env B o3 o4 l w4.heap.size w.heap.size (w.heap.size + 1) (w4.alloc (.cells #[.func (.func 142) #[] #[.pointer (some ⟨g0, 0, none⟩)]] 145)) := by
      obtain ⟨k0, k1, k2, k3, kr, kz, kz'⟩ := HK.out _ hb9
      exact ⟨_, _, ⟨HAh.out.stays hbx, box1 _ _ _, by simp⟩, ⟨(HLv.out _ (nx hbV hb9)).1, k0, kz'⟩, k3, kz⟩
    have HEnv := Lib.hid henv
    clear henv
    go_wp2_with fail
    clear m0 m1 m2 m3 mr mz mz'
    refine (search_any B o3 o4 l w4.heap.size w.heap.size (w.heap.size + 1) hm6 _ HEnv.out HRL.out.2.2.1).mono ?_
    rintro e w5 ⟨rfl, hb10⟩
    have hb11 := nx hb9 hb10
    clear hb6 hb7 hb8 hbx hb9 hb10
    obtain ⟨m0, m1, m2, m3, mr, mz, mz'⟩ := HK.out _ hb11
    go_wp2_with fail
    clear m0 m1 m2 m3 mr mz mz'
    refine (cloned_any B l _ w5 (HLv.out _ (nx hbV hb11)).1 (HLv.out _ (nx hbV hb11)).2 hm6 hf6).mono ?_
    rintro e w6 ⟨_, rfl, hb12, g, hs, rfl, hg5, hhl, hrow, hmine⟩
    have hb13 := nx hb11 hb12
    obtain ⟨m0, m1, m2, m3, mr, mz, mz'⟩ := HK.out _ hb13
    obtain ⟨i, hi⟩ : ∃ i, cntA o3 o4 l = i := ⟨_, rfl⟩
    have hile : i ≤ l.length := hi ▸ cntA_le _ _ _
    rw [hi]
    have hway : (∀ (hl : i < l.length), l[i].1 ≠ o4) ∨ ∃ hl : i < l.length, l[i].1 = o4 := by
      by_cases hl : i < l.length
      · by_cases he : l[i].1 = o4
        · exact .inr ⟨hl, he⟩
        · exact .inl fun _ => he
      · exact .inl fun h => absurd h hl
    have HW6 := Lib.hid (show ∀ u, Below w6.heap.size w6 u → LL B l (.slice a1 l.length c1) u ∧ _ from fun u hu => ⟨(HLv.out u (nx hbV (nx hb13 hu))).1, HK.out u (nx hb13 hu)⟩)
    have HRo := Lib.hid hrow
    have HMi := Lib.hid hmine
    have HI := Lib.hid hi
    clear hrow hmine hi m0 m1 m2 m3 mr mz mz'
    rcases hway with hne | ⟨hl, he⟩
    · have HNe := Lib.hid hne
      have hpl := putL_ins (o := (o1, o2, o3, o4, o5)) HI.out hne
      have HPl := Lib.hid hpl
      rcases Nat.lt_or_ge i l.length with hlt | hge
      case' inl =>
        have hn4 := hne hlt
        obtain ⟨hll, m0, m1, m2, m3, mr, mz, mz'⟩ := HW6.out w6 (Below.refl _ _)
        rcases hll.cases with ⟨e, _⟩ | ⟨_, b, off, c, e, hat⟩
        · rw [e] at hlt; cases hlt
        simp only [Value.slice.injEq] at e
        obtain ⟨rfl, _, rfl⟩ := e
        obtain ⟨x, q0, _, _⟩ := atL hat i hlt
        obtain ⟨pp, hpp⟩ : ∃ pp, (l[i]'hlt).1 = pp := ⟨_, rfl⟩
        rw [hpp] at q0 hn4
        have hbb := hat.1
        have hd1 : ((i : Int) == (l.length : Nat)) = false := by simp; omega
        have hd2 : (pp != o4) = true := by simpa using hn4
        have hlt2 : (i : Int) < l.length := by omega
        have hF : ∀ u, Below w6.heap.size w6 u → (u.cell? ⟨w.heap.size, 0, none⟩ = some (.slice (some ⟨b, off, none⟩) l.length c1)) ∧ u.cell? ⟨w.heap.size + 1, 3, none⟩ = some (.int .i64 o4) ∧ u.cell? ⟨b, off + i * 2, none⟩ = some (.int .i64 pp) := fun u hu =>
          ⟨(HW6.out u hu).2.1, (HW6.out u hu).2.2.2.2.1, (hu.cell (p := ⟨b, off + i * 2, none⟩) hbb).trans q0⟩
        clear hll hat hn4 hpp hne hpl q0 m0 m1 m2 m3 mr mz mz'
        go_wp2
        refine Rf.region [0, 1, 2, 3, 4, 5, 6, 7, 8, 9, 10, 11, 12, 13] (by kernel_rfl) (by kernel_rfl) (by kernel_rfl) (fun _ _ d _ _ h => by cases d <;> exact h) ?_
        repeat (first | (refine Rf.Steps.skip (by rfl) (by kernel_rfl) (by rfl) ?_; simp only [Act.put, List.setIfInBounds_toArray, List.set_cons_zero, List.set_cons_succ]) | (refine Rf.Steps.pure (v := ?_) (by rfl) (by kernel_rfl) (by rfl) ?_ ?_; rotate_left; (intro w_ hS_; have hk_ := hF w_ hS_; go_simp <;> with_reducible rfl); simp only [Act.put, List.setIfInBounds_toArray, List.set_cons_zero, List.set_cons_succ]))
        refine Rf.Steps.nil (by kernel_rfl) ?_
        intro w7 hb14
      case' inr =>
        have hd1 : ((i : Int) == (l.length : Nat)) = true := by simp; omega
        have hF : ∀ u, Below w6.heap.size w6 u → (u.cell? ⟨w.heap.size, 0, none⟩ = some (.slice a1 l.length c1)) ∧ u.cell? ⟨w.heap.size + 1, 3, none⟩ = some (.int .i64 o4) := fun u hu =>
          ⟨(HW6.out u hu).2.1, (HW6.out u hu).2.2.2.2.1⟩
        clear hne hpl
        go_wp2
        refine Rf.region [0, 1, 2, 3, 4, 5, 6, 7, 8, 9, 10, 11, 12, 13] (by kernel_rfl) (by kernel_rfl) (by kernel_rfl) (fun _ _ d _ _ h => by cases d <;> exact h) ?_
        repeat (first | (refine Rf.Steps.skip (by rfl) (by kernel_rfl) (by rfl) ?_; simp only [Act.put, List.setIfInBounds_toArray, List.set_cons_zero, List.set_cons_succ]) | (refine Rf.Steps.pure (v := ?_) (by rfl) (by kernel_rfl) (by rfl) ?_ ?_; rotate_left; (intro w_ hS_; have hk_ := hF w_ hS_; go_simp <;> with_reducible rfl); simp only [Act.put, List.setIfInBounds_toArray, List.set_cons_zero, List.set_cons_succ]))
        refine Rf.Steps.nil (by kernel_rfl) ?_
        intro w7 hb14
      all_goals
        clear hF hd1
        obtain ⟨hll, m0, m1, m2, m3, mr, mz, mz'⟩ := HW6.out w7 hb14
        have hbx := below1 w7 (.cells #[.int .i64 o4, .slice none 0 0] 98)
        have hrx := row_one w7 o4
        go_wp2_with fail
        clear m0 m1 m2 m3 mr mz mz' hll
        refine (insert_any g l.length _ w7.heap.size hs (o4, none, 0, 0) _ ((HRo.out.stays hb14).stays hbx) hhl.symm hile hm6 hrx).mono ?_
        rintro e w8 ⟨g2, c2, rfl, hr8, hg8, hb15, HC2⟩
        replace hr8 : RowF g2 c2 (insA i (o4, none, 0, 0) hs) w8 := hr8
        have hb16 := nx hb13 (nx hb14 (nx hbx hb15))
        have hsz8 : w5.heap.size ≤ w8.heap.size := Nat.le_trans hb12.size (Nat.le_trans hb14.size (nx hbx hb15).size)
        have hBo : B.le w5.heap.size := (HLv.out _ (nx hbV hb11)).2
        have hg5 : w5.heap.size ≤ g2 := Nat.le_trans hb12.size (Nat.le_trans hb14.size (Nat.le_trans hbx.size hg8))
        have hM8 := (((HMi.out.stays hb14).stays hbx).stays hb15).ins hile o4
        have hiy : i ≤ hs.length := by rw [hhl]; exact hile
        have hgx : (insA i ((o4, []) : Lv) l)[i]? = some (o4, []) := by rw [insA_get hile, if_neg (Nat.lt_irrefl _), if_pos rfl]
        have hgy : (insA i ((o4, none, 0, 0) : Hw) hs)[i]? = some (o4, none, 0, 0) := by rw [insA_get hiy, if_neg (Nat.lt_irrefl _), if_pos rfl]
        obtain ⟨a', n', c', w9, hrun, hlow, hG9, ⟨ce, fe⟩, hlvs, hrow9⟩ := appAt hBo hsz8 hg5 hr8 hM8 hgx hgy (by simp) (o1, o2, o3, o4, o5)
        simp only [hv] at hrun ce
        rw [insA_set hile] at hlvs
        rw [insA_set hiy] at hlvs hrow9
        have hll9 := rowF_ll hBo hg5 HC2.out hlvs hrow9
        rw [insA_len hiy, hhl] at hll9
        have HLL := Lib.hid hll9
        obtain ⟨e0, e1, _, _⟩ := rowF_at hr8 hgy
        simp only [hv] at e1
        have hg2z := hr8.lt
        have hi1 : (i : Int) < l.length + 1 := by omega
        have hi1' : (i : Int) ≤ l.length := by omega
        have hbF : Below w.heap.size w (w9.setCell ⟨g2, i * 2 + 1, none⟩ (.slice a' n' c')) := by
          have h1 : Below w.heap.size w w8 := nx hbV hb16
          have h2 : Below w.heap.size w w9 := h1.trans (hlow.mono (nx hbV hb11).size)
          exact h2.setCell (Nat.le_trans (nx hbV hb11).size hg5) _
        obtain ⟨hll, m0, m1, m2, m3, mr, mz, mz'⟩ := HW6.out w8 (nx hb14 (nx hbx hb15))
        have HZ : Hid (PostP B l (o1, o2, o3, o4, o5) w (.returned (.tuple #[.slice (some ⟨g2, 0, none⟩) (l.length + 1) c2, .int .i64 0])) (w9.setCell ⟨g2, i * 2 + 1, none⟩ (.slice a' n' c'))) := Lib.hid ⟨_, by rw [HE.out.1], hbF, by rw [HE.out.2, HPl.out]; exact HLL.out⟩
        clear hb14 hb15 hbx hrx hr8 hM8 hlvs hrow9 hlow hll hll9 hgx hgy e0
        go_wp2
        go_region
        clear hrun
        go_wp2
        go_ret2
        exact HZ.out
    · have hpl := putL_set (o := (o1, o2, o3, o4, o5)) HI.out hl he
      have HPl := Lib.hid hpl
      obtain ⟨hll, m0, m1, m2, m3, mr, mz, mz'⟩ := HW6.out w6 (Below.refl _ _)
      rcases hll.cases with ⟨e, _⟩ | ⟨_, b, off, c, e, hat⟩
      · rw [e] at hl; cases hl
      simp only [Value.slice.injEq] at e
      obtain ⟨rfl, _, rfl⟩ := e
      obtain ⟨x, q0, _, _⟩ := atL hat i hl
      have HEq := Lib.hid he
      rw [he] at q0
      have hbb := hat.1
      have hd1 : ((i : Int) == (l.length : Nat)) = false := by simp; omega
      have hlt2 : (i : Int) < l.length := by omega
      have hF : ∀ u, Below w6.heap.size w6 u → (u.cell? ⟨w.heap.size, 0, none⟩ = some (.slice (some ⟨b, off, none⟩) l.length c1)) ∧ u.cell? ⟨w.heap.size + 1, 3, none⟩ = some (.int .i64 o4) ∧ u.cell? ⟨b, off + i * 2, none⟩ = some (.int .i64 o4) := fun u hu =>
        ⟨(HW6.out u hu).2.1, (HW6.out u hu).2.2.2.2.1, (hu.cell (p := ⟨b, off + i * 2, none⟩) hbb).trans q0⟩
      clear hll hat he hpl q0 m0 m1 m2 m3 mr mz mz'
      go_wp2
      refine Rf.region [0, 1, 2, 3, 4, 5, 6, 7, 8, 9, 10, 11, 12, 13] (by kernel_rfl) (by kernel_rfl) (by kernel_rfl) (fun _ _ d _ _ h => by cases d <;> exact h) ?_
      repeat (first | (refine Rf.Steps.skip (by rfl) (by kernel_rfl) (by rfl) ?_; simp only [Act.put, List.setIfInBounds_toArray, List.set_cons_zero, List.set_cons_succ]) | (refine Rf.Steps.pure (v := ?_) (by rfl) (by kernel_rfl) (by rfl) ?_ ?_; rotate_left; (intro w_ hS_; have hk_ := hF w_ hS_; go_simp <;> with_reducible rfl); simp only [Act.put, List.setIfInBounds_toArray, List.set_cons_zero, List.set_cons_succ]))
      refine Rf.Steps.nil (by kernel_rfl) ?_
      intro w7 hb14
      clear hF
      have hb16 := nx hb13 hb14
      have hsz8 : w5.heap.size ≤ w7.heap.size := Nat.le_trans hb12.size hb14.size
      have hBo : B.le w5.heap.size := (HLv.out _ (nx hbV hb11)).2
      have hM8 := HMi.out.stays hb14
      have hr8 := HRo.out.stays hb14
      have hih : i < hs.length := by rw [hhl]; exact hl
      obtain ⟨⟨yp, ya, yn, yc⟩, hy⟩ : ∃ y, hs[i]'hih = y := ⟨_, rfl⟩
      have hgx : l[i]? = some (l[i]'hl) := List.getElem?_eq_getElem hl
      have hgy : hs[i]? = some (yp, ya, yn, yc) := by rw [← hy]; exact List.getElem?_eq_getElem hih
      have hosl : (l[i]'hl).2.length ≤ 1000000 := by
        have h1 := flat_take_le l (i + 1)
        rw [flat_take_snoc hl, List.length_append] at h1; omega
      have hyp := (hM8.own i _ _ hgx hgy).1
      simp only [HEq.out] at hyp
      subst hyp
      obtain ⟨a', n', c', w9, hrun, hlow, hG9, ⟨ce, fe⟩, hlvs, hrow9⟩ := appAt hBo hsz8 hg5 hr8 hM8 hgx hgy hosl (o1, o2, o3, yp, o5)
      simp only [hv] at hrun ce
      have hll9 := rowF_ll hBo hg5 (by unfold maxLen; omega) hlvs hrow9
      rw [List.length_set, hhl, HEq.out] at hll9
      have HLL := Lib.hid hll9
      obtain ⟨e0, e1, _, _⟩ := rowF_at hr8 hgy
      simp only [hv] at e1
      have hg2z := hr8.lt
      have hbF : Below w.heap.size w (w9.setCell ⟨g, i * 2 + 1, none⟩ (.slice a' n' c')) := by
        have h1 : Below w.heap.size w w7 := nx hbV hb16
        have h2 : Below w.heap.size w w9 := h1.trans (hlow.mono (nx hbV hb11).size)
        exact h2.setCell (Nat.le_trans (nx hbV hb11).size hg5) _
      obtain ⟨hll, m0, m1, m2, m3, mr, mz, mz'⟩ := HW6.out w7 hb14
      have HZ : Hid (PostP B l (o1, o2, o3, yp, o5) w (.returned (.tuple #[.slice (some ⟨g, 0, none⟩) l.length l.length, .int .i64 0])) (w9.setCell ⟨g, i * 2 + 1, none⟩ (.slice a' n' c'))) := Lib.hid ⟨_, by rw [HE.out.1], hbF, by rw [HE.out.2, HPl.out]; exact HLL.out⟩
      clear hb14 hr8 hM8 hlvs hrow9 hlow hll hll9 hgx hgy e0 hy
      go_wp2
      go_region
      clear hrun
      go_wp2
      go_ret2
      exact HZ.out
end Go.Proofs.YthecinmekoaphaaGreat.Le
namespace Go.Proofs.YthecinmekoaphaaGreat.Le
open Go.RowKit
open Go.Proofs.YthecinmekoaphaaGreat.Rw
open Go.Proofs.YthecinmekoaphaaGreat.Da
theorem put_any (B : Bs) (l : List Lv) (v : Value) (o1 o2 o3 o4 o5 : Int) (w : World) (h : LL B l v w) (hB : B.le w.heap.size) (hm : l.length ≤ 1000) (hf : (flat l).length ≤ 1000) :
    Calls Tryz.prog 90 #[v, .agg #[.int .i64 o1, .int .i64 o2, .int .i64 o3, .int .i64 o4, .int .i64 o5]] w (PostP B l (o1, o2, o3, o4, o5) w) := put_big B l v o1 o2 o3 o4 o5 w h hB (by omega) (by omega)
theorem right_any (B : Bs) (l : List Lv) (v : Value) (s : Int) (w : World) (h : LL B l v w) (hB : B.le w.heap.size) (hm : l.length ≤ 1000) (hf : (flat l).length ≤ 1000) :
    Calls Tryz.prog 99 #[v, .int .i64 s] w fun e w' => e = .returned (.bool (rightL s l)) ∧ Below w.heap.size w w' := right_big B l v s w h hB (by omega) (by omega)
end Go.Proofs.YthecinmekoaphaaGreat.Le
namespace Go.Proofs.YthecinmekoaphaaGreat.Bk
open Go.RowKit
open Go.Proofs.YthecinmekoaphaaGreat.Rw
open Go.Proofs.YthecinmekoaphaaGreat.Da
open Go.Proofs.YthecinmekoaphaaGreat.Le
theorem bestP_nn {s : Int} {l : List Lv} (h : RightL s l) : 0 ≤ bestP l := by
  cases e : (flat l).head? with
  | none => rw [(best_none e).1]; exact Int.le_refl _
  | some x => obtain ⟨p1, p2, _⟩ := best_some h e; rw [p1]; omega
theorem rightB_code {b : Bk} (n1 : 1 ≤ b.2.2) (n2 : b.2.2 ≤ 1073741824) (hc : cntB b ≤ 40) (h1 : RightL 1 b.1) (h2 : RightL 2 b.2.1) :
    rightB b = (idsB (flat b.1 ++ flat b.2.1) b.2.2 && !(!decide (bestP b.2.1 = 0) && decide (bestP b.2.1 ≤ bestP b.1))) := by
  cases e : idsB (flat b.1 ++ flat b.2.1) b.2.2
  · rw [Bool.false_and]
    refine rightB_no fun h => ?_
    have : idsB (flat b.1 ++ flat b.2.1) b.2.2 = true := by
      unfold idsB
      rw [decide_eq_true_iff, List.map_append]
      refine ⟨List.nodup_append.2 ⟨h1.2.2.2, h2.2.2.2, ?_⟩, fun i hi => ?_⟩
      · rintro i hi j hj rfl
        obtain ⟨o, ho, e1⟩ := List.mem_map.1 hi
        obtain ⟨x, hx, e2⟩ := List.mem_map.1 hj
        exact h.apart o ho x hx (e1.trans e2.symm)
      · rcases List.mem_append.1 hi with hi | hi
        · obtain ⟨o, ho, rfl⟩ := List.mem_map.1 hi; exact h.ltB o ho
        · obtain ⟨o, ho, rfl⟩ := List.mem_map.1 hi; exact h.ltS o ho
    rw [e] at this; cases this
  · unfold idsB at e
    rw [decide_eq_true_iff, List.map_append] at e
    obtain ⟨e1, e2⟩ := e
    have e3 := (List.nodup_append.1 e1).2.2
    rw [rightB_make n1 n2 h1 h2 hc (fun o ho => ⟨fnd_none.2 fun x hx e4 => e3 o.1 (List.mem_map.2 ⟨o, ho, rfl⟩) x.1 (List.mem_map.2 ⟨x, hx, rfl⟩) e4.symm, e2 _ (List.mem_append_left _ (List.mem_map.2 ⟨o, ho, rfl⟩))⟩) (fun o ho => e2 _ (List.mem_append_right _ (List.mem_map.2 ⟨o, ho, rfl⟩)))]
    have k1 := bestP_nn h1
    have k2 := bestP_nn h2
    rw [Bool.eq_iff_iff]
    simp only [Bool.or_eq_true, Bool.and_eq_true, Bool.not_eq_true', Bool.and_eq_false_iff, Bool.not_eq_false', decide_eq_true_eq, decide_eq_false_iff_not, true_and]
    omega
theorem putE_nil {n ow s p q : Int} (h1 : 1 ≤ n) (h2 : n ≤ 1073741824) : putE [] (n, ow, s, p, q) = if argOk ow s p q = true then 0 else 1 := by
  unfold putE
  have e : ((rightL s [] && omay (n, ow, s, p, q) s && (fnd (flat []) n).isNone) = true) ↔ argOk ow s p q = true := by
    rw [Bool.and_eq_true, Bool.and_eq_true, rightL_iff, omay_iff, argOk_iff]
    simp only
    constructor
    · rintro ⟨⟨a, b⟩, _⟩; exact ⟨by omega, by omega, a.1, by omega, by omega, by omega, by omega⟩
    · intro h
      refine ⟨⟨right_nil h.2.2.1, ?_⟩, rfl⟩
      refine ⟨by omega, by omega, by omega, by omega, ?_, by omega, by omega, by omega, by omega⟩
      first | rfl | trivial
  by_cases c : argOk ow s p q = true
  · rw [if_pos c, if_pos (e.2 c)]
  · rw [if_neg c, if_neg (fun x => c (e.1 x))]
set_option maxRecDepth 8000 in
set_option maxHeartbeats 1000000 in
theorem mayCome_any (n ow s p q : Int) (h1 : 1 ≤ n) (h2 : n ≤ 1073741824) (w : World) :
    Calls Tryz.prog 86 #[.agg #[.int .i64 n, .int .i64 ow, .int .i64 s, .int .i64 p, .int .i64 q]] w fun e w' => e = .returned (.bool (argOk ow s p q)) ∧ Below w.heap.size w w' := by
  have hpe := putE_nil (ow := ow) (s := s) (p := p) (q := q) h1 h2
  obtain ⟨E, hE⟩ : ∃ E, putE [] (n, ow, s, p, q) = E := ⟨_, rfl⟩
  have hr : argOk ow s p q = (E == 0) := by
    rw [← hE, hpe]; cases argOk ow s p q <;> rfl
  rw [hr]
  have HE := Lib.hid hE
  obtain ⟨V, hV⟩ : ∃ V, V = w.alloc (.cells #[.int .i64 n, .int .i64 ow, .int .i64 s, .int .i64 p, .int .i64 q] 70) := ⟨_, rfl⟩
  have hbV : Below w.heap.size w V := hV ▸ below1 w _
  have HV := Lib.hid hV
  clear hpe hE hr hV h1 h2
  go_enter Tryz.func86, Tryz.ntmps86
  go_wp2_with fail
  rw [← HV.out]
  refine (put_any (Bs.of V.heap.size) [] _ n ow s p q V (Is.nil _ _ _ _) (Bs.of_le _) (by decide) (by decide)).mono ?_
  rintro e w1 ⟨t, rfl, hb1, hl1⟩
  obtain ⟨a1, c1, rfl⟩ := hl1.len
  obtain ⟨k, hk⟩ : ∃ k, (put [] (n, ow, s, p, q)).length = k := ⟨_, rfl⟩
  rw [hk]
  rw [show (putE [] (n, ow, s, p, q)) = E from HE.out]
  clear hl1 hk
  go_wp2
  go_ret
  exact ⟨rfl, nx hbV hb1⟩
set_option maxRecDepth 8000 in
set_option maxHeartbeats 4000000 in
theorem right_anyB (B : Bs) (b : Bk) (v : Value) (w : World) (h : BL B b v w) (hB : B.le w.heap.size) (h1 : b.1.length ≤ 1000) (h2 : (flat b.1).length ≤ 1000) (h3 : b.2.1.length ≤ 1000) (h4 : (flat b.2.1).length ≤ 1000) :
    Calls Tryz.prog 59 #[v] w fun e w' => e = .returned (.bool (rightB b)) ∧ Below w.heap.size w w' := by
  obtain ⟨x, y, rfl, hx, hy⟩ := h
  obtain ⟨n, hn⟩ : ∃ n, b.2.2 = n := ⟨_, rfl⟩
  rw [hn]
  obtain ⟨V, hV⟩ : ∃ V, V = w.alloc (.cells #[x, y, .int .i64 n] 25) := ⟨_, rfl⟩
  have hcf : CF B b x y w.heap.size w V := hV ▸ CF.made hB hx hy hn
  have hbV : Below w.heap.size w V := hcf.bel
  have HC := Lib.hid (hcf.facts hn)
  have hBu : ∀ u, Below V.heap.size V u → B.le u.heap.size := fun u hu => hB.mono (nx hbV hu).size
  obtain ⟨R, hR⟩ : ∃ R, rightB b = R := ⟨_, rfl⟩
  rw [hR]
  obtain ⟨k, hk⟩ : ∃ k, cntB b = k := ⟨_, rfl⟩
  obtain ⟨r1, hr1⟩ : ∃ r, rightL 1 b.1 = r := ⟨_, rfl⟩
  obtain ⟨r2, hr2⟩ : ∃ r, rightL 2 b.2.1 = r := ⟨_, rfl⟩
  obtain ⟨r3, hr3⟩ : ∃ r, idsB (flat b.1 ++ flat b.2.1) n = r := ⟨_, rfl⟩
  obtain ⟨r4, hr4⟩ : ∃ r, (!decide (bestP b.2.1 = 0) && decide (bestP b.2.1 ≤ bestP b.1)) = r := ⟨_, rfl⟩
  have hbl : ∀ u, Below V.heap.size V u → BL B b (.agg #[x, y, .int .i64 n]) u := fun u hu => by rw [← hn]; exact (hcf.stays hu).bl
  have HK := Lib.hid (show ∀ u, Below V.heap.size V u → Calls Tryz.prog 89 #[.agg #[x, y, .int .i64 n]] u fun e w' => e = .returned (.int .i64 (k : Nat)) ∧ Below u.heap.size u w' from fun u hu => by
    rw [← hk]; exact cnt_any B b _ u (hbl u hu) (hBu u hu) (by omega) (by omega) (by omega) (by omega))
  have HR1 := Lib.hid (show ∀ u, Below V.heap.size V u → Calls Tryz.prog 99 #[x, .int .i64 1] u fun e w' => e = .returned (.bool r1) ∧ Below u.heap.size u w' from fun u hu => by
    rw [← hr1]; exact right_any B b.1 _ 1 u (hcf.stays hu).l1 (hBu u hu) h1 h2)
  have HR2 := Lib.hid (show ∀ u, Below V.heap.size V u → Calls Tryz.prog 99 #[y, .int .i64 2] u fun e w' => e = .returned (.bool r2) ∧ Below u.heap.size u w' from fun u hu => by
    rw [← hr2]; exact right_any B b.2.1 _ 2 u (hcf.stays hu).l2 (hBu u hu) h3 h4)
  have HR3 := Lib.hid (show ∀ u, Below V.heap.size V u → Calls Tryz.prog 100 #[.agg #[x, y, .int .i64 n]] u fun e w' => e = .returned (.bool r3) ∧ Below u.heap.size u w' from fun u hu => by
    rw [← hr3, ← hn]; exact ids_any B b _ u (by rw [hn]; exact hbl u hu) (hBu u hu) (by omega) (by omega) (by omega) (by omega) (by rw [List.length_append]; omega))
  have HR4 := Lib.hid (show ∀ u, Below V.heap.size V u → Calls Tryz.prog 101 #[.agg #[x, y, .int .i64 n]] u fun e w' => e = .returned (.bool r4) ∧ Below u.heap.size u w' from fun u hu => by
    rw [← hr4]; exact crossed_any B b _ u (hbl u hu) (hBu u hu) (by omega) (by omega) (by omega) (by omega))
  have HV := Lib.hid hV
  have HRR := Lib.hid hR
  have HN := Lib.hid hn
  have Hr1 := Lib.hid hr1
  have Hr2 := Lib.hid hr2
  have Hr3 := Lib.hid hr3
  have Hr4 := Lib.hid hr4
  have Hk := Lib.hid hk
  have HRc : Hid (1 ≤ n → n ≤ 1073741824 → k ≤ 40 → r1 = true → r2 = true → R = (r3 && !r4)) := Lib.hid fun a1 a2 a3 a4 a5 => by
    rw [← hR, ← hr3, ← hr4, ← hn]
    exact rightB_code (by rw [hn]; exact a1) (by rw [hn]; exact a2) (by rw [hk]; exact a3) (rightL_iff.1 (hr1.trans a4)) (rightL_iff.1 (hr2.trans a5))
  have hkz : k ≤ 1000000 := by rw [← hk]; unfold cntB; omega
  obtain ⟨a1, c1, rfl⟩ := hx.len
  obtain ⟨a2, c2, rfl⟩ := hy.len
  clear hx hy hV hn hr1 hr2 hr3 hr4 hR hk hbl hBu hcf
  obtain ⟨m0, m1, m2, mz, mr⟩ := HC.out V (Below.refl _ _)
  by_cases dA : n < 1
  · have hA : ¬ 1 ≤ n := by omega
    have HZ : Hid (R = false) := Lib.hid (by rw [← HRR.out]; exact rightB_no fun h => by have := h.n1; rw [HN.out] at this; omega)
    go_enter Tryz.func59, Tryz.ntmps59
    go_wp2
    go_ret
    exact ⟨ret_bool HZ.out.symm, below1 w _⟩
  have hA : 1 ≤ n := by omega
  by_cases dB : 1073741824 < n
  · have hB2 : ¬ n ≤ 1073741824 := by omega
    have HZ : Hid (R = false) := Lib.hid (by rw [← HRR.out]; exact rightB_no fun h => by have := h.n2; rw [HN.out] at this; omega)
    go_enter Tryz.func59, Tryz.ntmps59
    go_wp2
    go_ret
    exact ⟨ret_bool HZ.out.symm, below1 w _⟩
  have hB2 : n ≤ 1073741824 := by omega
  by_cases dC : 40 < k
  · have hC2 : ¬ (k : Int) ≤ 40 := by omega
    have HZ : Hid (R = false) := Lib.hid (by rw [← HRR.out]; exact rightB_no fun h => by have := h.cnt; rw [Hk.out] at this; omega)
    go_enter Tryz.func59, Tryz.ntmps59
    go_wp2_with fail
    rw [← HV.out]
    refine (HK.out _ (Below.refl _ _)).mono ?_
    rintro e w1 ⟨rfl, hc1⟩
    have hb1 := hc1
    clear m0 m1 m2 mz mr
    obtain ⟨m0, m1, m2, mz, mr⟩ := HC.out w1 hb1
    clear m0 m1 m2 mr
    go_wp2
    go_ret
    exact ⟨ret_bool HZ.out.symm, nx hbV hb1⟩
  have hC2 : (k : Int) ≤ 40 := by omega
  have hC3 : k ≤ 40 := by omega
  cases r1
  · have HZ : Hid (R = false) := Lib.hid (by rw [← HRR.out]; exact rightB_no fun h => by have := Hr1.out; rw [rightL_iff.2 h.buys] at this; cases this)
    go_enter Tryz.func59, Tryz.ntmps59
    go_wp2_with fail
    rw [← HV.out]
    refine (HK.out _ (Below.refl _ _)).mono ?_
    rintro e w1 ⟨rfl, hc1⟩
    have hb1 := hc1
    clear m0 m1 m2 mz mr
    obtain ⟨m0, m1, m2, mz, mr⟩ := HC.out w1 hb1
    go_wp2_with fail
    refine (HR1.out _ hb1).mono ?_
    rintro e w2 ⟨rfl, hc2⟩
    have hb2 := nx hb1 hc2
    clear m0 m1 m2 mz mr
    obtain ⟨m0, m1, m2, mz, mr⟩ := HC.out w2 hb2
    clear m0 m1 m2 mr
    go_wp2
    go_ret
    exact ⟨ret_bool HZ.out.symm, nx hbV hb2⟩
  cases r2
  · have HZ : Hid (R = false) := Lib.hid (by rw [← HRR.out]; exact rightB_no fun h => by have := Hr2.out; rw [rightL_iff.2 h.sells] at this; cases this)
    go_enter Tryz.func59, Tryz.ntmps59
    go_wp2_with fail
    rw [← HV.out]
    refine (HK.out _ (Below.refl _ _)).mono ?_
    rintro e w1 ⟨rfl, hc1⟩
    have hb1 := hc1
    clear m0 m1 m2 mz mr
    obtain ⟨m0, m1, m2, mz, mr⟩ := HC.out w1 hb1
    go_wp2_with fail
    refine (HR1.out _ hb1).mono ?_
    rintro e w2 ⟨rfl, hc2⟩
    have hb2 := nx hb1 hc2
    clear m0 m1 m2 mz mr
    obtain ⟨m0, m1, m2, mz, mr⟩ := HC.out w2 hb2
    go_wp2_with fail
    refine (HR2.out _ hb2).mono ?_
    rintro e w3 ⟨rfl, hc3⟩
    have hb3 := nx hb2 hc3
    clear m0 m1 m2 mz mr
    obtain ⟨m0, m1, m2, mz, mr⟩ := HC.out w3 hb3
    clear m0 m1 m2 mr
    go_wp2
    go_ret
    exact ⟨ret_bool HZ.out.symm, nx hbV hb3⟩
  have HZ := Lib.hid (HRc.out hA hB2 hC3 rfl rfl)
  cases r3
  · have HZ2 : Hid (R = false) := Lib.hid HZ.out
    go_enter Tryz.func59, Tryz.ntmps59
    go_wp2_with fail
    rw [← HV.out]
    refine (HK.out _ (Below.refl _ _)).mono ?_
    rintro e w1 ⟨rfl, hc1⟩
    have hb1 := hc1
    clear m0 m1 m2 mz mr
    obtain ⟨m0, m1, m2, mz, mr⟩ := HC.out w1 hb1
    go_wp2_with fail
    refine (HR1.out _ hb1).mono ?_
    rintro e w2 ⟨rfl, hc2⟩
    have hb2 := nx hb1 hc2
    clear m0 m1 m2 mz mr
    obtain ⟨m0, m1, m2, mz, mr⟩ := HC.out w2 hb2
    go_wp2_with fail
    refine (HR2.out _ hb2).mono ?_
    rintro e w3 ⟨rfl, hc3⟩
    have hb3 := nx hb2 hc3
    clear m0 m1 m2 mz mr
    obtain ⟨m0, m1, m2, mz, mr⟩ := HC.out w3 hb3
    go_wp2_with fail
    refine (HR3.out _ hb3).mono ?_
    rintro e w4 ⟨rfl, hc4⟩
    have hb4 := nx hb3 hc4
    clear m0 m1 m2 mz mr
    obtain ⟨m0, m1, m2, mz, mr⟩ := HC.out w4 hb4
    clear m0 m1 m2 mr
    go_wp2
    go_ret
    exact ⟨ret_bool HZ2.out.symm, nx hbV hb4⟩
  · cases r4
    · have HZ2 : Hid (R = true) := Lib.hid HZ.out
      go_enter Tryz.func59, Tryz.ntmps59
      go_wp2_with fail
      rw [← HV.out]
      refine (HK.out _ (Below.refl _ _)).mono ?_
      rintro e w1 ⟨rfl, hc1⟩
      have hb1 := hc1
      clear m0 m1 m2 mz mr
      obtain ⟨m0, m1, m2, mz, mr⟩ := HC.out w1 hb1
      go_wp2_with fail
      refine (HR1.out _ hb1).mono ?_
      rintro e w2 ⟨rfl, hc2⟩
      have hb2 := nx hb1 hc2
      clear m0 m1 m2 mz mr
      obtain ⟨m0, m1, m2, mz, mr⟩ := HC.out w2 hb2
      go_wp2_with fail
      refine (HR2.out _ hb2).mono ?_
      rintro e w3 ⟨rfl, hc3⟩
      have hb3 := nx hb2 hc3
      clear m0 m1 m2 mz mr
      obtain ⟨m0, m1, m2, mz, mr⟩ := HC.out w3 hb3
      go_wp2_with fail
      refine (HR3.out _ hb3).mono ?_
      rintro e w4 ⟨rfl, hc4⟩
      have hb4 := nx hb3 hc4
      clear m0 m1 m2 mz mr
      obtain ⟨m0, m1, m2, mz, mr⟩ := HC.out w4 hb4
      go_wp2_with fail
      refine (HR4.out _ hb4).mono ?_
      rintro e w5 ⟨rfl, hc5⟩
      have hb5 := nx hb4 hc5
      clear m0 m1 m2 mz mr
      obtain ⟨m0, m1, m2, mz, mr⟩ := HC.out w5 hb5
      clear m0 m1 m2 mr
      go_wp2
      go_ret
      exact ⟨ret_bool HZ2.out.symm, nx hbV hb5⟩
    · have HZ2 : Hid (R = false) := Lib.hid HZ.out
      go_enter Tryz.func59, Tryz.ntmps59
      go_wp2_with fail
      rw [← HV.out]
      refine (HK.out _ (Below.refl _ _)).mono ?_
      rintro e w1 ⟨rfl, hc1⟩
      have hb1 := hc1
      clear m0 m1 m2 mz mr
      obtain ⟨m0, m1, m2, mz, mr⟩ := HC.out w1 hb1
      go_wp2_with fail
      refine (HR1.out _ hb1).mono ?_
      rintro e w2 ⟨rfl, hc2⟩
      have hb2 := nx hb1 hc2
      clear m0 m1 m2 mz mr
      obtain ⟨m0, m1, m2, mz, mr⟩ := HC.out w2 hb2
      go_wp2_with fail
      refine (HR2.out _ hb2).mono ?_
      rintro e w3 ⟨rfl, hc3⟩
      have hb3 := nx hb2 hc3
      clear m0 m1 m2 mz mr
      obtain ⟨m0, m1, m2, mz, mr⟩ := HC.out w3 hb3
      go_wp2_with fail
      refine (HR3.out _ hb3).mono ?_
      rintro e w4 ⟨rfl, hc4⟩
      have hb4 := nx hb3 hc4
      clear m0 m1 m2 mz mr
      obtain ⟨m0, m1, m2, mz, mr⟩ := HC.out w4 hb4
      go_wp2_with fail
      refine (HR4.out _ hb4).mono ?_
      rintro e w5 ⟨rfl, hc5⟩
      have hb5 := nx hb4 hc5
      clear m0 m1 m2 mz mr
      obtain ⟨m0, m1, m2, mz, mr⟩ := HC.out w5 hb5
      clear m0 m1 m2 mr
      go_wp2
      go_ret
      exact ⟨ret_bool HZ2.out.symm, nx hbV hb5⟩
end Go.Proofs.YthecinmekoaphaaGreat.Bk
