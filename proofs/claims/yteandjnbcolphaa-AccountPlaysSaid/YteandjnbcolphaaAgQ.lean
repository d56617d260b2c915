/- change, Give, Take of the landed package account. -/
import Derived.Test.YteandjnbcolphaaAgP
import Derived.Test.YteandjnbcolphaaAcH
import Derived.Shelf.Abstract
namespace Go.Proofs.Yteandjnbcolphaa.Ac
open Go.RowKit Go.Maps
open Go.Proofs.Yteandjnbcolphaa.Rw
open Go.Proofs.Yteandjnbcolphaa.Sl
open Go.Proofs.Yteandjnbcolphaa.Mo (may may_iff addS addE subS subE add_any sub_any)
theorem wfMay {a : Int} (h : may a = true) : (Lit.int .i64 a).wf = true := Go.WalkArith.wf_i64 (by have := may_iff.1 h; omega)
def chE (E : Int → Int → Int) (l : List Hd) (p : Pu) (n : Int) : Int := if right l && pmay p && may n then E (get l p) n else 1
def chL (S E : Int → Int → Int) (l : List Hd) (p : Pu) (n : Int) : List Hd := if chE E l p n = 0 then set l p (S (get l p) n) else l
set_option maxHeartbeats 2000000 in
theorem change_any (S E : Int → Int → Int) (f : Nat) (eg : ∀ args w, (callFunc f args).run Try.prog w = .ok (.enter f args) w)
    (hop : ∀ a n w, (Lit.int .i64 a).wf = true → (Lit.int .i64 n).wf = true → Calls Try.prog f #[.int .i64 a, .int .i64 n] w fun e w' => e = .returned (.tuple #[.int .i64 (S a n), .int .i64 (E a n)]) ∧ Below w.heap.size w w')
    (hS : ∀ a n, may a = true → may n = true → E a n = 0 → may (S a n) = true)
    (l : List Hd) (v : Value) (p q n : Int) (w : World) (h : HL l v w) (hm : l.length ≤ 1000000) :
    Calls Try.prog 20 #[v, .agg #[.int .i64 p, .int .i64 q], .int .i64 n, .func (.func f) #[] #[]] w (Post2 (HL (chL S E l (p, q) n)) (chE E l (p, q) n) w) := by
  have HM := Lib.hid hm
  have HM' := Lib.hid hm
  have HH := Lib.hid h
  have HP0 := Lib.hid hop
  have HS := Lib.hid hS
  clear hm h hop hS
  obtain ⟨W, hW⟩ : ∃ W, W = w.alloc (.cells #[.int .i64 p, .int .i64 q] 24) := ⟨_, rfl⟩
  have k0 : W.cell? ⟨w.heap.size, 0, none⟩ = some (.int .i64 p) := by rw [hW]; simp [go_sem]
  have k1 : W.cell? ⟨w.heap.size, 1, none⟩ = some (.int .i64 q) := by rw [hW]; simp [go_sem]
  have hbW : Below w.heap.size w W := hW ▸ below1 w _
  have hz0 : w.heap.size < W.heap.size := by rw [hW]; simp
  have HW := Lib.hid hW
  have HF : Hid (∀ u, Below W.heap.size W u → u.cell? ⟨w.heap.size, 0, none⟩ = some (.int .i64 p) ∧ u.cell? ⟨w.heap.size, 1, none⟩ = some (.int .i64 q) ∧ w.heap.size < u.heap.size) := Lib.hid fun u hu =>
    ⟨by rw [hu.cell (p := ⟨w.heap.size, 0, none⟩) hz0]; exact k0, by rw [hu.cell (p := ⟨w.heap.size, 1, none⟩) hz0]; exact k1, Nat.lt_of_lt_of_le hz0 hu.size⟩
  have HH1 := Lib.hid (SL.stays enc 3 l v w _ HH.out hbW)
  clear hW k0 k1 hz0
  cases hr : right l
  · have HR := Lib.hid hr
    have hE : chE E l (p, q) n = 1 := by unfold chE; rw [hr]; rfl
    have HL0 : Hid (chL S E l (p, q) n = l) := Lib.hid (by unfold chL; rw [hE, if_neg (by decide)])
    have HE := Lib.hid hE
    clear hE hr
    rw [HE.out, HL0.out]
    go_enter Try.func20, Try.ntmps20
    go_wp2_with fail
    rw [← HW.out]
    refine (right_is HR _ HH1.out HM'.out).mono ?_
    rintro e w1 ⟨rfl, hb1⟩
    have HV := Lib.hid (SL.stays enc 3 l v _ _ HH1.out hb1)
    go_wp2
    go_ret2
    exact ⟨_, rfl, nx hbW hb1, HV.out⟩
  · have HR := Lib.hid hr
    cases hp : pmay (p, q)
    · have HP := Lib.hid hp
      have hE : chE E l (p, q) n = 1 := by unfold chE; rw [hr, hp]; rfl
      have HL0 : Hid (chL S E l (p, q) n = l) := Lib.hid (by unfold chL; rw [hE, if_neg (by decide)])
      have HE := Lib.hid hE
      clear hE hr hp
      rw [HE.out, HL0.out]
      go_enter Try.func20, Try.ntmps20
      go_wp2_with fail
      rw [← HW.out]
      refine (right_is HR _ HH1.out HM'.out).mono ?_
      rintro e w1 ⟨rfl, hb1⟩
      obtain ⟨l0, l1, hz1⟩ := HF.out _ hb1
      go_wp2_with fail
      refine (purse_is HP _).mono ?_
      rintro e w2 ⟨rfl, hb2⟩
      have HV := Lib.hid (SL.stays enc 3 l v _ _ HH1.out (nx hb1 hb2))
      go_wp2
      go_ret2
      exact ⟨_, rfl, nx hbW (nx hb1 hb2), HV.out⟩
    · have HP := Lib.hid hp
      cases hn : may n
      · have HN := Lib.hid hn
        have hE : chE E l (p, q) n = 1 := by unfold chE; rw [hr, hp, hn]; rfl
        have HL0 : Hid (chL S E l (p, q) n = l) := Lib.hid (by unfold chL; rw [hE, if_neg (by decide)])
        have HE := Lib.hid hE
        clear hE hr hp hn
        rw [HE.out, HL0.out]
        go_enter Try.func20, Try.ntmps20
        go_wp2_with fail
        rw [← HW.out]
        refine (right_is HR _ HH1.out HM'.out).mono ?_
        rintro e w1 ⟨rfl, hb1⟩
        obtain ⟨l0, l1, hz1⟩ := HF.out _ hb1
        go_wp2_with fail
        refine (purse_is HP _).mono ?_
        rintro e w2 ⟨rfl, hb2⟩
        go_wp2_with fail
        refine (may_is HN _).mono ?_
        rintro e w' ⟨rfl, rfl⟩
        have HV := Lib.hid (SL.stays enc 3 l v _ _ HH1.out (nx hb1 hb2))
        go_wp2
        go_ret2
        exact ⟨_, rfl, nx hbW (nx hb1 hb2), HV.out⟩
      · have HN := Lib.hid hn
        have hR := right_iff.1 hr
        have gp := get_pos (p := (p, q)) hR
        have hmg : may (get l (p, q)) = true := may_iff.2 ⟨gp.1, gp.2.1⟩
        have hE : chE E l (p, q) n = E (get l (p, q)) n := by unfold chE; rw [hr, hp, hn]; rfl
        have HE := Lib.hid hE
        obtain ⟨a, ha⟩ : ∃ a, get l (p, q) = a := ⟨_, rfl⟩
        have HAg := Lib.hid ha
        obtain ⟨s, hs⟩ : ∃ s, S a n = s := ⟨_, rfl⟩
        obtain ⟨x, hx⟩ : ∃ x, E a n = x := ⟨_, rfl⟩
        have HC : Hid (∀ w, Calls Try.prog f #[.int .i64 a, .int .i64 n] w fun e w' => e = .returned (.tuple #[.int .i64 s, .int .i64 x]) ∧ Below w.heap.size w w') := Lib.hid fun w => by
          rw [← hs, ← hx]; exact HP0.out a n w (wfMay (ha ▸ hmg)) (wfMay hn)
        have HRt := Lib.hid hR
        rw [ha] at hE hmg
        rw [hx] at hE
        have hld : chL S E l (p, q) n = if x = 0 then set l (p, q) s else l := by unfold chL; rw [hE, ha, hs]
        have HLd := Lib.hid hld
        clear hld
        have hmn := hn
        have HSm : Hid (x = 0 → may s = true) := Lib.hid fun e => by rw [← hs]; exact HS.out a n hmg hmn (hx.trans e)
        rw [hE]
        clear hE hr hp hn hmn hR gp hmg ha hs hx
        go_enter Try.func20, Try.ntmps20
        go_wp2_with fail
        rw [← HW.out]
        refine (right_is HR _ HH1.out HM'.out).mono ?_
        rintro e w1 ⟨rfl, hb1⟩
        obtain ⟨l0, l1, hz1⟩ := HF.out _ hb1
        go_wp2_with fail
        refine (purse_is HP _).mono ?_
        rintro e w2 ⟨rfl, hb2⟩
        go_wp2_with fail
        refine (may_is HN _).mono ?_
        rintro e w' ⟨rfl, rfl⟩
        clear l0 l1 hz1
        have hb2 := nx hb1 hb2
        have HH2 := Lib.hid (SL.stays enc 3 l v _ _ HH1.out hb2)
        have HB := Lib.hid (byPurse_any l v _ HH2.out HRt.out HM'.out)
        clear hb1
        go_wp2_with fail
        refine HB.out.mono ?_
        rintro e w3 ⟨b, nn, D, rfl, hnn, hM, hbb, hb3⟩
        have hszb : W.heap.size ≤ w2.heap.size := hb2.size
        have hb3 := nx hb2 hb3
        obtain ⟨l0, l1, hz1⟩ := HF.out _ hb3
        have hlk := MQ.look hM HP.out
        rw [HAg.out] at hlk
        have HMq := Lib.hid hM
        have HNn := Lib.hid hnn
        clear hM hnn hb2
        go_wp2_with fail
        refine (HC.out _).mono ?_
        rintro e w4 ⟨rfl, hb4⟩
        clear hlk l0 l1 hz1
        have hbx := nx hb3 hb4
        by_cases he : x = 0
        · have HZ := Lib.hid he
          have hd : (x != 0) = false := by simpa using he
          clear he
          obtain ⟨l0, l1, hz1⟩ := HF.out _ hbx
          have hms := HSm.out HZ.out
          obtain ⟨D2, w5, hput, hM5, hgr⟩ := MQ.put (HMq.out.stays hb4) (g := fun u => if u = (p, q) then s else get l u) (by have := right_512 HRt.out; have := HNn.out; unfold maxLen; omega) HP.out (c := s) (wfMay hms) (if_pos rfl) (fun u hu => if_neg hu)
          have hb5 : Below W.heap.size W w5 := hbx.grown hgr hbx.size (fun j hj => by cases hj; exact Nat.le_trans hszb hbb)
          have hh := holdings_any b (nn + 1) D2 (fun u => if u = (p, q) then s else get l u) w5 hM5 (by have := right_512 HRt.out; have := HNn.out; omega) (fun u hu => by
            by_cases e : u = (p, q)
            · rw [if_pos e]; exact may_iff.1 hms
            · rw [if_neg e]; have g := get_pos (p := u) HRt.out; exact ⟨g.1, g.2.1⟩)
          have HHd := Lib.hid hh
          clear hh hM5 hgr
          go_wp2_with fail
          refine HHd.out.mono ?_
          rintro e w6 ⟨v6, L, rfl, hv6, hR6, hg6, hb6⟩
          have hbb6 := nx hb5 hb6
          have eL : L = set l (p, q) s := set_unique HRt.out HP.out (may_iff.1 hms).1 (may_iff.1 hms).2 hR6 fun u => by
            rw [hg6 u]
            by_cases e : u = (p, q)
            · subst e; rw [if_pos HP.out]
            · by_cases e2 : pmay u = true
              · rw [if_pos e2]
              · rw [if_neg e2, if_neg e]
                have g := get_pos (p := u) HRt.out
                rcases Int.lt_or_eq_of_le g.1 with h1 | h1
                · exact absurd (g.2.2 (by omega)) e2
                · exact h1
          have HV : Hid (HL (chL S E l (p, q) n) v6 w6) := Lib.hid (by rw [HLd.out, if_pos HZ.out, ← eL]; exact hv6)
          clear hv6 hR6 hg6 eL hms
          go_wp2
          go_ret2
          exact ⟨v6, by rw [HZ.out]; rfl, nx hbW hbb6, HV.out⟩
        · have HZ := Lib.hid he
          have hd : (x != 0) = true := by simpa using he
          clear he
          have HV : Hid (HL (chL S E l (p, q) n) v w4) := Lib.hid (by rw [HLd.out, if_neg HZ.out]; exact SL.stays enc 3 l v _ _ HH1.out hbx)
          go_wp2
          go_ret2
          exact ⟨_, rfl, nx hbW hbx, HV.out⟩
theorem add_may (a n : Int) (ha : may a = true) (hn : may n = true) (h : addE a n = 0) : may (addS a n) = true := by
  have h1 := may_iff.1 ha
  have h2 := may_iff.1 hn
  unfold addE addS Mo.add2 at *
  rw [if_pos ⟨ha, hn⟩] at h ⊢
  split at h
  · cases h
  · rename_i hc
    rw [if_neg hc]
    exact may_iff.2 (by simp only; omega)
theorem sub_may (a n : Int) (ha : may a = true) (hn : may n = true) (h : subE a n = 0) : may (subS a n) = true := by
  have h1 := may_iff.1 ha
  have h2 := may_iff.1 hn
  unfold subE subS Mo.sub2 at *
  rw [if_pos ⟨ha, hn⟩] at h ⊢
  split at h
  · cases h
  · rename_i hc
    rw [if_neg hc]
    exact may_iff.2 (by simp only; omega)
set_option maxHeartbeats 400000 in
theorem give_any (l : List Hd) (v : Value) (p q n : Int) (w : World) (h : HL l v w) (hm : l.length ≤ 1000000) :
    Calls Try.prog 7 #[v, .agg #[.int .i64 p, .int .i64 q], .int .i64 n] w (Post2 (HL (giveL l (p, q) n)) (giveE l (p, q) n) w) := by
  have HH := Lib.hid (SL.stays enc 3 l v w _ h (below1 w (.cells #[.int .i64 p, .int .i64 q] 24)))
  have HM := Lib.hid hm
  clear h hm
  obtain ⟨x, hE⟩ : ∃ x, giveE l (p, q) n = x := ⟨_, rfl⟩
  have HC : ∀ w, HL l v w → Calls Try.prog 20 #[v, .agg #[.int .i64 p, .int .i64 q], .int .i64 n, .func (.func 21) #[] #[]] w (Post2 (HL (giveL l (p, q) n)) x w) := fun w h => by
    rw [← hE]; exact change_any addS addE _ (enters_of Try.func21 (by kernel_rfl) rfl) (fun a n w ha hn => add_any a n ha hn w) add_may l v p q n w h HM.out
  have HC1 := Lib.hid HC
  rw [hE]
  clear hE HC
  go_enter Try.func7, Try.ntmps7
  go_wp2_with fail
  refine (HC1.out _ HH.out).mono ?_
  rintro e w1 ⟨v1, rfl, hb1, hv1⟩
  have HV := Lib.hid hv1
  clear hv1
  go_wp2
  go_ret2
  exact ⟨_, rfl, nx (below1 _ _) hb1, HV.out⟩
set_option maxHeartbeats 400000 in
theorem take_any (l : List Hd) (v : Value) (p q n : Int) (w : World) (h : HL l v w) (hm : l.length ≤ 1000000) :
    Calls Try.prog 9 #[v, .agg #[.int .i64 p, .int .i64 q], .int .i64 n] w (Post2 (HL (takeL l (p, q) n)) (takeE l (p, q) n) w) := by
  have HH := Lib.hid (SL.stays enc 3 l v w _ h (below1 w (.cells #[.int .i64 p, .int .i64 q] 24)))
  have HM := Lib.hid hm
  clear h hm
  obtain ⟨x, hE⟩ : ∃ x, takeE l (p, q) n = x := ⟨_, rfl⟩
  have HC : ∀ w, HL l v w → Calls Try.prog 20 #[v, .agg #[.int .i64 p, .int .i64 q], .int .i64 n, .func (.func 27) #[] #[]] w (Post2 (HL (takeL l (p, q) n)) x w) := fun w h => by
    rw [← hE]; exact change_any subS subE _ (enters_of Try.func27 (by kernel_rfl) rfl) (fun a n w ha hn => sub_any a n ha hn w) sub_may l v p q n w h HM.out
  have HC1 := Lib.hid HC
  rw [hE]
  clear hE HC
  go_enter Try.func9, Try.ntmps9
  go_wp2_with fail
  refine (HC1.out _ HH.out).mono ?_
  rintro e w1 ⟨v1, rfl, hb1, hv1⟩
  have HV := Lib.hid hv1
  clear hv1
  go_wp2
  go_ret2
  exact ⟨_, rfl, nx (below1 _ _) hb1, HV.out⟩
end Go.Proofs.Yteandjnbcolphaa.Ac
