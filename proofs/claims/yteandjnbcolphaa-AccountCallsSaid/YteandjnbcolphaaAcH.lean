/- The document's own: Give, Take. -/
import Derived.Test.YteandjnbcolphaaAcG
namespace Go.Proofs.Yteandjnbcolphaa.Ac
open Go.RowKit
set_option linter.unusedVariables false
open Go.Proofs.Yteandjnbcolphaa.Rw
open Go.Proofs.Yteandjnbcolphaa.Sl
open Go.Proofs.Yteandjnbcolphaa.Mo (may addS addE subS subE rAdd_any rSub_any)
def Post2 (F : Value → World → Prop) (x : Int) (w : World) (e : Ending) (w' : World) : Prop := ∃ v, e = .returned (.tuple #[v, .int .i64 x]) ∧ Below w.heap.size w w' ∧ F v w'
def giveE (l : List Hd) (p : Pu) (n : Int) : Int := if right l && pmay p && may n then addE (get l p) n else 1
def giveL (l : List Hd) (p : Pu) (n : Int) : List Hd := if giveE l p n = 0 then set l p (addS (get l p) n) else l
set_option maxHeartbeats 1600000 in
theorem rGive_any (l : List Hd) (v : Value) (p q n : Int) (w : World) (h : HL l v w) (hm : l.length ≤ 1000000) :
    Calls Try.prog 8 #[v, .agg #[.int .i64 p, .int .i64 q], .int .i64 n] w (Post2 (HL (giveL l (p, q) n)) (giveE l (p, q) n) w) := by
  have hm' : l.length ≤ maxLen := by unfold maxLen; omega
  have HM := Lib.hid hm
  have HM' := Lib.hid hm'
  have HH := Lib.hid h
  clear hm hm' h
  cases hr : right l
  · have HR := Lib.hid hr
    have hE : giveE l (p, q) n = 1 := by unfold giveE; rw [hr]; rfl
    have HL0 : Hid (giveL l (p, q) n = l) := Lib.hid (by unfold giveL; rw [hE, if_neg (by decide)])
    have HE := Lib.hid hE
    clear hE hr
    rw [HE.out, HL0.out]
    go_enter Try.func8, Try.ntmps8
    go_wp2_with fail
    have HH1 := Lib.hid (SL.stays enc 3 l v w _ HH.out (below1 w (.cells #[.int .i64 p, .int .i64 q] 24)))
    refine (rRight_is HR _ HH1.out HM'.out).mono ?_
    rintro e w1 ⟨rfl, hb1⟩
    have HH2 := Lib.hid (SL.stays enc 3 l v _ _ HH1.out hb1)
    go_wp2_with fail
    refine (own_any l v _ HH2.out HM.out).mono ?_
    rintro e w2 ⟨v2, rfl, hb2, hv2⟩
    have HV := Lib.hid hv2
    clear hv2
    go_wp2
    go_ret2
    exact ⟨_, rfl, nx (below1 _ _) (nx hb1 hb2), HV.out⟩
  · have HR := Lib.hid hr
    cases hp : pmay (p, q)
    · have HP := Lib.hid hp
      have hE : giveE l (p, q) n = 1 := by unfold giveE; rw [hr, hp]; rfl
      have HL0 : Hid (giveL l (p, q) n = l) := Lib.hid (by unfold giveL; rw [hE, if_neg (by decide)])
      have HE := Lib.hid hE
      clear hE hr hp
      rw [HE.out, HL0.out]
      go_enter Try.func8, Try.ntmps8
      go_wp2_with fail
      obtain ⟨W, hW⟩ : ∃ W, W = w.alloc (.cells #[.int .i64 p, .int .i64 q] 24) := ⟨_, rfl⟩
      have k0 : W.cell? ⟨w.heap.size, 0, none⟩ = some (.int .i64 p) := by rw [hW]; simp [go_sem]
      have k1 : W.cell? ⟨w.heap.size, 1, none⟩ = some (.int .i64 q) := by rw [hW]; simp [go_sem]
      have hbW : Below w.heap.size w W := hW ▸ below1 w _
      have hz0 : w.heap.size < W.heap.size := by rw [hW]; simp
      rw [← hW]
      clear hW
      have HH1 := Lib.hid (SL.stays enc 3 l v w _ HH.out hbW)
      refine (rRight_is HR _ HH1.out HM'.out).mono ?_
      rintro e w1 ⟨rfl, hb1⟩
      have HH2 := Lib.hid (SL.stays enc 3 l v _ _ HH1.out hb1)
      have m1 := (bcell hb1).1
      have l0 : w1.cell? ⟨w.heap.size, 0, none⟩ = some (.int .i64 p) := by rw [m1 _ _ hz0]; exact k0
      have l1 : w1.cell? ⟨w.heap.size, 1, none⟩ = some (.int .i64 q) := by rw [m1 _ _ hz0]; exact k1
      have hz1 : w.heap.size < w1.heap.size := by have := hb1.size; omega
      clear k0 k1 m1
      go_wp2_with fail
      refine (pmay_is HP _).mono ?_
      rintro e w2 ⟨rfl, hb2⟩
      have HH3 := Lib.hid (SL.stays enc 3 l v _ _ HH2.out hb2)
      go_wp2_with fail
      refine (own_any l v _ HH3.out HM.out).mono ?_
      rintro e w3 ⟨v2, rfl, hb3, hv2⟩
      have HV := Lib.hid hv2
      clear hv2
      go_wp2
      go_ret2
      exact ⟨_, rfl, nx hbW (nx hb1 (nx hb2 hb3)), HV.out⟩
    · have HP := Lib.hid hp
      cases hn : may n
      · have HN := Lib.hid hn
        have hE : giveE l (p, q) n = 1 := by unfold giveE; rw [hr, hp, hn]; rfl
        have HL0 : Hid (giveL l (p, q) n = l) := Lib.hid (by unfold giveL; rw [hE, if_neg (by decide)])
        have HE := Lib.hid hE
        clear hE hr hp hn
        rw [HE.out, HL0.out]
        go_enter Try.func8, Try.ntmps8
        go_wp2_with fail
        obtain ⟨W, hW⟩ : ∃ W, W = w.alloc (.cells #[.int .i64 p, .int .i64 q] 24) := ⟨_, rfl⟩
        have k0 : W.cell? ⟨w.heap.size, 0, none⟩ = some (.int .i64 p) := by rw [hW]; simp [go_sem]
        have k1 : W.cell? ⟨w.heap.size, 1, none⟩ = some (.int .i64 q) := by rw [hW]; simp [go_sem]
        have hbW : Below w.heap.size w W := hW ▸ below1 w _
        have hz0 : w.heap.size < W.heap.size := by rw [hW]; simp
        rw [← hW]
        clear hW
        have HH1 := Lib.hid (SL.stays enc 3 l v w _ HH.out hbW)
        refine (rRight_is HR _ HH1.out HM'.out).mono ?_
        rintro e w1 ⟨rfl, hb1⟩
        have HH2 := Lib.hid (SL.stays enc 3 l v _ _ HH1.out hb1)
        have m1 := (bcell hb1).1
        have l0 : w1.cell? ⟨w.heap.size, 0, none⟩ = some (.int .i64 p) := by rw [m1 _ _ hz0]; exact k0
        have l1 : w1.cell? ⟨w.heap.size, 1, none⟩ = some (.int .i64 q) := by rw [m1 _ _ hz0]; exact k1
        have hz1 : w.heap.size < w1.heap.size := by have := hb1.size; omega
        clear k0 k1 m1
        go_wp2_with fail
        refine (pmay_is HP _).mono ?_
        rintro e w2 ⟨rfl, hb2⟩
        have HH3 := Lib.hid (SL.stays enc 3 l v _ _ HH2.out hb2)
        go_wp2_with fail
        refine (rMay_is HN _).mono ?_
        rintro e w' ⟨rfl, rfl⟩
        go_wp2_with fail
        refine (own_any l v _ HH3.out HM.out).mono ?_
        rintro e w3 ⟨v2, rfl, hb3, hv2⟩
        have HV := Lib.hid hv2
        clear hv2
        go_wp2
        go_ret2
        exact ⟨_, rfl, nx hbW (nx hb1 (nx hb2 hb3)), HV.out⟩
      · have HN := Lib.hid hn
        have hE : giveE l (p, q) n = addE (get l (p, q)) n := by unfold giveE; rw [hr, hp, hn]; rfl
        obtain ⟨g, hg⟩ : ∃ g, get l (p, q) = g := ⟨_, rfl⟩
        have hL : giveL l (p, q) n = if addE g n = 0 then set l (p, q) (addS g n) else l := by unfold giveL; rw [hE, hg]
        rw [hg] at hE
        have HG : ∀ w, HL l v w → Calls Try.prog 15 #[v, .agg #[.int .i64 p, .int .i64 q]] w fun e w' => e = .returned (.int .i64 g) ∧ Below w.heap.size w w' := fun w h => by
          rw [← hg]; exact rGet_any l v p q w h HM'.out
        have HG := Lib.hid HG
        have HE := Lib.hid hE
        have hA := rAdd_any g n
        have HA := Lib.hid hA
        obtain ⟨x, hx⟩ : ∃ x, addS g n = x := ⟨_, rfl⟩
        obtain ⟨y, hy⟩ : ∃ y, addE g n = y := ⟨_, rfl⟩
        rw [hx, hy] at HA hL
        rw [hy] at HE
        clear hE hA hr hp hn hg hx hy
        by_cases h0 : y = 0
        · subst h0
          rw [if_pos rfl] at hL
          have HL1 := Lib.hid hL
          clear hL
          rw [HE.out, HL1.out]
          go_enter Try.func8, Try.ntmps8
          go_wp2_with fail
          obtain ⟨W, hW⟩ : ∃ W, W = w.alloc (.cells #[.int .i64 p, .int .i64 q] 24) := ⟨_, rfl⟩
          have k0 : W.cell? ⟨w.heap.size, 0, none⟩ = some (.int .i64 p) := by rw [hW]; simp [go_sem]
          have k1 : W.cell? ⟨w.heap.size, 1, none⟩ = some (.int .i64 q) := by rw [hW]; simp [go_sem]
          have hbW : Below w.heap.size w W := hW ▸ below1 w _
          have hz0 : w.heap.size < W.heap.size := by rw [hW]; simp
          rw [← hW]
          clear hW
          have HH1 := Lib.hid (SL.stays enc 3 l v w _ HH.out hbW)
          refine (rRight_is HR _ HH1.out HM'.out).mono ?_
          rintro e w1 ⟨rfl, hb1⟩
          have HH2 := Lib.hid (SL.stays enc 3 l v _ _ HH1.out hb1)
          have m1 := (bcell hb1).1
          have l0 : w1.cell? ⟨w.heap.size, 0, none⟩ = some (.int .i64 p) := by rw [m1 _ _ hz0]; exact k0
          have l1 : w1.cell? ⟨w.heap.size, 1, none⟩ = some (.int .i64 q) := by rw [m1 _ _ hz0]; exact k1
          have hz1 : w.heap.size < w1.heap.size := by have := hb1.size; omega
          clear k0 k1 m1
          go_wp2_with fail
          refine (pmay_is HP _).mono ?_
          rintro e w2 ⟨rfl, hb2⟩
          have HH3 := Lib.hid (SL.stays enc 3 l v _ _ HH2.out hb2)
          have m2 := (bcell hb2).1
          have n0 : w2.cell? ⟨w.heap.size, 0, none⟩ = some (.int .i64 p) := by rw [m2 _ _ hz1]; exact l0
          have n1 : w2.cell? ⟨w.heap.size, 1, none⟩ = some (.int .i64 q) := by rw [m2 _ _ hz1]; exact l1
          have hz2 : w.heap.size < w2.heap.size := by have := hb2.size; omega
          clear l0 l1 m2
          go_wp2_with fail
          refine (rMay_is HN _).mono ?_
          rintro e w' ⟨rfl, rfl⟩
          go_wp2_with fail
          refine (HG.out _ HH3.out).mono ?_
          rintro e w3 ⟨rfl, hb3⟩
          have HH4 := Lib.hid (SL.stays enc 3 l v _ _ HH3.out hb3)
          have m3 := (bcell hb3).1
          have o0 : w3.cell? ⟨w.heap.size, 0, none⟩ = some (.int .i64 p) := by rw [m3 _ _ hz2]; exact n0
          have o1 : w3.cell? ⟨w.heap.size, 1, none⟩ = some (.int .i64 q) := by rw [m3 _ _ hz2]; exact n1
          clear n0 n1 m3
          go_wp2_with fail
          refine (HA.out _).mono ?_
          rintro e w4 ⟨rfl, rfl⟩
          go_wp2_with fail
          refine (set_any l v p q x _ HH4.out HM.out).mono ?_
          rintro e w5 ⟨v2, rfl, hb5, hv2⟩
          have HV := Lib.hid hv2
          clear hv2
          go_wp2
          go_ret2
          exact ⟨_, rfl, nx hbW (nx hb1 (nx hb2 (nx hb3 hb5))), HV.out⟩
        · rw [if_neg h0] at hL
          have HL1 := Lib.hid hL
          have hd : (y != 0) = true := by simpa using h0
          clear hL h0
          rw [HE.out, HL1.out]
          go_enter Try.func8, Try.ntmps8
          go_wp2_with fail
          obtain ⟨W, hW⟩ : ∃ W, W = w.alloc (.cells #[.int .i64 p, .int .i64 q] 24) := ⟨_, rfl⟩
          have k0 : W.cell? ⟨w.heap.size, 0, none⟩ = some (.int .i64 p) := by rw [hW]; simp [go_sem]
          have k1 : W.cell? ⟨w.heap.size, 1, none⟩ = some (.int .i64 q) := by rw [hW]; simp [go_sem]
          have hbW : Below w.heap.size w W := hW ▸ below1 w _
          have hz0 : w.heap.size < W.heap.size := by rw [hW]; simp
          rw [← hW]
          clear hW
          have HH1 := Lib.hid (SL.stays enc 3 l v w _ HH.out hbW)
          refine (rRight_is HR _ HH1.out HM'.out).mono ?_
          rintro e w1 ⟨rfl, hb1⟩
          have HH2 := Lib.hid (SL.stays enc 3 l v _ _ HH1.out hb1)
          have m1 := (bcell hb1).1
          have l0 : w1.cell? ⟨w.heap.size, 0, none⟩ = some (.int .i64 p) := by rw [m1 _ _ hz0]; exact k0
          have l1 : w1.cell? ⟨w.heap.size, 1, none⟩ = some (.int .i64 q) := by rw [m1 _ _ hz0]; exact k1
          have hz1 : w.heap.size < w1.heap.size := by have := hb1.size; omega
          clear k0 k1 m1
          go_wp2_with fail
          refine (pmay_is HP _).mono ?_
          rintro e w2 ⟨rfl, hb2⟩
          have HH3 := Lib.hid (SL.stays enc 3 l v _ _ HH2.out hb2)
          have m2 := (bcell hb2).1
          have n0 : w2.cell? ⟨w.heap.size, 0, none⟩ = some (.int .i64 p) := by rw [m2 _ _ hz1]; exact l0
          have n1 : w2.cell? ⟨w.heap.size, 1, none⟩ = some (.int .i64 q) := by rw [m2 _ _ hz1]; exact l1
          clear l0 l1 m2
          go_wp2_with fail
          refine (rMay_is HN _).mono ?_
          rintro e w' ⟨rfl, rfl⟩
          go_wp2_with fail
          refine (HG.out _ HH3.out).mono ?_
          rintro e w3 ⟨rfl, hb3⟩
          have HH4 := Lib.hid (SL.stays enc 3 l v _ _ HH3.out hb3)
          clear n0 n1
          go_wp2_with fail
          refine (HA.out _).mono ?_
          rintro e w4 ⟨rfl, rfl⟩
          go_wp2_with fail
          refine (own_any l v _ HH4.out HM.out).mono ?_
          rintro e w5 ⟨v2, rfl, hb5, hv2⟩
          have HV := Lib.hid hv2
          clear hv2
          go_wp2
          go_ret2
          exact ⟨_, rfl, nx hbW (nx hb1 (nx hb2 (nx hb3 hb5))), HV.out⟩

def takeE (l : List Hd) (p : Pu) (n : Int) : Int := if right l && pmay p && may n then subE (get l p) n else 1
def takeL (l : List Hd) (p : Pu) (n : Int) : List Hd := if takeE l p n = 0 then set l p (subS (get l p) n) else l
set_option maxHeartbeats 1600000 in
theorem rTake_any (l : List Hd) (v : Value) (p q n : Int) (w : World) (h : HL l v w) (hm : l.length ≤ 1000000) :
    Calls Try.prog 10 #[v, .agg #[.int .i64 p, .int .i64 q], .int .i64 n] w (Post2 (HL (takeL l (p, q) n)) (takeE l (p, q) n) w) := by
  have hm' : l.length ≤ maxLen := by unfold maxLen; omega
  have HM := Lib.hid hm
  have HM' := Lib.hid hm'
  have HH := Lib.hid h
  clear hm hm' h
  cases hr : right l
  · have HR := Lib.hid hr
    have hE : takeE l (p, q) n = 1 := by unfold takeE; rw [hr]; rfl
    have HL0 : Hid (takeL l (p, q) n = l) := Lib.hid (by unfold takeL; rw [hE, if_neg (by decide)])
    have HE := Lib.hid hE
    clear hE hr
    rw [HE.out, HL0.out]
    go_enter Try.func10, Try.ntmps10
    go_wp2_with fail
    have HH1 := Lib.hid (SL.stays enc 3 l v w _ HH.out (below1 w (.cells #[.int .i64 p, .int .i64 q] 24)))
    refine (rRight_is HR _ HH1.out HM'.out).mono ?_
    rintro e w1 ⟨rfl, hb1⟩
    have HH2 := Lib.hid (SL.stays enc 3 l v _ _ HH1.out hb1)
    go_wp2_with fail
    refine (own_any l v _ HH2.out HM.out).mono ?_
    rintro e w2 ⟨v2, rfl, hb2, hv2⟩
    have HV := Lib.hid hv2
    clear hv2
    go_wp2
    go_ret2
    exact ⟨_, rfl, nx (below1 _ _) (nx hb1 hb2), HV.out⟩
  · have HR := Lib.hid hr
    cases hp : pmay (p, q)
    · have HP := Lib.hid hp
      have hE : takeE l (p, q) n = 1 := by unfold takeE; rw [hr, hp]; rfl
      have HL0 : Hid (takeL l (p, q) n = l) := Lib.hid (by unfold takeL; rw [hE, if_neg (by decide)])
      have HE := Lib.hid hE
      clear hE hr hp
      rw [HE.out, HL0.out]
      go_enter Try.func10, Try.ntmps10
      go_wp2_with fail
      obtain ⟨W, hW⟩ : ∃ W, W = w.alloc (.cells #[.int .i64 p, .int .i64 q] 24) := ⟨_, rfl⟩
      have k0 : W.cell? ⟨w.heap.size, 0, none⟩ = some (.int .i64 p) := by rw [hW]; simp [go_sem]
      have k1 : W.cell? ⟨w.heap.size, 1, none⟩ = some (.int .i64 q) := by rw [hW]; simp [go_sem]
      have hbW : Below w.heap.size w W := hW ▸ below1 w _
      have hz0 : w.heap.size < W.heap.size := by rw [hW]; simp
      rw [← hW]
      clear hW
      have HH1 := Lib.hid (SL.stays enc 3 l v w _ HH.out hbW)
      refine (rRight_is HR _ HH1.out HM'.out).mono ?_
      rintro e w1 ⟨rfl, hb1⟩
      have HH2 := Lib.hid (SL.stays enc 3 l v _ _ HH1.out hb1)
      have m1 := (bcell hb1).1
      have l0 : w1.cell? ⟨w.heap.size, 0, none⟩ = some (.int .i64 p) := by rw [m1 _ _ hz0]; exact k0
      have l1 : w1.cell? ⟨w.heap.size, 1, none⟩ = some (.int .i64 q) := by rw [m1 _ _ hz0]; exact k1
      have hz1 : w.heap.size < w1.heap.size := by have := hb1.size; omega
      clear k0 k1 m1
      go_wp2_with fail
      refine (pmay_is HP _).mono ?_
      rintro e w2 ⟨rfl, hb2⟩
      have HH3 := Lib.hid (SL.stays enc 3 l v _ _ HH2.out hb2)
      go_wp2_with fail
      refine (own_any l v _ HH3.out HM.out).mono ?_
      rintro e w3 ⟨v2, rfl, hb3, hv2⟩
      have HV := Lib.hid hv2
      clear hv2
      go_wp2
      go_ret2
      exact ⟨_, rfl, nx hbW (nx hb1 (nx hb2 hb3)), HV.out⟩
    · have HP := Lib.hid hp
      cases hn : may n
      · have HN := Lib.hid hn
        have hE : takeE l (p, q) n = 1 := by unfold takeE; rw [hr, hp, hn]; rfl
        have HL0 : Hid (takeL l (p, q) n = l) := Lib.hid (by unfold takeL; rw [hE, if_neg (by decide)])
        have HE := Lib.hid hE
        clear hE hr hp hn
        rw [HE.out, HL0.out]
        go_enter Try.func10, Try.ntmps10
        go_wp2_with fail
        obtain ⟨W, hW⟩ : ∃ W, W = w.alloc (.cells #[.int .i64 p, .int .i64 q] 24) := ⟨_, rfl⟩
        have k0 : W.cell? ⟨w.heap.size, 0, none⟩ = some (.int .i64 p) := by rw [hW]; simp [go_sem]
        have k1 : W.cell? ⟨w.heap.size, 1, none⟩ = some (.int .i64 q) := by rw [hW]; simp [go_sem]
        have hbW : Below w.heap.size w W := hW ▸ below1 w _
        have hz0 : w.heap.size < W.heap.size := by rw [hW]; simp
        rw [← hW]
        clear hW
        have HH1 := Lib.hid (SL.stays enc 3 l v w _ HH.out hbW)
        refine (rRight_is HR _ HH1.out HM'.out).mono ?_
        rintro e w1 ⟨rfl, hb1⟩
        have HH2 := Lib.hid (SL.stays enc 3 l v _ _ HH1.out hb1)
        have m1 := (bcell hb1).1
        have l0 : w1.cell? ⟨w.heap.size, 0, none⟩ = some (.int .i64 p) := by rw [m1 _ _ hz0]; exact k0
        have l1 : w1.cell? ⟨w.heap.size, 1, none⟩ = some (.int .i64 q) := by rw [m1 _ _ hz0]; exact k1
        have hz1 : w.heap.size < w1.heap.size := by have := hb1.size; omega
        clear k0 k1 m1
        go_wp2_with fail
        refine (pmay_is HP _).mono ?_
        rintro e w2 ⟨rfl, hb2⟩
        have HH3 := Lib.hid (SL.stays enc 3 l v _ _ HH2.out hb2)
        go_wp2_with fail
        refine (rMay_is HN _).mono ?_
        rintro e w' ⟨rfl, rfl⟩
        go_wp2_with fail
        refine (own_any l v _ HH3.out HM.out).mono ?_
        rintro e w3 ⟨v2, rfl, hb3, hv2⟩
        have HV := Lib.hid hv2
        clear hv2
        go_wp2
        go_ret2
        exact ⟨_, rfl, nx hbW (nx hb1 (nx hb2 hb3)), HV.out⟩
      · have HN := Lib.hid hn
        have hE : takeE l (p, q) n = subE (get l (p, q)) n := by unfold takeE; rw [hr, hp, hn]; rfl
        obtain ⟨g, hg⟩ : ∃ g, get l (p, q) = g := ⟨_, rfl⟩
        have hL : takeL l (p, q) n = if subE g n = 0 then set l (p, q) (subS g n) else l := by unfold takeL; rw [hE, hg]
        rw [hg] at hE
        have HG : ∀ w, HL l v w → Calls Try.prog 15 #[v, .agg #[.int .i64 p, .int .i64 q]] w fun e w' => e = .returned (.int .i64 g) ∧ Below w.heap.size w w' := fun w h => by
          rw [← hg]; exact rGet_any l v p q w h HM'.out
        have HG := Lib.hid HG
        have HE := Lib.hid hE
        have hA := rSub_any g n
        have HA := Lib.hid hA
        obtain ⟨x, hx⟩ : ∃ x, subS g n = x := ⟨_, rfl⟩
        obtain ⟨y, hy⟩ : ∃ y, subE g n = y := ⟨_, rfl⟩
        rw [hx, hy] at HA hL
        rw [hy] at HE
        clear hE hA hr hp hn hg hx hy
        by_cases h0 : y = 0
        · subst h0
          rw [if_pos rfl] at hL
          have HL1 := Lib.hid hL
          clear hL
          rw [HE.out, HL1.out]
          go_enter Try.func10, Try.ntmps10
          go_wp2_with fail
          obtain ⟨W, hW⟩ : ∃ W, W = w.alloc (.cells #[.int .i64 p, .int .i64 q] 24) := ⟨_, rfl⟩
          have k0 : W.cell? ⟨w.heap.size, 0, none⟩ = some (.int .i64 p) := by rw [hW]; simp [go_sem]
          have k1 : W.cell? ⟨w.heap.size, 1, none⟩ = some (.int .i64 q) := by rw [hW]; simp [go_sem]
          have hbW : Below w.heap.size w W := hW ▸ below1 w _
          have hz0 : w.heap.size < W.heap.size := by rw [hW]; simp
          rw [← hW]
          clear hW
          have HH1 := Lib.hid (SL.stays enc 3 l v w _ HH.out hbW)
          refine (rRight_is HR _ HH1.out HM'.out).mono ?_
          rintro e w1 ⟨rfl, hb1⟩
          have HH2 := Lib.hid (SL.stays enc 3 l v _ _ HH1.out hb1)
          have m1 := (bcell hb1).1
          have l0 : w1.cell? ⟨w.heap.size, 0, none⟩ = some (.int .i64 p) := by rw [m1 _ _ hz0]; exact k0
          have l1 : w1.cell? ⟨w.heap.size, 1, none⟩ = some (.int .i64 q) := by rw [m1 _ _ hz0]; exact k1
          have hz1 : w.heap.size < w1.heap.size := by have := hb1.size; omega
          clear k0 k1 m1
          go_wp2_with fail
          refine (pmay_is HP _).mono ?_
          rintro e w2 ⟨rfl, hb2⟩
          have HH3 := Lib.hid (SL.stays enc 3 l v _ _ HH2.out hb2)
          have m2 := (bcell hb2).1
          have n0 : w2.cell? ⟨w.heap.size, 0, none⟩ = some (.int .i64 p) := by rw [m2 _ _ hz1]; exact l0
          have n1 : w2.cell? ⟨w.heap.size, 1, none⟩ = some (.int .i64 q) := by rw [m2 _ _ hz1]; exact l1
          have hz2 : w.heap.size < w2.heap.size := by have := hb2.size; omega
          clear l0 l1 m2
          go_wp2_with fail
          refine (rMay_is HN _).mono ?_
          rintro e w' ⟨rfl, rfl⟩
          go_wp2_with fail
          refine (HG.out _ HH3.out).mono ?_
          rintro e w3 ⟨rfl, hb3⟩
          have HH4 := Lib.hid (SL.stays enc 3 l v _ _ HH3.out hb3)
          have m3 := (bcell hb3).1
          have o0 : w3.cell? ⟨w.heap.size, 0, none⟩ = some (.int .i64 p) := by rw [m3 _ _ hz2]; exact n0
          have o1 : w3.cell? ⟨w.heap.size, 1, none⟩ = some (.int .i64 q) := by rw [m3 _ _ hz2]; exact n1
          clear n0 n1 m3
          go_wp2_with fail
          refine (HA.out _).mono ?_
          rintro e w4 ⟨rfl, rfl⟩
          go_wp2_with fail
          refine (set_any l v p q x _ HH4.out HM.out).mono ?_
          rintro e w5 ⟨v2, rfl, hb5, hv2⟩
          have HV := Lib.hid hv2
          clear hv2
          go_wp2
          go_ret2
          exact ⟨_, rfl, nx hbW (nx hb1 (nx hb2 (nx hb3 hb5))), HV.out⟩
        · rw [if_neg h0] at hL
          have HL1 := Lib.hid hL
          have hd : (y != 0) = true := by simpa using h0
          clear hL h0
          rw [HE.out, HL1.out]
          go_enter Try.func10, Try.ntmps10
          go_wp2_with fail
          obtain ⟨W, hW⟩ : ∃ W, W = w.alloc (.cells #[.int .i64 p, .int .i64 q] 24) := ⟨_, rfl⟩
          have k0 : W.cell? ⟨w.heap.size, 0, none⟩ = some (.int .i64 p) := by rw [hW]; simp [go_sem]
          have k1 : W.cell? ⟨w.heap.size, 1, none⟩ = some (.int .i64 q) := by rw [hW]; simp [go_sem]
          have hbW : Below w.heap.size w W := hW ▸ below1 w _
          have hz0 : w.heap.size < W.heap.size := by rw [hW]; simp
          rw [← hW]
          clear hW
          have HH1 := Lib.hid (SL.stays enc 3 l v w _ HH.out hbW)
          refine (rRight_is HR _ HH1.out HM'.out).mono ?_
          rintro e w1 ⟨rfl, hb1⟩
          have HH2 := Lib.hid (SL.stays enc 3 l v _ _ HH1.out hb1)
          have m1 := (bcell hb1).1
          have l0 : w1.cell? ⟨w.heap.size, 0, none⟩ = some (.int .i64 p) := by rw [m1 _ _ hz0]; exact k0
          have l1 : w1.cell? ⟨w.heap.size, 1, none⟩ = some (.int .i64 q) := by rw [m1 _ _ hz0]; exact k1
          have hz1 : w.heap.size < w1.heap.size := by have := hb1.size; omega
          clear k0 k1 m1
          go_wp2_with fail
          refine (pmay_is HP _).mono ?_
          rintro e w2 ⟨rfl, hb2⟩
          have HH3 := Lib.hid (SL.stays enc 3 l v _ _ HH2.out hb2)
          have m2 := (bcell hb2).1
          have n0 : w2.cell? ⟨w.heap.size, 0, none⟩ = some (.int .i64 p) := by rw [m2 _ _ hz1]; exact l0
          have n1 : w2.cell? ⟨w.heap.size, 1, none⟩ = some (.int .i64 q) := by rw [m2 _ _ hz1]; exact l1
          clear l0 l1 m2
          go_wp2_with fail
          refine (rMay_is HN _).mono ?_
          rintro e w' ⟨rfl, rfl⟩
          go_wp2_with fail
          refine (HG.out _ HH3.out).mono ?_
          rintro e w3 ⟨rfl, hb3⟩
          have HH4 := Lib.hid (SL.stays enc 3 l v _ _ HH3.out hb3)
          clear n0 n1
          go_wp2_with fail
          refine (HA.out _).mono ?_
          rintro e w4 ⟨rfl, rfl⟩
          go_wp2_with fail
          refine (own_any l v _ HH4.out HM.out).mono ?_
          rintro e w5 ⟨v2, rfl, hb5, hv2⟩
          have HV := Lib.hid hv2
          clear hv2
          go_wp2
          go_ret2
          exact ⟨_, rfl, nx hbW (nx hb1 (nx hb2 (nx hb3 hb5))), HV.out⟩
end Go.Proofs.Yteandjnbcolphaa.Ac
