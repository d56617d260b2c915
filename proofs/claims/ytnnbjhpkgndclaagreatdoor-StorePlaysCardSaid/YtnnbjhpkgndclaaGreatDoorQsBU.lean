/- The document's own of layer 14: Erase, Sync. -/
import Derived.Test.YtnnbjhpkgndclaaGreatDoorQsZZ
import Derived.Test.YtnnbjhpkgndclaaGreatDoorQsBT
set_option linter.unusedVariables false
namespace Go.Proofs.YtnnbjhpkgndclaaGreatDoor.Dk
open Go.RowKit
open Go.Proofs.YtnnbjhpkgndclaaGreatDoor.Rw
open Go.Proofs.YtnnbjhpkgndclaaGreatDoor.Da
set_option maxRecDepth 8000
set_option maxHeartbeats 8000000
theorem rErase_any (n : Nat) (d : Ds) (v : Value) (z : Int) (w : World) (h : DV n d v w) (hn : n ≤ w.heap.size) (hk : Ok 1000000 1000 d) :
    Calls Tryz.prog 66 #[v,.int .i64 z] w (Post2 n (eraP d z) w) := by
  obtain ⟨o,rfl,hO,hc⟩ := h
  obtain ⟨a,b,l,c,f,dn⟩ := d
  simp only at hO ⊢
  obtain ⟨a1,c1,rfl⟩ := hO.len
  obtain ⟨n1,hn1⟩ : ∃ q,l.length = q := ⟨_,rfl⟩
  rw [hn1] at hO hc ⊢
  have HN := lH hn1
  have hBo : (Bs.of n).le w.heap.size := ⟨hn,fun _ h => h.elim⟩
  obtain ⟨V,hV⟩ : ∃ Q_ : World,(w.alloc (.cells #[.string a,.string b,.slice a1 n1 c1,.int .i64 c,.int .i64 f,.bool dn] 27)).alloc (.cells #[.string ⟨#[]⟩,.string ⟨#[]⟩,.slice none 0 0,.int .i64 0,.int .i64 0,.bool false] 27) = Q_ := ⟨_,rfl⟩
  have bV : Below w.heap.size w V := hV ▸ below2 _ _ _
  obtain ⟨B0,B1⟩ : Bx V w.heap.size #[.string a,.string b,.slice a1 n1 c1,.int .i64 c,.int .i64 f,.bool dn] 27 ∧ Bx V (w.heap.size + 1) #[.string ⟨#[]⟩,.string ⟨#[]⟩,.slice none 0 0,.int .i64 0,.int .i64 0,.bool false] 27 := hV ▸ bx2 w _ _ _ _
  have hlc : l.length ≤ 1000 := hk.len
  have HLL : Hid (l.length ≤ 100000) := lH (by omega)
  have hw1 : (⟨a,b,l,c,f,dn⟩ : Ds).wt ≤ 1000000 := hk.wt
  have hf1 : -1 ≤ f ∧ f ≤ 9223372036854775807 := hk.f
  have hc1 : 0 ≤ c ∧ c ≤ 60000 := hk.c
  have hnl : n1 ≤ 1000 := by omega
  clear hk hlc
  rcases readE_cases ⟨a,b,l,c,f,dn⟩ z with ⟨e,hdn⟩ | ⟨e,hdn⟩ | ⟨e,hdn,hz⟩
  · simp only at hdn
    subst hdn
    have HP : Hid (eraP ⟨a,b,l,c,f,true⟩ z = (⟨a,b,l,c,f,true⟩,15)) := lH (by unfold eraP;rw [if_pos (by rw [e];decide),e])
    clear e
    obtain ⟨q1l,q1r,q1p,⟨q1c0,q1c1,q1c2,q1c3,q1c4,q1c5⟩,⟨q1f0,q1f1,q1f2,q1f3,q1f4,q1f5⟩⟩ := B0.d6
    go_enter Tryz.func66,Tryz.ntmps66
    go_wp2_with fail
    with_reducible refine (rOwn_any n ⟨a,b,l,c,f,true⟩ _ V (DV.mk (hO.stays bV) hc) (by have := bV.size;omega) HLL.out).mono ?_
    rintro e w1 ⟨o1,rfl,hb1,hS⟩
    replace hS := own_lower hS bV.size
    simp only at hS ⊢
    obtain ⟨a2,c2,rfl⟩ := (Own.is (by decide) hBo hS).len
    rw [hn1] at hS ⊢
    clear q1l q1r q1p q1c0 q1c1 q1c2 q1c3 q1c4 q1c5 q1f0 q1f1 q1f2 q1f3 q1f4 q1f5
    replace B0 := B0.stays hb1
    replace B1 := B1.stays hb1
    have bw1 := nx bV hb1
    obtain ⟨q2l,q2r,q2p,⟨q2c0,q2c1,q2c2,q2c3,q2c4,q2c5⟩,⟨q2f0,q2f1,q2f2,q2f3,q2f4,q2f5⟩⟩ := B0.d6
    have hS9 := Own.keep hBo hS (keeps_setRow #[.string a,.string b,.slice a2 n1 c2,.int .i64 c,.int .i64 f,.bool true] B0 (by decide) (by show n ≤ _;omega))
    obtain ⟨X,hX⟩ : ∃ Q_ : World,w1.setRow (w.heap.size) #[.string a,.string b,.slice a2 n1 c2,.int .i64 c,.int .i64 f,.bool true] = Q_ := ⟨_,rfl⟩
    have bX : Below w.heap.size w X := hX ▸ (bw1).trans (low_setRow _ (by omega))
    replace B1 : Bx X (w.heap.size + 1) #[.string ⟨#[]⟩,.string ⟨#[]⟩,.slice none 0 0,.int .i64 0,.int .i64 0,.bool false] 27 := hX ▸ B1.put' (by omega) _
    replace B0 : Bx X (w.heap.size) #[.string a,.string b,.slice a2 n1 c2,.int .i64 c,.int .i64 f,.bool true] 27 := hX ▸ B0.put _
    replace hS : OwnO n w.heap.size l (.slice a2 n1 c2) X := hX ▸ hS9
    clear hS9
    obtain ⟨q3l,q3r,q3p,⟨q3c0,q3c1,q3c2,q3c3,q3c4,q3c5⟩,⟨q3f0,q3f1,q3f2,q3f3,q3f4,q3f5⟩⟩ := B0.d6
    obtain ⟨q4l,q4r,q4p,⟨q4c0,q4c1,q4c2,q4c3,q4c4,q4c5⟩,⟨q4f0,q4f1,q4f2,q4f3,q4f4,q4f5⟩⟩ := B1.d6
    have hS9 := Own.keep hBo hS (keeps_setRow #[.string a,.string b,.slice a2 n1 c2,.int .i64 c,.int .i64 f,.bool true] B1 (by decide) (by show n ≤ _;omega))
    obtain ⟨U,hU⟩ : ∃ Q_ : World,X.setRow (w.heap.size + 1) #[.string a,.string b,.slice a2 n1 c2,.int .i64 c,.int .i64 f,.bool true] = Q_ := ⟨_,rfl⟩
    have bU : Below w.heap.size w U := hU ▸ (bX).trans (low_setRow _ (by omega))
    replace B0 : Bx U (w.heap.size) #[.string a,.string b,.slice a2 n1 c2,.int .i64 c,.int .i64 f,.bool true] 27 := hU ▸ B0.put' (by omega) _
    replace B1 : Bx U (w.heap.size + 1) #[.string a,.string b,.slice a2 n1 c2,.int .i64 c,.int .i64 f,.bool true] 27 := hU ▸ B1.put _
    replace hS := hU ▸ hS9
    obtain ⟨q5l,q5r,q5p,⟨q5c0,q5c1,q5c2,q5c3,q5c4,q5c5⟩,⟨q5f0,q5f1,q5f2,q5f3,q5f4,q5f5⟩⟩ := B1.d6
    clear hn1
    go_wp2
    refine bodyPost_ret (v := .tuple #[.agg #[.string a,.string b,.slice a2 n1 c2,.int .i64 c,.int .i64 f,.bool true],.int .i64 15]) (ret_D2 Tryz.results66 _ _ rfl ?_) rfl (Post2.intro HP bU (DV.mk (Own.is (by decide) hBo hS) (Own.cap hS)))
    simp [go_sem, *]
  · simp only at hdn
    subst hdn
    have HP : Hid (eraP ⟨a,b,l,c,f,false⟩ z = (⟨a,b,l,c,f,false⟩,1)) := lH (by unfold eraP;rw [if_pos (by rw [e];decide),e])
    obtain ⟨⟨g0,g1⟩,g2,g3⟩ := zone_no e rfl
    clear e
    obtain ⟨q1l,q1r,q1p,⟨q1c0,q1c1,q1c2,q1c3,q1c4,q1c5⟩,⟨q1f0,q1f1,q1f2,q1f3,q1f4,q1f5⟩⟩ := B0.d6
    go_enter Tryz.func66,Tryz.ntmps66
    go_wp2_with fail
    with_reducible refine (rOwn_any n ⟨a,b,l,c,f,false⟩ _ V (DV.mk (hO.stays bV) hc) (by have := bV.size;omega) HLL.out).mono ?_
    rintro e w1 ⟨o1,rfl,hb1,hS⟩
    replace hS := own_lower hS bV.size
    simp only at hS ⊢
    obtain ⟨a2,c2,rfl⟩ := (Own.is (by decide) hBo hS).len
    rw [hn1] at hS ⊢
    clear q1l q1r q1p q1c0 q1c1 q1c2 q1c3 q1c4 q1c5 q1f0 q1f1 q1f2 q1f3 q1f4 q1f5
    replace B0 := B0.stays hb1
    replace B1 := B1.stays hb1
    have bw1 := nx bV hb1
    obtain ⟨q2l,q2r,q2p,⟨q2c0,q2c1,q2c2,q2c3,q2c4,q2c5⟩,⟨q2f0,q2f1,q2f2,q2f3,q2f4,q2f5⟩⟩ := B0.d6
    have hS9 := Own.keep hBo hS (keeps_setRow #[.string a,.string b,.slice a2 n1 c2,.int .i64 c,.int .i64 f,.bool false] B0 (by decide) (by show n ≤ _;omega))
    obtain ⟨X,hX⟩ : ∃ Q_ : World,w1.setRow (w.heap.size) #[.string a,.string b,.slice a2 n1 c2,.int .i64 c,.int .i64 f,.bool false] = Q_ := ⟨_,rfl⟩
    have bX : Below w.heap.size w X := hX ▸ (bw1).trans (low_setRow _ (by omega))
    replace B1 : Bx X (w.heap.size + 1) #[.string ⟨#[]⟩,.string ⟨#[]⟩,.slice none 0 0,.int .i64 0,.int .i64 0,.bool false] 27 := hX ▸ B1.put' (by omega) _
    replace B0 : Bx X (w.heap.size) #[.string a,.string b,.slice a2 n1 c2,.int .i64 c,.int .i64 f,.bool false] 27 := hX ▸ B0.put _
    replace hS : OwnO n w.heap.size l (.slice a2 n1 c2) X := hX ▸ hS9
    clear hS9
    obtain ⟨q3l,q3r,q3p,⟨q3c0,q3c1,q3c2,q3c3,q3c4,q3c5⟩,⟨q3f0,q3f1,q3f2,q3f3,q3f4,q3f5⟩⟩ := B0.d6
    obtain ⟨q4l,q4r,q4p,⟨q4c0,q4c1,q4c2,q4c3,q4c4,q4c5⟩,⟨q4f0,q4f1,q4f2,q4f3,q4f4,q4f5⟩⟩ := B1.d6
    have hS9 := Own.keep hBo hS (keeps_setRow #[.string a,.string b,.slice a2 n1 c2,.int .i64 c,.int .i64 f,.bool false] B1 (by decide) (by show n ≤ _;omega))
    obtain ⟨U,hU⟩ : ∃ Q_ : World,X.setRow (w.heap.size + 1) #[.string a,.string b,.slice a2 n1 c2,.int .i64 c,.int .i64 f,.bool false] = Q_ := ⟨_,rfl⟩
    have bU : Below w.heap.size w U := hU ▸ (bX).trans (low_setRow _ (by omega))
    replace B0 : Bx U (w.heap.size) #[.string a,.string b,.slice a2 n1 c2,.int .i64 c,.int .i64 f,.bool false] 27 := hU ▸ B0.put' (by omega) _
    replace B1 : Bx U (w.heap.size + 1) #[.string a,.string b,.slice a2 n1 c2,.int .i64 c,.int .i64 f,.bool false] 27 := hU ▸ B1.put _
    replace hS := hU ▸ hS9
    obtain ⟨q5l,q5r,q5p,⟨q5c0,q5c1,q5c2,q5c3,q5c4,q5c5⟩,⟨q5f0,q5f1,q5f2,q5f3,q5f4,q5f5⟩⟩ := B1.d6
    clear hn1
    go_wp2
    refine bodyPost_ret (v := .tuple #[.agg #[.string a,.string b,.slice a2 n1 c2,.int .i64 c,.int .i64 f,.bool false],.int .i64 1]) (ret_D2 Tryz.results66 _ _ rfl ?_) rfl (Post2.intro HP bU (DV.mk (Own.is (by decide) hBo hS) (Own.cap hS)))
    simp [go_sem, *]
  · simp only at hdn
    subst hdn
    rcases hz with rfl | rfl
    · by_cases hf0 : f = 0
      · subst hf0
        have HP : Hid (eraP ⟨a,b,l,c,0,false⟩ 0 = (⟨a,b,l,c,0,true⟩,15)) := lH (by unfold eraP;rw [if_neg (by rw [e];simp),doP_no rfl])
        clear e
        obtain ⟨q1l,q1r,q1p,⟨q1c0,q1c1,q1c2,q1c3,q1c4,q1c5⟩,⟨q1f0,q1f1,q1f2,q1f3,q1f4,q1f5⟩⟩ := B0.d6
        go_enter Tryz.func66,Tryz.ntmps66
        go_wp2_with fail
        with_reducible refine (rOwn_any n ⟨a,b,l,c,0,false⟩ _ V (DV.mk (hO.stays bV) hc) (by have := bV.size;omega) HLL.out).mono ?_
        rintro e w1 ⟨o1,rfl,hb1,hS⟩
        replace hS := own_lower hS bV.size
        simp only at hS ⊢
        obtain ⟨a2,c2,rfl⟩ := (Own.is (by decide) hBo hS).len
        rw [hn1] at hS ⊢
        clear q1l q1r q1p q1c0 q1c1 q1c2 q1c3 q1c4 q1c5 q1f0 q1f1 q1f2 q1f3 q1f4 q1f5
        replace B0 := B0.stays hb1
        replace B1 := B1.stays hb1
        have bw1 := nx bV hb1
        obtain ⟨q2l,q2r,q2p,⟨q2c0,q2c1,q2c2,q2c3,q2c4,q2c5⟩,⟨q2f0,q2f1,q2f2,q2f3,q2f4,q2f5⟩⟩ := B0.d6
        have hS9 := Own.keep hBo hS (keeps_setRow #[.string a,.string b,.slice a2 n1 c2,.int .i64 c,.int .i64 0,.bool false] B0 (by decide) (by show n ≤ _;omega))
        obtain ⟨X,hX⟩ : ∃ Q_ : World,w1.setRow (w.heap.size) #[.string a,.string b,.slice a2 n1 c2,.int .i64 c,.int .i64 0,.bool false] = Q_ := ⟨_,rfl⟩
        have bX : Below w.heap.size w X := hX ▸ (bw1).trans (low_setRow _ (by omega))
        replace B1 : Bx X (w.heap.size + 1) #[.string ⟨#[]⟩,.string ⟨#[]⟩,.slice none 0 0,.int .i64 0,.int .i64 0,.bool false] 27 := hX ▸ B1.put' (by omega) _
        replace B0 : Bx X (w.heap.size) #[.string a,.string b,.slice a2 n1 c2,.int .i64 c,.int .i64 0,.bool false] 27 := hX ▸ B0.put _
        replace hS : OwnO n w.heap.size l (.slice a2 n1 c2) X := hX ▸ hS9
        clear hS9
        obtain ⟨q3l,q3r,q3p,⟨q3c0,q3c1,q3c2,q3c3,q3c4,q3c5⟩,⟨q3f0,q3f1,q3f2,q3f3,q3f4,q3f5⟩⟩ := B0.d6
        go_wp2_with fail
        with_reducible refine (rBurn_no a b a2 n1 c2 c false _).mono ?_
        rintro e w4 ⟨rfl,hb4⟩
        clear q2l q2r q2p q2c0 q2c1 q2c2 q2c3 q2c4 q2c5 q2f0 q2f1 q2f2 q2f3 q2f4 q2f5
        clear q3l q3r q3p q3c0 q3c1 q3c2 q3c3 q3c4 q3c5 q3f0 q3f1 q3f2 q3f3 q3f4 q3f5
        replace hS := Own.stays hS hb4
        replace B0 := B0.stays hb4
        replace B1 := B1.stays hb4
        have bw4 := nx bX hb4
        obtain ⟨q4l,q4r,q4p,⟨q4c0,q4c1,q4c2,q4c3,q4c4,q4c5⟩,⟨q4f0,q4f1,q4f2,q4f3,q4f4,q4f5⟩⟩ := B0.d6
        have hS9 := Own.keep hBo hS (keeps_setRow #[.string a,.string b,.slice a2 n1 c2,.int .i64 c,.int .i64 0,.bool true] B0 (by decide) (by show n ≤ _;omega))
        obtain ⟨Y,hY⟩ : ∃ Q_ : World,w4.setRow (w.heap.size) #[.string a,.string b,.slice a2 n1 c2,.int .i64 c,.int .i64 0,.bool true] = Q_ := ⟨_,rfl⟩
        have bY : Below w.heap.size w Y := hY ▸ (bw4).trans (low_setRow _ (by omega))
        replace B1 : Bx Y (w.heap.size + 1) #[.string ⟨#[]⟩,.string ⟨#[]⟩,.slice none 0 0,.int .i64 0,.int .i64 0,.bool false] 27 := hY ▸ B1.put' (by omega) _
        replace B0 : Bx Y (w.heap.size) #[.string a,.string b,.slice a2 n1 c2,.int .i64 c,.int .i64 0,.bool true] 27 := hY ▸ B0.put _
        replace hS : OwnO n w.heap.size l (.slice a2 n1 c2) Y := hY ▸ hS9
        clear hS9
        obtain ⟨q5l,q5r,q5p,⟨q5c0,q5c1,q5c2,q5c3,q5c4,q5c5⟩,⟨q5f0,q5f1,q5f2,q5f3,q5f4,q5f5⟩⟩ := B0.d6
        obtain ⟨q6l,q6r,q6p,⟨q6c0,q6c1,q6c2,q6c3,q6c4,q6c5⟩,⟨q6f0,q6f1,q6f2,q6f3,q6f4,q6f5⟩⟩ := B1.d6
        have hS9 := Own.keep hBo hS (keeps_setRow #[.string a,.string b,.slice a2 n1 c2,.int .i64 c,.int .i64 0,.bool true] B1 (by decide) (by show n ≤ _;omega))
        obtain ⟨U,hU⟩ : ∃ Q_ : World,Y.setRow (w.heap.size + 1) #[.string a,.string b,.slice a2 n1 c2,.int .i64 c,.int .i64 0,.bool true] = Q_ := ⟨_,rfl⟩
        have bU : Below w.heap.size w U := hU ▸ (bY).trans (low_setRow _ (by omega))
        replace B0 : Bx U (w.heap.size) #[.string a,.string b,.slice a2 n1 c2,.int .i64 c,.int .i64 0,.bool true] 27 := hU ▸ B0.put' (by omega) _
        replace B1 : Bx U (w.heap.size + 1) #[.string a,.string b,.slice a2 n1 c2,.int .i64 c,.int .i64 0,.bool true] 27 := hU ▸ B1.put _
        replace hS := hU ▸ hS9
        obtain ⟨q7l,q7r,q7p,⟨q7c0,q7c1,q7c2,q7c3,q7c4,q7c5⟩,⟨q7f0,q7f1,q7f2,q7f3,q7f4,q7f5⟩⟩ := B1.d6
        clear hn1
        go_wp2
        refine bodyPost_ret (v := .tuple #[.agg #[.string a,.string b,.slice a2 n1 c2,.int .i64 c,.int .i64 0,.bool true],.int .i64 15]) (ret_D2 Tryz.results66 _ _ rfl ?_) rfl (Post2.intro HP bU (DV.mk (Own.is (by decide) hBo hS) (Own.cap hS)))
        simp [go_sem, *]
      · obtain ⟨f2,hf2⟩ : ∃ q,max f 0 - 1 = q := ⟨_,rfl⟩
        have HF := lH hf2
        have HP : Hid (eraP ⟨a,b,l,c,f,false⟩ 0 = (⟨a,b,l ++ [(false,nul,true)],c,f2,false⟩,0)) := lH (by unfold eraP;rw [if_neg (by rw [e];simp),doP_yes (d := ⟨a,b,l,c,f,false⟩) hf0 hf2];rfl)
        clear e hf2
        obtain ⟨q1l,q1r,q1p,⟨q1c0,q1c1,q1c2,q1c3,q1c4,q1c5⟩,⟨q1f0,q1f1,q1f2,q1f3,q1f4,q1f5⟩⟩ := B0.d6
        go_enter Tryz.func66,Tryz.ntmps66
        go_wp2_with fail
        with_reducible refine (rOwn_any n ⟨a,b,l,c,f,false⟩ _ V (DV.mk (hO.stays bV) hc) (by have := bV.size;omega) HLL.out).mono ?_
        rintro e w1 ⟨o1,rfl,hb1,hS⟩
        replace hS := own_lower hS bV.size
        simp only at hS ⊢
        obtain ⟨a2,c2,rfl⟩ := (Own.is (by decide) hBo hS).len
        rw [hn1] at hS ⊢
        clear q1l q1r q1p q1c0 q1c1 q1c2 q1c3 q1c4 q1c5 q1f0 q1f1 q1f2 q1f3 q1f4 q1f5
        replace B0 := B0.stays hb1
        replace B1 := B1.stays hb1
        have bw1 := nx bV hb1
        obtain ⟨q2l,q2r,q2p,⟨q2c0,q2c1,q2c2,q2c3,q2c4,q2c5⟩,⟨q2f0,q2f1,q2f2,q2f3,q2f4,q2f5⟩⟩ := B0.d6
        have hS9 := Own.keep hBo hS (keeps_setRow #[.string a,.string b,.slice a2 n1 c2,.int .i64 c,.int .i64 f,.bool false] B0 (by decide) (by show n ≤ _;omega))
        obtain ⟨X,hX⟩ : ∃ Q_ : World,w1.setRow (w.heap.size) #[.string a,.string b,.slice a2 n1 c2,.int .i64 c,.int .i64 f,.bool false] = Q_ := ⟨_,rfl⟩
        have bX : Below w.heap.size w X := hX ▸ (bw1).trans (low_setRow _ (by omega))
        replace B1 : Bx X (w.heap.size + 1) #[.string ⟨#[]⟩,.string ⟨#[]⟩,.slice none 0 0,.int .i64 0,.int .i64 0,.bool false] 27 := hX ▸ B1.put' (by omega) _
        replace B0 : Bx X (w.heap.size) #[.string a,.string b,.slice a2 n1 c2,.int .i64 c,.int .i64 f,.bool false] 27 := hX ▸ B0.put _
        replace hS : OwnO n w.heap.size l (.slice a2 n1 c2) X := hX ▸ hS9
        clear hS9
        obtain ⟨q3l,q3r,q3p,⟨q3c0,q3c1,q3c2,q3c3,q3c4,q3c5⟩,⟨q3f0,q3f1,q3f2,q3f3,q3f4,q3f5⟩⟩ := B0.d6
        go_wp2_with fail
        with_reducible refine (rBurn_yes HF hf0 a b a2 n1 c2 c false _ hf1).mono ?_
        rintro e w4 ⟨rfl,hb4⟩
        clear q2l q2r q2p q2c0 q2c1 q2c2 q2c3 q2c4 q2c5 q2f0 q2f1 q2f2 q2f3 q2f4 q2f5
        clear q3l q3r q3p q3c0 q3c1 q3c2 q3c3 q3c4 q3c5 q3f0 q3f1 q3f2 q3f3 q3f4 q3f5
        replace hS := Own.stays hS hb4
        replace B0 := B0.stays hb4
        replace B1 := B1.stays hb4
        have bw4 := nx bX hb4
        obtain ⟨q4l,q4r,q4p,⟨q4c0,q4c1,q4c2,q4c3,q4c4,q4c5⟩,⟨q4f0,q4f1,q4f2,q4f3,q4f4,q4f5⟩⟩ := B0.d6
        have hS9 := Own.keep hBo hS (keeps_setRow #[.string a,.string b,.slice a2 n1 c2,.int .i64 c,.int .i64 f2,.bool false] B0 (by decide) (by show n ≤ _;omega))
        obtain ⟨Y,hY⟩ : ∃ Q_ : World,w4.setRow (w.heap.size) #[.string a,.string b,.slice a2 n1 c2,.int .i64 c,.int .i64 f2,.bool false] = Q_ := ⟨_,rfl⟩
        have bY : Below w.heap.size w Y := hY ▸ (bw4).trans (low_setRow _ (by omega))
        replace B1 : Bx Y (w.heap.size + 1) #[.string ⟨#[]⟩,.string ⟨#[]⟩,.slice none 0 0,.int .i64 0,.int .i64 0,.bool false] 27 := hY ▸ B1.put' (by omega) _
        replace B0 : Bx Y (w.heap.size) #[.string a,.string b,.slice a2 n1 c2,.int .i64 c,.int .i64 f2,.bool false] 27 := hY ▸ B0.put _
        replace hS : OwnO n w.heap.size l (.slice a2 n1 c2) Y := hY ▸ hS9
        clear hS9
        have hop : OL n [(false,nul,true)] (.slice (some ⟨Y.heap.size,0,none⟩) 1 1) (Y.alloc (.cells #[.int .i64 0,.string ⟨#[]⟩,.bool true] 82)) := Is.one (e := eO) (T := 82) (B := Bs.of n) (cs := [.int .i64 0,.string ⟨#[]⟩,.bool true]) ⟨by show n ≤ _;have := bY.size;omega,fun _ h => h.elim⟩ rfl
        obtain ⟨q5l,q5r,q5p,⟨q5c0,q5c1,q5c2,q5c3,q5c4,q5c5⟩,⟨q5f0,q5f1,q5f2,q5f3,q5f4,q5f5⟩⟩ := B0.d6
        obtain ⟨Y2,hY2⟩ : ∃ Q_ : World,Y.alloc (.cells #[.int .i64 0,.string ⟨#[]⟩,.bool true] 82) = Q_ := ⟨_,rfl⟩
        have aY2 : Below Y.heap.size Y Y2 := hY2 ▸ below1 _ _
        replace hS := Own.stays hS aY2
        replace B0 := B0.stays aY2
        replace B1 := B1.stays aY2
        have bY2 := nx bY aY2
        replace hop := hY2 ▸ hop
        obtain ⟨v',w5,hrun,hS5,hg5,hbl5,_⟩ := Own.append elemO 25 typesO hBo bY2.size hS hop (by simp only [List.length_singleton,hn1];omega) (by decide)
        replace B0 := bx_ownO B0 hS hg5 (by decide)
        replace B1 := bx_ownO B1 hS hg5 (by decide)
        have bw5 := hbl5 _ _ (Nat.le_refl _) bY2
        replace hS := hS5
        obtain ⟨a3,c3,hv'⟩ := (Own.is (by decide) hBo hS).len
        obtain ⟨n3,hn3⟩ : ∃ q,(l ++ [(false,nul,true)]).length = q := ⟨_,rfl⟩
        rw [hn3] at hv'
        subst hv'
        clear hn3 hS5 hg5 hbl5 hop
        obtain ⟨q56l,q56r,q56p,⟨q56c0,q56c1,q56c2,q56c3,q56c4,q56c5⟩,⟨q56f0,q56f1,q56f2,q56f3,q56f4,q56f5⟩⟩ := B0.d6
        have hS9 := Own.keep hBo hS (keeps_setCell 2 (.slice a3 n3 c3) B0 (by decide) (by show n ≤ _;omega))
        obtain ⟨Y3,hY3⟩ : ∃ Q_ : World,w5.setCell ⟨w.heap.size,2,none⟩ (.slice a3 n3 c3) = Q_ := ⟨_,rfl⟩
        have bY3 : Below w.heap.size w Y3 := hY3 ▸ (bw5).trans (low_setCell _ _ (by omega))
        replace B1 : Bx Y3 (w.heap.size + 1) #[.string ⟨#[]⟩,.string ⟨#[]⟩,.slice none 0 0,.int .i64 0,.int .i64 0,.bool false] 27 := hY3 ▸ B1.set' (by omega) _ _
        replace B0 : Bx Y3 (w.heap.size) #[.string a,.string b,.slice a3 n3 c3,.int .i64 c,.int .i64 f2,.bool false] 27 := hY3 ▸ (show Bx (w5.setCell ⟨w.heap.size,2,none⟩ (.slice a3 n3 c3)) (w.heap.size) #[.string a,.string b,.slice a3 n3 c3,.int .i64 c,.int .i64 f2,.bool false] 27 from B0.set 2 (.slice a3 n3 c3))
        replace hS := hY3 ▸ hS9
        clear hS9
        obtain ⟨q57l,q57r,q57p,⟨q57c0,q57c1,q57c2,q57c3,q57c4,q57c5⟩,⟨q57f0,q57f1,q57f2,q57f3,q57f4,q57f5⟩⟩ := B0.d6
        obtain ⟨q58l,q58r,q58p,⟨q58c0,q58c1,q58c2,q58c3,q58c4,q58c5⟩,⟨q58f0,q58f1,q58f2,q58f3,q58f4,q58f5⟩⟩ := B1.d6
        have hS9 := Own.keep hBo hS (keeps_setRow #[.string a,.string b,.slice a3 n3 c3,.int .i64 c,.int .i64 f2,.bool false] B1 (by decide) (by show n ≤ _;omega))
        obtain ⟨U,hU⟩ : ∃ Q_ : World,Y3.setRow (w.heap.size + 1) #[.string a,.string b,.slice a3 n3 c3,.int .i64 c,.int .i64 f2,.bool false] = Q_ := ⟨_,rfl⟩
        have bU : Below w.heap.size w U := hU ▸ (bY3).trans (low_setRow _ (by omega))
        replace B0 : Bx U (w.heap.size) #[.string a,.string b,.slice a3 n3 c3,.int .i64 c,.int .i64 f2,.bool false] 27 := hU ▸ B0.put' (by omega) _
        replace B1 : Bx U (w.heap.size + 1) #[.string a,.string b,.slice a3 n3 c3,.int .i64 c,.int .i64 f2,.bool false] 27 := hU ▸ B1.put _
        replace hS := hU ▸ hS9
        obtain ⟨q59l,q59r,q59p,⟨q59c0,q59c1,q59c2,q59c3,q59c4,q59c5⟩,⟨q59f0,q59f1,q59f2,q59f3,q59f4,q59f5⟩⟩ := B1.d6
        clear hn1
        go_wp2
        refine bodyPost_ret (v := .tuple #[.agg #[.string a,.string b,.slice a3 n3 c3,.int .i64 c,.int .i64 f2,.bool false],.int .i64 0]) (ret_D2 Tryz.results66 _ _ rfl ?_) rfl (Post2.intro HP bU (DV.mk (Own.is (by decide) hBo hS) (Own.cap hS)))
        simp [go_sem, *]
    · by_cases hf0 : f = 0
      · subst hf0
        have HP : Hid (eraP ⟨a,b,l,c,0,false⟩ 1 = (⟨a,b,l,c,0,true⟩,15)) := lH (by unfold eraP;rw [if_neg (by rw [e];simp),doP_no rfl])
        clear e
        obtain ⟨q1l,q1r,q1p,⟨q1c0,q1c1,q1c2,q1c3,q1c4,q1c5⟩,⟨q1f0,q1f1,q1f2,q1f3,q1f4,q1f5⟩⟩ := B0.d6
        go_enter Tryz.func66,Tryz.ntmps66
        go_wp2_with fail
        with_reducible refine (rOwn_any n ⟨a,b,l,c,0,false⟩ _ V (DV.mk (hO.stays bV) hc) (by have := bV.size;omega) HLL.out).mono ?_
        rintro e w1 ⟨o1,rfl,hb1,hS⟩
        replace hS := own_lower hS bV.size
        simp only at hS ⊢
        obtain ⟨a2,c2,rfl⟩ := (Own.is (by decide) hBo hS).len
        rw [hn1] at hS ⊢
        clear q1l q1r q1p q1c0 q1c1 q1c2 q1c3 q1c4 q1c5 q1f0 q1f1 q1f2 q1f3 q1f4 q1f5
        replace B0 := B0.stays hb1
        replace B1 := B1.stays hb1
        have bw1 := nx bV hb1
        obtain ⟨q2l,q2r,q2p,⟨q2c0,q2c1,q2c2,q2c3,q2c4,q2c5⟩,⟨q2f0,q2f1,q2f2,q2f3,q2f4,q2f5⟩⟩ := B0.d6
        have hS9 := Own.keep hBo hS (keeps_setRow #[.string a,.string b,.slice a2 n1 c2,.int .i64 c,.int .i64 0,.bool false] B0 (by decide) (by show n ≤ _;omega))
        obtain ⟨X,hX⟩ : ∃ Q_ : World,w1.setRow (w.heap.size) #[.string a,.string b,.slice a2 n1 c2,.int .i64 c,.int .i64 0,.bool false] = Q_ := ⟨_,rfl⟩
        have bX : Below w.heap.size w X := hX ▸ (bw1).trans (low_setRow _ (by omega))
        replace B1 : Bx X (w.heap.size + 1) #[.string ⟨#[]⟩,.string ⟨#[]⟩,.slice none 0 0,.int .i64 0,.int .i64 0,.bool false] 27 := hX ▸ B1.put' (by omega) _
        replace B0 : Bx X (w.heap.size) #[.string a,.string b,.slice a2 n1 c2,.int .i64 c,.int .i64 0,.bool false] 27 := hX ▸ B0.put _
        replace hS : OwnO n w.heap.size l (.slice a2 n1 c2) X := hX ▸ hS9
        clear hS9
        obtain ⟨q3l,q3r,q3p,⟨q3c0,q3c1,q3c2,q3c3,q3c4,q3c5⟩,⟨q3f0,q3f1,q3f2,q3f3,q3f4,q3f5⟩⟩ := B0.d6
        go_wp2_with fail
        with_reducible refine (rBurn_no a b a2 n1 c2 c false _).mono ?_
        rintro e w4 ⟨rfl,hb4⟩
        clear q2l q2r q2p q2c0 q2c1 q2c2 q2c3 q2c4 q2c5 q2f0 q2f1 q2f2 q2f3 q2f4 q2f5
        clear q3l q3r q3p q3c0 q3c1 q3c2 q3c3 q3c4 q3c5 q3f0 q3f1 q3f2 q3f3 q3f4 q3f5
        replace hS := Own.stays hS hb4
        replace B0 := B0.stays hb4
        replace B1 := B1.stays hb4
        have bw4 := nx bX hb4
        obtain ⟨q4l,q4r,q4p,⟨q4c0,q4c1,q4c2,q4c3,q4c4,q4c5⟩,⟨q4f0,q4f1,q4f2,q4f3,q4f4,q4f5⟩⟩ := B0.d6
        have hS9 := Own.keep hBo hS (keeps_setRow #[.string a,.string b,.slice a2 n1 c2,.int .i64 c,.int .i64 0,.bool true] B0 (by decide) (by show n ≤ _;omega))
        obtain ⟨Y,hY⟩ : ∃ Q_ : World,w4.setRow (w.heap.size) #[.string a,.string b,.slice a2 n1 c2,.int .i64 c,.int .i64 0,.bool true] = Q_ := ⟨_,rfl⟩
        have bY : Below w.heap.size w Y := hY ▸ (bw4).trans (low_setRow _ (by omega))
        replace B1 : Bx Y (w.heap.size + 1) #[.string ⟨#[]⟩,.string ⟨#[]⟩,.slice none 0 0,.int .i64 0,.int .i64 0,.bool false] 27 := hY ▸ B1.put' (by omega) _
        replace B0 : Bx Y (w.heap.size) #[.string a,.string b,.slice a2 n1 c2,.int .i64 c,.int .i64 0,.bool true] 27 := hY ▸ B0.put _
        replace hS : OwnO n w.heap.size l (.slice a2 n1 c2) Y := hY ▸ hS9
        clear hS9
        obtain ⟨q5l,q5r,q5p,⟨q5c0,q5c1,q5c2,q5c3,q5c4,q5c5⟩,⟨q5f0,q5f1,q5f2,q5f3,q5f4,q5f5⟩⟩ := B0.d6
        obtain ⟨q6l,q6r,q6p,⟨q6c0,q6c1,q6c2,q6c3,q6c4,q6c5⟩,⟨q6f0,q6f1,q6f2,q6f3,q6f4,q6f5⟩⟩ := B1.d6
        have hS9 := Own.keep hBo hS (keeps_setRow #[.string a,.string b,.slice a2 n1 c2,.int .i64 c,.int .i64 0,.bool true] B1 (by decide) (by show n ≤ _;omega))
        obtain ⟨U,hU⟩ : ∃ Q_ : World,Y.setRow (w.heap.size + 1) #[.string a,.string b,.slice a2 n1 c2,.int .i64 c,.int .i64 0,.bool true] = Q_ := ⟨_,rfl⟩
        have bU : Below w.heap.size w U := hU ▸ (bY).trans (low_setRow _ (by omega))
        replace B0 : Bx U (w.heap.size) #[.string a,.string b,.slice a2 n1 c2,.int .i64 c,.int .i64 0,.bool true] 27 := hU ▸ B0.put' (by omega) _
        replace B1 : Bx U (w.heap.size + 1) #[.string a,.string b,.slice a2 n1 c2,.int .i64 c,.int .i64 0,.bool true] 27 := hU ▸ B1.put _
        replace hS := hU ▸ hS9
        obtain ⟨q7l,q7r,q7p,⟨q7c0,q7c1,q7c2,q7c3,q7c4,q7c5⟩,⟨q7f0,q7f1,q7f2,q7f3,q7f4,q7f5⟩⟩ := B1.d6
        clear hn1
        go_wp2
        refine bodyPost_ret (v := .tuple #[.agg #[.string a,.string b,.slice a2 n1 c2,.int .i64 c,.int .i64 0,.bool true],.int .i64 15]) (ret_D2 Tryz.results66 _ _ rfl ?_) rfl (Post2.intro HP bU (DV.mk (Own.is (by decide) hBo hS) (Own.cap hS)))
        simp [go_sem, *]
      · obtain ⟨f2,hf2⟩ : ∃ q,max f 0 - 1 = q := ⟨_,rfl⟩
        have HF := lH hf2
        have HP : Hid (eraP ⟨a,b,l,c,f,false⟩ 1 = (⟨a,b,l ++ [(true,nul,true)],c,f2,false⟩,0)) := lH (by unfold eraP;rw [if_neg (by rw [e];simp),doP_yes (d := ⟨a,b,l,c,f,false⟩) hf0 hf2];rfl)
        clear e hf2
        obtain ⟨q1l,q1r,q1p,⟨q1c0,q1c1,q1c2,q1c3,q1c4,q1c5⟩,⟨q1f0,q1f1,q1f2,q1f3,q1f4,q1f5⟩⟩ := B0.d6
        go_enter Tryz.func66,Tryz.ntmps66
        go_wp2_with fail
        with_reducible refine (rOwn_any n ⟨a,b,l,c,f,false⟩ _ V (DV.mk (hO.stays bV) hc) (by have := bV.size;omega) HLL.out).mono ?_
        rintro e w1 ⟨o1,rfl,hb1,hS⟩
        replace hS := own_lower hS bV.size
        simp only at hS ⊢
        obtain ⟨a2,c2,rfl⟩ := (Own.is (by decide) hBo hS).len
        rw [hn1] at hS ⊢
        clear q1l q1r q1p q1c0 q1c1 q1c2 q1c3 q1c4 q1c5 q1f0 q1f1 q1f2 q1f3 q1f4 q1f5
        replace B0 := B0.stays hb1
        replace B1 := B1.stays hb1
        have bw1 := nx bV hb1
        obtain ⟨q2l,q2r,q2p,⟨q2c0,q2c1,q2c2,q2c3,q2c4,q2c5⟩,⟨q2f0,q2f1,q2f2,q2f3,q2f4,q2f5⟩⟩ := B0.d6
        have hS9 := Own.keep hBo hS (keeps_setRow #[.string a,.string b,.slice a2 n1 c2,.int .i64 c,.int .i64 f,.bool false] B0 (by decide) (by show n ≤ _;omega))
        obtain ⟨X,hX⟩ : ∃ Q_ : World,w1.setRow (w.heap.size) #[.string a,.string b,.slice a2 n1 c2,.int .i64 c,.int .i64 f,.bool false] = Q_ := ⟨_,rfl⟩
        have bX : Below w.heap.size w X := hX ▸ (bw1).trans (low_setRow _ (by omega))
        replace B1 : Bx X (w.heap.size + 1) #[.string ⟨#[]⟩,.string ⟨#[]⟩,.slice none 0 0,.int .i64 0,.int .i64 0,.bool false] 27 := hX ▸ B1.put' (by omega) _
        replace B0 : Bx X (w.heap.size) #[.string a,.string b,.slice a2 n1 c2,.int .i64 c,.int .i64 f,.bool false] 27 := hX ▸ B0.put _
        replace hS : OwnO n w.heap.size l (.slice a2 n1 c2) X := hX ▸ hS9
        clear hS9
        obtain ⟨q3l,q3r,q3p,⟨q3c0,q3c1,q3c2,q3c3,q3c4,q3c5⟩,⟨q3f0,q3f1,q3f2,q3f3,q3f4,q3f5⟩⟩ := B0.d6
        go_wp2_with fail
        with_reducible refine (rBurn_yes HF hf0 a b a2 n1 c2 c false _ hf1).mono ?_
        rintro e w4 ⟨rfl,hb4⟩
        clear q2l q2r q2p q2c0 q2c1 q2c2 q2c3 q2c4 q2c5 q2f0 q2f1 q2f2 q2f3 q2f4 q2f5
        clear q3l q3r q3p q3c0 q3c1 q3c2 q3c3 q3c4 q3c5 q3f0 q3f1 q3f2 q3f3 q3f4 q3f5
        replace hS := Own.stays hS hb4
        replace B0 := B0.stays hb4
        replace B1 := B1.stays hb4
        have bw4 := nx bX hb4
        obtain ⟨q4l,q4r,q4p,⟨q4c0,q4c1,q4c2,q4c3,q4c4,q4c5⟩,⟨q4f0,q4f1,q4f2,q4f3,q4f4,q4f5⟩⟩ := B0.d6
        have hS9 := Own.keep hBo hS (keeps_setRow #[.string a,.string b,.slice a2 n1 c2,.int .i64 c,.int .i64 f2,.bool false] B0 (by decide) (by show n ≤ _;omega))
        obtain ⟨Y,hY⟩ : ∃ Q_ : World,w4.setRow (w.heap.size) #[.string a,.string b,.slice a2 n1 c2,.int .i64 c,.int .i64 f2,.bool false] = Q_ := ⟨_,rfl⟩
        have bY : Below w.heap.size w Y := hY ▸ (bw4).trans (low_setRow _ (by omega))
        replace B1 : Bx Y (w.heap.size + 1) #[.string ⟨#[]⟩,.string ⟨#[]⟩,.slice none 0 0,.int .i64 0,.int .i64 0,.bool false] 27 := hY ▸ B1.put' (by omega) _
        replace B0 : Bx Y (w.heap.size) #[.string a,.string b,.slice a2 n1 c2,.int .i64 c,.int .i64 f2,.bool false] 27 := hY ▸ B0.put _
        replace hS : OwnO n w.heap.size l (.slice a2 n1 c2) Y := hY ▸ hS9
        clear hS9
        have hop : OL n [(true,nul,true)] (.slice (some ⟨Y.heap.size,0,none⟩) 1 1) (Y.alloc (.cells #[.int .i64 1,.string ⟨#[]⟩,.bool true] 82)) := Is.one (e := eO) (T := 82) (B := Bs.of n) (cs := [.int .i64 1,.string ⟨#[]⟩,.bool true]) ⟨by show n ≤ _;have := bY.size;omega,fun _ h => h.elim⟩ rfl
        obtain ⟨q5l,q5r,q5p,⟨q5c0,q5c1,q5c2,q5c3,q5c4,q5c5⟩,⟨q5f0,q5f1,q5f2,q5f3,q5f4,q5f5⟩⟩ := B0.d6
        obtain ⟨Y2,hY2⟩ : ∃ Q_ : World,Y.alloc (.cells #[.int .i64 1,.string ⟨#[]⟩,.bool true] 82) = Q_ := ⟨_,rfl⟩
        have aY2 : Below Y.heap.size Y Y2 := hY2 ▸ below1 _ _
        replace hS := Own.stays hS aY2
        replace B0 := B0.stays aY2
        replace B1 := B1.stays aY2
        have bY2 := nx bY aY2
        replace hop := hY2 ▸ hop
        obtain ⟨v',w5,hrun,hS5,hg5,hbl5,_⟩ := Own.append elemO 25 typesO hBo bY2.size hS hop (by simp only [List.length_singleton,hn1];omega) (by decide)
        replace B0 := bx_ownO B0 hS hg5 (by decide)
        replace B1 := bx_ownO B1 hS hg5 (by decide)
        have bw5 := hbl5 _ _ (Nat.le_refl _) bY2
        replace hS := hS5
        obtain ⟨a3,c3,hv'⟩ := (Own.is (by decide) hBo hS).len
        obtain ⟨n3,hn3⟩ : ∃ q,(l ++ [(true,nul,true)]).length = q := ⟨_,rfl⟩
        rw [hn3] at hv'
        subst hv'
        clear hn3 hS5 hg5 hbl5 hop
        obtain ⟨q56l,q56r,q56p,⟨q56c0,q56c1,q56c2,q56c3,q56c4,q56c5⟩,⟨q56f0,q56f1,q56f2,q56f3,q56f4,q56f5⟩⟩ := B0.d6
        have hS9 := Own.keep hBo hS (keeps_setCell 2 (.slice a3 n3 c3) B0 (by decide) (by show n ≤ _;omega))
        obtain ⟨Y3,hY3⟩ : ∃ Q_ : World,w5.setCell ⟨w.heap.size,2,none⟩ (.slice a3 n3 c3) = Q_ := ⟨_,rfl⟩
        have bY3 : Below w.heap.size w Y3 := hY3 ▸ (bw5).trans (low_setCell _ _ (by omega))
        replace B1 : Bx Y3 (w.heap.size + 1) #[.string ⟨#[]⟩,.string ⟨#[]⟩,.slice none 0 0,.int .i64 0,.int .i64 0,.bool false] 27 := hY3 ▸ B1.set' (by omega) _ _
        replace B0 : Bx Y3 (w.heap.size) #[.string a,.string b,.slice a3 n3 c3,.int .i64 c,.int .i64 f2,.bool false] 27 := hY3 ▸ (show Bx (w5.setCell ⟨w.heap.size,2,none⟩ (.slice a3 n3 c3)) (w.heap.size) #[.string a,.string b,.slice a3 n3 c3,.int .i64 c,.int .i64 f2,.bool false] 27 from B0.set 2 (.slice a3 n3 c3))
        replace hS := hY3 ▸ hS9
        clear hS9
        obtain ⟨q57l,q57r,q57p,⟨q57c0,q57c1,q57c2,q57c3,q57c4,q57c5⟩,⟨q57f0,q57f1,q57f2,q57f3,q57f4,q57f5⟩⟩ := B0.d6
        obtain ⟨q58l,q58r,q58p,⟨q58c0,q58c1,q58c2,q58c3,q58c4,q58c5⟩,⟨q58f0,q58f1,q58f2,q58f3,q58f4,q58f5⟩⟩ := B1.d6
        have hS9 := Own.keep hBo hS (keeps_setRow #[.string a,.string b,.slice a3 n3 c3,.int .i64 c,.int .i64 f2,.bool false] B1 (by decide) (by show n ≤ _;omega))
        obtain ⟨U,hU⟩ : ∃ Q_ : World,Y3.setRow (w.heap.size + 1) #[.string a,.string b,.slice a3 n3 c3,.int .i64 c,.int .i64 f2,.bool false] = Q_ := ⟨_,rfl⟩
        have bU : Below w.heap.size w U := hU ▸ (bY3).trans (low_setRow _ (by omega))
        replace B0 : Bx U (w.heap.size) #[.string a,.string b,.slice a3 n3 c3,.int .i64 c,.int .i64 f2,.bool false] 27 := hU ▸ B0.put' (by omega) _
        replace B1 : Bx U (w.heap.size + 1) #[.string a,.string b,.slice a3 n3 c3,.int .i64 c,.int .i64 f2,.bool false] 27 := hU ▸ B1.put _
        replace hS := hU ▸ hS9
        obtain ⟨q59l,q59r,q59p,⟨q59c0,q59c1,q59c2,q59c3,q59c4,q59c5⟩,⟨q59f0,q59f1,q59f2,q59f3,q59f4,q59f5⟩⟩ := B1.d6
        clear hn1
        go_wp2
        refine bodyPost_ret (v := .tuple #[.agg #[.string a,.string b,.slice a3 n3 c3,.int .i64 c,.int .i64 f2,.bool false],.int .i64 0]) (ret_D2 Tryz.results66 _ _ rfl ?_) rfl (Post2.intro HP bU (DV.mk (Own.is (by decide) hBo hS) (Own.cap hS)))
        simp [go_sem, *]
theorem rSync_any (n : Nat) (d : Ds) (v : Value) (w : World) (h : DV n d v w) (hn : n ≤ w.heap.size) (hk : Ok 1000000 1000 d) :
    Calls Tryz.prog 37 #[v] w (Post2 n (synP d) w) := by
  obtain ⟨o,rfl,hO,hc⟩ := h
  obtain ⟨a,b,l,c,f,dn⟩ := d
  simp only at hO ⊢
  obtain ⟨a1,c1,rfl⟩ := hO.len
  obtain ⟨n1,hn1⟩ : ∃ q,l.length = q := ⟨_,rfl⟩
  rw [hn1] at hO hc ⊢
  have HN := lH hn1
  have hBo : (Bs.of n).le w.heap.size := ⟨hn,fun _ h => h.elim⟩
  obtain ⟨V,hV⟩ : ∃ Q_ : World,(w.alloc (.cells #[.string a,.string b,.slice a1 n1 c1,.int .i64 c,.int .i64 f,.bool dn] 27)).alloc (.cells #[.string ⟨#[]⟩,.string ⟨#[]⟩,.slice none 0 0,.int .i64 0,.int .i64 0,.bool false] 27) = Q_ := ⟨_,rfl⟩
  have bV : Below w.heap.size w V := hV ▸ below2 _ _ _
  obtain ⟨B0,B1⟩ : Bx V w.heap.size #[.string a,.string b,.slice a1 n1 c1,.int .i64 c,.int .i64 f,.bool dn] 27 ∧ Bx V (w.heap.size + 1) #[.string ⟨#[]⟩,.string ⟨#[]⟩,.slice none 0 0,.int .i64 0,.int .i64 0,.bool false] 27 := hV ▸ bx2 w _ _ _ _
  have hlc : l.length ≤ 1000 := hk.len
  have HLL : Hid (l.length ≤ 100000) := lH (by omega)
  have hw1 : (⟨a,b,l,c,f,dn⟩ : Ds).wt ≤ 1000000 := hk.wt
  have hf1 : -1 ≤ f ∧ f ≤ 9223372036854775807 := hk.f
  have hc1 : 0 ≤ c ∧ c ≤ 60000 := hk.c
  have hnl : n1 ≤ 1000 := by omega
  clear hk hlc
  cases dn
  · by_cases hf0 : f = 0
    · subst hf0
      have HP : Hid (synP ⟨a,b,l,c,0,false⟩ = (⟨a,b,l,c,0,true⟩,15)) := lH (by simp [synP])
      obtain ⟨q1l,q1r,q1p,⟨q1c0,q1c1,q1c2,q1c3,q1c4,q1c5⟩,⟨q1f0,q1f1,q1f2,q1f3,q1f4,q1f5⟩⟩ := B0.d6
      go_enter Tryz.func37,Tryz.ntmps37
      go_wp2_with fail
      with_reducible refine (rOwn_any n ⟨a,b,l,c,0,false⟩ _ V (DV.mk (hO.stays bV) hc) (by have := bV.size;omega) HLL.out).mono ?_
      rintro e w1 ⟨o1,rfl,hb1,hS⟩
      replace hS := own_lower hS bV.size
      simp only at hS ⊢
      obtain ⟨a2,c2,rfl⟩ := (Own.is (by decide) hBo hS).len
      rw [hn1] at hS ⊢
      clear q1l q1r q1p q1c0 q1c1 q1c2 q1c3 q1c4 q1c5 q1f0 q1f1 q1f2 q1f3 q1f4 q1f5
      replace B0 := B0.stays hb1
      replace B1 := B1.stays hb1
      have bw1 := nx bV hb1
      obtain ⟨q2l,q2r,q2p,⟨q2c0,q2c1,q2c2,q2c3,q2c4,q2c5⟩,⟨q2f0,q2f1,q2f2,q2f3,q2f4,q2f5⟩⟩ := B0.d6
      have hS9 := Own.keep hBo hS (keeps_setRow #[.string a,.string b,.slice a2 n1 c2,.int .i64 c,.int .i64 0,.bool false] B0 (by decide) (by show n ≤ _;omega))
      obtain ⟨X,hX⟩ : ∃ Q_ : World,w1.setRow (w.heap.size) #[.string a,.string b,.slice a2 n1 c2,.int .i64 c,.int .i64 0,.bool false] = Q_ := ⟨_,rfl⟩
      have bX : Below w.heap.size w X := hX ▸ (bw1).trans (low_setRow _ (by omega))
      replace B1 : Bx X (w.heap.size + 1) #[.string ⟨#[]⟩,.string ⟨#[]⟩,.slice none 0 0,.int .i64 0,.int .i64 0,.bool false] 27 := hX ▸ B1.put' (by omega) _
      replace B0 : Bx X (w.heap.size) #[.string a,.string b,.slice a2 n1 c2,.int .i64 c,.int .i64 0,.bool false] 27 := hX ▸ B0.put _
      replace hS : OwnO n w.heap.size l (.slice a2 n1 c2) X := hX ▸ hS9
      clear hS9
      obtain ⟨q3l,q3r,q3p,⟨q3c0,q3c1,q3c2,q3c3,q3c4,q3c5⟩,⟨q3f0,q3f1,q3f2,q3f3,q3f4,q3f5⟩⟩ := B0.d6
      go_wp2_with fail
      with_reducible refine (rBurn_no a b a2 n1 c2 c false _).mono ?_
      rintro e w4 ⟨rfl,hb4⟩
      clear q2l q2r q2p q2c0 q2c1 q2c2 q2c3 q2c4 q2c5 q2f0 q2f1 q2f2 q2f3 q2f4 q2f5
      clear q3l q3r q3p q3c0 q3c1 q3c2 q3c3 q3c4 q3c5 q3f0 q3f1 q3f2 q3f3 q3f4 q3f5
      replace hS := Own.stays hS hb4
      replace B0 := B0.stays hb4
      replace B1 := B1.stays hb4
      have bw4 := nx bX hb4
      obtain ⟨q4l,q4r,q4p,⟨q4c0,q4c1,q4c2,q4c3,q4c4,q4c5⟩,⟨q4f0,q4f1,q4f2,q4f3,q4f4,q4f5⟩⟩ := B0.d6
      have hS9 := Own.keep hBo hS (keeps_setRow #[.string a,.string b,.slice a2 n1 c2,.int .i64 c,.int .i64 0,.bool true] B0 (by decide) (by show n ≤ _;omega))
      obtain ⟨Y,hY⟩ : ∃ Q_ : World,w4.setRow (w.heap.size) #[.string a,.string b,.slice a2 n1 c2,.int .i64 c,.int .i64 0,.bool true] = Q_ := ⟨_,rfl⟩
      have bY : Below w.heap.size w Y := hY ▸ (bw4).trans (low_setRow _ (by omega))
      replace B1 : Bx Y (w.heap.size + 1) #[.string ⟨#[]⟩,.string ⟨#[]⟩,.slice none 0 0,.int .i64 0,.int .i64 0,.bool false] 27 := hY ▸ B1.put' (by omega) _
      replace B0 : Bx Y (w.heap.size) #[.string a,.string b,.slice a2 n1 c2,.int .i64 c,.int .i64 0,.bool true] 27 := hY ▸ B0.put _
      replace hS : OwnO n w.heap.size l (.slice a2 n1 c2) Y := hY ▸ hS9
      clear hS9
      obtain ⟨q5l,q5r,q5p,⟨q5c0,q5c1,q5c2,q5c3,q5c4,q5c5⟩,⟨q5f0,q5f1,q5f2,q5f3,q5f4,q5f5⟩⟩ := B0.d6
      obtain ⟨q6l,q6r,q6p,⟨q6c0,q6c1,q6c2,q6c3,q6c4,q6c5⟩,⟨q6f0,q6f1,q6f2,q6f3,q6f4,q6f5⟩⟩ := B1.d6
      have hS9 := Own.keep hBo hS (keeps_setRow #[.string a,.string b,.slice a2 n1 c2,.int .i64 c,.int .i64 0,.bool true] B1 (by decide) (by show n ≤ _;omega))
      obtain ⟨U,hU⟩ : ∃ Q_ : World,Y.setRow (w.heap.size + 1) #[.string a,.string b,.slice a2 n1 c2,.int .i64 c,.int .i64 0,.bool true] = Q_ := ⟨_,rfl⟩
      have bU : Below w.heap.size w U := hU ▸ (bY).trans (low_setRow _ (by omega))
      replace B0 : Bx U (w.heap.size) #[.string a,.string b,.slice a2 n1 c2,.int .i64 c,.int .i64 0,.bool true] 27 := hU ▸ B0.put' (by omega) _
      replace B1 : Bx U (w.heap.size + 1) #[.string a,.string b,.slice a2 n1 c2,.int .i64 c,.int .i64 0,.bool true] 27 := hU ▸ B1.put _
      replace hS := hU ▸ hS9
      obtain ⟨q7l,q7r,q7p,⟨q7c0,q7c1,q7c2,q7c3,q7c4,q7c5⟩,⟨q7f0,q7f1,q7f2,q7f3,q7f4,q7f5⟩⟩ := B1.d6
      clear hn1
      go_wp2
      refine bodyPost_ret (v := .tuple #[.agg #[.string a,.string b,.slice a2 n1 c2,.int .i64 c,.int .i64 0,.bool true],.int .i64 15]) (ret_D2 Tryz.results37 _ _ rfl ?_) rfl (Post2.intro HP bU (DV.mk (Own.is (by decide) hBo hS) (Own.cap hS)))
      simp [go_sem, *]
    · obtain ⟨f2,hf2⟩ : ∃ q,max f 0 - 1 = q := ⟨_,rfl⟩
      have HF := lH hf2
      obtain ⟨⟨s1,s2⟩,hs⟩ : ∃ q,Ds.now ⟨a,b,l,c,f,false⟩ = q := ⟨_,rfl⟩
      have HNW : Hid (Ds.now ⟨a,b,l,c,f2,false⟩ = (s1,s2)) := lH hs
      have HP : Hid (synP ⟨a,b,l,c,f,false⟩ = (⟨s1,s2,[],c,f2,false⟩,0)) := lH (by simp only [synP];rw [if_neg (by simp),if_neg hf0,hf2,hs])
      have hw2 : (⟨a,b,l,c,f2,false⟩ : Ds).wt ≤ 1000000 := hw1
      clear hf2 hs
      obtain ⟨q1l,q1r,q1p,⟨q1c0,q1c1,q1c2,q1c3,q1c4,q1c5⟩,⟨q1f0,q1f1,q1f2,q1f3,q1f4,q1f5⟩⟩ := B0.d6
      go_enter Tryz.func37,Tryz.ntmps37
      go_wp2_with fail
      with_reducible refine (rOwn_any n ⟨a,b,l,c,f,false⟩ _ V (DV.mk (hO.stays bV) hc) (by have := bV.size;omega) HLL.out).mono ?_
      rintro e w1 ⟨o1,rfl,hb1,hS⟩
      replace hS := own_lower hS bV.size
      simp only at hS ⊢
      obtain ⟨a2,c2,rfl⟩ := (Own.is (by decide) hBo hS).len
      rw [hn1] at hS ⊢
      clear q1l q1r q1p q1c0 q1c1 q1c2 q1c3 q1c4 q1c5 q1f0 q1f1 q1f2 q1f3 q1f4 q1f5
      replace B0 := B0.stays hb1
      replace B1 := B1.stays hb1
      have bw1 := nx bV hb1
      obtain ⟨q2l,q2r,q2p,⟨q2c0,q2c1,q2c2,q2c3,q2c4,q2c5⟩,⟨q2f0,q2f1,q2f2,q2f3,q2f4,q2f5⟩⟩ := B0.d6
      have hS9 := Own.keep hBo hS (keeps_setRow #[.string a,.string b,.slice a2 n1 c2,.int .i64 c,.int .i64 f,.bool false] B0 (by decide) (by show n ≤ _;omega))
      obtain ⟨X,hX⟩ : ∃ Q_ : World,w1.setRow (w.heap.size) #[.string a,.string b,.slice a2 n1 c2,.int .i64 c,.int .i64 f,.bool false] = Q_ := ⟨_,rfl⟩
      have bX : Below w.heap.size w X := hX ▸ (bw1).trans (low_setRow _ (by omega))
      replace B1 : Bx X (w.heap.size + 1) #[.string ⟨#[]⟩,.string ⟨#[]⟩,.slice none 0 0,.int .i64 0,.int .i64 0,.bool false] 27 := hX ▸ B1.put' (by omega) _
      replace B0 : Bx X (w.heap.size) #[.string a,.string b,.slice a2 n1 c2,.int .i64 c,.int .i64 f,.bool false] 27 := hX ▸ B0.put _
      replace hS : OwnO n w.heap.size l (.slice a2 n1 c2) X := hX ▸ hS9
      clear hS9
      obtain ⟨q3l,q3r,q3p,⟨q3c0,q3c1,q3c2,q3c3,q3c4,q3c5⟩,⟨q3f0,q3f1,q3f2,q3f3,q3f4,q3f5⟩⟩ := B0.d6
      go_wp2_with fail
      with_reducible refine (rBurn_yes HF hf0 a b a2 n1 c2 c false _ hf1).mono ?_
      rintro e w4 ⟨rfl,hb4⟩
      clear q2l q2r q2p q2c0 q2c1 q2c2 q2c3 q2c4 q2c5 q2f0 q2f1 q2f2 q2f3 q2f4 q2f5
      clear q3l q3r q3p q3c0 q3c1 q3c2 q3c3 q3c4 q3c5 q3f0 q3f1 q3f2 q3f3 q3f4 q3f5
      replace hS := Own.stays hS hb4
      replace B0 := B0.stays hb4
      replace B1 := B1.stays hb4
      have bw4 := nx bX hb4
      obtain ⟨q4l,q4r,q4p,⟨q4c0,q4c1,q4c2,q4c3,q4c4,q4c5⟩,⟨q4f0,q4f1,q4f2,q4f3,q4f4,q4f5⟩⟩ := B0.d6
      have hS9 := Own.keep hBo hS (keeps_setRow #[.string a,.string b,.slice a2 n1 c2,.int .i64 c,.int .i64 f2,.bool false] B0 (by decide) (by show n ≤ _;omega))
      obtain ⟨Y,hY⟩ : ∃ Q_ : World,w4.setRow (w.heap.size) #[.string a,.string b,.slice a2 n1 c2,.int .i64 c,.int .i64 f2,.bool false] = Q_ := ⟨_,rfl⟩
      have bY : Below w.heap.size w Y := hY ▸ (bw4).trans (low_setRow _ (by omega))
      replace B1 : Bx Y (w.heap.size + 1) #[.string ⟨#[]⟩,.string ⟨#[]⟩,.slice none 0 0,.int .i64 0,.int .i64 0,.bool false] 27 := hY ▸ B1.put' (by omega) _
      replace B0 : Bx Y (w.heap.size) #[.string a,.string b,.slice a2 n1 c2,.int .i64 c,.int .i64 f2,.bool false] 27 := hY ▸ B0.put _
      replace hS : OwnO n w.heap.size l (.slice a2 n1 c2) Y := hY ▸ hS9
      clear hS9
      obtain ⟨q5l,q5r,q5p,⟨q5c0,q5c1,q5c2,q5c3,q5c4,q5c5⟩,⟨q5f0,q5f1,q5f2,q5f3,q5f4,q5f5⟩⟩ := B0.d6
      go_wp2_with fail
      with_reducible refine (rNow_is HNW (d := ⟨a,b,l,c,f2,false⟩) (DV.mk (Own.is (by decide) hBo hS) (Own.cap hS)) hw2 (Nat.le_trans HLL.out (by decide))).mono ?_
      rintro e w6 ⟨rfl,hb6⟩
      simp only
      clear q4l q4r q4p q4c0 q4c1 q4c2 q4c3 q4c4 q4c5 q4f0 q4f1 q4f2 q4f3 q4f4 q4f5
      clear q5l q5r q5p q5c0 q5c1 q5c2 q5c3 q5c4 q5c5 q5f0 q5f1 q5f2 q5f3 q5f4 q5f5
      replace B0 := B0.stays hb6
      replace B1 := B1.stays hb6
      have bw6 := nx bY hb6
      obtain ⟨q6l,q6r,q6p,⟨q6c0,q6c1,q6c2,q6c3,q6c4,q6c5⟩,⟨q6f0,q6f1,q6f2,q6f3,q6f4,q6f5⟩⟩ := B0.d6
      obtain ⟨Z1,hZ1⟩ : ∃ Q_ : World,w6.setCell ⟨w.heap.size,0,none⟩ (.string s1) = Q_ := ⟨_,rfl⟩
      have bZ1 : Below w.heap.size w Z1 := hZ1 ▸ (bw6).trans (low_setCell _ _ (by omega))
      replace B1 : Bx Z1 (w.heap.size + 1) #[.string ⟨#[]⟩,.string ⟨#[]⟩,.slice none 0 0,.int .i64 0,.int .i64 0,.bool false] 27 := hZ1 ▸ B1.set' (by omega) _ _
      replace B0 : Bx Z1 (w.heap.size) #[.string s1,.string b,.slice a2 n1 c2,.int .i64 c,.int .i64 f2,.bool false] 27 := hZ1 ▸ (show Bx (w6.setCell ⟨w.heap.size,0,none⟩ (.string s1)) (w.heap.size) #[.string s1,.string b,.slice a2 n1 c2,.int .i64 c,.int .i64 f2,.bool false] 27 from B0.set 0 (.string s1))
      obtain ⟨q7l,q7r,q7p,⟨q7c0,q7c1,q7c2,q7c3,q7c4,q7c5⟩,⟨q7f0,q7f1,q7f2,q7f3,q7f4,q7f5⟩⟩ := B0.d6
      obtain ⟨Z2,hZ2⟩ : ∃ Q_ : World,Z1.setCell ⟨w.heap.size,1,none⟩ (.string s2) = Q_ := ⟨_,rfl⟩
      have bZ2 : Below w.heap.size w Z2 := hZ2 ▸ (bZ1).trans (low_setCell _ _ (by omega))
      replace B1 : Bx Z2 (w.heap.size + 1) #[.string ⟨#[]⟩,.string ⟨#[]⟩,.slice none 0 0,.int .i64 0,.int .i64 0,.bool false] 27 := hZ2 ▸ B1.set' (by omega) _ _
      replace B0 : Bx Z2 (w.heap.size) #[.string s1,.string s2,.slice a2 n1 c2,.int .i64 c,.int .i64 f2,.bool false] 27 := hZ2 ▸ (show Bx (Z1.setCell ⟨w.heap.size,1,none⟩ (.string s2)) (w.heap.size) #[.string s1,.string s2,.slice a2 n1 c2,.int .i64 c,.int .i64 f2,.bool false] 27 from B0.set 1 (.string s2))
      obtain ⟨q8l,q8r,q8p,⟨q8c0,q8c1,q8c2,q8c3,q8c4,q8c5⟩,⟨q8f0,q8f1,q8f2,q8f3,q8f4,q8f5⟩⟩ := B0.d6
      obtain ⟨Z3,hZ3⟩ : ∃ Q_ : World,Z2.setCell ⟨w.heap.size,2,none⟩ (.slice none 0 0) = Q_ := ⟨_,rfl⟩
      have bZ3 : Below w.heap.size w Z3 := hZ3 ▸ (bZ2).trans (low_setCell _ _ (by omega))
      replace B1 : Bx Z3 (w.heap.size + 1) #[.string ⟨#[]⟩,.string ⟨#[]⟩,.slice none 0 0,.int .i64 0,.int .i64 0,.bool false] 27 := hZ3 ▸ B1.set' (by omega) _ _
      replace B0 : Bx Z3 (w.heap.size) #[.string s1,.string s2,.slice none 0 0,.int .i64 c,.int .i64 f2,.bool false] 27 := hZ3 ▸ (show Bx (Z2.setCell ⟨w.heap.size,2,none⟩ (.slice none 0 0)) (w.heap.size) #[.string s1,.string s2,.slice none 0 0,.int .i64 c,.int .i64 f2,.bool false] 27 from B0.set 2 (.slice none 0 0))
      obtain ⟨q9l,q9r,q9p,⟨q9c0,q9c1,q9c2,q9c3,q9c4,q9c5⟩,⟨q9f0,q9f1,q9f2,q9f3,q9f4,q9f5⟩⟩ := B0.d6
      obtain ⟨q10l,q10r,q10p,⟨q10c0,q10c1,q10c2,q10c3,q10c4,q10c5⟩,⟨q10f0,q10f1,q10f2,q10f3,q10f4,q10f5⟩⟩ := B1.d6
      obtain ⟨U,hU⟩ : ∃ Q_ : World,Z3.setRow (w.heap.size + 1) #[.string s1,.string s2,.slice none 0 0,.int .i64 c,.int .i64 f2,.bool false] = Q_ := ⟨_,rfl⟩
      have bU : Below w.heap.size w U := hU ▸ (bZ3).trans (low_setRow _ (by omega))
      replace B0 : Bx U (w.heap.size) #[.string s1,.string s2,.slice none 0 0,.int .i64 c,.int .i64 f2,.bool false] 27 := hU ▸ B0.put' (by omega) _
      replace B1 : Bx U (w.heap.size + 1) #[.string s1,.string s2,.slice none 0 0,.int .i64 c,.int .i64 f2,.bool false] 27 := hU ▸ B1.put _
      obtain ⟨q11l,q11r,q11p,⟨q11c0,q11c1,q11c2,q11c3,q11c4,q11c5⟩,⟨q11f0,q11f1,q11f2,q11f3,q11f4,q11f5⟩⟩ := B1.d6
      clear hn1
      go_wp2
      refine bodyPost_ret (v := .tuple #[.agg #[.string s1,.string s2,.slice none 0 0,.int .i64 c,.int .i64 f2,.bool false],.int .i64 0]) (ret_D2 Tryz.results37 _ _ rfl ?_) rfl (Post2.intro HP bU (DV.mk (Is.nil _ _ _ _) (Nat.le_refl 0)))
      simp [go_sem, *]
  · have HP : Hid (synP ⟨a,b,l,c,f,true⟩ = (⟨a,b,l,c,f,true⟩,15)) := lH rfl
    obtain ⟨q1l,q1r,q1p,⟨q1c0,q1c1,q1c2,q1c3,q1c4,q1c5⟩,⟨q1f0,q1f1,q1f2,q1f3,q1f4,q1f5⟩⟩ := B0.d6
    go_enter Tryz.func37,Tryz.ntmps37
    go_wp2_with fail
    with_reducible refine (rOwn_any n ⟨a,b,l,c,f,true⟩ _ V (DV.mk (hO.stays bV) hc) (by have := bV.size;omega) HLL.out).mono ?_
    rintro e w1 ⟨o1,rfl,hb1,hS⟩
    replace hS := own_lower hS bV.size
    simp only at hS ⊢
    obtain ⟨a2,c2,rfl⟩ := (Own.is (by decide) hBo hS).len
    rw [hn1] at hS ⊢
    clear q1l q1r q1p q1c0 q1c1 q1c2 q1c3 q1c4 q1c5 q1f0 q1f1 q1f2 q1f3 q1f4 q1f5
    replace B0 := B0.stays hb1
    replace B1 := B1.stays hb1
    have bw1 := nx bV hb1
    obtain ⟨q2l,q2r,q2p,⟨q2c0,q2c1,q2c2,q2c3,q2c4,q2c5⟩,⟨q2f0,q2f1,q2f2,q2f3,q2f4,q2f5⟩⟩ := B0.d6
    have hS9 := Own.keep hBo hS (keeps_setRow #[.string a,.string b,.slice a2 n1 c2,.int .i64 c,.int .i64 f,.bool true] B0 (by decide) (by show n ≤ _;omega))
    obtain ⟨X,hX⟩ : ∃ Q_ : World,w1.setRow (w.heap.size) #[.string a,.string b,.slice a2 n1 c2,.int .i64 c,.int .i64 f,.bool true] = Q_ := ⟨_,rfl⟩
    have bX : Below w.heap.size w X := hX ▸ (bw1).trans (low_setRow _ (by omega))
    replace B1 : Bx X (w.heap.size + 1) #[.string ⟨#[]⟩,.string ⟨#[]⟩,.slice none 0 0,.int .i64 0,.int .i64 0,.bool false] 27 := hX ▸ B1.put' (by omega) _
    replace B0 : Bx X (w.heap.size) #[.string a,.string b,.slice a2 n1 c2,.int .i64 c,.int .i64 f,.bool true] 27 := hX ▸ B0.put _
    replace hS : OwnO n w.heap.size l (.slice a2 n1 c2) X := hX ▸ hS9
    clear hS9
    obtain ⟨q3l,q3r,q3p,⟨q3c0,q3c1,q3c2,q3c3,q3c4,q3c5⟩,⟨q3f0,q3f1,q3f2,q3f3,q3f4,q3f5⟩⟩ := B0.d6
    obtain ⟨q4l,q4r,q4p,⟨q4c0,q4c1,q4c2,q4c3,q4c4,q4c5⟩,⟨q4f0,q4f1,q4f2,q4f3,q4f4,q4f5⟩⟩ := B1.d6
    have hS9 := Own.keep hBo hS (keeps_setRow #[.string a,.string b,.slice a2 n1 c2,.int .i64 c,.int .i64 f,.bool true] B1 (by decide) (by show n ≤ _;omega))
    obtain ⟨U,hU⟩ : ∃ Q_ : World,X.setRow (w.heap.size + 1) #[.string a,.string b,.slice a2 n1 c2,.int .i64 c,.int .i64 f,.bool true] = Q_ := ⟨_,rfl⟩
    have bU : Below w.heap.size w U := hU ▸ (bX).trans (low_setRow _ (by omega))
    replace B0 : Bx U (w.heap.size) #[.string a,.string b,.slice a2 n1 c2,.int .i64 c,.int .i64 f,.bool true] 27 := hU ▸ B0.put' (by omega) _
    replace B1 : Bx U (w.heap.size + 1) #[.string a,.string b,.slice a2 n1 c2,.int .i64 c,.int .i64 f,.bool true] 27 := hU ▸ B1.put _
    replace hS := hU ▸ hS9
    obtain ⟨q5l,q5r,q5p,⟨q5c0,q5c1,q5c2,q5c3,q5c4,q5c5⟩,⟨q5f0,q5f1,q5f2,q5f3,q5f4,q5f5⟩⟩ := B1.d6
    clear hn1
    go_wp2
    refine bodyPost_ret (v := .tuple #[.agg #[.string a,.string b,.slice a2 n1 c2,.int .i64 c,.int .i64 f,.bool true],.int .i64 15]) (ret_D2 Tryz.results37 _ _ rfl ?_) rfl (Post2.intro HP bU (DV.mk (Own.is (by decide) hBo hS) (Own.cap hS)))
    simp [go_sem, *]
end Go.Proofs.YtnnbjhpkgndclaaGreatDoor.Dk
