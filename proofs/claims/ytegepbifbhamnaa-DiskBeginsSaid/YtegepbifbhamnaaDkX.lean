/- Of the statements of layer 14: DiskBegins. -/
import Derived.Test.YtegepbifbhamnaaDkW
namespace Go.Proofs.Ytegepbifbhamnaa.Dk
open Go.RowKit
set_option linter.unusedVariables false
open Go.Proofs.Ytegepbifbhamnaa.Rw
open Go.Proofs.Ytegepbifbhamnaa.Da
theorem str_add {a b : ByteArray} (h : a.size + b.size ≤ 1000000000) (u : World) : (Op.stringOp .add a b).run Try.prog u = .ok (.string (a ++ b)) u := by
  have h2 : ¬ (((a.size + b.size : Nat) : Int) > IntKind.i64.max) := by
    have : IntKind.i64.max = 9223372036854775807 := rfl
    omega
  unfold Op.stringOp
  simp only
  rw [if_neg h2]; rfl
theorem newB : newP 50000 = ⟨e0, e0, [], 50000, -1, false⟩ := by kernel_rfl
theorem now_le {W L : Nat} {d : Ds} (h : Ok W L d) : d.now.1.size + d.now.2.size ≤ W := Nat.le_trans (now_wt d) h.wt
set_option maxRecDepth 8000 in
set_option maxHeartbeats 32000000 in
theorem walkBegins (l : List Op5) (v : Value) (keep torn : Int) (w : World) (h : CL (Bs.of w.heap.size) l v w) (hwf : wfCs l) {P : Prop} (_ : P) {Q : Prop} (_ : Q) :
    Calls Try.prog 4 #[v, .int .i64 keep, .int .i64 torn] w fun e w' => e = .returned (.bool true) ∧ Below w.heap.size w w' := by
  have hlm : l.length ≤ maxLen := hwf.1
  obtain ⟨q, hq⟩ : ∃ q, farB l = q := ⟨_, rfl⟩
  have HQ := Lib.hid hq
  have HCL := Lib.hid (show ∀ u, Below w.heap.size w u → CL (Bs.of w.heap.size) l v u from fun u hu => Is.stays eC 31 h hu)
  have HWF := Lib.hid hwf
  cases q
  · have hfn := far_no hq
    obtain ⟨n, hn⟩ : ∃ n, n = w.heap.size := ⟨_, rfl⟩
    have hn0 : n ≤ w.heap.size := by omega
    clear hq hn hwf
    obtain ⟨n1, hn1⟩ : ∃ n, l.length = n := ⟨_, rfl⟩
    obtain ⟨a0, c0, rfl⟩ := h.len
    rw [hn1] at h HCL
    have HN := Lib.hid hn1
    have hl100 : n1 ≤ 100 := by omega
    have hwc : wc l ≤ 40000 := hfn.2
    rw [hn1]
    clear hfn hn1
    go_enter Try.func4, Try.ntmps4
    go_wp2_with fail
    with_reducible refine (far_is HQ (by rw [← HN.out] at h; exact HN.out ▸ h) hlm).mono ?_
    rintro e w1 ⟨rfl, hb1⟩
    go_wp2_with fail
    refine (new_any n 50000 w1 (by have := hb1.size; omega)).mono ?_
    rintro e w2 ⟨v2, rfl, hb2, h2⟩
    rw [newB] at h2
    obtain ⟨o2, rfl, hO2, hc2⟩ := h2
    simp only at hO2 ⊢
    have hok : Ok (wc (l.take 0)) 0 ⟨e0, e0, [], 50000, -1, false⟩ := newB ▸ (Ok.newP 50000).mono (Nat.zero_le _) (Nat.le_refl 0)
    have bw2 := nx hb1 hb2
    obtain ⟨p, hp⟩ : ∃ p, p = w2.heap.size := ⟨_, rfl⟩
    have hp0 : w.heap.size ≤ p := by have := bw2.size; omega
    obtain ⟨a2, c2, rfl⟩ := hO2.len
    obtain ⟨n2, hn2⟩ : ∃ q, ([] : List Do).length = q := ⟨_, rfl⟩
    rw [hn2] at hO2 hc2 ⊢
    obtain ⟨V, hV⟩ : ∃ Q_ : World, (((w2.alloc (.cells #[.string e0, .string e0, .slice a2 n2 c2, .int .i64 50000, .int .i64 (-1), .bool false] 28)).alloc (.cells #[.string e0, .string e0] 25)).alloc (.cells #[.string e0, .string e0] 25)).alloc (.cells #[.int .i64 0, .int .i64 0, .int .i64 0, .int .i64 0, .string ⟨#[]⟩] 31) = Q_ := ⟨_, rfl⟩
    obtain ⟨B7, B8, B9⟩ : Bx V p #[.string e0, .string e0, .slice a2 n2 c2, .int .i64 50000, .int .i64 (-1), .bool false] 28 ∧ Bx V (p + 1) #[.string e0, .string e0] 25 ∧ Bx V (p + 2) #[.string e0, .string e0] 25 := by
      rw [← hV, hp]
      exact ⟨(bx3 w2 _ _ _ _ _ _).1.alloc _, (bx3 w2 _ _ _ _ _ _).2.1.alloc _, (bx3 w2 _ _ _ _ _ _).2.2.alloc _⟩
    have B10 : Bx V (p + 3) #[.int .i64 0, .int .i64 0, .int .i64 0, .int .i64 0, .string ⟨#[]⟩] 31 := by rw [← hV, hp]; exact Bx.at (by simp) _ _
    have bV2 : Below w2.heap.size w2 V := hV ▸ below4 _ _ _ _ _
    have HBG : Hid (Bg n p (p + 1) (p + 3) (p + 2) ⟨e0, e0, [], 50000, -1, false⟩ (.slice (some ⟨p + 2, 0, none⟩) 1 1) V) := Lib.hid ⟨⟨_, B7, hO2.stays bV2, hc2⟩, B8, ⟨(0, 0, 0, 0, e0), B10⟩, ownZ_one (e0, e0) (Nat.le_refl _) B9⟩
    have bV := nx bw2 bV2
    have HOK := Lib.hid hok
    have HP := Lib.hid hp
    have hV' := hV
    clear hok hO2 hc2 hn2 hb1 hb2 B7 B8 B9 B10 bV2 hp hV'
    go_wp2
    rw [← HP.out]
    obtain ⟨p8, hp8⟩ : ∃ q, q = p + 1 := ⟨_, rfl⟩
    obtain ⟨p10, hp10⟩ : ∃ q, q = p + 3 := ⟨_, rfl⟩
    obtain ⟨Bo, hbo⟩ : ∃ q, q = p + 2 := ⟨_, rfl⟩
    have hA1 : p + 1 + 1 = Bo := by omega
    have hA2 : Bo + 1 = p10 := by omega
    have i1 : p < p8 := by omega
    have i2 : p8 < Bo := by omega
    have i3 : Bo < p10 := by omega
    have HBG2 : Hid (Bg n p p8 p10 Bo ⟨e0, e0, [], 50000, -1, false⟩ (.slice (some ⟨Bo, 0, none⟩) 1 1) V) := Lib.hid (by rw [hp8, hp10, hbo]; exact HBG.out)
    have hBo : (Bz n p8).le Bo := Bz.le (by omega) i2
    rw [hA1, hA2, ← hp8]
    clear HBG hA1 hA2 hp8 hp10 hbo hV
    go_loopw [9, 11, 39] (fun sv0 m i wr => ∃ (k n3 : Nat) (d : Ds) (sv : Value), sv = sv0 ∧ k ≤ n1 ∧ i = .int .i64 k ∧ m = .int .i64 (n3 : Nat) ∧ d.l.length = n3 ∧ Ok (wc (l.take k)) k d ∧ d.n = false ∧ d.f = -1 ∧ Bg n p p8 p10 Bo d sv wr ∧ Below w.heap.size w wr) (fun _ _ i _ => n1 - (intOf i).toNat)
    case atStart => exact ⟨0, 0, _, _, rfl, Nat.zero_le _, rfl, rfl, rfl, HOK.out, rfl, rfl, HBG2.out, bV⟩
    case round =>
      clear HOK HBG2 bw2 bV
      obtain ⟨k, n3, d, sv, rfl, hk, rfl, rfl, hn3, hok, hdn, hdf, hB, hb⟩ := hrel
      by_cases hlt : k < n1
      · have hlt2 : (k : Int) < n1 := by omega
        have hkl : k < l.length := by rw [HN.out]; exact hlt
        have hcl := HCL.out wr hb
        rcases hcl.cases with ⟨e, _⟩ | ⟨_, bb, off, cc, e, hat⟩
        · rw [e] at hkl; cases hkl
        simp only [Value.slice.injEq] at e
        obtain ⟨rfl, -, rfl⟩ := e
        obtain ⟨y0, y1, y2, y3, y4⟩ := atC hat k hkl
        have hwt := wc_take hkl
        have hwl := wc_le l (k + 1)
        have hmw := mem_wf HWF.out k hkl
        obtain ⟨⟨o1, o2, o3, o4, o5⟩, hs⟩ : ∃ s, l[k] = s := ⟨_, rfl⟩
        rw [hs] at y0 y1 y2 y3 y4 hwt hmw
        simp only at y0 y1 y2 y3 y4 hwt hmw
        have hok1 : Ok (wc (l.take (k + 1))) (k + 1) d := hok.mono (by omega) (by omega)
        have hokd : Ok 1000000 1000 d := hok.mono (by have := wc_le l k; omega) (by omega)
        have HSK := Lib.hid (show ∀ u, Below wr.heap.size wr u → Bg n p p8 p10 Bo d sv u from fun u hu => hB.stays hu)
        have HOK1 := Lib.hid hok1
        have HOKD := Lib.hid hokd
        have HDF := Lib.hid hdf
        have HDN := Lib.hid hdn
        have hx5 : o5.size ≤ 40000 := by omega
        have hstep : Ok (wc (l.take (k + 1))) (k + 1) (stepP d (o1, o2, o3, o4, o5)).1 := by rw [hwt]; exact hok.stepP (o1, o2, o3, o4, o5) hmw
        have HSTEP := Lib.hid hstep
        have hnw := now_le hokd
        obtain ⟨a8, c8, hsv⟩ := (Own.is (by decide) hBo hB.st).len
        have hhl := hist_len d
        rw [hhl] at hsv
        obtain ⟨⟨o, B0, hO, hc⟩, BZ, ⟨ol, BL⟩, hS⟩ := hB
        obtain ⟨ol1, ol2, ol3, ol4, ol5⟩ := ol
        simp only at BL
        obtain ⟨s1, hs1⟩ : ∃ q, d.now.1 = q := ⟨_, rfl⟩
        obtain ⟨s2, hs2⟩ : ∃ q, d.now.2 = q := ⟨_, rfl⟩
        rw [hs1, hs2] at BZ hnw
        have HS1 := Lib.hid hs1
        have HS2 := Lib.hid hs2
        have HSV := Lib.hid hsv
        obtain ⟨a, b, ll, c, f, dn⟩ := d
        simp only at B0 hO hdf hdn
        subst hdf hdn
        obtain ⟨a3, c3, rfl⟩ := hO.len
        simp only at hn3
        rw [hn3] at B0 hO hc
        obtain ⟨hl, hhl2⟩ : ∃ q, hist ⟨a, b, ll, c, -1, false⟩ = q := ⟨_, rfl⟩
        rw [hhl2] at hS
        have HHL := Lib.hid hhl2
        simp only at hsv
        rw [hn3] at hsv
        have HN3 := Lib.hid hn3
        have j7 := B0.lt
        have j8 := BZ.lt
        have j10 := BL.lt
        have hwr := hb.size
        have hbd : n3 ≤ 1000 := by rw [← hn3]; exact hokd.len
        clear hcl hat hs hwt hwl hmw hok1 hokd hok hstep hs1 hs2 hhl hhl2 hn3
        subst hsv
        by_cases hr : 0 ≤ o1 ∧ o1 ≤ 2
        · obtain rfl | rfl | rfl : o1 = 0 ∨ o1 = 1 ∨ o1 = 2 := by omega
          all_goals clear hr
          · obtain ⟨W, hW⟩ : ∃ Q_ : World, wr.alloc (.cells #[.int .i64 0, .int .i64 o2, .int .i64 o3, .int .i64 o4, .string o5] 31) = Q_ := ⟨_, rfl⟩
            have aW : Below wr.heap.size wr W := hW ▸ below1 _ _
            have B13 : Bx W (wr.heap.size) #[.int .i64 0, .int .i64 o2, .int .i64 o3, .int .i64 o4, .string o5] 31 := hW ▸ Bx.at (by first | rfl | omega) _ _
            replace B0 := B0.stays aW
            replace BZ := BZ.stays aW
            replace BL := BL.stays aW
            replace hO := hO.stays aW
            have bW := nx hb aW
            replace hS := Own.stays hS aW
            obtain ⟨r, hr⟩ : ∃ r, stepP ⟨a, b, ll, c, -1, false⟩ (0, o2, o3, o4, o5) = r := ⟨_, rfl⟩
            have hok9 := HSTEP.out
            rw [hr] at hok9
            have HOK9 := Lib.hid hok9
            have HR := Lib.hid hr
            have hE : r.2 = 0 → (o2 = 0 ∨ o2 = 1) ∧ r = (⟨a, b, ll ++ [(o2 == 1, o5, false)], c, -1, false⟩, 0) := fun h9 => by rw [← hr] at h9 ⊢; exact step0 rfl h9
            have HE := Lib.hid hE
            clear hr hE hok9
            obtain ⟨q1l, q1r, q1p, ⟨q1c0, q1c1, q1c2, q1c3, q1c4, q1c5⟩, ⟨q1f0, q1f1, q1f2, q1f3, q1f4, q1f5⟩⟩ := B0.d6
            obtain ⟨q2l, q2r, q2p, ⟨q2c0, q2c1, q2c2, q2c3, q2c4⟩⟩ := B13.d5
            have hnW : n ≤ W.heap.size := by have := aW.size; omega
            go_wp2_with fail
            with_reducible refine (step_is HR (DV.mk hO hc) hnW HOKD.out (by omega)).mono ?_
            rintro e w3 ⟨v3, rfl, hb3, o9, rfl, hO9, hc9⟩
            obtain ⟨⟨a4, b4, l4, c4, f4, dn4⟩, k4⟩ := r
            simp only at hO9 ⊢
            obtain ⟨a9, c9, rfl⟩ := hO9.len
            obtain ⟨n9, hn9⟩ : ∃ q, l4.length = q := ⟨_, rfl⟩
            rw [hn9] at hO9 hc9 ⊢
            have HN9 := Lib.hid hn9
            clear hn9
            clear q1l q1r q1p q1c0 q1c1 q1c2 q1c3 q1c4 q1c5 q1f0 q1f1 q1f2 q1f3 q1f4 q1f5
            clear q2l q2r q2p q2c0 q2c1 q2c2 q2c3 q2c4
            replace hS := Own.stays hS hb3
            replace B0 := B0.stays hb3
            replace BZ := BZ.stays hb3
            replace BL := BL.stays hb3
            replace B13 := B13.stays hb3
            replace hO := hO.stays hb3
            have bw3 := nx bW hb3
            have j3 := hb3.size
            have jW := aW.size
            have j13 := B13.lt
            obtain ⟨X, hX⟩ : ∃ Q_ : World, w3.alloc (.cells #[.string a4, .string b4, .slice a9 n9 c9, .int .i64 c4, .int .i64 f4, .bool dn4] 28) = Q_ := ⟨_, rfl⟩
            have aX : Below w3.heap.size w3 X := hX ▸ below1 _ _
            have B14 : Bx X (w3.heap.size) #[.string a4, .string b4, .slice a9 n9 c9, .int .i64 c4, .int .i64 f4, .bool dn4] 28 := hX ▸ Bx.at (by first | rfl | omega) _ _
            replace B0 := B0.stays aX
            replace BZ := BZ.stays aX
            replace BL := BL.stays aX
            replace B13 := B13.stays aX
            replace hO := hO.stays aX
            replace hO9 := hO9.stays aX
            have bX := nx bw3 aX
            replace hS := Own.stays hS aX
            have jX := aX.size
            have bwX : Below wr.heap.size wr X := nx aW (nx hb3 aX)
            by_cases h4 : k4 = 0
            · subst h4
              obtain ⟨hz, he⟩ := HE.out rfl
              have HY : Hid ((⟨a4, b4, l4, c4, f4, dn4⟩ : Ds) = ⟨a, b, ll ++ [(o2 == 1, o5, false)], c, -1, false⟩) := Lib.hid (congrArg Prod.fst he)
              clear he
              rcases hz with rfl | rfl
              · obtain ⟨q3l, q3r, q3p, ⟨q3c0, q3c1, q3c2, q3c3, q3c4, q3c5⟩, ⟨q3f0, q3f1, q3f2, q3f3, q3f4, q3f5⟩⟩ := B0.d6
                obtain ⟨q4l, q4r, q4p, ⟨q4c0, q4c1, q4c2, q4c3, q4c4, q4c5⟩, ⟨q4f0, q4f1, q4f2, q4f3, q4f4, q4f5⟩⟩ := B14.d6
                have hS9 := OwnZ.put hS hBo B0 (by decide) (by omega) #[.string a4, .string b4, .slice a9 n9 c9, .int .i64 c4, .int .i64 f4, .bool dn4]
                obtain ⟨Y1, hY1⟩ : ∃ Q_ : World, X.setRow (p) #[.string a4, .string b4, .slice a9 n9 c9, .int .i64 c4, .int .i64 f4, .bool dn4] = Q_ := ⟨_, rfl⟩
                have bY1 : Below w.heap.size w Y1 := hY1 ▸ (bX).trans (low_setRow _ (by omega))
                replace hO : OL n ll (.slice a3 n3 c3) Y1 := hY1 ▸ hO.keep (keeps_setRow _ B0 (by decide) (by show n ≤ _; omega))
                replace hO9 : OL n l4 (.slice a9 n9 c9) Y1 := hY1 ▸ hO9.keep (keeps_setRow _ B0 (by decide) (by show n ≤ _; omega))
                replace BZ : Bx Y1 (p8) #[.string s1, .string s2] 25 := hY1 ▸ BZ.put' (by omega) _
                replace BL : Bx Y1 (p10) #[.int .i64 ol1, .int .i64 ol2, .int .i64 ol3, .int .i64 ol4, .string ol5] 31 := hY1 ▸ BL.put' (by omega) _
                replace B13 : Bx Y1 (wr.heap.size) #[.int .i64 0, .int .i64 0, .int .i64 o3, .int .i64 o4, .string o5] 31 := hY1 ▸ B13.put' (by omega) _
                replace B14 : Bx Y1 (w3.heap.size) #[.string a4, .string b4, .slice a9 n9 c9, .int .i64 c4, .int .i64 f4, .bool dn4] 28 := hY1 ▸ B14.put' (by omega) _
                replace B0 : Bx Y1 (p) #[.string a4, .string b4, .slice a9 n9 c9, .int .i64 c4, .int .i64 f4, .bool dn4] 28 := hY1 ▸ B0.put _
                replace hS : OwnZ n p8 Bo hl (.slice a8 (n3 + 1) c8) Y1 := hY1 ▸ hS9
                clear hS9
                obtain ⟨q5l, q5r, q5p, ⟨q5c0, q5c1, q5c2, q5c3, q5c4⟩⟩ := B13.d5
                obtain ⟨q6l, q6r, q6p, ⟨q6c0, q6c1⟩, ⟨q6f0, q6f1⟩⟩ := BZ.d2
                obtain ⟨q5, hq5⟩ : ∃ q, s1 ++ o5 = q := ⟨_, rfl⟩
                have hadd : ∀ u, (Op.stringOp .add s1 o5).run Try.prog u = .ok (.string q5) u := fun u => by rw [← hq5]; exact str_add (by omega) u
                have HQ5 := Lib.hid hq5
                clear hq5
                have hS9 := OwnZ.setZ hS hBo (by omega) 0 (.string q5)
                obtain ⟨Y2a, hY2a⟩ : ∃ Q_ : World, Y1.setCell ⟨p8, 0, none⟩ (.string q5) = Q_ := ⟨_, rfl⟩
                have bY2a : Below w.heap.size w Y2a := hY2a ▸ (bY1).trans (low_setCell _ _ (by omega))
                replace hO : OL n ll (.slice a3 n3 c3) Y2a := hY2a ▸ hO.keep (keeps_setCell _ _ BZ (by decide) (by show n ≤ _; omega))
                replace hO9 : OL n l4 (.slice a9 n9 c9) Y2a := hY2a ▸ hO9.keep (keeps_setCell _ _ BZ (by decide) (by show n ≤ _; omega))
                replace B0 : Bx Y2a (p) #[.string a4, .string b4, .slice a9 n9 c9, .int .i64 c4, .int .i64 f4, .bool dn4] 28 := hY2a ▸ B0.set' (by omega) _ _
                replace BL : Bx Y2a (p10) #[.int .i64 ol1, .int .i64 ol2, .int .i64 ol3, .int .i64 ol4, .string ol5] 31 := hY2a ▸ BL.set' (by omega) _ _
                replace B13 : Bx Y2a (wr.heap.size) #[.int .i64 0, .int .i64 0, .int .i64 o3, .int .i64 o4, .string o5] 31 := hY2a ▸ B13.set' (by omega) _ _
                replace B14 : Bx Y2a (w3.heap.size) #[.string a4, .string b4, .slice a9 n9 c9, .int .i64 c4, .int .i64 f4, .bool dn4] 28 := hY2a ▸ B14.set' (by omega) _ _
                replace BZ : Bx Y2a (p8) #[.string q5, .string s2] 25 := hY2a ▸ (show Bx (Y1.setCell ⟨p8, 0, none⟩ (.string q5)) (p8) #[.string q5, .string s2] 25 from BZ.set 0 (.string q5))
                replace hS : OwnZ n p8 Bo hl (.slice a8 (n3 + 1) c8) Y2a := hY2a ▸ hS9
                clear hS9
                obtain ⟨Y2, hY2⟩ : ∃ Q_ : World, Y2a.drew = Q_ := ⟨_, rfl⟩
                have aY2 : Below Y2a.heap.size Y2a Y2 := hY2 ▸ (Below.refl _ _).drew
                replace hS := Own.stays hS aY2
                replace B0 := B0.stays aY2
                replace BZ := BZ.stays aY2
                replace BL := BL.stays aY2
                replace B13 := B13.stays aY2
                replace B14 := B14.stays aY2
                replace hO := hO.stays aY2
                replace hO9 := hO9.stays aY2
                have bY2 := nx bY2a aY2
                obtain ⟨q7l, q7r, q7p, ⟨q7c0, q7c1⟩, ⟨q7f0, q7f1⟩⟩ := BZ.d2
                obtain ⟨q8l, q8r, q8p, ⟨q8c0, q8c1, q8c2, q8c3, q8c4⟩⟩ := B13.d5
                have jB : Bo ≤ Y2.heap.size := by have := BZ.lt; have := BL.lt; omega
                have hxz : IsZ n p8 [(q5, s2)] (.slice (some ⟨Y2.heap.size, 0, none⟩) 1 1) (Y2.alloc (.cells #[.string q5, .string s2] 25)) := isZ_one (q5, s2) (Bz.le (by omega) (by omega))
                obtain ⟨Y3, hY3⟩ : ∃ Q_ : World, Y2.alloc (.cells #[.string q5, .string s2] 25) = Q_ := ⟨_, rfl⟩
                have aY3 : Below Y2.heap.size Y2 Y3 := hY3 ▸ below1 _ _
                replace hS := Own.stays hS aY3
                replace B0 := B0.stays aY3
                replace BZ := BZ.stays aY3
                replace BL := BL.stays aY3
                replace B13 := B13.stays aY3
                replace B14 := B14.stays aY3
                replace hO := hO.stays aY3
                replace hO9 := hO9.stays aY3
                have bY3 := nx bY2 aY3
                replace hxz := hY3 ▸ hxz
                obtain ⟨v', w5, hrun, hS5, hg5, hbl5, _⟩ := Own.append elemZ 45 typesZ hBo (by have := aY3.size; omega) hS hxz (by have h9 := hist_len ⟨a, b, ll, c, -1, false⟩; rw [HHL.out] at h9; simp only [HN3.out] at h9; simp only [List.length_singleton]; omega) (by decide)
                have C7 := bx_ownZ B0 hS hg5 (.inl (by decide))
                have CZ := bx_ownZ BZ hS hg5 (.inr (by omega))
                have CL0 := bx_ownZ BL hS hg5 (.inl (by decide))
                have C13' := bx_ownZ B13 hS hg5 (.inl (by decide))
                have CO := ol_ownZ hO9 (by omega) hS hg5
                have bw5 : Below w.heap.size w w5 := hbl5 _ _ (by omega) bY3
                obtain ⟨a11, c11, hv'⟩ := (Own.is (by decide) hBo hS5).len
                obtain ⟨m11, hm11⟩ : ∃ q, (hl ++ [(q5, s2)]).length = q := ⟨_, rfl⟩
                rw [hm11] at hv'
                subst hv'
                clear hm11 hxz hbl5 hg5 hS hO hO9 B0 BZ BL B13
                have hS := hS5
                obtain ⟨q9l, q9r, q9p, ⟨q9c0, q9c1, q9c2, q9c3, q9c4⟩⟩ := C13'.d5
                obtain ⟨q10l, q10r, q10p, ⟨q10c0, q10c1, q10c2, q10c3, q10c4⟩⟩ := CL0.d5
                have hS9 := OwnZ.put hS hBo CL0 (by decide) (by omega) #[.int .i64 0, .int .i64 0, .int .i64 o3, .int .i64 o4, .string o5]
                obtain ⟨Z, hZ⟩ : ∃ Q_ : World, w5.setRow (p10) #[.int .i64 0, .int .i64 0, .int .i64 o3, .int .i64 o4, .string o5] = Q_ := ⟨_, rfl⟩
                have bZ : Below w.heap.size w Z := hZ ▸ (bw5).trans (low_setRow _ (by omega))
                replace CO : OL n l4 (.slice a9 n9 c9) Z := hZ ▸ CO.keep (keeps_setRow _ CL0 (by decide) (by show n ≤ _; omega))
                replace C7 : Bx Z (p) #[.string a4, .string b4, .slice a9 n9 c9, .int .i64 c4, .int .i64 f4, .bool dn4] 28 := hZ ▸ C7.put' (by omega) _
                replace CZ : Bx Z (p8) #[.string q5, .string s2] 25 := hZ ▸ CZ.put' (by omega) _
                replace C13' : Bx Z (wr.heap.size) #[.int .i64 0, .int .i64 0, .int .i64 o3, .int .i64 o4, .string o5] 31 := hZ ▸ C13'.put' (by omega) _
                replace CL0 : Bx Z (p10) #[.int .i64 0, .int .i64 0, .int .i64 o3, .int .i64 o4, .string o5] 31 := hZ ▸ CL0.put _
                replace hS : OwnZ n p8 Bo (hl ++ [(q5, s2)]) (.slice a11 m11 c11) Z := hZ ▸ hS9
                clear hS9
                have hy : (⟨a4, b4, l4, c4, f4, dn4⟩ : Ds) = ⟨a, b, ll ++ [(false, o5, false)], c, -1, false⟩ := HY.out
                have hnow : fin (a, b) (ll ++ [(false, o5, false)]) = (q5, s2) := by
                  rw [fin_snoc]
                  show done (Ds.now ⟨a, b, ll, c, -1, false⟩) (false, o5, false) = _
                  have h1 := HS1.out
                  have h2 := HS2.out
                  simp only [done, h1, h2, HQ5.out]
                have HB : Hid (Bg n p p8 p10 Bo ⟨a4, b4, l4, c4, f4, dn4⟩ (.slice a11 m11 c11) Z) := Lib.hid (by
                  refine ⟨⟨_, C7, CO, hc9⟩, ?_, ⟨(0, 0, o3, o4, o5), CL0⟩, ?_⟩
                  · rw [hy]; show Bx Z p8 #[.string (fin (a, b) (ll ++ [(false, o5, false)])).1, .string (fin (a, b) (ll ++ [(false, o5, false)])).2] _; rw [hnow]; exact CZ
                  · rw [hy, hist_snoc a b ll (false, o5, false) c (-1) c (-1) false false, HHL.out, hnow]; exact hS)
                have HLN : Hid (l4.length = n3 + 1) := Lib.hid (by have h9 := congrArg (fun d => d.l.length) hy; simp only [List.length_append, List.length_singleton, HN3.out] at h9; exact h9)
                have HDN4 : Hid (dn4 = false) := Lib.hid (congrArg (fun d => d.n) hy)
                have HDF4 : Hid (f4 = -1) := Lib.hid (congrArg (fun d => d.f) hy)
                clear hy hnow
                go_wp2
                go_region
                go_wp2
                go_roundw
                case rel => first | exact ⟨k + 1, n3 + 1, ⟨a4, b4, l4, c4, f4, dn4⟩, _, rfl, by omega, by go_num, by go_num, HLN.out, HOK9.out, HDN4.out, HDF4.out, HB.out, bZ⟩ | ((repeat apply Exists.intro); exact ⟨⟨k + 1, n3 + 1, ⟨a4, b4, l4, c4, f4, dn4⟩, _, rfl, by omega, by go_num, by go_num, HLN.out, HOK9.out, HDN4.out, HDF4.out, HB.out, bZ⟩, rfl⟩)
                case measure => simp [intOf]; omega
              · obtain ⟨q3l, q3r, q3p, ⟨q3c0, q3c1, q3c2, q3c3, q3c4, q3c5⟩, ⟨q3f0, q3f1, q3f2, q3f3, q3f4, q3f5⟩⟩ := B0.d6
                obtain ⟨q4l, q4r, q4p, ⟨q4c0, q4c1, q4c2, q4c3, q4c4, q4c5⟩, ⟨q4f0, q4f1, q4f2, q4f3, q4f4, q4f5⟩⟩ := B14.d6
                have hS9 := OwnZ.put hS hBo B0 (by decide) (by omega) #[.string a4, .string b4, .slice a9 n9 c9, .int .i64 c4, .int .i64 f4, .bool dn4]
                obtain ⟨Y1, hY1⟩ : ∃ Q_ : World, X.setRow (p) #[.string a4, .string b4, .slice a9 n9 c9, .int .i64 c4, .int .i64 f4, .bool dn4] = Q_ := ⟨_, rfl⟩
                have bY1 : Below w.heap.size w Y1 := hY1 ▸ (bX).trans (low_setRow _ (by omega))
                replace hO : OL n ll (.slice a3 n3 c3) Y1 := hY1 ▸ hO.keep (keeps_setRow _ B0 (by decide) (by show n ≤ _; omega))
                replace hO9 : OL n l4 (.slice a9 n9 c9) Y1 := hY1 ▸ hO9.keep (keeps_setRow _ B0 (by decide) (by show n ≤ _; omega))
                replace BZ : Bx Y1 (p8) #[.string s1, .string s2] 25 := hY1 ▸ BZ.put' (by omega) _
                replace BL : Bx Y1 (p10) #[.int .i64 ol1, .int .i64 ol2, .int .i64 ol3, .int .i64 ol4, .string ol5] 31 := hY1 ▸ BL.put' (by omega) _
                replace B13 : Bx Y1 (wr.heap.size) #[.int .i64 0, .int .i64 1, .int .i64 o3, .int .i64 o4, .string o5] 31 := hY1 ▸ B13.put' (by omega) _
                replace B14 : Bx Y1 (w3.heap.size) #[.string a4, .string b4, .slice a9 n9 c9, .int .i64 c4, .int .i64 f4, .bool dn4] 28 := hY1 ▸ B14.put' (by omega) _
                replace B0 : Bx Y1 (p) #[.string a4, .string b4, .slice a9 n9 c9, .int .i64 c4, .int .i64 f4, .bool dn4] 28 := hY1 ▸ B0.put _
                replace hS : OwnZ n p8 Bo hl (.slice a8 (n3 + 1) c8) Y1 := hY1 ▸ hS9
                clear hS9
                obtain ⟨q5l, q5r, q5p, ⟨q5c0, q5c1, q5c2, q5c3, q5c4⟩⟩ := B13.d5
                obtain ⟨q6l, q6r, q6p, ⟨q6c0, q6c1⟩, ⟨q6f0, q6f1⟩⟩ := BZ.d2
                obtain ⟨q5, hq5⟩ : ∃ q, s2 ++ o5 = q := ⟨_, rfl⟩
                have hadd : ∀ u, (Op.stringOp .add s2 o5).run Try.prog u = .ok (.string q5) u := fun u => by rw [← hq5]; exact str_add (by omega) u
                have HQ5 := Lib.hid hq5
                clear hq5
                have hS9 := OwnZ.setZ hS hBo (by omega) 1 (.string q5)
                obtain ⟨Y2a, hY2a⟩ : ∃ Q_ : World, Y1.setCell ⟨p8, 1, none⟩ (.string q5) = Q_ := ⟨_, rfl⟩
                have bY2a : Below w.heap.size w Y2a := hY2a ▸ (bY1).trans (low_setCell _ _ (by omega))
                replace hO : OL n ll (.slice a3 n3 c3) Y2a := hY2a ▸ hO.keep (keeps_setCell _ _ BZ (by decide) (by show n ≤ _; omega))
                replace hO9 : OL n l4 (.slice a9 n9 c9) Y2a := hY2a ▸ hO9.keep (keeps_setCell _ _ BZ (by decide) (by show n ≤ _; omega))
                replace B0 : Bx Y2a (p) #[.string a4, .string b4, .slice a9 n9 c9, .int .i64 c4, .int .i64 f4, .bool dn4] 28 := hY2a ▸ B0.set' (by omega) _ _
                replace BL : Bx Y2a (p10) #[.int .i64 ol1, .int .i64 ol2, .int .i64 ol3, .int .i64 ol4, .string ol5] 31 := hY2a ▸ BL.set' (by omega) _ _
                replace B13 : Bx Y2a (wr.heap.size) #[.int .i64 0, .int .i64 1, .int .i64 o3, .int .i64 o4, .string o5] 31 := hY2a ▸ B13.set' (by omega) _ _
                replace B14 : Bx Y2a (w3.heap.size) #[.string a4, .string b4, .slice a9 n9 c9, .int .i64 c4, .int .i64 f4, .bool dn4] 28 := hY2a ▸ B14.set' (by omega) _ _
                replace BZ : Bx Y2a (p8) #[.string s1, .string q5] 25 := hY2a ▸ (show Bx (Y1.setCell ⟨p8, 1, none⟩ (.string q5)) (p8) #[.string s1, .string q5] 25 from BZ.set 1 (.string q5))
                replace hS : OwnZ n p8 Bo hl (.slice a8 (n3 + 1) c8) Y2a := hY2a ▸ hS9
                clear hS9
                obtain ⟨Y2, hY2⟩ : ∃ Q_ : World, Y2a.drew = Q_ := ⟨_, rfl⟩
                have aY2 : Below Y2a.heap.size Y2a Y2 := hY2 ▸ (Below.refl _ _).drew
                replace hS := Own.stays hS aY2
                replace B0 := B0.stays aY2
                replace BZ := BZ.stays aY2
                replace BL := BL.stays aY2
                replace B13 := B13.stays aY2
                replace B14 := B14.stays aY2
                replace hO := hO.stays aY2
                replace hO9 := hO9.stays aY2
                have bY2 := nx bY2a aY2
                obtain ⟨q7l, q7r, q7p, ⟨q7c0, q7c1⟩, ⟨q7f0, q7f1⟩⟩ := BZ.d2
                obtain ⟨q8l, q8r, q8p, ⟨q8c0, q8c1, q8c2, q8c3, q8c4⟩⟩ := B13.d5
                have jB : Bo ≤ Y2.heap.size := by have := BZ.lt; have := BL.lt; omega
                have hxz : IsZ n p8 [(s1, q5)] (.slice (some ⟨Y2.heap.size, 0, none⟩) 1 1) (Y2.alloc (.cells #[.string s1, .string q5] 25)) := isZ_one (s1, q5) (Bz.le (by omega) (by omega))
                obtain ⟨Y3, hY3⟩ : ∃ Q_ : World, Y2.alloc (.cells #[.string s1, .string q5] 25) = Q_ := ⟨_, rfl⟩
                have aY3 : Below Y2.heap.size Y2 Y3 := hY3 ▸ below1 _ _
                replace hS := Own.stays hS aY3
                replace B0 := B0.stays aY3
                replace BZ := BZ.stays aY3
                replace BL := BL.stays aY3
                replace B13 := B13.stays aY3
                replace B14 := B14.stays aY3
                replace hO := hO.stays aY3
                replace hO9 := hO9.stays aY3
                have bY3 := nx bY2 aY3
                replace hxz := hY3 ▸ hxz
                obtain ⟨v', w5, hrun, hS5, hg5, hbl5, _⟩ := Own.append elemZ 45 typesZ hBo (by have := aY3.size; omega) hS hxz (by have h9 := hist_len ⟨a, b, ll, c, -1, false⟩; rw [HHL.out] at h9; simp only [HN3.out] at h9; simp only [List.length_singleton]; omega) (by decide)
                have C7 := bx_ownZ B0 hS hg5 (.inl (by decide))
                have CZ := bx_ownZ BZ hS hg5 (.inr (by omega))
                have CL0 := bx_ownZ BL hS hg5 (.inl (by decide))
                have C13' := bx_ownZ B13 hS hg5 (.inl (by decide))
                have CO := ol_ownZ hO9 (by omega) hS hg5
                have bw5 : Below w.heap.size w w5 := hbl5 _ _ (by omega) bY3
                obtain ⟨a11, c11, hv'⟩ := (Own.is (by decide) hBo hS5).len
                obtain ⟨m11, hm11⟩ : ∃ q, (hl ++ [(s1, q5)]).length = q := ⟨_, rfl⟩
                rw [hm11] at hv'
                subst hv'
                clear hm11 hxz hbl5 hg5 hS hO hO9 B0 BZ BL B13
                have hS := hS5
                obtain ⟨q9l, q9r, q9p, ⟨q9c0, q9c1, q9c2, q9c3, q9c4⟩⟩ := C13'.d5
                obtain ⟨q10l, q10r, q10p, ⟨q10c0, q10c1, q10c2, q10c3, q10c4⟩⟩ := CL0.d5
                have hS9 := OwnZ.put hS hBo CL0 (by decide) (by omega) #[.int .i64 0, .int .i64 1, .int .i64 o3, .int .i64 o4, .string o5]
                obtain ⟨Z, hZ⟩ : ∃ Q_ : World, w5.setRow (p10) #[.int .i64 0, .int .i64 1, .int .i64 o3, .int .i64 o4, .string o5] = Q_ := ⟨_, rfl⟩
                have bZ : Below w.heap.size w Z := hZ ▸ (bw5).trans (low_setRow _ (by omega))
                replace CO : OL n l4 (.slice a9 n9 c9) Z := hZ ▸ CO.keep (keeps_setRow _ CL0 (by decide) (by show n ≤ _; omega))
                replace C7 : Bx Z (p) #[.string a4, .string b4, .slice a9 n9 c9, .int .i64 c4, .int .i64 f4, .bool dn4] 28 := hZ ▸ C7.put' (by omega) _
                replace CZ : Bx Z (p8) #[.string s1, .string q5] 25 := hZ ▸ CZ.put' (by omega) _
                replace C13' : Bx Z (wr.heap.size) #[.int .i64 0, .int .i64 1, .int .i64 o3, .int .i64 o4, .string o5] 31 := hZ ▸ C13'.put' (by omega) _
                replace CL0 : Bx Z (p10) #[.int .i64 0, .int .i64 1, .int .i64 o3, .int .i64 o4, .string o5] 31 := hZ ▸ CL0.put _
                replace hS : OwnZ n p8 Bo (hl ++ [(s1, q5)]) (.slice a11 m11 c11) Z := hZ ▸ hS9
                clear hS9
                have hy : (⟨a4, b4, l4, c4, f4, dn4⟩ : Ds) = ⟨a, b, ll ++ [(true, o5, false)], c, -1, false⟩ := HY.out
                have hnow : fin (a, b) (ll ++ [(true, o5, false)]) = (s1, q5) := by
                  rw [fin_snoc]
                  show done (Ds.now ⟨a, b, ll, c, -1, false⟩) (true, o5, false) = _
                  have h1 := HS1.out
                  have h2 := HS2.out
                  simp only [done, h1, h2, HQ5.out]
                have HB : Hid (Bg n p p8 p10 Bo ⟨a4, b4, l4, c4, f4, dn4⟩ (.slice a11 m11 c11) Z) := Lib.hid (by
                  refine ⟨⟨_, C7, CO, hc9⟩, ?_, ⟨(0, 1, o3, o4, o5), CL0⟩, ?_⟩
                  · rw [hy]; show Bx Z p8 #[.string (fin (a, b) (ll ++ [(true, o5, false)])).1, .string (fin (a, b) (ll ++ [(true, o5, false)])).2] _; rw [hnow]; exact CZ
                  · rw [hy, hist_snoc a b ll (true, o5, false) c (-1) c (-1) false false, HHL.out, hnow]; exact hS)
                have HLN : Hid (l4.length = n3 + 1) := Lib.hid (by have h9 := congrArg (fun d => d.l.length) hy; simp only [List.length_append, List.length_singleton, HN3.out] at h9; exact h9)
                have HDN4 : Hid (dn4 = false) := Lib.hid (congrArg (fun d => d.n) hy)
                have HDF4 : Hid (f4 = -1) := Lib.hid (congrArg (fun d => d.f) hy)
                clear hy hnow
                go_wp2
                go_region
                go_wp2
                go_roundw
                case rel => first | exact ⟨k + 1, n3 + 1, ⟨a4, b4, l4, c4, f4, dn4⟩, _, rfl, by omega, by go_num, by go_num, HLN.out, HOK9.out, HDN4.out, HDF4.out, HB.out, bZ⟩ | ((repeat apply Exists.intro); exact ⟨⟨k + 1, n3 + 1, ⟨a4, b4, l4, c4, f4, dn4⟩, _, rfl, by omega, by go_num, by go_num, HLN.out, HOK9.out, HDN4.out, HDF4.out, HB.out, bZ⟩, rfl⟩)
                case measure => simp [intOf]; omega
            · have g4 : (k4 != 0) = true := by simpa using h4
              clear h4
              obtain ⟨q3l, q3r, q3p, ⟨q3c0, q3c1, q3c2, q3c3, q3c4⟩⟩ := B13.d5
              have HB := Lib.hid (HSK.out _ (bwX))
              go_wp2
              all_goals
                go_roundw
                case rel => first | exact ⟨k + 1, n3, ⟨a, b, ll, c, -1, false⟩, _, rfl, by omega, by go_num, rfl, HN3.out, HOK1.out, rfl, rfl, HB.out, bX⟩ | ((repeat apply Exists.intro); exact ⟨⟨k + 1, n3, ⟨a, b, ll, c, -1, false⟩, _, rfl, by omega, by go_num, rfl, HN3.out, HOK1.out, rfl, rfl, HB.out, bX⟩, rfl⟩)
                case measure => simp [intOf]; omega
          · obtain ⟨W, hW⟩ : ∃ Q_ : World, wr.alloc (.cells #[.int .i64 1, .int .i64 o2, .int .i64 o3, .int .i64 o4, .string o5] 31) = Q_ := ⟨_, rfl⟩
            have aW : Below wr.heap.size wr W := hW ▸ below1 _ _
            have B13 : Bx W (wr.heap.size) #[.int .i64 1, .int .i64 o2, .int .i64 o3, .int .i64 o4, .string o5] 31 := hW ▸ Bx.at (by first | rfl | omega) _ _
            replace B0 := B0.stays aW
            replace BZ := BZ.stays aW
            replace BL := BL.stays aW
            replace hO := hO.stays aW
            have bW := nx hb aW
            replace hS := Own.stays hS aW
            obtain ⟨r, hr⟩ : ∃ r, stepP ⟨a, b, ll, c, -1, false⟩ (1, o2, o3, o4, o5) = r := ⟨_, rfl⟩
            have hok9 := HSTEP.out
            rw [hr] at hok9
            have HOK9 := Lib.hid hok9
            have HR := Lib.hid hr
            have hE : r.2 = 0 → (o2 = 0 ∨ o2 = 1) ∧ r = (⟨a, b, ll ++ [(o2 == 1, nul, true)], c, -1, false⟩, 0) := fun h9 => by rw [← hr] at h9 ⊢; exact step1 rfl h9
            have HE := Lib.hid hE
            clear hr hE hok9
            obtain ⟨q1l, q1r, q1p, ⟨q1c0, q1c1, q1c2, q1c3, q1c4, q1c5⟩, ⟨q1f0, q1f1, q1f2, q1f3, q1f4, q1f5⟩⟩ := B0.d6
            obtain ⟨q2l, q2r, q2p, ⟨q2c0, q2c1, q2c2, q2c3, q2c4⟩⟩ := B13.d5
            have hnW : n ≤ W.heap.size := by have := aW.size; omega
            go_wp2_with fail
            with_reducible refine (step_is HR (DV.mk hO hc) hnW HOKD.out (by omega)).mono ?_
            rintro e w3 ⟨v3, rfl, hb3, o9, rfl, hO9, hc9⟩
            obtain ⟨⟨a4, b4, l4, c4, f4, dn4⟩, k4⟩ := r
            simp only at hO9 ⊢
            obtain ⟨a9, c9, rfl⟩ := hO9.len
            obtain ⟨n9, hn9⟩ : ∃ q, l4.length = q := ⟨_, rfl⟩
            rw [hn9] at hO9 hc9 ⊢
            have HN9 := Lib.hid hn9
            clear hn9
            clear q1l q1r q1p q1c0 q1c1 q1c2 q1c3 q1c4 q1c5 q1f0 q1f1 q1f2 q1f3 q1f4 q1f5
            clear q2l q2r q2p q2c0 q2c1 q2c2 q2c3 q2c4
            replace hS := Own.stays hS hb3
            replace B0 := B0.stays hb3
            replace BZ := BZ.stays hb3
            replace BL := BL.stays hb3
            replace B13 := B13.stays hb3
            replace hO := hO.stays hb3
            have bw3 := nx bW hb3
            have j3 := hb3.size
            have jW := aW.size
            have j13 := B13.lt
            obtain ⟨X, hX⟩ : ∃ Q_ : World, w3.alloc (.cells #[.string a4, .string b4, .slice a9 n9 c9, .int .i64 c4, .int .i64 f4, .bool dn4] 28) = Q_ := ⟨_, rfl⟩
            have aX : Below w3.heap.size w3 X := hX ▸ below1 _ _
            have B14 : Bx X (w3.heap.size) #[.string a4, .string b4, .slice a9 n9 c9, .int .i64 c4, .int .i64 f4, .bool dn4] 28 := hX ▸ Bx.at (by first | rfl | omega) _ _
            replace B0 := B0.stays aX
            replace BZ := BZ.stays aX
            replace BL := BL.stays aX
            replace B13 := B13.stays aX
            replace hO := hO.stays aX
            replace hO9 := hO9.stays aX
            have bX := nx bw3 aX
            replace hS := Own.stays hS aX
            have jX := aX.size
            have bwX : Below wr.heap.size wr X := nx aW (nx hb3 aX)
            by_cases h4 : k4 = 0
            · subst h4
              obtain ⟨hz, he⟩ := HE.out rfl
              have HY : Hid ((⟨a4, b4, l4, c4, f4, dn4⟩ : Ds) = ⟨a, b, ll ++ [(o2 == 1, nul, true)], c, -1, false⟩) := Lib.hid (congrArg Prod.fst he)
              clear he
              rcases hz with rfl | rfl
              · obtain ⟨q3l, q3r, q3p, ⟨q3c0, q3c1, q3c2, q3c3, q3c4, q3c5⟩, ⟨q3f0, q3f1, q3f2, q3f3, q3f4, q3f5⟩⟩ := B0.d6
                obtain ⟨q4l, q4r, q4p, ⟨q4c0, q4c1, q4c2, q4c3, q4c4, q4c5⟩, ⟨q4f0, q4f1, q4f2, q4f3, q4f4, q4f5⟩⟩ := B14.d6
                have hS9 := OwnZ.put hS hBo B0 (by decide) (by omega) #[.string a4, .string b4, .slice a9 n9 c9, .int .i64 c4, .int .i64 f4, .bool dn4]
                obtain ⟨Y1, hY1⟩ : ∃ Q_ : World, X.setRow (p) #[.string a4, .string b4, .slice a9 n9 c9, .int .i64 c4, .int .i64 f4, .bool dn4] = Q_ := ⟨_, rfl⟩
                have bY1 : Below w.heap.size w Y1 := hY1 ▸ (bX).trans (low_setRow _ (by omega))
                replace hO : OL n ll (.slice a3 n3 c3) Y1 := hY1 ▸ hO.keep (keeps_setRow _ B0 (by decide) (by show n ≤ _; omega))
                replace hO9 : OL n l4 (.slice a9 n9 c9) Y1 := hY1 ▸ hO9.keep (keeps_setRow _ B0 (by decide) (by show n ≤ _; omega))
                replace BZ : Bx Y1 (p8) #[.string s1, .string s2] 25 := hY1 ▸ BZ.put' (by omega) _
                replace BL : Bx Y1 (p10) #[.int .i64 ol1, .int .i64 ol2, .int .i64 ol3, .int .i64 ol4, .string ol5] 31 := hY1 ▸ BL.put' (by omega) _
                replace B13 : Bx Y1 (wr.heap.size) #[.int .i64 1, .int .i64 0, .int .i64 o3, .int .i64 o4, .string o5] 31 := hY1 ▸ B13.put' (by omega) _
                replace B14 : Bx Y1 (w3.heap.size) #[.string a4, .string b4, .slice a9 n9 c9, .int .i64 c4, .int .i64 f4, .bool dn4] 28 := hY1 ▸ B14.put' (by omega) _
                replace B0 : Bx Y1 (p) #[.string a4, .string b4, .slice a9 n9 c9, .int .i64 c4, .int .i64 f4, .bool dn4] 28 := hY1 ▸ B0.put _
                replace hS : OwnZ n p8 Bo hl (.slice a8 (n3 + 1) c8) Y1 := hY1 ▸ hS9
                clear hS9
                obtain ⟨q5l, q5r, q5p, ⟨q5c0, q5c1, q5c2, q5c3, q5c4⟩⟩ := B13.d5
                obtain ⟨q6l, q6r, q6p, ⟨q6c0, q6c1⟩, ⟨q6f0, q6f1⟩⟩ := BZ.d2
                have hS9 := OwnZ.setZ hS hBo (by omega) 0 (.string e0)
                obtain ⟨Y2, hY2⟩ : ∃ Q_ : World, Y1.setCell ⟨p8, 0, none⟩ (.string e0) = Q_ := ⟨_, rfl⟩
                have bY2 : Below w.heap.size w Y2 := hY2 ▸ (bY1).trans (low_setCell _ _ (by omega))
                replace hO : OL n ll (.slice a3 n3 c3) Y2 := hY2 ▸ hO.keep (keeps_setCell _ _ BZ (by decide) (by show n ≤ _; omega))
                replace hO9 : OL n l4 (.slice a9 n9 c9) Y2 := hY2 ▸ hO9.keep (keeps_setCell _ _ BZ (by decide) (by show n ≤ _; omega))
                replace B0 : Bx Y2 (p) #[.string a4, .string b4, .slice a9 n9 c9, .int .i64 c4, .int .i64 f4, .bool dn4] 28 := hY2 ▸ B0.set' (by omega) _ _
                replace BL : Bx Y2 (p10) #[.int .i64 ol1, .int .i64 ol2, .int .i64 ol3, .int .i64 ol4, .string ol5] 31 := hY2 ▸ BL.set' (by omega) _ _
                replace B13 : Bx Y2 (wr.heap.size) #[.int .i64 1, .int .i64 0, .int .i64 o3, .int .i64 o4, .string o5] 31 := hY2 ▸ B13.set' (by omega) _ _
                replace B14 : Bx Y2 (w3.heap.size) #[.string a4, .string b4, .slice a9 n9 c9, .int .i64 c4, .int .i64 f4, .bool dn4] 28 := hY2 ▸ B14.set' (by omega) _ _
                replace BZ : Bx Y2 (p8) #[.string e0, .string s2] 25 := hY2 ▸ (show Bx (Y1.setCell ⟨p8, 0, none⟩ (.string e0)) (p8) #[.string e0, .string s2] 25 from BZ.set 0 (.string e0))
                replace hS : OwnZ n p8 Bo hl (.slice a8 (n3 + 1) c8) Y2 := hY2 ▸ hS9
                clear hS9
                obtain ⟨q7l, q7r, q7p, ⟨q7c0, q7c1⟩, ⟨q7f0, q7f1⟩⟩ := BZ.d2
                obtain ⟨q8l, q8r, q8p, ⟨q8c0, q8c1, q8c2, q8c3, q8c4⟩⟩ := B13.d5
                have jB : Bo ≤ Y2.heap.size := by have := BZ.lt; have := BL.lt; omega
                have hxz : IsZ n p8 [(e0, s2)] (.slice (some ⟨Y2.heap.size, 0, none⟩) 1 1) (Y2.alloc (.cells #[.string e0, .string s2] 25)) := isZ_one (e0, s2) (Bz.le (by omega) (by omega))
                obtain ⟨Y3, hY3⟩ : ∃ Q_ : World, Y2.alloc (.cells #[.string e0, .string s2] 25) = Q_ := ⟨_, rfl⟩
                have aY3 : Below Y2.heap.size Y2 Y3 := hY3 ▸ below1 _ _
                replace hS := Own.stays hS aY3
                replace B0 := B0.stays aY3
                replace BZ := BZ.stays aY3
                replace BL := BL.stays aY3
                replace B13 := B13.stays aY3
                replace B14 := B14.stays aY3
                replace hO := hO.stays aY3
                replace hO9 := hO9.stays aY3
                have bY3 := nx bY2 aY3
                replace hxz := hY3 ▸ hxz
                obtain ⟨v', w5, hrun, hS5, hg5, hbl5, _⟩ := Own.append elemZ 45 typesZ hBo (by have := aY3.size; omega) hS hxz (by have h9 := hist_len ⟨a, b, ll, c, -1, false⟩; rw [HHL.out] at h9; simp only [HN3.out] at h9; simp only [List.length_singleton]; omega) (by decide)
                have C7 := bx_ownZ B0 hS hg5 (.inl (by decide))
                have CZ := bx_ownZ BZ hS hg5 (.inr (by omega))
                have CL0 := bx_ownZ BL hS hg5 (.inl (by decide))
                have C13' := bx_ownZ B13 hS hg5 (.inl (by decide))
                have CO := ol_ownZ hO9 (by omega) hS hg5
                have bw5 : Below w.heap.size w w5 := hbl5 _ _ (by omega) bY3
                obtain ⟨a11, c11, hv'⟩ := (Own.is (by decide) hBo hS5).len
                obtain ⟨m11, hm11⟩ : ∃ q, (hl ++ [(e0, s2)]).length = q := ⟨_, rfl⟩
                rw [hm11] at hv'
                subst hv'
                clear hm11 hxz hbl5 hg5 hS hO hO9 B0 BZ BL B13
                have hS := hS5
                obtain ⟨q9l, q9r, q9p, ⟨q9c0, q9c1, q9c2, q9c3, q9c4⟩⟩ := C13'.d5
                obtain ⟨q10l, q10r, q10p, ⟨q10c0, q10c1, q10c2, q10c3, q10c4⟩⟩ := CL0.d5
                have hS9 := OwnZ.put hS hBo CL0 (by decide) (by omega) #[.int .i64 1, .int .i64 0, .int .i64 o3, .int .i64 o4, .string o5]
                obtain ⟨Z, hZ⟩ : ∃ Q_ : World, w5.setRow (p10) #[.int .i64 1, .int .i64 0, .int .i64 o3, .int .i64 o4, .string o5] = Q_ := ⟨_, rfl⟩
                have bZ : Below w.heap.size w Z := hZ ▸ (bw5).trans (low_setRow _ (by omega))
                replace CO : OL n l4 (.slice a9 n9 c9) Z := hZ ▸ CO.keep (keeps_setRow _ CL0 (by decide) (by show n ≤ _; omega))
                replace C7 : Bx Z (p) #[.string a4, .string b4, .slice a9 n9 c9, .int .i64 c4, .int .i64 f4, .bool dn4] 28 := hZ ▸ C7.put' (by omega) _
                replace CZ : Bx Z (p8) #[.string e0, .string s2] 25 := hZ ▸ CZ.put' (by omega) _
                replace C13' : Bx Z (wr.heap.size) #[.int .i64 1, .int .i64 0, .int .i64 o3, .int .i64 o4, .string o5] 31 := hZ ▸ C13'.put' (by omega) _
                replace CL0 : Bx Z (p10) #[.int .i64 1, .int .i64 0, .int .i64 o3, .int .i64 o4, .string o5] 31 := hZ ▸ CL0.put _
                replace hS : OwnZ n p8 Bo (hl ++ [(e0, s2)]) (.slice a11 m11 c11) Z := hZ ▸ hS9
                clear hS9
                have hy : (⟨a4, b4, l4, c4, f4, dn4⟩ : Ds) = ⟨a, b, ll ++ [(false, nul, true)], c, -1, false⟩ := HY.out
                have hnow : fin (a, b) (ll ++ [(false, nul, true)]) = (e0, s2) := by
                  rw [fin_snoc]
                  show done (Ds.now ⟨a, b, ll, c, -1, false⟩) (false, nul, true) = _
                  have h1 := HS1.out
                  have h2 := HS2.out
                  simp only [done, h2]; rfl
                have HB : Hid (Bg n p p8 p10 Bo ⟨a4, b4, l4, c4, f4, dn4⟩ (.slice a11 m11 c11) Z) := Lib.hid (by
                  refine ⟨⟨_, C7, CO, hc9⟩, ?_, ⟨(1, 0, o3, o4, o5), CL0⟩, ?_⟩
                  · rw [hy]; show Bx Z p8 #[.string (fin (a, b) (ll ++ [(false, nul, true)])).1, .string (fin (a, b) (ll ++ [(false, nul, true)])).2] _; rw [hnow]; exact CZ
                  · rw [hy, hist_snoc a b ll (false, nul, true) c (-1) c (-1) false false, HHL.out, hnow]; exact hS)
                have HLN : Hid (l4.length = n3 + 1) := Lib.hid (by have h9 := congrArg (fun d => d.l.length) hy; simp only [List.length_append, List.length_singleton, HN3.out] at h9; exact h9)
                have HDN4 : Hid (dn4 = false) := Lib.hid (congrArg (fun d => d.n) hy)
                have HDF4 : Hid (f4 = -1) := Lib.hid (congrArg (fun d => d.f) hy)
                clear hy hnow
                go_wp2
                go_roundw
                case rel => first | exact ⟨k + 1, n3 + 1, ⟨a4, b4, l4, c4, f4, dn4⟩, _, rfl, by omega, by go_num, by go_num, HLN.out, HOK9.out, HDN4.out, HDF4.out, HB.out, bZ⟩ | ((repeat apply Exists.intro); exact ⟨⟨k + 1, n3 + 1, ⟨a4, b4, l4, c4, f4, dn4⟩, _, rfl, by omega, by go_num, by go_num, HLN.out, HOK9.out, HDN4.out, HDF4.out, HB.out, bZ⟩, rfl⟩)
                case measure => simp [intOf]; omega
              · obtain ⟨q3l, q3r, q3p, ⟨q3c0, q3c1, q3c2, q3c3, q3c4, q3c5⟩, ⟨q3f0, q3f1, q3f2, q3f3, q3f4, q3f5⟩⟩ := B0.d6
                obtain ⟨q4l, q4r, q4p, ⟨q4c0, q4c1, q4c2, q4c3, q4c4, q4c5⟩, ⟨q4f0, q4f1, q4f2, q4f3, q4f4, q4f5⟩⟩ := B14.d6
                have hS9 := OwnZ.put hS hBo B0 (by decide) (by omega) #[.string a4, .string b4, .slice a9 n9 c9, .int .i64 c4, .int .i64 f4, .bool dn4]
                obtain ⟨Y1, hY1⟩ : ∃ Q_ : World, X.setRow (p) #[.string a4, .string b4, .slice a9 n9 c9, .int .i64 c4, .int .i64 f4, .bool dn4] = Q_ := ⟨_, rfl⟩
                have bY1 : Below w.heap.size w Y1 := hY1 ▸ (bX).trans (low_setRow _ (by omega))
                replace hO : OL n ll (.slice a3 n3 c3) Y1 := hY1 ▸ hO.keep (keeps_setRow _ B0 (by decide) (by show n ≤ _; omega))
                replace hO9 : OL n l4 (.slice a9 n9 c9) Y1 := hY1 ▸ hO9.keep (keeps_setRow _ B0 (by decide) (by show n ≤ _; omega))
                replace BZ : Bx Y1 (p8) #[.string s1, .string s2] 25 := hY1 ▸ BZ.put' (by omega) _
                replace BL : Bx Y1 (p10) #[.int .i64 ol1, .int .i64 ol2, .int .i64 ol3, .int .i64 ol4, .string ol5] 31 := hY1 ▸ BL.put' (by omega) _
                replace B13 : Bx Y1 (wr.heap.size) #[.int .i64 1, .int .i64 1, .int .i64 o3, .int .i64 o4, .string o5] 31 := hY1 ▸ B13.put' (by omega) _
                replace B14 : Bx Y1 (w3.heap.size) #[.string a4, .string b4, .slice a9 n9 c9, .int .i64 c4, .int .i64 f4, .bool dn4] 28 := hY1 ▸ B14.put' (by omega) _
                replace B0 : Bx Y1 (p) #[.string a4, .string b4, .slice a9 n9 c9, .int .i64 c4, .int .i64 f4, .bool dn4] 28 := hY1 ▸ B0.put _
                replace hS : OwnZ n p8 Bo hl (.slice a8 (n3 + 1) c8) Y1 := hY1 ▸ hS9
                clear hS9
                obtain ⟨q5l, q5r, q5p, ⟨q5c0, q5c1, q5c2, q5c3, q5c4⟩⟩ := B13.d5
                obtain ⟨q6l, q6r, q6p, ⟨q6c0, q6c1⟩, ⟨q6f0, q6f1⟩⟩ := BZ.d2
                have hS9 := OwnZ.setZ hS hBo (by omega) 1 (.string e0)
                obtain ⟨Y2, hY2⟩ : ∃ Q_ : World, Y1.setCell ⟨p8, 1, none⟩ (.string e0) = Q_ := ⟨_, rfl⟩
                have bY2 : Below w.heap.size w Y2 := hY2 ▸ (bY1).trans (low_setCell _ _ (by omega))
                replace hO : OL n ll (.slice a3 n3 c3) Y2 := hY2 ▸ hO.keep (keeps_setCell _ _ BZ (by decide) (by show n ≤ _; omega))
                replace hO9 : OL n l4 (.slice a9 n9 c9) Y2 := hY2 ▸ hO9.keep (keeps_setCell _ _ BZ (by decide) (by show n ≤ _; omega))
                replace B0 : Bx Y2 (p) #[.string a4, .string b4, .slice a9 n9 c9, .int .i64 c4, .int .i64 f4, .bool dn4] 28 := hY2 ▸ B0.set' (by omega) _ _
                replace BL : Bx Y2 (p10) #[.int .i64 ol1, .int .i64 ol2, .int .i64 ol3, .int .i64 ol4, .string ol5] 31 := hY2 ▸ BL.set' (by omega) _ _
                replace B13 : Bx Y2 (wr.heap.size) #[.int .i64 1, .int .i64 1, .int .i64 o3, .int .i64 o4, .string o5] 31 := hY2 ▸ B13.set' (by omega) _ _
                replace B14 : Bx Y2 (w3.heap.size) #[.string a4, .string b4, .slice a9 n9 c9, .int .i64 c4, .int .i64 f4, .bool dn4] 28 := hY2 ▸ B14.set' (by omega) _ _
                replace BZ : Bx Y2 (p8) #[.string s1, .string e0] 25 := hY2 ▸ (show Bx (Y1.setCell ⟨p8, 1, none⟩ (.string e0)) (p8) #[.string s1, .string e0] 25 from BZ.set 1 (.string e0))
                replace hS : OwnZ n p8 Bo hl (.slice a8 (n3 + 1) c8) Y2 := hY2 ▸ hS9
                clear hS9
                obtain ⟨q7l, q7r, q7p, ⟨q7c0, q7c1⟩, ⟨q7f0, q7f1⟩⟩ := BZ.d2
                obtain ⟨q8l, q8r, q8p, ⟨q8c0, q8c1, q8c2, q8c3, q8c4⟩⟩ := B13.d5
                have jB : Bo ≤ Y2.heap.size := by have := BZ.lt; have := BL.lt; omega
                have hxz : IsZ n p8 [(s1, e0)] (.slice (some ⟨Y2.heap.size, 0, none⟩) 1 1) (Y2.alloc (.cells #[.string s1, .string e0] 25)) := isZ_one (s1, e0) (Bz.le (by omega) (by omega))
                obtain ⟨Y3, hY3⟩ : ∃ Q_ : World, Y2.alloc (.cells #[.string s1, .string e0] 25) = Q_ := ⟨_, rfl⟩
                have aY3 : Below Y2.heap.size Y2 Y3 := hY3 ▸ below1 _ _
                replace hS := Own.stays hS aY3
                replace B0 := B0.stays aY3
                replace BZ := BZ.stays aY3
                replace BL := BL.stays aY3
                replace B13 := B13.stays aY3
                replace B14 := B14.stays aY3
                replace hO := hO.stays aY3
                replace hO9 := hO9.stays aY3
                have bY3 := nx bY2 aY3
                replace hxz := hY3 ▸ hxz
                obtain ⟨v', w5, hrun, hS5, hg5, hbl5, _⟩ := Own.append elemZ 45 typesZ hBo (by have := aY3.size; omega) hS hxz (by have h9 := hist_len ⟨a, b, ll, c, -1, false⟩; rw [HHL.out] at h9; simp only [HN3.out] at h9; simp only [List.length_singleton]; omega) (by decide)
                have C7 := bx_ownZ B0 hS hg5 (.inl (by decide))
                have CZ := bx_ownZ BZ hS hg5 (.inr (by omega))
                have CL0 := bx_ownZ BL hS hg5 (.inl (by decide))
                have C13' := bx_ownZ B13 hS hg5 (.inl (by decide))
                have CO := ol_ownZ hO9 (by omega) hS hg5
                have bw5 : Below w.heap.size w w5 := hbl5 _ _ (by omega) bY3
                obtain ⟨a11, c11, hv'⟩ := (Own.is (by decide) hBo hS5).len
                obtain ⟨m11, hm11⟩ : ∃ q, (hl ++ [(s1, e0)]).length = q := ⟨_, rfl⟩
                rw [hm11] at hv'
                subst hv'
                clear hm11 hxz hbl5 hg5 hS hO hO9 B0 BZ BL B13
                have hS := hS5
                obtain ⟨q9l, q9r, q9p, ⟨q9c0, q9c1, q9c2, q9c3, q9c4⟩⟩ := C13'.d5
                obtain ⟨q10l, q10r, q10p, ⟨q10c0, q10c1, q10c2, q10c3, q10c4⟩⟩ := CL0.d5
                have hS9 := OwnZ.put hS hBo CL0 (by decide) (by omega) #[.int .i64 1, .int .i64 1, .int .i64 o3, .int .i64 o4, .string o5]
                obtain ⟨Z, hZ⟩ : ∃ Q_ : World, w5.setRow (p10) #[.int .i64 1, .int .i64 1, .int .i64 o3, .int .i64 o4, .string o5] = Q_ := ⟨_, rfl⟩
                have bZ : Below w.heap.size w Z := hZ ▸ (bw5).trans (low_setRow _ (by omega))
                replace CO : OL n l4 (.slice a9 n9 c9) Z := hZ ▸ CO.keep (keeps_setRow _ CL0 (by decide) (by show n ≤ _; omega))
                replace C7 : Bx Z (p) #[.string a4, .string b4, .slice a9 n9 c9, .int .i64 c4, .int .i64 f4, .bool dn4] 28 := hZ ▸ C7.put' (by omega) _
                replace CZ : Bx Z (p8) #[.string s1, .string e0] 25 := hZ ▸ CZ.put' (by omega) _
                replace C13' : Bx Z (wr.heap.size) #[.int .i64 1, .int .i64 1, .int .i64 o3, .int .i64 o4, .string o5] 31 := hZ ▸ C13'.put' (by omega) _
                replace CL0 : Bx Z (p10) #[.int .i64 1, .int .i64 1, .int .i64 o3, .int .i64 o4, .string o5] 31 := hZ ▸ CL0.put _
                replace hS : OwnZ n p8 Bo (hl ++ [(s1, e0)]) (.slice a11 m11 c11) Z := hZ ▸ hS9
                clear hS9
                have hy : (⟨a4, b4, l4, c4, f4, dn4⟩ : Ds) = ⟨a, b, ll ++ [(true, nul, true)], c, -1, false⟩ := HY.out
                have hnow : fin (a, b) (ll ++ [(true, nul, true)]) = (s1, e0) := by
                  rw [fin_snoc]
                  show done (Ds.now ⟨a, b, ll, c, -1, false⟩) (true, nul, true) = _
                  have h1 := HS1.out
                  have h2 := HS2.out
                  simp only [done, h1]; rfl
                have HB : Hid (Bg n p p8 p10 Bo ⟨a4, b4, l4, c4, f4, dn4⟩ (.slice a11 m11 c11) Z) := Lib.hid (by
                  refine ⟨⟨_, C7, CO, hc9⟩, ?_, ⟨(1, 1, o3, o4, o5), CL0⟩, ?_⟩
                  · rw [hy]; show Bx Z p8 #[.string (fin (a, b) (ll ++ [(true, nul, true)])).1, .string (fin (a, b) (ll ++ [(true, nul, true)])).2] _; rw [hnow]; exact CZ
                  · rw [hy, hist_snoc a b ll (true, nul, true) c (-1) c (-1) false false, HHL.out, hnow]; exact hS)
                have HLN : Hid (l4.length = n3 + 1) := Lib.hid (by have h9 := congrArg (fun d => d.l.length) hy; simp only [List.length_append, List.length_singleton, HN3.out] at h9; exact h9)
                have HDN4 : Hid (dn4 = false) := Lib.hid (congrArg (fun d => d.n) hy)
                have HDF4 : Hid (f4 = -1) := Lib.hid (congrArg (fun d => d.f) hy)
                clear hy hnow
                go_wp2
                go_roundw
                case rel => first | exact ⟨k + 1, n3 + 1, ⟨a4, b4, l4, c4, f4, dn4⟩, _, rfl, by omega, by go_num, by go_num, HLN.out, HOK9.out, HDN4.out, HDF4.out, HB.out, bZ⟩ | ((repeat apply Exists.intro); exact ⟨⟨k + 1, n3 + 1, ⟨a4, b4, l4, c4, f4, dn4⟩, _, rfl, by omega, by go_num, by go_num, HLN.out, HOK9.out, HDN4.out, HDF4.out, HB.out, bZ⟩, rfl⟩)
                case measure => simp [intOf]; omega
            · have g4 : (k4 != 0) = true := by simpa using h4
              clear h4
              obtain ⟨q3l, q3r, q3p, ⟨q3c0, q3c1, q3c2, q3c3, q3c4⟩⟩ := B13.d5
              have HB := Lib.hid (HSK.out _ (bwX))
              go_wp2
              all_goals
                go_roundw
                case rel => first | exact ⟨k + 1, n3, ⟨a, b, ll, c, -1, false⟩, _, rfl, by omega, by go_num, rfl, HN3.out, HOK1.out, rfl, rfl, HB.out, bX⟩ | ((repeat apply Exists.intro); exact ⟨⟨k + 1, n3, ⟨a, b, ll, c, -1, false⟩, _, rfl, by omega, by go_num, rfl, HN3.out, HOK1.out, rfl, rfl, HB.out, bX⟩, rfl⟩)
                case measure => simp [intOf]; omega
          · obtain ⟨W, hW⟩ : ∃ Q_ : World, wr.alloc (.cells #[.int .i64 2, .int .i64 o2, .int .i64 o3, .int .i64 o4, .string o5] 31) = Q_ := ⟨_, rfl⟩
            have aW : Below wr.heap.size wr W := hW ▸ below1 _ _
            have B13 : Bx W (wr.heap.size) #[.int .i64 2, .int .i64 o2, .int .i64 o3, .int .i64 o4, .string o5] 31 := hW ▸ Bx.at (by first | rfl | omega) _ _
            replace B0 := B0.stays aW
            replace BZ := BZ.stays aW
            replace BL := BL.stays aW
            replace hO := hO.stays aW
            have bW := nx hb aW
            replace hS := Own.stays hS aW
            obtain ⟨r, hr⟩ : ∃ r, stepP ⟨a, b, ll, c, -1, false⟩ (2, o2, o3, o4, o5) = r := ⟨_, rfl⟩
            have hok9 := HSTEP.out
            rw [hr] at hok9
            have HOK9 := Lib.hid hok9
            have HR := Lib.hid hr
            have hE : r.2 = 0 → r = (⟨(Ds.now ⟨a, b, ll, c, -1, false⟩).1, (Ds.now ⟨a, b, ll, c, -1, false⟩).2, [], c, -1, false⟩, 0) := fun h9 => by rw [← hr] at h9 ⊢; exact step2 rfl rfl h9
            have HE := Lib.hid hE
            clear hr hE hok9
            obtain ⟨q1l, q1r, q1p, ⟨q1c0, q1c1, q1c2, q1c3, q1c4, q1c5⟩, ⟨q1f0, q1f1, q1f2, q1f3, q1f4, q1f5⟩⟩ := B0.d6
            obtain ⟨q2l, q2r, q2p, ⟨q2c0, q2c1, q2c2, q2c3, q2c4⟩⟩ := B13.d5
            have hnW : n ≤ W.heap.size := by have := aW.size; omega
            go_wp2_with fail
            with_reducible refine (step_is HR (DV.mk hO hc) hnW HOKD.out (by omega)).mono ?_
            rintro e w3 ⟨v3, rfl, hb3, o9, rfl, hO9, hc9⟩
            obtain ⟨⟨a4, b4, l4, c4, f4, dn4⟩, k4⟩ := r
            simp only at hO9 ⊢
            obtain ⟨a9, c9, rfl⟩ := hO9.len
            obtain ⟨n9, hn9⟩ : ∃ q, l4.length = q := ⟨_, rfl⟩
            rw [hn9] at hO9 hc9 ⊢
            have HN9 := Lib.hid hn9
            clear hn9
            clear q1l q1r q1p q1c0 q1c1 q1c2 q1c3 q1c4 q1c5 q1f0 q1f1 q1f2 q1f3 q1f4 q1f5
            clear q2l q2r q2p q2c0 q2c1 q2c2 q2c3 q2c4
            replace hS := Own.stays hS hb3
            replace B0 := B0.stays hb3
            replace BZ := BZ.stays hb3
            replace BL := BL.stays hb3
            replace B13 := B13.stays hb3
            replace hO := hO.stays hb3
            have bw3 := nx bW hb3
            have j3 := hb3.size
            have jW := aW.size
            have j13 := B13.lt
            obtain ⟨X, hX⟩ : ∃ Q_ : World, w3.alloc (.cells #[.string a4, .string b4, .slice a9 n9 c9, .int .i64 c4, .int .i64 f4, .bool dn4] 28) = Q_ := ⟨_, rfl⟩
            have aX : Below w3.heap.size w3 X := hX ▸ below1 _ _
            have B14 : Bx X (w3.heap.size) #[.string a4, .string b4, .slice a9 n9 c9, .int .i64 c4, .int .i64 f4, .bool dn4] 28 := hX ▸ Bx.at (by first | rfl | omega) _ _
            replace B0 := B0.stays aX
            replace BZ := BZ.stays aX
            replace BL := BL.stays aX
            replace B13 := B13.stays aX
            replace hO := hO.stays aX
            replace hO9 := hO9.stays aX
            have bX := nx bw3 aX
            replace hS := Own.stays hS aX
            have jX := aX.size
            have bwX : Below wr.heap.size wr X := nx aW (nx hb3 aX)
            by_cases h4 : k4 = 0
            · subst h4
              have he := HE.out rfl
              have HY : Hid ((⟨a4, b4, l4, c4, f4, dn4⟩ : Ds) = ⟨(Ds.now ⟨a, b, ll, c, -1, false⟩).1, (Ds.now ⟨a, b, ll, c, -1, false⟩).2, [], c, -1, false⟩) := Lib.hid (congrArg Prod.fst he)
              clear he
              obtain ⟨q3l, q3r, q3p, ⟨q3c0, q3c1, q3c2, q3c3, q3c4, q3c5⟩, ⟨q3f0, q3f1, q3f2, q3f3, q3f4, q3f5⟩⟩ := B0.d6
              obtain ⟨q4l, q4r, q4p, ⟨q4c0, q4c1, q4c2, q4c3, q4c4, q4c5⟩, ⟨q4f0, q4f1, q4f2, q4f3, q4f4, q4f5⟩⟩ := B14.d6
              have hS9 := OwnZ.put hS hBo B0 (by decide) (by omega) #[.string a4, .string b4, .slice a9 n9 c9, .int .i64 c4, .int .i64 f4, .bool dn4]
              obtain ⟨Y1, hY1⟩ : ∃ Q_ : World, X.setRow (p) #[.string a4, .string b4, .slice a9 n9 c9, .int .i64 c4, .int .i64 f4, .bool dn4] = Q_ := ⟨_, rfl⟩
              have bY1 : Below w.heap.size w Y1 := hY1 ▸ (bX).trans (low_setRow _ (by omega))
              replace hO : OL n ll (.slice a3 n3 c3) Y1 := hY1 ▸ hO.keep (keeps_setRow _ B0 (by decide) (by show n ≤ _; omega))
              replace hO9 : OL n l4 (.slice a9 n9 c9) Y1 := hY1 ▸ hO9.keep (keeps_setRow _ B0 (by decide) (by show n ≤ _; omega))
              replace BZ : Bx Y1 (p8) #[.string s1, .string s2] 25 := hY1 ▸ BZ.put' (by omega) _
              replace BL : Bx Y1 (p10) #[.int .i64 ol1, .int .i64 ol2, .int .i64 ol3, .int .i64 ol4, .string ol5] 31 := hY1 ▸ BL.put' (by omega) _
              replace B13 : Bx Y1 (wr.heap.size) #[.int .i64 2, .int .i64 o2, .int .i64 o3, .int .i64 o4, .string o5] 31 := hY1 ▸ B13.put' (by omega) _
              replace B14 : Bx Y1 (w3.heap.size) #[.string a4, .string b4, .slice a9 n9 c9, .int .i64 c4, .int .i64 f4, .bool dn4] 28 := hY1 ▸ B14.put' (by omega) _
              replace B0 : Bx Y1 (p) #[.string a4, .string b4, .slice a9 n9 c9, .int .i64 c4, .int .i64 f4, .bool dn4] 28 := hY1 ▸ B0.put _
              replace hS : OwnZ n p8 Bo hl (.slice a8 (n3 + 1) c8) Y1 := hY1 ▸ hS9
              clear hS9
              obtain ⟨q5l, q5r, q5p, ⟨q5c0, q5c1, q5c2, q5c3, q5c4⟩⟩ := B13.d5
              obtain ⟨q6l, q6r, q6p, ⟨q6c0, q6c1⟩, ⟨q6f0, q6f1⟩⟩ := BZ.d2
              have jB : Bo ≤ Y1.heap.size := by have := BZ.lt; have := BL.lt; omega
              obtain ⟨Y2, hY2⟩ : ∃ Q_ : World, Y1.alloc (.cells #[.string s1, .string s2] 25) = Q_ := ⟨_, rfl⟩
              have aY2 : Below Y1.heap.size Y1 Y2 := hY2 ▸ below1 _ _
              have B99 : Bx Y2 (Y1.heap.size) #[.string s1, .string s2] 25 := hY2 ▸ Bx.at (by first | rfl | omega) _ _
              replace B0 := B0.stays aY2
              replace BZ := BZ.stays aY2
              replace BL := BL.stays aY2
              replace B13 := B13.stays aY2
              replace B14 := B14.stays aY2
              replace hO := hO.stays aY2
              replace hO9 := hO9.stays aY2
              have bY2 := nx bY1 aY2
              replace hS := Own.stays hS aY2
              have hS9 : OwnZ n p8 Bo [(s1, s2)] (.slice (some ⟨Y1.heap.size, 0, none⟩) 1 1) Y2 := ownZ_one (s1, s2) jB B99
              replace hS := hS9
              clear hS9
              obtain ⟨q7l, q7r, q7p, ⟨q7c0, q7c1, q7c2, q7c3, q7c4⟩⟩ := B13.d5
              obtain ⟨q8l, q8r, q8p, ⟨q8c0, q8c1, q8c2, q8c3, q8c4⟩⟩ := BL.d5
              have hS9 := OwnZ.put hS hBo BL (by decide) (by omega) #[.int .i64 2, .int .i64 o2, .int .i64 o3, .int .i64 o4, .string o5]
              obtain ⟨Z, hZ⟩ : ∃ Q_ : World, Y2.setRow (p10) #[.int .i64 2, .int .i64 o2, .int .i64 o3, .int .i64 o4, .string o5] = Q_ := ⟨_, rfl⟩
              have bZ : Below w.heap.size w Z := hZ ▸ (bY2).trans (low_setRow _ (by omega))
              replace hO : OL n ll (.slice a3 n3 c3) Z := hZ ▸ hO.keep (keeps_setRow _ BL (by decide) (by show n ≤ _; omega))
              replace hO9 : OL n l4 (.slice a9 n9 c9) Z := hZ ▸ hO9.keep (keeps_setRow _ BL (by decide) (by show n ≤ _; omega))
              replace B0 : Bx Z (p) #[.string a4, .string b4, .slice a9 n9 c9, .int .i64 c4, .int .i64 f4, .bool dn4] 28 := hZ ▸ B0.put' (by omega) _
              replace BZ : Bx Z (p8) #[.string s1, .string s2] 25 := hZ ▸ BZ.put' (by omega) _
              replace B13 : Bx Z (wr.heap.size) #[.int .i64 2, .int .i64 o2, .int .i64 o3, .int .i64 o4, .string o5] 31 := hZ ▸ B13.put' (by omega) _
              replace B14 : Bx Z (w3.heap.size) #[.string a4, .string b4, .slice a9 n9 c9, .int .i64 c4, .int .i64 f4, .bool dn4] 28 := hZ ▸ B14.put' (by omega) _
              replace BL : Bx Z (p10) #[.int .i64 2, .int .i64 o2, .int .i64 o3, .int .i64 o4, .string o5] 31 := hZ ▸ BL.put _
              replace hS : OwnZ n p8 Bo [(s1, s2)] (.slice (some ⟨Y1.heap.size, 0, none⟩) 1 1) Z := hZ ▸ hS9
              clear hS9
              have hy : (⟨a4, b4, l4, c4, f4, dn4⟩ : Ds) = ⟨s1, s2, [], c, -1, false⟩ := by rw [HY.out, HS1.out, HS2.out]
              have HB : Hid (Bg n p p8 p10 Bo ⟨a4, b4, l4, c4, f4, dn4⟩ (.slice (some ⟨Y1.heap.size, 0, none⟩) 1 1) Z) := Lib.hid (by
                refine ⟨⟨_, B0, hO9, hc9⟩, ?_, ⟨(2, o2, o3, o4, o5), BL⟩, ?_⟩
                · rw [hy]; exact BZ
                · rw [hy, hist_nil]; exact hS)
              have HLN : Hid (l4.length = 0) := Lib.hid (by have h9 := congrArg (fun d => d.l.length) hy; simpa using h9)
              have HDN4 : Hid (dn4 = false) := Lib.hid (congrArg (fun d => d.n) hy)
              have HDF4 : Hid (f4 = -1) := Lib.hid (congrArg (fun d => d.f) hy)
              clear hy
              go_wp2
              go_roundw
              case rel => first | exact ⟨k + 1, 0, ⟨a4, b4, l4, c4, f4, dn4⟩, _, rfl, by omega, by go_num, rfl, HLN.out, HOK9.out, HDN4.out, HDF4.out, HB.out, bZ⟩ | ((repeat apply Exists.intro); exact ⟨⟨k + 1, 0, ⟨a4, b4, l4, c4, f4, dn4⟩, _, rfl, by omega, by go_num, rfl, HLN.out, HOK9.out, HDN4.out, HDF4.out, HB.out, bZ⟩, rfl⟩)
              case measure => simp [intOf]; omega
            · have g4 : (k4 != 0) = true := by simpa using h4
              clear h4
              obtain ⟨q3l, q3r, q3p, ⟨q3c0, q3c1, q3c2, q3c3, q3c4⟩⟩ := B13.d5
              have HB := Lib.hid (HSK.out _ (bwX))
              go_wp2
              all_goals
                go_roundw
                case rel => first | exact ⟨k + 1, n3, ⟨a, b, ll, c, -1, false⟩, _, rfl, by omega, by go_num, rfl, HN3.out, HOK1.out, rfl, rfl, HB.out, bX⟩ | ((repeat apply Exists.intro); exact ⟨⟨k + 1, n3, ⟨a, b, ll, c, -1, false⟩, _, rfl, by omega, by go_num, rfl, HN3.out, HOK1.out, rfl, rfl, HB.out, bX⟩, rfl⟩)
                case measure => simp [intOf]; omega
        · obtain ⟨W, hW⟩ : ∃ Q_ : World, wr.alloc (.cells #[.int .i64 o1, .int .i64 o2, .int .i64 o3, .int .i64 o4, .string o5] 31) = Q_ := ⟨_, rfl⟩
          have aW : Below wr.heap.size wr W := hW ▸ below1 _ _
          have B13 : Bx W (wr.heap.size) #[.int .i64 o1, .int .i64 o2, .int .i64 o3, .int .i64 o4, .string o5] 31 := hW ▸ Bx.at (by first | rfl | omega) _ _
          replace B0 := B0.stays aW
          replace BZ := BZ.stays aW
          replace BL := BL.stays aW
          replace hO := hO.stays aW
          have bW := nx hb aW
          replace hS := Own.stays hS aW
          obtain ⟨q1l, q1r, q1p, ⟨q1c0, q1c1, q1c2, q1c3, q1c4⟩⟩ := B13.d5
          by_cases h0 : o1 < 0
          · have g0 : decide (o1 < 0) = true := decide_eq_true h0
            clear h0 hr
            have HB := Lib.hid (HSK.out _ (aW))
            go_wp2
            all_goals
              go_roundw
              case rel => first | exact ⟨k + 1, n3, ⟨a, b, ll, c, -1, false⟩, _, rfl, by omega, by go_num, rfl, HN3.out, HOK1.out, rfl, rfl, HB.out, bW⟩ | ((repeat apply Exists.intro); exact ⟨⟨k + 1, n3, ⟨a, b, ll, c, -1, false⟩, _, rfl, by omega, by go_num, rfl, HN3.out, HOK1.out, rfl, rfl, HB.out, bW⟩, rfl⟩)
              case measure => simp [intOf]; omega
          · have g0 : decide (o1 < 0) = false := decide_eq_false h0
            have g1 : decide (2 < o1) = true := decide_eq_true (by omega)
            clear h0 hr
            have HB := Lib.hid (HSK.out _ (aW))
            go_wp2
            all_goals
              go_roundw
              case rel => first | exact ⟨k + 1, n3, ⟨a, b, ll, c, -1, false⟩, _, rfl, by omega, by go_num, rfl, HN3.out, HOK1.out, rfl, rfl, HB.out, bW⟩ | ((repeat apply Exists.intro); exact ⟨⟨k + 1, n3, ⟨a, b, ll, c, -1, false⟩, _, rfl, by omega, by go_num, rfl, HN3.out, HOK1.out, rfl, rfl, HB.out, bW⟩, rfl⟩)
              case measure => simp [intOf]; omega
      · obtain rfl : k = n1 := by omega
        have hokd : Ok 1000000 1000 d := hok.mono (by have := wc_le l k; omega) (by omega)
        have HOKD := Lib.hid hokd
        obtain ⟨⟨o, B0, hO, hc⟩, _, ⟨ol, BL⟩, hS⟩ := hB
        have hhl := hist_len d
        rw [hn3] at hhl
        obtain ⟨a, b, ll, c, f, dn⟩ := d
        simp only at B0 hO hdf hdn hn3
        subst hdf hdn
        obtain ⟨kk, hkk⟩ : ∃ q : Nat, lim keep ll.length = q := ⟨(lim keep ll.length).toNat, by have := lim_bd keep ll.length (by omega); omega⟩
        have hk1 : kk ≤ n3 := by have := lim_bd keep ll.length (by omega); rw [hn3] at this hkk; omega
        obtain ⟨hp1, hp2⟩ := crash_pre (a, b) ll keep torn hkk
        have hc0 := crash0 (a, b) ll keep hkk
        rw [hn3] at hkk hp1 hp2
        obtain ⟨mm, hmm⟩ : ∃ q : Nat, min (kk + 1) n3 = q := ⟨_, rfl⟩
        rw [hmm] at hp1 hp2
        have hat1 : (hist ⟨a, b, ll, c, -1, false⟩)[kk]? = some (fin (a, b) (ll.take kk)) := by rw [List.getElem?_eq_getElem (by rw [hhl]; omega), hist_at]
        have hat2 : (hist ⟨a, b, ll, c, -1, false⟩)[mm]? = some (fin (a, b) (ll.take mm)) := by rw [List.getElem?_eq_getElem (by rw [hhl]; omega), hist_at]
        obtain ⟨⟨t1, t2⟩, ht⟩ : ∃ q, fin (a, b) (ll.take kk) = q := ⟨_, rfl⟩
        obtain ⟨⟨x1, x2⟩, hx⟩ : ∃ q, fin (a, b) (ll.take mm) = q := ⟨_, rfl⟩
        obtain ⟨⟨u1, u2⟩, hu⟩ : ∃ q, fin (a, b) (reach ll keep torn) = q := ⟨_, rfl⟩
        rw [ht] at hat1 hc0 hp1 hp2
        rw [hx] at hat2 hp1 hp2
        rw [hu] at hp1 hp2
        simp only at hp1 hp2
        have HC1 : Hid (staP (craP ⟨a, b, ll, c, -1, false⟩ keep 0) = ⟨t1, t2, [], c, -1, false⟩) := Lib.hid (by simp only [craP, staP, hc0])
        have HC2 : Hid (staP (craP ⟨a, b, ll, c, -1, false⟩ keep torn) = ⟨u1, u2, [], c, -1, false⟩) := Lib.hid (by simp only [craP, staP, hu])
        have hk2 : Ok 1000000 1000 ⟨t1, t2, [], c, -1, false⟩ := HC1.out ▸ (hokd.craP keep 0).down false
        have hk3 : Ok 1000000 1000 ⟨u1, u2, [], c, -1, false⟩ := HC2.out ▸ (hokd.craP keep torn).down false
        have HK2 := Lib.hid hk2
        have HK3 := Lib.hid hk3
        obtain ⟨hl, hhl2⟩ : ∃ q, hist ⟨a, b, ll, c, -1, false⟩ = q := ⟨_, rfl⟩
        rw [hhl2] at hS hat1 hat2 hhl
        have hIs := Own.is (by decide) hBo hS
        rcases hIs.cases with ⟨e, _⟩ | ⟨_, bb, off, cs, hsv, hls⟩
        · rw [e] at hhl; cases hhl
        rw [hhl] at hsv
        have HZ := Lib.hid (show ∀ u, Below wr.heap.size wr u → (u.cell? ⟨bb, off + kk * 2, none⟩ = some (.string t1) ∧ u.cell? ⟨bb, off + kk * 2 + 1, none⟩ = some (.string t2)) ∧ (u.cell? ⟨bb, off + mm * 2, none⟩ = some (.string x1) ∧ u.cell? ⟨bb, off + mm * 2 + 1, none⟩ = some (.string x2)) from fun u hu => by
          have h9 := Lies.keep eZ 25 hls (Keeps.of_below hu)
          have q1 := atZ h9 kk (by omega)
          have q2 := atZ h9 mm (by omega)
          rw [(List.getElem?_eq_some_iff.1 hat1).2] at q1
          rw [(List.getElem?_eq_some_iff.1 hat2).2] at q2
          exact ⟨q1, q2⟩)
        obtain ⟨a3, c3, rfl⟩ := hO.len
        rw [hn3] at B0 hO hc
        obtain ⟨yy, hyy⟩ : ∃ q, (if (n3 : Int) < keep then (n3 : Int) else keep) = q := ⟨_, rfl⟩
        have hy2 : (if (0 : Int) < yy then yy else 0) = (kk : Int) := by rw [← hyy, ← hkk]; unfold lim; split <;> split <;> omega
        have hy3 : (if (n3 : Int) < (kk : Int) + 1 then (n3 : Int) else (kk : Int) + 1) = (mm : Int) := by rw [← hmm]; split <;> omega
        have HP1 := Lib.hid hp1
        have HP2 := Lib.hid hp2
        have jr := hb.size
        have hm1 : mm ≤ n3 := by omega
        have hk5 : n3 ≤ 1000 := by rw [← hn3]; exact hokd.len
        have n0 : (0 : Int) ≤ n3 := by omega
        have n1a : (0 : Int) ≤ kk := by omega
        have n1b : (0 : Int) ≤ mm := by omega
        have n2a : (kk : Int) < (n3 : Int) + 1 := by omega
        have n2b : (mm : Int) < (n3 : Int) + 1 := by omega
        have k5 : kk < n3 + 1 := by omega
        have m5 : mm < n3 + 1 := by omega
        obtain ⟨_, pr10, _⟩ := BL.d5
        subst hsv
        clear hokd hkk hp1 hp2 hc0 hmm hat1 hat2 ht hx hu hk2 hk3 hhl2 hhl hIs hls hn3 hS hok BL
        obtain ⟨q1l, q1r, q1p, ⟨q1c0, q1c1, q1c2, q1c3, q1c4, q1c5⟩, ⟨q1f0, q1f1, q1f2, q1f3, q1f4, q1f5⟩⟩ := B0.d6
        go_wp2_with fail
        with_reducible refine (crash_any n ⟨a, b, ll, c, -1, false⟩ _ keep 0 wr (DV.mk hO hc) (by omega) HOKD.out).mono ?_
        rintro e w3 ⟨v3, rfl, hb3, h3⟩
        clear q1l q1r q1p q1c0 q1c1 q1c2 q1c3 q1c4 q1c5 q1f0 q1f1 q1f2 q1f3 q1f4 q1f5
        replace B0 := B0.stays hb3
        replace hO := hO.stays hb3
        have bw3 := nx hb hb3
        go_wp2_with fail
        with_reducible refine (start_any n _ _ w3 h3).mono ?_
        rintro e w4 ⟨v4, rfl, hb4, h4⟩
        rw [HC1.out] at h4
        obtain ⟨o4, rfl, hO4, hc4⟩ := h4
        simp only at hO4 ⊢
        obtain ⟨a4, c4, rfl⟩ := hO4.len
        obtain ⟨n4, hn4⟩ : ∃ q, ([] : List Do).length = q := ⟨_, rfl⟩
        rw [hn4] at hO4 hc4 ⊢
        clear hn4
        replace B0 := B0.stays hb4
        replace hO := hO.stays hb4
        have bw4 := nx bw3 hb4
        obtain ⟨X1, hX1⟩ : ∃ Q_ : World, w4.alloc (.cells #[.string t1, .string t2, .slice a4 n4 c4, .int .i64 c, .int .i64 (-1), .bool false] 28) = Q_ := ⟨_, rfl⟩
        have aX1 : Below w4.heap.size w4 X1 := hX1 ▸ below1 _ _
        have B16 : Bx X1 (w4.heap.size) #[.string t1, .string t2, .slice a4 n4 c4, .int .i64 c, .int .i64 (-1), .bool false] 28 := hX1 ▸ Bx.at (by first | rfl | omega) _ _
        replace B0 := B0.stays aX1
        replace hO := hO.stays aX1
        replace hO4 := hO4.stays aX1
        have bX1 := nx bw4 aX1
        obtain ⟨q2l, q2r, q2p, ⟨q2c0, q2c1, q2c2, q2c3, q2c4, q2c5⟩, ⟨q2f0, q2f1, q2f2, q2f3, q2f4, q2f5⟩⟩ := B16.d6
        have j1 := bX1.size
        go_wp2_with fail
        with_reducible refine (read_is (Lib.hid (show readS ⟨t1, t2, [], c, -1, false⟩ 0 = t1 from rfl)) (Lib.hid (show readE ⟨t1, t2, [], c, -1, false⟩ 0 = 0 from rfl)) (DV.mk hO4 hc4) (by omega) HK2.out.wt (Nat.zero_le _)).mono ?_
        rintro e w5 ⟨rfl, hb5⟩
        clear q2l q2r q2p q2c0 q2c1 q2c2 q2c3 q2c4 q2c5 q2f0 q2f1 q2f2 q2f3 q2f4 q2f5
        replace B0 := B0.stays hb5
        replace B16 := B16.stays hb5
        replace hO := hO.stays hb5
        replace hO4 := hO4.stays hb5
        have bw5 := nx bX1 hb5
        have jw5 := bw5.size
        obtain ⟨q3l, q3r, q3p, ⟨q3c0, q3c1, q3c2, q3c3, q3c4, q3c5⟩, ⟨q3f0, q3f1, q3f2, q3f3, q3f4, q3f5⟩⟩ := B16.d6
        go_wp2_with fail
        with_reducible refine (read_is (Lib.hid (show readS ⟨t1, t2, [], c, -1, false⟩ 1 = t2 from rfl)) (Lib.hid (show readE ⟨t1, t2, [], c, -1, false⟩ 1 = 0 from rfl)) (DV.mk hO4 hc4) (by omega) HK2.out.wt (Nat.zero_le _)).mono ?_
        rintro e w6 ⟨rfl, hb6⟩
        clear q3l q3r q3p q3c0 q3c1 q3c2 q3c3 q3c4 q3c5 q3f0 q3f1 q3f2 q3f3 q3f4 q3f5
        replace B0 := B0.stays hb6
        replace B16 := B16.stays hb6
        replace hO := hO.stays hb6
        replace hO4 := hO4.stays hb6
        have bw6 := nx bw5 hb6
        have jw6 := bw6.size
        have bwr6 : Below wr.heap.size wr w6 := nx hb3 (nx hb4 (nx aX1 (nx hb5 hb6)))
        obtain ⟨⟨y1, y2⟩, y3, y4⟩ := HZ.out w6 bwr6
        obtain ⟨q4l, q4r, q4p, ⟨q4c0, q4c1, q4c2, q4c3, q4c4, q4c5⟩, ⟨q4f0, q4f1, q4f2, q4f3, q4f4, q4f5⟩⟩ := B0.d6
        go_wp2_with fail
        with_reducible refine (crash_any n ⟨a, b, ll, c, -1, false⟩ _ keep torn w6 (DV.mk hO hc) (by omega) HOKD.out).mono ?_
        rintro e w7 ⟨v7, rfl, hb7, h7⟩
        clear q4l q4r q4p q4c0 q4c1 q4c2 q4c3 q4c4 q4c5 q4f0 q4f1 q4f2 q4f3 q4f4 q4f5
        clear y1 y2 y3 y4
        replace B0 := B0.stays hb7
        replace B16 := B16.stays hb7
        replace hO := hO.stays hb7
        replace hO4 := hO4.stays hb7
        have bw7 := nx bw6 hb7
        go_wp2_with fail
        with_reducible refine (start_any n _ _ w7 h7).mono ?_
        rintro e w8 ⟨v8, rfl, hb8, h8⟩
        rw [HC2.out] at h8
        obtain ⟨o8, rfl, hO8, hc8⟩ := h8
        simp only at hO8 ⊢
        obtain ⟨a8, c8, rfl⟩ := hO8.len
        obtain ⟨n8, hn8⟩ : ∃ q, ([] : List Do).length = q := ⟨_, rfl⟩
        rw [hn8] at hO8 hc8 ⊢
        clear hn8
        replace B0 := B0.stays hb8
        replace B16 := B16.stays hb8
        replace hO := hO.stays hb8
        replace hO4 := hO4.stays hb8
        have bw8 := nx bw7 hb8
        obtain ⟨X2, hX2⟩ : ∃ Q_ : World, w8.alloc (.cells #[.string u1, .string u2, .slice a8 n8 c8, .int .i64 c, .int .i64 (-1), .bool false] 28) = Q_ := ⟨_, rfl⟩
        have aX2 : Below w8.heap.size w8 X2 := hX2 ▸ below1 _ _
        have B22 : Bx X2 (w8.heap.size) #[.string u1, .string u2, .slice a8 n8 c8, .int .i64 c, .int .i64 (-1), .bool false] 28 := hX2 ▸ Bx.at (by first | rfl | omega) _ _
        replace B0 := B0.stays aX2
        replace B16 := B16.stays aX2
        replace hO := hO.stays aX2
        replace hO4 := hO4.stays aX2
        replace hO8 := hO8.stays aX2
        have bX2 := nx bw8 aX2
        obtain ⟨q5l, q5r, q5p, ⟨q5c0, q5c1, q5c2, q5c3, q5c4, q5c5⟩, ⟨q5f0, q5f1, q5f2, q5f3, q5f4, q5f5⟩⟩ := B22.d6
        have j2 := bX2.size
        go_wp2_with fail
        with_reducible refine (read_is (Lib.hid (show readS ⟨u1, u2, [], c, -1, false⟩ 0 = u1 from rfl)) (Lib.hid (show readE ⟨u1, u2, [], c, -1, false⟩ 0 = 0 from rfl)) (DV.mk hO8 hc8) (by omega) HK3.out.wt (Nat.zero_le _)).mono ?_
        rintro e w9 ⟨rfl, hb9⟩
        clear q5l q5r q5p q5c0 q5c1 q5c2 q5c3 q5c4 q5c5 q5f0 q5f1 q5f2 q5f3 q5f4 q5f5
        replace B0 := B0.stays hb9
        replace B16 := B16.stays hb9
        replace B22 := B22.stays hb9
        replace hO := hO.stays hb9
        replace hO4 := hO4.stays hb9
        replace hO8 := hO8.stays hb9
        have bw9 := nx bX2 hb9
        have jw9 := bw9.size
        obtain ⟨q6l, q6r, q6p, ⟨q6c0, q6c1, q6c2, q6c3, q6c4, q6c5⟩, ⟨q6f0, q6f1, q6f2, q6f3, q6f4, q6f5⟩⟩ := B22.d6
        go_wp2_with fail
        with_reducible refine (read_is (Lib.hid (show readS ⟨u1, u2, [], c, -1, false⟩ 1 = u2 from rfl)) (Lib.hid (show readE ⟨u1, u2, [], c, -1, false⟩ 1 = 0 from rfl)) (DV.mk hO8 hc8) (by omega) HK3.out.wt (Nat.zero_le _)).mono ?_
        rintro e w10 ⟨rfl, hb10⟩
        clear q6l q6r q6p q6c0 q6c1 q6c2 q6c3 q6c4 q6c5 q6f0 q6f1 q6f2 q6f3 q6f4 q6f5
        replace B0 := B0.stays hb10
        replace B16 := B16.stays hb10
        replace B22 := B22.stays hb10
        replace hO := hO.stays hb10
        replace hO4 := hO4.stays hb10
        replace hO8 := hO8.stays hb10
        have bw10 := nx bw9 hb10
        have jw10 := bw10.size
        have bwr10 : Below wr.heap.size wr w10 := nx bwr6 (nx hb7 (nx hb8 (nx aX2 (nx hb9 hb10))))
        obtain ⟨⟨y1, y2⟩, y3, y4⟩ := HZ.out w10 bwr10
        obtain ⟨X3, hX3⟩ : ∃ Q_ : World, w10.alloc (.cells #[.string x1, .string x2] 25) = Q_ := ⟨_, rfl⟩
        have aX3 : Below w10.heap.size w10 X3 := hX3 ▸ below1 _ _
        have B27 : Bx X3 (w10.heap.size) #[.string x1, .string x2] 25 := hX3 ▸ Bx.at (by first | rfl | omega) _ _
        replace B0 := B0.stays aX3
        replace B16 := B16.stays aX3
        replace B22 := B22.stays aX3
        replace hO := hO.stays aX3
        replace hO4 := hO4.stays aX3
        replace hO8 := hO8.stays aX3
        have bX3 := nx bw10 aX3
        obtain ⟨X4, hX4⟩ : ∃ Q_ : World, X3.alloc (.cells #[.string u1, .string u2] 9) = Q_ := ⟨_, rfl⟩
        have aX4 : Below X3.heap.size X3 X4 := hX4 ▸ below1 _ _
        have B46 : Bx X4 (X3.heap.size) #[.string u1, .string u2] 9 := hX4 ▸ Bx.at (by first | rfl | omega) _ _
        replace B0 := B0.stays aX4
        replace B16 := B16.stays aX4
        replace B22 := B22.stays aX4
        replace B27 := B27.stays aX4
        replace hO := hO.stays aX4
        replace hO4 := hO4.stays aX4
        replace hO8 := hO8.stays aX4
        have bX4 := nx bX3 aX4
        have bwr4 : Below wr.heap.size wr X4 := nx bwr10 (nx aX3 aX4)
        obtain ⟨⟨z1, z2⟩, z3, z4⟩ := HZ.out X4 bwr4
        obtain ⟨q7l, q7r, q7p, ⟨q7c0, q7c1⟩, ⟨q7f0, q7f1⟩⟩ := B27.d2
        obtain ⟨q8l, q8r, q8p, ⟨q8c0, q8c1⟩, ⟨q8f0, q8f1⟩⟩ := B46.d2
        go_wp2
        go_loopw [171] (fun i wx => X4 = wx ∧ (i = .int .i64 0 ∨ i = .int .i64 1 ∨ i = .int .i64 2)) (fun i _ => 2 - (intOf i).toNat)
        case atStart => exact ⟨rfl, .inl rfl⟩
        case round =>
          obtain ⟨rfl, rfl | rfl | rfl⟩ := hrel
          · obtain ⟨le, at9, nx9⟩ := HP1.out
            have g0 : decide (u1.size < t1.size) = false := decide_eq_false (by omega)
            by_cases hgt : t1.size < u1.size
            · obtain ⟨n5, n6⟩ := nx9 hgt
              have g1 : decide (t1.size < u1.size) = true := decide_eq_true hgt
              have g2 : decide (x1.size < u1.size) = false := decide_eq_false (by omega)
              clear nx9
              go_wp2
              go_roundw
              case rel => exact ⟨trivial, .inr (.inl rfl)⟩
              case measure => simp [intOf]
            · have g1 : decide (t1.size < u1.size) = false := decide_eq_false hgt
              clear nx9 hgt
              go_wp2
              go_roundw
              case rel => exact ⟨trivial, .inr (.inl rfl)⟩
              case measure => simp [intOf]
          · obtain ⟨le, at9, nx9⟩ := HP2.out
            have g0 : decide (u2.size < t2.size) = false := decide_eq_false (by omega)
            by_cases hgt : t2.size < u2.size
            · obtain ⟨n5, n6⟩ := nx9 hgt
              have g1 : decide (t2.size < u2.size) = true := decide_eq_true hgt
              have g2 : decide (x2.size < u2.size) = false := decide_eq_false (by omega)
              clear nx9
              go_wp2
              go_roundw
              case rel => exact ⟨trivial, .inr (.inr rfl)⟩
              case measure => simp [intOf]
            · have g1 : decide (t2.size < u2.size) = false := decide_eq_false hgt
              clear nx9 hgt
              go_wp2
              go_roundw
              case rel => exact ⟨trivial, .inr (.inr rfl)⟩
              case measure => simp [intOf]
          · go_wp2_with fail
            refine (awake_any X4).mono ?_
            rintro e w11 ⟨rfl, hb11⟩
            go_wp2
            go_ret
            exact ⟨rfl, nx bX4 hb11⟩
  · go_enter Try.func4, Try.ntmps4
    go_wp2_with fail
    with_reducible refine (far_is HQ h hlm).mono ?_
    rintro e w1 ⟨rfl, hb1⟩
    go_wp2_with fail
    refine (awake_any w1).mono ?_
    rintro e w2 ⟨rfl, hb2⟩
    go_wp2
    go_ret
    exact ⟨rfl, nx hb1 hb2⟩
end Go.Proofs.Ytegepbifbhamnaa.Dk
