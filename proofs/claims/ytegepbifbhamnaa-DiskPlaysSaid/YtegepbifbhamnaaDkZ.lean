/- Of the statements of layer 14: DiskPlays. -/
import Derived.Test.YtegepbifbhamnaaDkYH
import Derived.BigRegion
import Derived.ChangeAlike
namespace Go.Proofs.Ytegepbifbhamnaa.Dk
open Go.RowKit
set_option linter.unusedVariables false
open Go.Proofs.Ytegepbifbhamnaa.Rw
open Go.Proofs.Ytegepbifbhamnaa.Da
theorem start2 {n : Nat} {d : Ds} {v : Value} {w : World} {r : Ds × Int} (H : Hid ((staP d, 0) = r)) (h : DV n d v w) (hn : n ≤ w.heap.size) (hl : d.l.length ≤ 100000) : Calls Try.prog 15 #[v] w (PostD n r.1 w) := by rw [← H.out]; exact rStart_any n d v w h hn hl
theorem arm2 {n : Nat} {d : Ds} {v : Value} {k : Int} {w : World} {r : Ds × Int} (H : Hid ((armP d k, 0) = r)) (h : DV n d v w) (hn : n ≤ w.heap.size) (hl : d.l.length ≤ 100000) : Calls Try.prog 16 #[v, .int .i64 k] w (PostD n r.1 w) := by rw [← H.out]; exact rArm_any n d v k w h hn hl
theorem room2 {n : Nat} {d : Ds} {v : Value} {k : Int} {w : World} {r : Ds × Int} (H : Hid ((rooP d k, 0) = r)) (h : DV n d v w) (hn : n ≤ w.heap.size) (hl : d.l.length ≤ 100000) : Calls Try.prog 17 #[v, .int .i64 k] w (PostD n r.1 w) := by rw [← H.out]; exact rRoom_any n d v k w h hn hl
theorem crash2 {n : Nat} {d : Ds} {v : Value} {k q : Int} {w : World} {r : Ds × Int} (H : Hid ((craP d k q, 0) = r)) (h : DV n d v w) (hn : n ≤ w.heap.size) (hk : Ok 1000000 1000 d) : Calls Try.prog 14 #[v, .int .i64 k, .int .i64 q] w (PostD n r.1 w) := by rw [← H.out]; exact rCrash_any n d v k q w h hn hk
theorem append2 {n : Nat} {d : Ds} {v : Value} {z : Int} {x : ByteArray} {w : World} {r : Ds × Int} (H : Hid (appP d z x = r)) (h : DV n d v w) (hn : n ≤ w.heap.size) (hk : Ok 1000000 1000 d) (hx : x.size ≤ 1000000) : Calls Try.prog 11 #[v, .int .i64 z, .string x] w (Post2 n r w) := by rw [← H.out]; exact rAppend_any n d v z x w h hn hk hx
theorem erase2 {n : Nat} {d : Ds} {v : Value} {z : Int} {w : World} {r : Ds × Int} (H : Hid (eraP d z = r)) (h : DV n d v w) (hn : n ≤ w.heap.size) (hk : Ok 1000000 1000 d) : Calls Try.prog 12 #[v, .int .i64 z] w (Post2 n r w) := by rw [← H.out]; exact rErase_any n d v z w h hn hk
theorem sync2 {n : Nat} {d : Ds} {v : Value} {w : World} {r : Ds × Int} (H : Hid (synP d = r)) (h : DV n d v w) (hn : n ≤ w.heap.size) (hk : Ok 1000000 1000 d) : Calls Try.prog 13 #[v] w (Post2 n r w) := by rw [← H.out]; exact rSync_any n d v w h hn hk
theorem DV.ol {n : Nat} {a b : ByteArray} {l : List Do} {c f : Int} {dn : Bool} {o : Value} {w : World} (h : DV n ⟨a, b, l, c, f, dn⟩ (.agg (cD a b o c f dn)) w) : OL n l o w := by
  obtain ⟨o', e, h, _⟩ := h
  simp only [Value.agg.injEq, cD] at e
  have : o = o' := by injection e with e; simp at e; exact e
  rw [this]; exact h
set_option maxRecDepth 8000 in
set_option maxHeartbeats 64000000 in
theorem walkPlays (room : Int) (l : List Op5) (v : Value) (w : World) (h : CL (Bs.of w.heap.size) l v w) (hwf : wfCs l) {P : Prop} (_ : P) :
    Calls Try.prog 3 #[.int .i64 room, v] w fun e w' => e = .returned (.bool true) ∧ Below w.heap.size w w' := by
  have hlm : l.length ≤ maxLen := hwf.1
  obtain ⟨q, hq⟩ : ∃ q, farB l = q := ⟨_, rfl⟩
  have HQ := Lib.hid hq
  have HCL := Lib.hid (show ∀ u, Below w.heap.size w u → CL (Bs.of w.heap.size) l v u from fun u hu => Is.stays eC 31 h hu)
  have HWF := Lib.hid hwf
  cases q
  · have hfn := far_no hq
    obtain ⟨n, hn⟩ : ∃ n, n = w.heap.size := ⟨_, rfl⟩
    have hn0 : n ≤ w.heap.size := by omega
    clear hq hn hwf
    obtain ⟨n1, hn1⟩ : ∃ n, l.length = n := ⟨_, rfl⟩
    obtain ⟨a0, c0, rfl⟩ := h.len
    rw [hn1] at h HCL
    have HN := Lib.hid hn1
    have hl100 : n1 ≤ 100 := by omega
    have hwc : wc l ≤ 40000 := hfn.2
    rw [hn1]
    clear hfn hn1
    go_enter Try.func3, Try.ntmps3
    go_wp2_with fail
    with_reducible refine (far_is HQ (by rw [← HN.out] at h; exact HN.out ▸ h) hlm).mono ?_
    rintro e w1 ⟨rfl, hb1⟩
    go_wp2_with fail
    refine (new_any n room w1 (by have := hb1.size; omega)).mono ?_
    rintro e w2 ⟨v2, rfl, hb2, o2, rfl, hO2, hc2⟩
    go_wp2_with fail
    refine (rNew_any n room w2).mono ?_
    rintro e w3 ⟨v3, rfl, hb3, o3, rfl, hO3, hc3⟩
    obtain ⟨d, hd⟩ : ∃ d, newP room = d := ⟨_, rfl⟩
    have hok : Ok (wc (l.take 0)) 0 d := by rw [← hd]; exact (Ok.newP room).mono (Nat.zero_le _) (Nat.le_refl 0)
    rw [hd] at hO2 hO3 ⊢
    replace hO2 := hO2.stays hb3
    have bw3 := nx hb1 (nx hb2 hb3)
    obtain ⟨p, hp⟩ : ∃ p, p = w3.heap.size := ⟨_, rfl⟩
    have hp0 : w.heap.size ≤ p := by have := bw3.size; omega
    obtain ⟨p6, hp6⟩ : ∃ q, q = p + 1 := ⟨_, rfl⟩
    have HD0 : Hid (Dst n p d ((w3.alloc (.cells #[.string d.a, .string d.b, o2, .int .i64 d.c, .int .i64 d.f, .bool d.n] 28)).alloc (.cells #[.string d.a, .string d.b, o3, .int .i64 d.c, .int .i64 d.f, .bool d.n] 28)) ∧ Dst n p6 d ((w3.alloc (.cells #[.string d.a, .string d.b, o2, .int .i64 d.c, .int .i64 d.f, .bool d.n] 28)).alloc (.cells #[.string d.a, .string d.b, o3, .int .i64 d.c, .int .i64 d.f, .bool d.n] 28)) ∧ Below w.heap.size w ((w3.alloc (.cells #[.string d.a, .string d.b, o2, .int .i64 d.c, .int .i64 d.f, .bool d.n] 28)).alloc (.cells #[.string d.a, .string d.b, o3, .int .i64 d.c, .int .i64 d.f, .bool d.n] 28))) := Lib.hid ⟨⟨o2, (Bx.at hp _ _).alloc _, hO2.stays (below2 _ _ _), hc2⟩, ⟨o3, Bx.at (by rw [hp6, hp]; simp) _ _, hO3.stays (below2 _ _ _), hc3⟩, nx bw3 (below2 _ _ _)⟩
    have HOK := Lib.hid hok
    have HP := Lib.hid hp
    have HP6 := Lib.hid hp6
    have hpp : p < p6 := by omega
    obtain ⟨a2, c2, ho2⟩ := hO2.len
    obtain ⟨a3, c3, ho3⟩ := hO3.len
    obtain ⟨n2, hn2⟩ : ∃ q, d.l.length = q := ⟨_, rfl⟩
    rw [hn2] at ho2 ho3
    subst ho2 ho3
    clear hok hd hO2 hc2 hO3 hc3 hp hp6 hn2 hb1 hb2 hb3
    go_wp2
    rw [← HP.out, ← HP6.out]
    go_loopw [27] (fun i wr => ∃ (k : Nat) (d : Ds), k ≤ n1 ∧ i = .int .i64 k ∧ Ok (wc (l.take k)) k d ∧ Dst n p d wr ∧ Dst n p6 d wr ∧ Below w.heap.size w wr) (fun i _ => n1 - (intOf i).toNat)
    case atStart => exact ⟨0, d, Nat.zero_le _, rfl, HOK.out, HD0.out.1, HD0.out.2.1, HD0.out.2.2⟩
    case round =>
      clear HOK HD0 bw3
      obtain ⟨k, d, hk, rfl, hok, ⟨o, B0, hO, hc⟩, ⟨o', B6, hO6, hc6⟩, hb⟩ := hrel
      obtain ⟨wo, rfl⟩ : ∃ wo : World, wo = wr := ⟨_, rfl⟩
      by_cases hlt : k < n1
      · have hlt2 : (k : Int) < n1 := by omega
        have hkl : k < l.length := by rw [HN.out]; exact hlt
        have hcl := HCL.out wo hb
        rcases hcl.cases with ⟨e, _⟩ | ⟨_, bb, off, cc, e, hat⟩
        · rw [e] at hkl; cases hkl
        simp only [Value.slice.injEq] at e
        obtain ⟨rfl, -, rfl⟩ := e
        obtain ⟨y0, y1, y2, y3, y4⟩ := atC hat k hkl
        have hwt := wc_take hkl
        have hwl := wc_le l (k + 1)
        have hmw := mem_wf HWF.out k hkl
        obtain ⟨⟨o1, o2, o3, o4, o5⟩, hs⟩ : ∃ s, l[k] = s := ⟨_, rfl⟩
        rw [hs] at y0 y1 y2 y3 y4 hwt hmw
        simp only at y0 y1 y2 y3 y4 hwt hmw
        obtain ⟨r, hr⟩ : ∃ r, stepP d (o1, o2, o3, o4, o5) = r := ⟨_, rfl⟩
        have HR := Lib.hid hr
        have hok1 : Ok (wc (l.take (k + 1))) (k + 1) r.1 := by rw [← hr, hwt]; exact hok.stepP (o1, o2, o3, o4, o5) hmw
        have HOK1 := Lib.hid hok1
        have hokd : Ok 1000000 1000 d := hok.mono (by have := wc_le l k; omega) (by omega)
        have hokr : Ok 1000000 1000 r.1 := hok1.mono (by omega) (by omega)
        have hx5 : o5.size ≤ 1000000 := by omega
        have HOKD := Lib.hid hokd
        have HOKR := Lib.hid hokr
        obtain ⟨a, b, ll, c, f, dn⟩ := d
        simp only at B0 hO B6 hO6
        obtain ⟨a3, c3, rfl⟩ := hO.len
        obtain ⟨a5, c5, rfl⟩ := hO6.len
        obtain ⟨n3, hn3⟩ : ∃ q, ll.length = q := ⟨_, rfl⟩
        rw [hn3] at B0 hO hc B6 hO6 hc6
        have hpl := B0.lt
        have hpl6 := B6.lt
        have hlc : ll.length ≤ 1000 := hokd.len
        have HLL : Hid (ll.length ≤ 100000) := Lib.hid (by omega)
        clear hcl hat hs hwt hwl hmw hok1 hokd hokr hn3 hok hlc
        by_cases h0 : o1 = 0
        · subst h0
          have HR2 : Hid ((appP ⟨a, b, ll, c, f, dn⟩ o2 o5) = r) := HR
          obtain ⟨W, hW⟩ : ∃ Q_ : World, wo.alloc (.cells #[.int .i64 0, .int .i64 o2, .int .i64 o3, .int .i64 o4, .string o5] 31) = Q_ := ⟨_, rfl⟩
          have aW : Below wo.heap.size wo W := hW ▸ below1 _ _
          have B8 : Bx W (wo.heap.size) #[.int .i64 0, .int .i64 o2, .int .i64 o3, .int .i64 o4, .string o5] 31 := hW ▸ Bx.at (by first | rfl | omega) _ _
          replace B0 := B0.stays aW
          replace B6 := B6.stays aW
          replace hO := hO.stays aW
          replace hO6 := hO6.stays aW
          have bW := nx hb aW
          obtain ⟨q1l, q1r, q1p, ⟨q1c0, q1c1, q1c2, q1c3, q1c4, q1c5⟩, ⟨q1f0, q1f1, q1f2, q1f3, q1f4, q1f5⟩⟩ := B0.d6
          obtain ⟨q2l, q2r, q2p, ⟨q2c0, q2c1, q2c2, q2c3, q2c4⟩⟩ := B8.d5
          have hwr := hb.size
          have hnW : n ≤ W.heap.size := by have := aW.size; omega
          go_wp2_with fail
          with_reducible refine (step_is HR (DV.mk hO hc) hnW HOKD.out hx5).mono ?_
          rintro e w3 ⟨v3, rfl, hb3, o9, rfl, hO9, hc9⟩
          obtain ⟨⟨a4, b4, l4, c4, f4, dn4⟩, k4⟩ := r
          simp only at hO9 ⊢
          obtain ⟨a9, c9, rfl⟩ := hO9.len
          obtain ⟨n9, hn9⟩ : ∃ q, l4.length = q := ⟨_, rfl⟩
          rw [hn9] at hO9 hc9 ⊢
          have HN9 := Lib.hid hn9
          clear hn9
          clear q1l q1r q1p q1c0 q1c1 q1c2 q1c3 q1c4 q1c5 q1f0 q1f1 q1f2 q1f3 q1f4 q1f5
          clear q2l q2r q2p q2c0 q2c1 q2c2 q2c3 q2c4
          replace B0 := B0.stays hb3
          replace B6 := B6.stays hb3
          replace B8 := B8.stays hb3
          replace hO := hO.stays hb3
          replace hO6 := hO6.stays hb3
          have bw3 := nx bW hb3
          have j3 := hb3.size
          have jW := aW.size
          have j8 := B8.lt
          obtain ⟨X, hX⟩ : ∃ Q_ : World, w3.alloc (.cells #[.string a4, .string b4, .slice a9 n9 c9, .int .i64 c4, .int .i64 f4, .bool dn4] 28) = Q_ := ⟨_, rfl⟩
          have aX : Below w3.heap.size w3 X := hX ▸ below1 _ _
          have B9 : Bx X (w3.heap.size) #[.string a4, .string b4, .slice a9 n9 c9, .int .i64 c4, .int .i64 f4, .bool dn4] 28 := hX ▸ Bx.at (by first | rfl | omega) _ _
          replace B0 := B0.stays aX
          replace B6 := B6.stays aX
          replace B8 := B8.stays aX
          replace hO := hO.stays aX
          replace hO6 := hO6.stays aX
          replace hO9 := hO9.stays aX
          have bX := nx bw3 aX
          have j9 := B9.lt
          obtain ⟨X2, hX2⟩ : ∃ Q_ : World, X.alloc (.cells #[.string ⟨#[]⟩, .string ⟨#[]⟩, .slice none 0 0, .int .i64 0, .int .i64 0, .bool false] 28) = Q_ := ⟨_, rfl⟩
          have aX2 : Below X.heap.size X X2 := hX2 ▸ below1 _ _
          have B11 : Bx X2 (X.heap.size) #[.string ⟨#[]⟩, .string ⟨#[]⟩, .slice none 0 0, .int .i64 0, .int .i64 0, .bool false] 28 := hX2 ▸ Bx.at (by first | rfl | omega) _ _
          replace B0 := B0.stays aX2
          replace B6 := B6.stays aX2
          replace B8 := B8.stays aX2
          replace B9 := B9.stays aX2
          replace hO := hO.stays aX2
          replace hO6 := hO6.stays aX2
          replace hO9 := hO9.stays aX2
          have bX2 := nx bX aX2
          have j11 := B11.lt
          have HNX : n ≤ X2.heap.size := by omega
          obtain ⟨q3l, q3r, q3p, ⟨q3c0, q3c1, q3c2, q3c3, q3c4⟩⟩ := B8.d5
          obtain ⟨q4l, q4r, q4p, ⟨q4c0, q4c1, q4c2, q4c3, q4c4, q4c5⟩, ⟨q4f0, q4f1, q4f2, q4f3, q4f4, q4f5⟩⟩ := B6.d6
          obtain ⟨q5l, q5r, q5p, ⟨q5c0, q5c1, q5c2, q5c3, q5c4, q5c5⟩, ⟨q5f0, q5f1, q5f2, q5f3, q5f4, q5f5⟩⟩ := B9.d6
          go_wp2_with fail
          with_reducible refine (append2 HR2 (DV.mk hO6 hc6) HNX HOKD.out hx5).mono ?_
          rintro e w4 ⟨v4, rfl, hb4, o10, rfl, hO10, hc10⟩
          simp only at hO10 ⊢
          obtain ⟨a10, c10, rfl⟩ := hO10.len
          rw [HN9.out] at hO10 hc10 ⊢
          clear q3l q3r q3p q3c0 q3c1 q3c2 q3c3 q3c4
          clear q4l q4r q4p q4c0 q4c1 q4c2 q4c3 q4c4 q4c5 q4f0 q4f1 q4f2 q4f3 q4f4 q4f5
          clear q5l q5r q5p q5c0 q5c1 q5c2 q5c3 q5c4 q5c5 q5f0 q5f1 q5f2 q5f3 q5f4 q5f5
          replace B0 := B0.stays hb4
          replace B6 := B6.stays hb4
          replace B8 := B8.stays hb4
          replace B9 := B9.stays hb4
          replace B11 := B11.stays hb4
          replace hO := hO.stays hb4
          replace hO6 := hO6.stays hb4
          replace hO9 := hO9.stays hb4
          have bw4 := nx bX2 hb4
          obtain ⟨q6l, q6r, q6p, ⟨q6c0, q6c1, q6c2, q6c3, q6c4, q6c5⟩, ⟨q6f0, q6f1, q6f2, q6f3, q6f4, q6f5⟩⟩ := B11.d6
          obtain ⟨Y, hY⟩ : ∃ Q_ : World, w4.setRow (X.heap.size) #[.string a4, .string b4, .slice a10 n9 c10, .int .i64 c4, .int .i64 f4, .bool dn4] = Q_ := ⟨_, rfl⟩
          have bY : Below w.heap.size w Y := hY ▸ (bw4).trans (low_setRow _ (by omega))
          replace hO : OL n ll (.slice a3 n3 c3) Y := hY ▸ hO.keep (keeps_setRow _ B11 (by decide) (by show n ≤ _; omega))
          replace hO6 : OL n ll (.slice a5 n3 c5) Y := hY ▸ hO6.keep (keeps_setRow _ B11 (by decide) (by show n ≤ _; omega))
          replace hO9 : OL n l4 (.slice a9 n9 c9) Y := hY ▸ hO9.keep (keeps_setRow _ B11 (by decide) (by show n ≤ _; omega))
          replace hO10 : OL n l4 (.slice a10 n9 c10) Y := hY ▸ hO10.keep (keeps_setRow _ B11 (by decide) (by show n ≤ _; omega))
          replace B0 : Bx Y (p) #[.string a, .string b, .slice a3 n3 c3, .int .i64 c, .int .i64 f, .bool dn] 28 := hY ▸ B0.put' (by omega) _
          replace B6 : Bx Y (p6) #[.string a, .string b, .slice a5 n3 c5, .int .i64 c, .int .i64 f, .bool dn] 28 := hY ▸ B6.put' (by omega) _
          replace B8 : Bx Y (wo.heap.size) #[.int .i64 0, .int .i64 o2, .int .i64 o3, .int .i64 o4, .string o5] 31 := hY ▸ B8.put' (by omega) _
          replace B9 : Bx Y (w3.heap.size) #[.string a4, .string b4, .slice a9 n9 c9, .int .i64 c4, .int .i64 f4, .bool dn4] 28 := hY ▸ B9.put' (by omega) _
          replace B11 : Bx Y (X.heap.size) #[.string a4, .string b4, .slice a10 n9 c10, .int .i64 c4, .int .i64 f4, .bool dn4] 28 := hY ▸ B11.put _
          obtain ⟨q7l, q7r, q7p, ⟨q7c0, q7c1, q7c2, q7c3, q7c4, q7c5⟩, ⟨q7f0, q7f1, q7f2, q7f3, q7f4, q7f5⟩⟩ := B9.d6
          obtain ⟨q8l, q8r, q8p, ⟨q8c0, q8c1, q8c2, q8c3, q8c4, q8c5⟩, ⟨q8f0, q8f1, q8f2, q8f3, q8f4, q8f5⟩⟩ := B11.d6
          go_wp2_with fail
          with_reducible refine (same_yes (n := n) (n' := n) ⟨a4, b4, l4, c4, f4, dn4⟩ _ _ Y (DV.mk hO9 hc9) (DV.mk hO10 hc10) (Nat.le_trans HOKR.out.len (by decide))).mono ?_
          rintro e w5 ⟨rfl, hb5⟩
          clear q6l q6r q6p q6c0 q6c1 q6c2 q6c3 q6c4 q6c5 q6f0 q6f1 q6f2 q6f3 q6f4 q6f5
          clear q7l q7r q7p q7c0 q7c1 q7c2 q7c3 q7c4 q7c5 q7f0 q7f1 q7f2 q7f3 q7f4 q7f5
          clear q8l q8r q8p q8c0 q8c1 q8c2 q8c3 q8c4 q8c5 q8f0 q8f1 q8f2 q8f3 q8f4 q8f5
          replace B0 := B0.stays hb5
          replace B6 := B6.stays hb5
          replace B8 := B8.stays hb5
          replace B9 := B9.stays hb5
          replace B11 := B11.stays hb5
          replace hO := hO.stays hb5
          replace hO6 := hO6.stays hb5
          replace hO9 := hO9.stays hb5
          replace hO10 := hO10.stays hb5
          have bw5 := nx bY hb5
          obtain ⟨q9l, q9r, q9p, ⟨q9c0, q9c1, q9c2, q9c3, q9c4, q9c5⟩, ⟨q9f0, q9f1, q9f2, q9f3, q9f4, q9f5⟩⟩ := B9.d6
          obtain ⟨q10l, q10r, q10p, ⟨q10c0, q10c1, q10c2, q10c3, q10c4, q10c5⟩, ⟨q10f0, q10f1, q10f2, q10f3, q10f4, q10f5⟩⟩ := B11.d6
          obtain ⟨q11l, q11r, q11p, ⟨q11c0, q11c1, q11c2, q11c3, q11c4, q11c5⟩, ⟨q11f0, q11f1, q11f2, q11f3, q11f4, q11f5⟩⟩ := B0.d6
          obtain ⟨Z1, hZ1⟩ : ∃ Q_ : World, w5.setRow (p) #[.string a4, .string b4, .slice a9 n9 c9, .int .i64 c4, .int .i64 f4, .bool dn4] = Q_ := ⟨_, rfl⟩
          have bZ1 : Below w.heap.size w Z1 := hZ1 ▸ (bw5).trans (low_setRow _ (by omega))
          replace hO : OL n ll (.slice a3 n3 c3) Z1 := hZ1 ▸ hO.keep (keeps_setRow _ B0 (by decide) (by show n ≤ _; omega))
          replace hO6 : OL n ll (.slice a5 n3 c5) Z1 := hZ1 ▸ hO6.keep (keeps_setRow _ B0 (by decide) (by show n ≤ _; omega))
          replace hO9 : OL n l4 (.slice a9 n9 c9) Z1 := hZ1 ▸ hO9.keep (keeps_setRow _ B0 (by decide) (by show n ≤ _; omega))
          replace hO10 : OL n l4 (.slice a10 n9 c10) Z1 := hZ1 ▸ hO10.keep (keeps_setRow _ B0 (by decide) (by show n ≤ _; omega))
          replace B6 : Bx Z1 (p6) #[.string a, .string b, .slice a5 n3 c5, .int .i64 c, .int .i64 f, .bool dn] 28 := hZ1 ▸ B6.put' (by omega) _
          replace B8 : Bx Z1 (wo.heap.size) #[.int .i64 0, .int .i64 o2, .int .i64 o3, .int .i64 o4, .string o5] 31 := hZ1 ▸ B8.put' (by omega) _
          replace B9 : Bx Z1 (w3.heap.size) #[.string a4, .string b4, .slice a9 n9 c9, .int .i64 c4, .int .i64 f4, .bool dn4] 28 := hZ1 ▸ B9.put' (by omega) _
          replace B11 : Bx Z1 (X.heap.size) #[.string a4, .string b4, .slice a10 n9 c10, .int .i64 c4, .int .i64 f4, .bool dn4] 28 := hZ1 ▸ B11.put' (by omega) _
          replace B0 : Bx Z1 (p) #[.string a4, .string b4, .slice a9 n9 c9, .int .i64 c4, .int .i64 f4, .bool dn4] 28 := hZ1 ▸ B0.put _
          obtain ⟨q12l, q12r, q12p, ⟨q12c0, q12c1, q12c2, q12c3, q12c4, q12c5⟩, ⟨q12f0, q12f1, q12f2, q12f3, q12f4, q12f5⟩⟩ := B6.d6
          obtain ⟨q13l, q13r, q13p, ⟨q13c0, q13c1, q13c2, q13c3, q13c4, q13c5⟩, ⟨q13f0, q13f1, q13f2, q13f3, q13f4, q13f5⟩⟩ := B9.d6
          obtain ⟨q14l, q14r, q14p, ⟨q14c0, q14c1, q14c2, q14c3, q14c4, q14c5⟩, ⟨q14f0, q14f1, q14f2, q14f3, q14f4, q14f5⟩⟩ := B11.d6
          obtain ⟨Z2, hZ2⟩ : ∃ Q_ : World, Z1.setRow (p6) #[.string a4, .string b4, .slice a10 n9 c10, .int .i64 c4, .int .i64 f4, .bool dn4] = Q_ := ⟨_, rfl⟩
          have bZ2 : Below w.heap.size w Z2 := hZ2 ▸ (bZ1).trans (low_setRow _ (by omega))
          replace hO : OL n ll (.slice a3 n3 c3) Z2 := hZ2 ▸ hO.keep (keeps_setRow _ B6 (by decide) (by show n ≤ _; omega))
          replace hO6 : OL n ll (.slice a5 n3 c5) Z2 := hZ2 ▸ hO6.keep (keeps_setRow _ B6 (by decide) (by show n ≤ _; omega))
          replace hO9 : OL n l4 (.slice a9 n9 c9) Z2 := hZ2 ▸ hO9.keep (keeps_setRow _ B6 (by decide) (by show n ≤ _; omega))
          replace hO10 : OL n l4 (.slice a10 n9 c10) Z2 := hZ2 ▸ hO10.keep (keeps_setRow _ B6 (by decide) (by show n ≤ _; omega))
          replace B0 : Bx Z2 (p) #[.string a4, .string b4, .slice a9 n9 c9, .int .i64 c4, .int .i64 f4, .bool dn4] 28 := hZ2 ▸ B0.put' (by omega) _
          replace B8 : Bx Z2 (wo.heap.size) #[.int .i64 0, .int .i64 o2, .int .i64 o3, .int .i64 o4, .string o5] 31 := hZ2 ▸ B8.put' (by omega) _
          replace B9 : Bx Z2 (w3.heap.size) #[.string a4, .string b4, .slice a9 n9 c9, .int .i64 c4, .int .i64 f4, .bool dn4] 28 := hZ2 ▸ B9.put' (by omega) _
          replace B11 : Bx Z2 (X.heap.size) #[.string a4, .string b4, .slice a10 n9 c10, .int .i64 c4, .int .i64 f4, .bool dn4] 28 := hZ2 ▸ B11.put' (by omega) _
          replace B6 : Bx Z2 (p6) #[.string a4, .string b4, .slice a10 n9 c10, .int .i64 c4, .int .i64 f4, .bool dn4] 28 := hZ2 ▸ B6.put _
          obtain ⟨Z, hZ⟩ : ∃ Q_ : World, Z2.drew = Q_ := ⟨_, rfl⟩
          have aZ : Below Z2.heap.size Z2 Z := hZ ▸ (Below.refl _ _).drew
          replace B0 := B0.stays aZ
          replace B6 := B6.stays aZ
          replace B8 := B8.stays aZ
          replace B9 := B9.stays aZ
          replace B11 := B11.stays aZ
          replace hO := hO.stays aZ
          replace hO6 := hO6.stays aZ
          replace hO9 := hO9.stays aZ
          replace hO10 := hO10.stays aZ
          have bZ := nx bZ2 aZ
          have HB5 := Lib.hid B0
          have HB6 := Lib.hid B6
          have HB8 := Lib.hid B8
          have HO5 := Lib.hid (show DV n ⟨a4, b4, l4, c4, f4, dn4⟩ (.agg (cD a4 b4 (.slice a9 n9 c9) c4 f4 dn4)) Z from DV.mk hO9 hc9)
          have HO6 := Lib.hid (show DV n ⟨a4, b4, l4, c4, f4, dn4⟩ (.agg (cD a4 b4 (.slice a10 n9 c10) c4 f4 dn4)) Z from DV.mk hO10 hc10)
          have jZ := bZ.size
          have jnZ : n ≤ Z.heap.size := by omega
          go_wp2
          go_region
          go_wp2
          clear q9l q9r q9p q9c0 q9c1 q9c2 q9c3 q9c4 q9c5 q9f0 q9f1 q9f2 q9f3 q9f4 q9f5
          clear q10l q10r q10p q10c0 q10c1 q10c2 q10c3 q10c4 q10c5 q10f0 q10f1 q10f2 q10f3 q10f4 q10f5
          clear q11l q11r q11p q11c0 q11c1 q11c2 q11c3 q11c4 q11c5 q11f0 q11f1 q11f2 q11f3 q11f4 q11f5
          clear q12l q12r q12p q12c0 q12c1 q12c2 q12c3 q12c4 q12c5 q12f0 q12f1 q12f2 q12f3 q12f4 q12f5
          clear q13l q13r q13p q13c0 q13c1 q13c2 q13c3 q13c4 q13c5 q13f0 q13f1 q13f2 q13f3 q13f4 q13f5
          clear q14l q14r q14p q14c0 q14c1 q14c2 q14c3 q14c4 q14c5 q14f0 q14f1 q14f2 q14f3 q14f4 q14f5
          clear B0 B6 B8 B9 B11 hO hO6 hO9 hO10
          have HC9 := Lib.hid hc9
          have HC10 := Lib.hid hc10
          go_loopw [99] (fun i wx => ∃ j : Nat, j ≤ 3 ∧ i = .int .i64 j ∧ Below Z.heap.size Z wx) (fun i _ => 3 - (intOf i).toNat)
          case atStart => exact ⟨0, by omega, rfl, Below.refl _ _⟩
          case round =>
            obtain ⟨j, hj, rfl, hbz⟩ := hrel
            have jwr := hbz.size
            by_cases hj3 : j < 3
            · have hj4 : (j : Int) < 3 := by omega
              obtain ⟨q1, q2, q3, ⟨q4, q5, q6, q7, q8, q9⟩, _⟩ := (HB5.out.stays hbz).d6
              obtain ⟨p1, p2, p3, p4, p5⟩ := (HB8.out.stays hbz).d5
              go_wp2_with fail
              with_reducible refine (read_any n ⟨a4, b4, l4, c4, f4, dn4⟩ _ _ wr (HO5.out.stays hbz) (by omega) HOKR.out.wt (Nat.le_trans HOKR.out.len (by decide))).mono ?_
              rintro e w6 ⟨rfl, hb6⟩
              have hbz6 := nx hbz hb6
              have j6 := hb6.size
              clear q1 q2 q3 q4 q5 q6 q7 q8 q9 p1 p2 p3 p4 p5
              obtain ⟨q1, q2, q3, ⟨q4, q5, q6, q7, q8, q9⟩, _⟩ := (HB6.out.stays hbz6).d6
              obtain ⟨p1, p2, p3, p4, p5⟩ := (HB8.out.stays hbz6).d5
              go_wp2_with fail
              with_reducible refine (rRead_any n ⟨a4, b4, l4, c4, f4, dn4⟩ _ _ w6 (HO6.out.stays hbz6) (by omega) HOKR.out.wt (Nat.le_trans HOKR.out.len (by decide))).mono ?_
              rintro e w7 ⟨rfl, hb7⟩
              go_wp2
              go_roundw
              case rel => exact ⟨j + 1, by omega, by go_num, nx hbz6 hb7⟩
              case measure => simp [intOf]; omega
            · have HF := Lib.hid (show Dst n p ⟨a4, b4, l4, c4, f4, dn4⟩ wr ∧ Dst n p6 ⟨a4, b4, l4, c4, f4, dn4⟩ wr ∧ Below w.heap.size w wr from ⟨⟨_, HB5.out.stays hbz, (HO5.out.stays hbz).ol, HC9.out⟩, ⟨_, HB6.out.stays hbz, (HO6.out.stays hbz).ol, HC10.out⟩, nx bZ hbz⟩)
              obtain rfl : j = 3 := by omega
              go_wp2
              go_roundw
              case rel => first | exact ⟨k + 1, ⟨a4, b4, l4, c4, f4, dn4⟩, by omega, by go_num, HOK1.out, HF.out⟩ | ((repeat apply Exists.intro); exact ⟨⟨k + 1, ⟨a4, b4, l4, c4, f4, dn4⟩, by omega, by go_num, HOK1.out, HF.out⟩, rfl⟩)
              case measure => simp [intOf]; omega
        by_cases h1 : o1 = 1
        · subst h1
          have HR2 : Hid ((eraP ⟨a, b, ll, c, f, dn⟩ o2) = r) := HR
          clear h0
          obtain ⟨W, hW⟩ : ∃ Q_ : World, wo.alloc (.cells #[.int .i64 1, .int .i64 o2, .int .i64 o3, .int .i64 o4, .string o5] 31) = Q_ := ⟨_, rfl⟩
          have aW : Below wo.heap.size wo W := hW ▸ below1 _ _
          have B8 : Bx W (wo.heap.size) #[.int .i64 1, .int .i64 o2, .int .i64 o3, .int .i64 o4, .string o5] 31 := hW ▸ Bx.at (by first | rfl | omega) _ _
          replace B0 := B0.stays aW
          replace B6 := B6.stays aW
          replace hO := hO.stays aW
          replace hO6 := hO6.stays aW
          have bW := nx hb aW
          obtain ⟨q1l, q1r, q1p, ⟨q1c0, q1c1, q1c2, q1c3, q1c4, q1c5⟩, ⟨q1f0, q1f1, q1f2, q1f3, q1f4, q1f5⟩⟩ := B0.d6
          obtain ⟨q2l, q2r, q2p, ⟨q2c0, q2c1, q2c2, q2c3, q2c4⟩⟩ := B8.d5
          have hwr := hb.size
          have hnW : n ≤ W.heap.size := by have := aW.size; omega
          go_wp2_with fail
          with_reducible refine (step_is HR (DV.mk hO hc) hnW HOKD.out hx5).mono ?_
          rintro e w3 ⟨v3, rfl, hb3, o9, rfl, hO9, hc9⟩
          obtain ⟨⟨a4, b4, l4, c4, f4, dn4⟩, k4⟩ := r
          simp only at hO9 ⊢
          obtain ⟨a9, c9, rfl⟩ := hO9.len
          obtain ⟨n9, hn9⟩ : ∃ q, l4.length = q := ⟨_, rfl⟩
          rw [hn9] at hO9 hc9 ⊢
          have HN9 := Lib.hid hn9
          clear hn9
          clear q1l q1r q1p q1c0 q1c1 q1c2 q1c3 q1c4 q1c5 q1f0 q1f1 q1f2 q1f3 q1f4 q1f5
          clear q2l q2r q2p q2c0 q2c1 q2c2 q2c3 q2c4
          replace B0 := B0.stays hb3
          replace B6 := B6.stays hb3
          replace B8 := B8.stays hb3
          replace hO := hO.stays hb3
          replace hO6 := hO6.stays hb3
          have bw3 := nx bW hb3
          have j3 := hb3.size
          have jW := aW.size
          have j8 := B8.lt
          obtain ⟨X, hX⟩ : ∃ Q_ : World, w3.alloc (.cells #[.string a4, .string b4, .slice a9 n9 c9, .int .i64 c4, .int .i64 f4, .bool dn4] 28) = Q_ := ⟨_, rfl⟩
          have aX : Below w3.heap.size w3 X := hX ▸ below1 _ _
          have B9 : Bx X (w3.heap.size) #[.string a4, .string b4, .slice a9 n9 c9, .int .i64 c4, .int .i64 f4, .bool dn4] 28 := hX ▸ Bx.at (by first | rfl | omega) _ _
          replace B0 := B0.stays aX
          replace B6 := B6.stays aX
          replace B8 := B8.stays aX
          replace hO := hO.stays aX
          replace hO6 := hO6.stays aX
          replace hO9 := hO9.stays aX
          have bX := nx bw3 aX
          have j9 := B9.lt
          obtain ⟨X2, hX2⟩ : ∃ Q_ : World, X.alloc (.cells #[.string ⟨#[]⟩, .string ⟨#[]⟩, .slice none 0 0, .int .i64 0, .int .i64 0, .bool false] 28) = Q_ := ⟨_, rfl⟩
          have aX2 : Below X.heap.size X X2 := hX2 ▸ below1 _ _
          have B11 : Bx X2 (X.heap.size) #[.string ⟨#[]⟩, .string ⟨#[]⟩, .slice none 0 0, .int .i64 0, .int .i64 0, .bool false] 28 := hX2 ▸ Bx.at (by first | rfl | omega) _ _
          replace B0 := B0.stays aX2
          replace B6 := B6.stays aX2
          replace B8 := B8.stays aX2
          replace B9 := B9.stays aX2
          replace hO := hO.stays aX2
          replace hO6 := hO6.stays aX2
          replace hO9 := hO9.stays aX2
          have bX2 := nx bX aX2
          have j11 := B11.lt
          have HNX : n ≤ X2.heap.size := by omega
          obtain ⟨q3l, q3r, q3p, ⟨q3c0, q3c1, q3c2, q3c3, q3c4⟩⟩ := B8.d5
          obtain ⟨q4l, q4r, q4p, ⟨q4c0, q4c1, q4c2, q4c3, q4c4, q4c5⟩, ⟨q4f0, q4f1, q4f2, q4f3, q4f4, q4f5⟩⟩ := B6.d6
          obtain ⟨q5l, q5r, q5p, ⟨q5c0, q5c1, q5c2, q5c3, q5c4, q5c5⟩, ⟨q5f0, q5f1, q5f2, q5f3, q5f4, q5f5⟩⟩ := B9.d6
          go_wp2_with fail
          with_reducible refine (erase2 HR2 (DV.mk hO6 hc6) HNX HOKD.out).mono ?_
          rintro e w4 ⟨v4, rfl, hb4, o10, rfl, hO10, hc10⟩
          simp only at hO10 ⊢
          obtain ⟨a10, c10, rfl⟩ := hO10.len
          rw [HN9.out] at hO10 hc10 ⊢
          clear q3l q3r q3p q3c0 q3c1 q3c2 q3c3 q3c4
          clear q4l q4r q4p q4c0 q4c1 q4c2 q4c3 q4c4 q4c5 q4f0 q4f1 q4f2 q4f3 q4f4 q4f5
          clear q5l q5r q5p q5c0 q5c1 q5c2 q5c3 q5c4 q5c5 q5f0 q5f1 q5f2 q5f3 q5f4 q5f5
          replace B0 := B0.stays hb4
          replace B6 := B6.stays hb4
          replace B8 := B8.stays hb4
          replace B9 := B9.stays hb4
          replace B11 := B11.stays hb4
          replace hO := hO.stays hb4
          replace hO6 := hO6.stays hb4
          replace hO9 := hO9.stays hb4
          have bw4 := nx bX2 hb4
          obtain ⟨q6l, q6r, q6p, ⟨q6c0, q6c1, q6c2, q6c3, q6c4, q6c5⟩, ⟨q6f0, q6f1, q6f2, q6f3, q6f4, q6f5⟩⟩ := B11.d6
          obtain ⟨Y, hY⟩ : ∃ Q_ : World, w4.setRow (X.heap.size) #[.string a4, .string b4, .slice a10 n9 c10, .int .i64 c4, .int .i64 f4, .bool dn4] = Q_ := ⟨_, rfl⟩
          have bY : Below w.heap.size w Y := hY ▸ (bw4).trans (low_setRow _ (by omega))
          replace hO : OL n ll (.slice a3 n3 c3) Y := hY ▸ hO.keep (keeps_setRow _ B11 (by decide) (by show n ≤ _; omega))
          replace hO6 : OL n ll (.slice a5 n3 c5) Y := hY ▸ hO6.keep (keeps_setRow _ B11 (by decide) (by show n ≤ _; omega))
          replace hO9 : OL n l4 (.slice a9 n9 c9) Y := hY ▸ hO9.keep (keeps_setRow _ B11 (by decide) (by show n ≤ _; omega))
          replace hO10 : OL n l4 (.slice a10 n9 c10) Y := hY ▸ hO10.keep (keeps_setRow _ B11 (by decide) (by show n ≤ _; omega))
          replace B0 : Bx Y (p) #[.string a, .string b, .slice a3 n3 c3, .int .i64 c, .int .i64 f, .bool dn] 28 := hY ▸ B0.put' (by omega) _
          replace B6 : Bx Y (p6) #[.string a, .string b, .slice a5 n3 c5, .int .i64 c, .int .i64 f, .bool dn] 28 := hY ▸ B6.put' (by omega) _
          replace B8 : Bx Y (wo.heap.size) #[.int .i64 1, .int .i64 o2, .int .i64 o3, .int .i64 o4, .string o5] 31 := hY ▸ B8.put' (by omega) _
          replace B9 : Bx Y (w3.heap.size) #[.string a4, .string b4, .slice a9 n9 c9, .int .i64 c4, .int .i64 f4, .bool dn4] 28 := hY ▸ B9.put' (by omega) _
          replace B11 : Bx Y (X.heap.size) #[.string a4, .string b4, .slice a10 n9 c10, .int .i64 c4, .int .i64 f4, .bool dn4] 28 := hY ▸ B11.put _
          obtain ⟨q7l, q7r, q7p, ⟨q7c0, q7c1, q7c2, q7c3, q7c4, q7c5⟩, ⟨q7f0, q7f1, q7f2, q7f3, q7f4, q7f5⟩⟩ := B9.d6
          obtain ⟨q8l, q8r, q8p, ⟨q8c0, q8c1, q8c2, q8c3, q8c4, q8c5⟩, ⟨q8f0, q8f1, q8f2, q8f3, q8f4, q8f5⟩⟩ := B11.d6
          go_wp2_with fail
          with_reducible refine (same_yes (n := n) (n' := n) ⟨a4, b4, l4, c4, f4, dn4⟩ _ _ Y (DV.mk hO9 hc9) (DV.mk hO10 hc10) (Nat.le_trans HOKR.out.len (by decide))).mono ?_
          rintro e w5 ⟨rfl, hb5⟩
          clear q6l q6r q6p q6c0 q6c1 q6c2 q6c3 q6c4 q6c5 q6f0 q6f1 q6f2 q6f3 q6f4 q6f5
          clear q7l q7r q7p q7c0 q7c1 q7c2 q7c3 q7c4 q7c5 q7f0 q7f1 q7f2 q7f3 q7f4 q7f5
          clear q8l q8r q8p q8c0 q8c1 q8c2 q8c3 q8c4 q8c5 q8f0 q8f1 q8f2 q8f3 q8f4 q8f5
          replace B0 := B0.stays hb5
          replace B6 := B6.stays hb5
          replace B8 := B8.stays hb5
          replace B9 := B9.stays hb5
          replace B11 := B11.stays hb5
          replace hO := hO.stays hb5
          replace hO6 := hO6.stays hb5
          replace hO9 := hO9.stays hb5
          replace hO10 := hO10.stays hb5
          have bw5 := nx bY hb5
          obtain ⟨q9l, q9r, q9p, ⟨q9c0, q9c1, q9c2, q9c3, q9c4, q9c5⟩, ⟨q9f0, q9f1, q9f2, q9f3, q9f4, q9f5⟩⟩ := B9.d6
          obtain ⟨q10l, q10r, q10p, ⟨q10c0, q10c1, q10c2, q10c3, q10c4, q10c5⟩, ⟨q10f0, q10f1, q10f2, q10f3, q10f4, q10f5⟩⟩ := B11.d6
          obtain ⟨q11l, q11r, q11p, ⟨q11c0, q11c1, q11c2, q11c3, q11c4, q11c5⟩, ⟨q11f0, q11f1, q11f2, q11f3, q11f4, q11f5⟩⟩ := B0.d6
          obtain ⟨Z1, hZ1⟩ : ∃ Q_ : World, w5.setRow (p) #[.string a4, .string b4, .slice a9 n9 c9, .int .i64 c4, .int .i64 f4, .bool dn4] = Q_ := ⟨_, rfl⟩
          have bZ1 : Below w.heap.size w Z1 := hZ1 ▸ (bw5).trans (low_setRow _ (by omega))
          replace hO : OL n ll (.slice a3 n3 c3) Z1 := hZ1 ▸ hO.keep (keeps_setRow _ B0 (by decide) (by show n ≤ _; omega))
          replace hO6 : OL n ll (.slice a5 n3 c5) Z1 := hZ1 ▸ hO6.keep (keeps_setRow _ B0 (by decide) (by show n ≤ _; omega))
          replace hO9 : OL n l4 (.slice a9 n9 c9) Z1 := hZ1 ▸ hO9.keep (keeps_setRow _ B0 (by decide) (by show n ≤ _; omega))
          replace hO10 : OL n l4 (.slice a10 n9 c10) Z1 := hZ1 ▸ hO10.keep (keeps_setRow _ B0 (by decide) (by show n ≤ _; omega))
          replace B6 : Bx Z1 (p6) #[.string a, .string b, .slice a5 n3 c5, .int .i64 c, .int .i64 f, .bool dn] 28 := hZ1 ▸ B6.put' (by omega) _
          replace B8 : Bx Z1 (wo.heap.size) #[.int .i64 1, .int .i64 o2, .int .i64 o3, .int .i64 o4, .string o5] 31 := hZ1 ▸ B8.put' (by omega) _
          replace B9 : Bx Z1 (w3.heap.size) #[.string a4, .string b4, .slice a9 n9 c9, .int .i64 c4, .int .i64 f4, .bool dn4] 28 := hZ1 ▸ B9.put' (by omega) _
          replace B11 : Bx Z1 (X.heap.size) #[.string a4, .string b4, .slice a10 n9 c10, .int .i64 c4, .int .i64 f4, .bool dn4] 28 := hZ1 ▸ B11.put' (by omega) _
          replace B0 : Bx Z1 (p) #[.string a4, .string b4, .slice a9 n9 c9, .int .i64 c4, .int .i64 f4, .bool dn4] 28 := hZ1 ▸ B0.put _
          obtain ⟨q12l, q12r, q12p, ⟨q12c0, q12c1, q12c2, q12c3, q12c4, q12c5⟩, ⟨q12f0, q12f1, q12f2, q12f3, q12f4, q12f5⟩⟩ := B6.d6
          obtain ⟨q13l, q13r, q13p, ⟨q13c0, q13c1, q13c2, q13c3, q13c4, q13c5⟩, ⟨q13f0, q13f1, q13f2, q13f3, q13f4, q13f5⟩⟩ := B9.d6
          obtain ⟨q14l, q14r, q14p, ⟨q14c0, q14c1, q14c2, q14c3, q14c4, q14c5⟩, ⟨q14f0, q14f1, q14f2, q14f3, q14f4, q14f5⟩⟩ := B11.d6
          obtain ⟨Z2, hZ2⟩ : ∃ Q_ : World, Z1.setRow (p6) #[.string a4, .string b4, .slice a10 n9 c10, .int .i64 c4, .int .i64 f4, .bool dn4] = Q_ := ⟨_, rfl⟩
          have bZ2 : Below w.heap.size w Z2 := hZ2 ▸ (bZ1).trans (low_setRow _ (by omega))
          replace hO : OL n ll (.slice a3 n3 c3) Z2 := hZ2 ▸ hO.keep (keeps_setRow _ B6 (by decide) (by show n ≤ _; omega))
          replace hO6 : OL n ll (.slice a5 n3 c5) Z2 := hZ2 ▸ hO6.keep (keeps_setRow _ B6 (by decide) (by show n ≤ _; omega))
          replace hO9 : OL n l4 (.slice a9 n9 c9) Z2 := hZ2 ▸ hO9.keep (keeps_setRow _ B6 (by decide) (by show n ≤ _; omega))
          replace hO10 : OL n l4 (.slice a10 n9 c10) Z2 := hZ2 ▸ hO10.keep (keeps_setRow _ B6 (by decide) (by show n ≤ _; omega))
          replace B0 : Bx Z2 (p) #[.string a4, .string b4, .slice a9 n9 c9, .int .i64 c4, .int .i64 f4, .bool dn4] 28 := hZ2 ▸ B0.put' (by omega) _
          replace B8 : Bx Z2 (wo.heap.size) #[.int .i64 1, .int .i64 o2, .int .i64 o3, .int .i64 o4, .string o5] 31 := hZ2 ▸ B8.put' (by omega) _
          replace B9 : Bx Z2 (w3.heap.size) #[.string a4, .string b4, .slice a9 n9 c9, .int .i64 c4, .int .i64 f4, .bool dn4] 28 := hZ2 ▸ B9.put' (by omega) _
          replace B11 : Bx Z2 (X.heap.size) #[.string a4, .string b4, .slice a10 n9 c10, .int .i64 c4, .int .i64 f4, .bool dn4] 28 := hZ2 ▸ B11.put' (by omega) _
          replace B6 : Bx Z2 (p6) #[.string a4, .string b4, .slice a10 n9 c10, .int .i64 c4, .int .i64 f4, .bool dn4] 28 := hZ2 ▸ B6.put _
          obtain ⟨Z, hZ⟩ : ∃ Q_ : World, Z2.drew = Q_ := ⟨_, rfl⟩
          have aZ : Below Z2.heap.size Z2 Z := hZ ▸ (Below.refl _ _).drew
          replace B0 := B0.stays aZ
          replace B6 := B6.stays aZ
          replace B8 := B8.stays aZ
          replace B9 := B9.stays aZ
          replace B11 := B11.stays aZ
          replace hO := hO.stays aZ
          replace hO6 := hO6.stays aZ
          replace hO9 := hO9.stays aZ
          replace hO10 := hO10.stays aZ
          have bZ := nx bZ2 aZ
          have HB5 := Lib.hid B0
          have HB6 := Lib.hid B6
          have HB8 := Lib.hid B8
          have HO5 := Lib.hid (show DV n ⟨a4, b4, l4, c4, f4, dn4⟩ (.agg (cD a4 b4 (.slice a9 n9 c9) c4 f4 dn4)) Z from DV.mk hO9 hc9)
          have HO6 := Lib.hid (show DV n ⟨a4, b4, l4, c4, f4, dn4⟩ (.agg (cD a4 b4 (.slice a10 n9 c10) c4 f4 dn4)) Z from DV.mk hO10 hc10)
          have jZ := bZ.size
          have jnZ : n ≤ Z.heap.size := by omega
          go_wp2
          go_region
          go_wp2
          clear q9l q9r q9p q9c0 q9c1 q9c2 q9c3 q9c4 q9c5 q9f0 q9f1 q9f2 q9f3 q9f4 q9f5
          clear q10l q10r q10p q10c0 q10c1 q10c2 q10c3 q10c4 q10c5 q10f0 q10f1 q10f2 q10f3 q10f4 q10f5
          clear q11l q11r q11p q11c0 q11c1 q11c2 q11c3 q11c4 q11c5 q11f0 q11f1 q11f2 q11f3 q11f4 q11f5
          clear q12l q12r q12p q12c0 q12c1 q12c2 q12c3 q12c4 q12c5 q12f0 q12f1 q12f2 q12f3 q12f4 q12f5
          clear q13l q13r q13p q13c0 q13c1 q13c2 q13c3 q13c4 q13c5 q13f0 q13f1 q13f2 q13f3 q13f4 q13f5
          clear q14l q14r q14p q14c0 q14c1 q14c2 q14c3 q14c4 q14c5 q14f0 q14f1 q14f2 q14f3 q14f4 q14f5
          clear B0 B6 B8 B9 B11 hO hO6 hO9 hO10
          have HC9 := Lib.hid hc9
          have HC10 := Lib.hid hc10
          go_loopw [99] (fun i wx => ∃ j : Nat, j ≤ 3 ∧ i = .int .i64 j ∧ Below Z.heap.size Z wx) (fun i _ => 3 - (intOf i).toNat)
          case atStart => exact ⟨0, by omega, rfl, Below.refl _ _⟩
          case round =>
            obtain ⟨j, hj, rfl, hbz⟩ := hrel
            have jwr := hbz.size
            by_cases hj3 : j < 3
            · have hj4 : (j : Int) < 3 := by omega
              obtain ⟨q1, q2, q3, ⟨q4, q5, q6, q7, q8, q9⟩, _⟩ := (HB5.out.stays hbz).d6
              obtain ⟨p1, p2, p3, p4, p5⟩ := (HB8.out.stays hbz).d5
              go_wp2_with fail
              with_reducible refine (read_any n ⟨a4, b4, l4, c4, f4, dn4⟩ _ _ wr (HO5.out.stays hbz) (by omega) HOKR.out.wt (Nat.le_trans HOKR.out.len (by decide))).mono ?_
              rintro e w6 ⟨rfl, hb6⟩
              have hbz6 := nx hbz hb6
              have j6 := hb6.size
              clear q1 q2 q3 q4 q5 q6 q7 q8 q9 p1 p2 p3 p4 p5
              obtain ⟨q1, q2, q3, ⟨q4, q5, q6, q7, q8, q9⟩, _⟩ := (HB6.out.stays hbz6).d6
              obtain ⟨p1, p2, p3, p4, p5⟩ := (HB8.out.stays hbz6).d5
              go_wp2_with fail
              with_reducible refine (rRead_any n ⟨a4, b4, l4, c4, f4, dn4⟩ _ _ w6 (HO6.out.stays hbz6) (by omega) HOKR.out.wt (Nat.le_trans HOKR.out.len (by decide))).mono ?_
              rintro e w7 ⟨rfl, hb7⟩
              go_wp2
              go_roundw
              case rel => exact ⟨j + 1, by omega, by go_num, nx hbz6 hb7⟩
              case measure => simp [intOf]; omega
            · have HF := Lib.hid (show Dst n p ⟨a4, b4, l4, c4, f4, dn4⟩ wr ∧ Dst n p6 ⟨a4, b4, l4, c4, f4, dn4⟩ wr ∧ Below w.heap.size w wr from ⟨⟨_, HB5.out.stays hbz, (HO5.out.stays hbz).ol, HC9.out⟩, ⟨_, HB6.out.stays hbz, (HO6.out.stays hbz).ol, HC10.out⟩, nx bZ hbz⟩)
              obtain rfl : j = 3 := by omega
              go_wp2
              go_roundw
              case rel => first | exact ⟨k + 1, ⟨a4, b4, l4, c4, f4, dn4⟩, by omega, by go_num, HOK1.out, HF.out⟩ | ((repeat apply Exists.intro); exact ⟨⟨k + 1, ⟨a4, b4, l4, c4, f4, dn4⟩, by omega, by go_num, HOK1.out, HF.out⟩, rfl⟩)
              case measure => simp [intOf]; omega
        by_cases h2 : o1 = 2
        · subst h2
          have HR2 : Hid ((synP ⟨a, b, ll, c, f, dn⟩) = r) := HR
          clear h0 h1
          obtain ⟨W, hW⟩ : ∃ Q_ : World, wo.alloc (.cells #[.int .i64 2, .int .i64 o2, .int .i64 o3, .int .i64 o4, .string o5] 31) = Q_ := ⟨_, rfl⟩
          have aW : Below wo.heap.size wo W := hW ▸ below1 _ _
          have B8 : Bx W (wo.heap.size) #[.int .i64 2, .int .i64 o2, .int .i64 o3, .int .i64 o4, .string o5] 31 := hW ▸ Bx.at (by first | rfl | omega) _ _
          replace B0 := B0.stays aW
          replace B6 := B6.stays aW
          replace hO := hO.stays aW
          replace hO6 := hO6.stays aW
          have bW := nx hb aW
          obtain ⟨q1l, q1r, q1p, ⟨q1c0, q1c1, q1c2, q1c3, q1c4, q1c5⟩, ⟨q1f0, q1f1, q1f2, q1f3, q1f4, q1f5⟩⟩ := B0.d6
          obtain ⟨q2l, q2r, q2p, ⟨q2c0, q2c1, q2c2, q2c3, q2c4⟩⟩ := B8.d5
          have hwr := hb.size
          have hnW : n ≤ W.heap.size := by have := aW.size; omega
          go_wp2_with fail
          with_reducible refine (step_is HR (DV.mk hO hc) hnW HOKD.out hx5).mono ?_
          rintro e w3 ⟨v3, rfl, hb3, o9, rfl, hO9, hc9⟩
          obtain ⟨⟨a4, b4, l4, c4, f4, dn4⟩, k4⟩ := r
          simp only at hO9 ⊢
          obtain ⟨a9, c9, rfl⟩ := hO9.len
          obtain ⟨n9, hn9⟩ : ∃ q, l4.length = q := ⟨_, rfl⟩
          rw [hn9] at hO9 hc9 ⊢
          have HN9 := Lib.hid hn9
          clear hn9
          clear q1l q1r q1p q1c0 q1c1 q1c2 q1c3 q1c4 q1c5 q1f0 q1f1 q1f2 q1f3 q1f4 q1f5
          clear q2l q2r q2p q2c0 q2c1 q2c2 q2c3 q2c4
          replace B0 := B0.stays hb3
          replace B6 := B6.stays hb3
          replace B8 := B8.stays hb3
          replace hO := hO.stays hb3
          replace hO6 := hO6.stays hb3
          have bw3 := nx bW hb3
          have j3 := hb3.size
          have jW := aW.size
          have j8 := B8.lt
          obtain ⟨X, hX⟩ : ∃ Q_ : World, w3.alloc (.cells #[.string a4, .string b4, .slice a9 n9 c9, .int .i64 c4, .int .i64 f4, .bool dn4] 28) = Q_ := ⟨_, rfl⟩
          have aX : Below w3.heap.size w3 X := hX ▸ below1 _ _
          have B9 : Bx X (w3.heap.size) #[.string a4, .string b4, .slice a9 n9 c9, .int .i64 c4, .int .i64 f4, .bool dn4] 28 := hX ▸ Bx.at (by first | rfl | omega) _ _
          replace B0 := B0.stays aX
          replace B6 := B6.stays aX
          replace B8 := B8.stays aX
          replace hO := hO.stays aX
          replace hO6 := hO6.stays aX
          replace hO9 := hO9.stays aX
          have bX := nx bw3 aX
          have j9 := B9.lt
          obtain ⟨X2, hX2⟩ : ∃ Q_ : World, X.alloc (.cells #[.string ⟨#[]⟩, .string ⟨#[]⟩, .slice none 0 0, .int .i64 0, .int .i64 0, .bool false] 28) = Q_ := ⟨_, rfl⟩
          have aX2 : Below X.heap.size X X2 := hX2 ▸ below1 _ _
          have B11 : Bx X2 (X.heap.size) #[.string ⟨#[]⟩, .string ⟨#[]⟩, .slice none 0 0, .int .i64 0, .int .i64 0, .bool false] 28 := hX2 ▸ Bx.at (by first | rfl | omega) _ _
          replace B0 := B0.stays aX2
          replace B6 := B6.stays aX2
          replace B8 := B8.stays aX2
          replace B9 := B9.stays aX2
          replace hO := hO.stays aX2
          replace hO6 := hO6.stays aX2
          replace hO9 := hO9.stays aX2
          have bX2 := nx bX aX2
          have j11 := B11.lt
          have HNX : n ≤ X2.heap.size := by omega
          obtain ⟨q3l, q3r, q3p, ⟨q3c0, q3c1, q3c2, q3c3, q3c4⟩⟩ := B8.d5
          obtain ⟨q4l, q4r, q4p, ⟨q4c0, q4c1, q4c2, q4c3, q4c4, q4c5⟩, ⟨q4f0, q4f1, q4f2, q4f3, q4f4, q4f5⟩⟩ := B6.d6
          obtain ⟨q5l, q5r, q5p, ⟨q5c0, q5c1, q5c2, q5c3, q5c4, q5c5⟩, ⟨q5f0, q5f1, q5f2, q5f3, q5f4, q5f5⟩⟩ := B9.d6
          go_wp2_with fail
          with_reducible refine (sync2 HR2 (DV.mk hO6 hc6) HNX HOKD.out).mono ?_
          rintro e w4 ⟨v4, rfl, hb4, o10, rfl, hO10, hc10⟩
          simp only at hO10 ⊢
          obtain ⟨a10, c10, rfl⟩ := hO10.len
          rw [HN9.out] at hO10 hc10 ⊢
          clear q3l q3r q3p q3c0 q3c1 q3c2 q3c3 q3c4
          clear q4l q4r q4p q4c0 q4c1 q4c2 q4c3 q4c4 q4c5 q4f0 q4f1 q4f2 q4f3 q4f4 q4f5
          clear q5l q5r q5p q5c0 q5c1 q5c2 q5c3 q5c4 q5c5 q5f0 q5f1 q5f2 q5f3 q5f4 q5f5
          replace B0 := B0.stays hb4
          replace B6 := B6.stays hb4
          replace B8 := B8.stays hb4
          replace B9 := B9.stays hb4
          replace B11 := B11.stays hb4
          replace hO := hO.stays hb4
          replace hO6 := hO6.stays hb4
          replace hO9 := hO9.stays hb4
          have bw4 := nx bX2 hb4
          obtain ⟨q6l, q6r, q6p, ⟨q6c0, q6c1, q6c2, q6c3, q6c4, q6c5⟩, ⟨q6f0, q6f1, q6f2, q6f3, q6f4, q6f5⟩⟩ := B11.d6
          obtain ⟨Y, hY⟩ : ∃ Q_ : World, w4.setRow (X.heap.size) #[.string a4, .string b4, .slice a10 n9 c10, .int .i64 c4, .int .i64 f4, .bool dn4] = Q_ := ⟨_, rfl⟩
          have bY : Below w.heap.size w Y := hY ▸ (bw4).trans (low_setRow _ (by omega))
          replace hO : OL n ll (.slice a3 n3 c3) Y := hY ▸ hO.keep (keeps_setRow _ B11 (by decide) (by show n ≤ _; omega))
          replace hO6 : OL n ll (.slice a5 n3 c5) Y := hY ▸ hO6.keep (keeps_setRow _ B11 (by decide) (by show n ≤ _; omega))
          replace hO9 : OL n l4 (.slice a9 n9 c9) Y := hY ▸ hO9.keep (keeps_setRow _ B11 (by decide) (by show n ≤ _; omega))
          replace hO10 : OL n l4 (.slice a10 n9 c10) Y := hY ▸ hO10.keep (keeps_setRow _ B11 (by decide) (by show n ≤ _; omega))
          replace B0 : Bx Y (p) #[.string a, .string b, .slice a3 n3 c3, .int .i64 c, .int .i64 f, .bool dn] 28 := hY ▸ B0.put' (by omega) _
          replace B6 : Bx Y (p6) #[.string a, .string b, .slice a5 n3 c5, .int .i64 c, .int .i64 f, .bool dn] 28 := hY ▸ B6.put' (by omega) _
          replace B8 : Bx Y (wo.heap.size) #[.int .i64 2, .int .i64 o2, .int .i64 o3, .int .i64 o4, .string o5] 31 := hY ▸ B8.put' (by omega) _
          replace B9 : Bx Y (w3.heap.size) #[.string a4, .string b4, .slice a9 n9 c9, .int .i64 c4, .int .i64 f4, .bool dn4] 28 := hY ▸ B9.put' (by omega) _
          replace B11 : Bx Y (X.heap.size) #[.string a4, .string b4, .slice a10 n9 c10, .int .i64 c4, .int .i64 f4, .bool dn4] 28 := hY ▸ B11.put _
          obtain ⟨q7l, q7r, q7p, ⟨q7c0, q7c1, q7c2, q7c3, q7c4, q7c5⟩, ⟨q7f0, q7f1, q7f2, q7f3, q7f4, q7f5⟩⟩ := B9.d6
          obtain ⟨q8l, q8r, q8p, ⟨q8c0, q8c1, q8c2, q8c3, q8c4, q8c5⟩, ⟨q8f0, q8f1, q8f2, q8f3, q8f4, q8f5⟩⟩ := B11.d6
          go_wp2_with fail
          with_reducible refine (same_yes (n := n) (n' := n) ⟨a4, b4, l4, c4, f4, dn4⟩ _ _ Y (DV.mk hO9 hc9) (DV.mk hO10 hc10) (Nat.le_trans HOKR.out.len (by decide))).mono ?_
          rintro e w5 ⟨rfl, hb5⟩
          clear q6l q6r q6p q6c0 q6c1 q6c2 q6c3 q6c4 q6c5 q6f0 q6f1 q6f2 q6f3 q6f4 q6f5
          clear q7l q7r q7p q7c0 q7c1 q7c2 q7c3 q7c4 q7c5 q7f0 q7f1 q7f2 q7f3 q7f4 q7f5
          clear q8l q8r q8p q8c0 q8c1 q8c2 q8c3 q8c4 q8c5 q8f0 q8f1 q8f2 q8f3 q8f4 q8f5
          replace B0 := B0.stays hb5
          replace B6 := B6.stays hb5
          replace B8 := B8.stays hb5
          replace B9 := B9.stays hb5
          replace B11 := B11.stays hb5
          replace hO := hO.stays hb5
          replace hO6 := hO6.stays hb5
          replace hO9 := hO9.stays hb5
          replace hO10 := hO10.stays hb5
          have bw5 := nx bY hb5
          obtain ⟨q9l, q9r, q9p, ⟨q9c0, q9c1, q9c2, q9c3, q9c4, q9c5⟩, ⟨q9f0, q9f1, q9f2, q9f3, q9f4, q9f5⟩⟩ := B9.d6
          obtain ⟨q10l, q10r, q10p, ⟨q10c0, q10c1, q10c2, q10c3, q10c4, q10c5⟩, ⟨q10f0, q10f1, q10f2, q10f3, q10f4, q10f5⟩⟩ := B11.d6
          obtain ⟨q11l, q11r, q11p, ⟨q11c0, q11c1, q11c2, q11c3, q11c4, q11c5⟩, ⟨q11f0, q11f1, q11f2, q11f3, q11f4, q11f5⟩⟩ := B0.d6
          obtain ⟨Z1, hZ1⟩ : ∃ Q_ : World, w5.setRow (p) #[.string a4, .string b4, .slice a9 n9 c9, .int .i64 c4, .int .i64 f4, .bool dn4] = Q_ := ⟨_, rfl⟩
          have bZ1 : Below w.heap.size w Z1 := hZ1 ▸ (bw5).trans (low_setRow _ (by omega))
          replace hO : OL n ll (.slice a3 n3 c3) Z1 := hZ1 ▸ hO.keep (keeps_setRow _ B0 (by decide) (by show n ≤ _; omega))
          replace hO6 : OL n ll (.slice a5 n3 c5) Z1 := hZ1 ▸ hO6.keep (keeps_setRow _ B0 (by decide) (by show n ≤ _; omega))
          replace hO9 : OL n l4 (.slice a9 n9 c9) Z1 := hZ1 ▸ hO9.keep (keeps_setRow _ B0 (by decide) (by show n ≤ _; omega))
          replace hO10 : OL n l4 (.slice a10 n9 c10) Z1 := hZ1 ▸ hO10.keep (keeps_setRow _ B0 (by decide) (by show n ≤ _; omega))
          replace B6 : Bx Z1 (p6) #[.string a, .string b, .slice a5 n3 c5, .int .i64 c, .int .i64 f, .bool dn] 28 := hZ1 ▸ B6.put' (by omega) _
          replace B8 : Bx Z1 (wo.heap.size) #[.int .i64 2, .int .i64 o2, .int .i64 o3, .int .i64 o4, .string o5] 31 := hZ1 ▸ B8.put' (by omega) _
          replace B9 : Bx Z1 (w3.heap.size) #[.string a4, .string b4, .slice a9 n9 c9, .int .i64 c4, .int .i64 f4, .bool dn4] 28 := hZ1 ▸ B9.put' (by omega) _
          replace B11 : Bx Z1 (X.heap.size) #[.string a4, .string b4, .slice a10 n9 c10, .int .i64 c4, .int .i64 f4, .bool dn4] 28 := hZ1 ▸ B11.put' (by omega) _
          replace B0 : Bx Z1 (p) #[.string a4, .string b4, .slice a9 n9 c9, .int .i64 c4, .int .i64 f4, .bool dn4] 28 := hZ1 ▸ B0.put _
          obtain ⟨q12l, q12r, q12p, ⟨q12c0, q12c1, q12c2, q12c3, q12c4, q12c5⟩, ⟨q12f0, q12f1, q12f2, q12f3, q12f4, q12f5⟩⟩ := B6.d6
          obtain ⟨q13l, q13r, q13p, ⟨q13c0, q13c1, q13c2, q13c3, q13c4, q13c5⟩, ⟨q13f0, q13f1, q13f2, q13f3, q13f4, q13f5⟩⟩ := B9.d6
          obtain ⟨q14l, q14r, q14p, ⟨q14c0, q14c1, q14c2, q14c3, q14c4, q14c5⟩, ⟨q14f0, q14f1, q14f2, q14f3, q14f4, q14f5⟩⟩ := B11.d6
          obtain ⟨Z2, hZ2⟩ : ∃ Q_ : World, Z1.setRow (p6) #[.string a4, .string b4, .slice a10 n9 c10, .int .i64 c4, .int .i64 f4, .bool dn4] = Q_ := ⟨_, rfl⟩
          have bZ2 : Below w.heap.size w Z2 := hZ2 ▸ (bZ1).trans (low_setRow _ (by omega))
          replace hO : OL n ll (.slice a3 n3 c3) Z2 := hZ2 ▸ hO.keep (keeps_setRow _ B6 (by decide) (by show n ≤ _; omega))
          replace hO6 : OL n ll (.slice a5 n3 c5) Z2 := hZ2 ▸ hO6.keep (keeps_setRow _ B6 (by decide) (by show n ≤ _; omega))
          replace hO9 : OL n l4 (.slice a9 n9 c9) Z2 := hZ2 ▸ hO9.keep (keeps_setRow _ B6 (by decide) (by show n ≤ _; omega))
          replace hO10 : OL n l4 (.slice a10 n9 c10) Z2 := hZ2 ▸ hO10.keep (keeps_setRow _ B6 (by decide) (by show n ≤ _; omega))
          replace B0 : Bx Z2 (p) #[.string a4, .string b4, .slice a9 n9 c9, .int .i64 c4, .int .i64 f4, .bool dn4] 28 := hZ2 ▸ B0.put' (by omega) _
          replace B8 : Bx Z2 (wo.heap.size) #[.int .i64 2, .int .i64 o2, .int .i64 o3, .int .i64 o4, .string o5] 31 := hZ2 ▸ B8.put' (by omega) _
          replace B9 : Bx Z2 (w3.heap.size) #[.string a4, .string b4, .slice a9 n9 c9, .int .i64 c4, .int .i64 f4, .bool dn4] 28 := hZ2 ▸ B9.put' (by omega) _
          replace B11 : Bx Z2 (X.heap.size) #[.string a4, .string b4, .slice a10 n9 c10, .int .i64 c4, .int .i64 f4, .bool dn4] 28 := hZ2 ▸ B11.put' (by omega) _
          replace B6 : Bx Z2 (p6) #[.string a4, .string b4, .slice a10 n9 c10, .int .i64 c4, .int .i64 f4, .bool dn4] 28 := hZ2 ▸ B6.put _
          obtain ⟨Z, hZ⟩ : ∃ Q_ : World, Z2.drew = Q_ := ⟨_, rfl⟩
          have aZ : Below Z2.heap.size Z2 Z := hZ ▸ (Below.refl _ _).drew
          replace B0 := B0.stays aZ
          replace B6 := B6.stays aZ
          replace B8 := B8.stays aZ
          replace B9 := B9.stays aZ
          replace B11 := B11.stays aZ
          replace hO := hO.stays aZ
          replace hO6 := hO6.stays aZ
          replace hO9 := hO9.stays aZ
          replace hO10 := hO10.stays aZ
          have bZ := nx bZ2 aZ
          have HB5 := Lib.hid B0
          have HB6 := Lib.hid B6
          have HB8 := Lib.hid B8
          have HO5 := Lib.hid (show DV n ⟨a4, b4, l4, c4, f4, dn4⟩ (.agg (cD a4 b4 (.slice a9 n9 c9) c4 f4 dn4)) Z from DV.mk hO9 hc9)
          have HO6 := Lib.hid (show DV n ⟨a4, b4, l4, c4, f4, dn4⟩ (.agg (cD a4 b4 (.slice a10 n9 c10) c4 f4 dn4)) Z from DV.mk hO10 hc10)
          have jZ := bZ.size
          have jnZ : n ≤ Z.heap.size := by omega
          go_wp2
          go_region
          go_wp2
          clear q9l q9r q9p q9c0 q9c1 q9c2 q9c3 q9c4 q9c5 q9f0 q9f1 q9f2 q9f3 q9f4 q9f5
          clear q10l q10r q10p q10c0 q10c1 q10c2 q10c3 q10c4 q10c5 q10f0 q10f1 q10f2 q10f3 q10f4 q10f5
          clear q11l q11r q11p q11c0 q11c1 q11c2 q11c3 q11c4 q11c5 q11f0 q11f1 q11f2 q11f3 q11f4 q11f5
          clear q12l q12r q12p q12c0 q12c1 q12c2 q12c3 q12c4 q12c5 q12f0 q12f1 q12f2 q12f3 q12f4 q12f5
          clear q13l q13r q13p q13c0 q13c1 q13c2 q13c3 q13c4 q13c5 q13f0 q13f1 q13f2 q13f3 q13f4 q13f5
          clear q14l q14r q14p q14c0 q14c1 q14c2 q14c3 q14c4 q14c5 q14f0 q14f1 q14f2 q14f3 q14f4 q14f5
          clear B0 B6 B8 B9 B11 hO hO6 hO9 hO10
          have HC9 := Lib.hid hc9
          have HC10 := Lib.hid hc10
          go_loopw [99] (fun i wx => ∃ j : Nat, j ≤ 3 ∧ i = .int .i64 j ∧ Below Z.heap.size Z wx) (fun i _ => 3 - (intOf i).toNat)
          case atStart => exact ⟨0, by omega, rfl, Below.refl _ _⟩
          case round =>
            obtain ⟨j, hj, rfl, hbz⟩ := hrel
            have jwr := hbz.size
            by_cases hj3 : j < 3
            · have hj4 : (j : Int) < 3 := by omega
              obtain ⟨q1, q2, q3, ⟨q4, q5, q6, q7, q8, q9⟩, _⟩ := (HB5.out.stays hbz).d6
              obtain ⟨p1, p2, p3, p4, p5⟩ := (HB8.out.stays hbz).d5
              go_wp2_with fail
              with_reducible refine (read_any n ⟨a4, b4, l4, c4, f4, dn4⟩ _ _ wr (HO5.out.stays hbz) (by omega) HOKR.out.wt (Nat.le_trans HOKR.out.len (by decide))).mono ?_
              rintro e w6 ⟨rfl, hb6⟩
              have hbz6 := nx hbz hb6
              have j6 := hb6.size
              clear q1 q2 q3 q4 q5 q6 q7 q8 q9 p1 p2 p3 p4 p5
              obtain ⟨q1, q2, q3, ⟨q4, q5, q6, q7, q8, q9⟩, _⟩ := (HB6.out.stays hbz6).d6
              obtain ⟨p1, p2, p3, p4, p5⟩ := (HB8.out.stays hbz6).d5
              go_wp2_with fail
              with_reducible refine (rRead_any n ⟨a4, b4, l4, c4, f4, dn4⟩ _ _ w6 (HO6.out.stays hbz6) (by omega) HOKR.out.wt (Nat.le_trans HOKR.out.len (by decide))).mono ?_
              rintro e w7 ⟨rfl, hb7⟩
              go_wp2
              go_roundw
              case rel => exact ⟨j + 1, by omega, by go_num, nx hbz6 hb7⟩
              case measure => simp [intOf]; omega
            · have HF := Lib.hid (show Dst n p ⟨a4, b4, l4, c4, f4, dn4⟩ wr ∧ Dst n p6 ⟨a4, b4, l4, c4, f4, dn4⟩ wr ∧ Below w.heap.size w wr from ⟨⟨_, HB5.out.stays hbz, (HO5.out.stays hbz).ol, HC9.out⟩, ⟨_, HB6.out.stays hbz, (HO6.out.stays hbz).ol, HC10.out⟩, nx bZ hbz⟩)
              obtain rfl : j = 3 := by omega
              go_wp2
              go_roundw
              case rel => first | exact ⟨k + 1, ⟨a4, b4, l4, c4, f4, dn4⟩, by omega, by go_num, HOK1.out, HF.out⟩ | ((repeat apply Exists.intro); exact ⟨⟨k + 1, ⟨a4, b4, l4, c4, f4, dn4⟩, by omega, by go_num, HOK1.out, HF.out⟩, rfl⟩)
              case measure => simp [intOf]; omega
        by_cases h3 : o1 = 3
        · subst h3
          have HR2 : Hid ((craP ⟨a, b, ll, c, f, dn⟩ o3 o4, 0) = r) := HR
          clear h0 h1 h2
          obtain ⟨W, hW⟩ : ∃ Q_ : World, wo.alloc (.cells #[.int .i64 3, .int .i64 o2, .int .i64 o3, .int .i64 o4, .string o5] 31) = Q_ := ⟨_, rfl⟩
          have aW : Below wo.heap.size wo W := hW ▸ below1 _ _
          have B8 : Bx W (wo.heap.size) #[.int .i64 3, .int .i64 o2, .int .i64 o3, .int .i64 o4, .string o5] 31 := hW ▸ Bx.at (by first | rfl | omega) _ _
          replace B0 := B0.stays aW
          replace B6 := B6.stays aW
          replace hO := hO.stays aW
          replace hO6 := hO6.stays aW
          have bW := nx hb aW
          obtain ⟨q1l, q1r, q1p, ⟨q1c0, q1c1, q1c2, q1c3, q1c4, q1c5⟩, ⟨q1f0, q1f1, q1f2, q1f3, q1f4, q1f5⟩⟩ := B0.d6
          obtain ⟨q2l, q2r, q2p, ⟨q2c0, q2c1, q2c2, q2c3, q2c4⟩⟩ := B8.d5
          have hwr := hb.size
          have hnW : n ≤ W.heap.size := by have := aW.size; omega
          go_wp2_with fail
          with_reducible refine (step_is HR (DV.mk hO hc) hnW HOKD.out hx5).mono ?_
          rintro e w3 ⟨v3, rfl, hb3, o9, rfl, hO9, hc9⟩
          have hr0 : r.2 = 0 := by rw [← HR2.out]
          rw [hr0]
          clear hr0
          obtain ⟨⟨a4, b4, l4, c4, f4, dn4⟩, k4⟩ := r
          simp only at hO9 ⊢
          obtain ⟨a9, c9, rfl⟩ := hO9.len
          obtain ⟨n9, hn9⟩ : ∃ q, l4.length = q := ⟨_, rfl⟩
          rw [hn9] at hO9 hc9 ⊢
          have HN9 := Lib.hid hn9
          clear hn9
          clear q1l q1r q1p q1c0 q1c1 q1c2 q1c3 q1c4 q1c5 q1f0 q1f1 q1f2 q1f3 q1f4 q1f5
          clear q2l q2r q2p q2c0 q2c1 q2c2 q2c3 q2c4
          replace B0 := B0.stays hb3
          replace B6 := B6.stays hb3
          replace B8 := B8.stays hb3
          replace hO := hO.stays hb3
          replace hO6 := hO6.stays hb3
          have bw3 := nx bW hb3
          have j3 := hb3.size
          have jW := aW.size
          have j8 := B8.lt
          obtain ⟨X, hX⟩ : ∃ Q_ : World, w3.alloc (.cells #[.string a4, .string b4, .slice a9 n9 c9, .int .i64 c4, .int .i64 f4, .bool dn4] 28) = Q_ := ⟨_, rfl⟩
          have aX : Below w3.heap.size w3 X := hX ▸ below1 _ _
          have B9 : Bx X (w3.heap.size) #[.string a4, .string b4, .slice a9 n9 c9, .int .i64 c4, .int .i64 f4, .bool dn4] 28 := hX ▸ Bx.at (by first | rfl | omega) _ _
          replace B0 := B0.stays aX
          replace B6 := B6.stays aX
          replace B8 := B8.stays aX
          replace hO := hO.stays aX
          replace hO6 := hO6.stays aX
          replace hO9 := hO9.stays aX
          have bX := nx bw3 aX
          have j9 := B9.lt
          obtain ⟨X2, hX2⟩ : ∃ Q_ : World, X.alloc (.cells #[.string ⟨#[]⟩, .string ⟨#[]⟩, .slice none 0 0, .int .i64 0, .int .i64 0, .bool false] 28) = Q_ := ⟨_, rfl⟩
          have aX2 : Below X.heap.size X X2 := hX2 ▸ below1 _ _
          have B11 : Bx X2 (X.heap.size) #[.string ⟨#[]⟩, .string ⟨#[]⟩, .slice none 0 0, .int .i64 0, .int .i64 0, .bool false] 28 := hX2 ▸ Bx.at (by first | rfl | omega) _ _
          replace B0 := B0.stays aX2
          replace B6 := B6.stays aX2
          replace B8 := B8.stays aX2
          replace B9 := B9.stays aX2
          replace hO := hO.stays aX2
          replace hO6 := hO6.stays aX2
          replace hO9 := hO9.stays aX2
          have bX2 := nx bX aX2
          have j11 := B11.lt
          have HNX : n ≤ X2.heap.size := by omega
          obtain ⟨q3l, q3r, q3p, ⟨q3c0, q3c1, q3c2, q3c3, q3c4⟩⟩ := B8.d5
          obtain ⟨q4l, q4r, q4p, ⟨q4c0, q4c1, q4c2, q4c3, q4c4, q4c5⟩, ⟨q4f0, q4f1, q4f2, q4f3, q4f4, q4f5⟩⟩ := B6.d6
          obtain ⟨q5l, q5r, q5p, ⟨q5c0, q5c1, q5c2, q5c3, q5c4, q5c5⟩, ⟨q5f0, q5f1, q5f2, q5f3, q5f4, q5f5⟩⟩ := B9.d6
          go_wp2_with fail
          with_reducible refine (crash2 HR2 (DV.mk hO6 hc6) HNX HOKD.out).mono ?_
          rintro e w4 ⟨v4, rfl, hb4, o10, rfl, hO10, hc10⟩
          simp only at hO10 ⊢
          obtain ⟨a10, c10, rfl⟩ := hO10.len
          rw [HN9.out] at hO10 hc10 ⊢
          clear q3l q3r q3p q3c0 q3c1 q3c2 q3c3 q3c4
          clear q4l q4r q4p q4c0 q4c1 q4c2 q4c3 q4c4 q4c5 q4f0 q4f1 q4f2 q4f3 q4f4 q4f5
          clear q5l q5r q5p q5c0 q5c1 q5c2 q5c3 q5c4 q5c5 q5f0 q5f1 q5f2 q5f3 q5f4 q5f5
          replace B0 := B0.stays hb4
          replace B6 := B6.stays hb4
          replace B8 := B8.stays hb4
          replace B9 := B9.stays hb4
          replace B11 := B11.stays hb4
          replace hO := hO.stays hb4
          replace hO6 := hO6.stays hb4
          replace hO9 := hO9.stays hb4
          have bw4 := nx bX2 hb4
          obtain ⟨q6l, q6r, q6p, ⟨q6c0, q6c1, q6c2, q6c3, q6c4, q6c5⟩, ⟨q6f0, q6f1, q6f2, q6f3, q6f4, q6f5⟩⟩ := B11.d6
          obtain ⟨Y, hY⟩ : ∃ Q_ : World, w4.setRow (X.heap.size) #[.string a4, .string b4, .slice a10 n9 c10, .int .i64 c4, .int .i64 f4, .bool dn4] = Q_ := ⟨_, rfl⟩
          have bY : Below w.heap.size w Y := hY ▸ (bw4).trans (low_setRow _ (by omega))
          replace hO : OL n ll (.slice a3 n3 c3) Y := hY ▸ hO.keep (keeps_setRow _ B11 (by decide) (by show n ≤ _; omega))
          replace hO6 : OL n ll (.slice a5 n3 c5) Y := hY ▸ hO6.keep (keeps_setRow _ B11 (by decide) (by show n ≤ _; omega))
          replace hO9 : OL n l4 (.slice a9 n9 c9) Y := hY ▸ hO9.keep (keeps_setRow _ B11 (by decide) (by show n ≤ _; omega))
          replace hO10 : OL n l4 (.slice a10 n9 c10) Y := hY ▸ hO10.keep (keeps_setRow _ B11 (by decide) (by show n ≤ _; omega))
          replace B0 : Bx Y (p) #[.string a, .string b, .slice a3 n3 c3, .int .i64 c, .int .i64 f, .bool dn] 28 := hY ▸ B0.put' (by omega) _
          replace B6 : Bx Y (p6) #[.string a, .string b, .slice a5 n3 c5, .int .i64 c, .int .i64 f, .bool dn] 28 := hY ▸ B6.put' (by omega) _
          replace B8 : Bx Y (wo.heap.size) #[.int .i64 3, .int .i64 o2, .int .i64 o3, .int .i64 o4, .string o5] 31 := hY ▸ B8.put' (by omega) _
          replace B9 : Bx Y (w3.heap.size) #[.string a4, .string b4, .slice a9 n9 c9, .int .i64 c4, .int .i64 f4, .bool dn4] 28 := hY ▸ B9.put' (by omega) _
          replace B11 : Bx Y (X.heap.size) #[.string a4, .string b4, .slice a10 n9 c10, .int .i64 c4, .int .i64 f4, .bool dn4] 28 := hY ▸ B11.put _
          obtain ⟨q7l, q7r, q7p, ⟨q7c0, q7c1, q7c2, q7c3, q7c4, q7c5⟩, ⟨q7f0, q7f1, q7f2, q7f3, q7f4, q7f5⟩⟩ := B9.d6
          obtain ⟨q8l, q8r, q8p, ⟨q8c0, q8c1, q8c2, q8c3, q8c4, q8c5⟩, ⟨q8f0, q8f1, q8f2, q8f3, q8f4, q8f5⟩⟩ := B11.d6
          go_wp2_with fail
          with_reducible refine (same_yes (n := n) (n' := n) ⟨a4, b4, l4, c4, f4, dn4⟩ _ _ Y (DV.mk hO9 hc9) (DV.mk hO10 hc10) (Nat.le_trans HOKR.out.len (by decide))).mono ?_
          rintro e w5 ⟨rfl, hb5⟩
          clear q6l q6r q6p q6c0 q6c1 q6c2 q6c3 q6c4 q6c5 q6f0 q6f1 q6f2 q6f3 q6f4 q6f5
          clear q7l q7r q7p q7c0 q7c1 q7c2 q7c3 q7c4 q7c5 q7f0 q7f1 q7f2 q7f3 q7f4 q7f5
          clear q8l q8r q8p q8c0 q8c1 q8c2 q8c3 q8c4 q8c5 q8f0 q8f1 q8f2 q8f3 q8f4 q8f5
          replace B0 := B0.stays hb5
          replace B6 := B6.stays hb5
          replace B8 := B8.stays hb5
          replace B9 := B9.stays hb5
          replace B11 := B11.stays hb5
          replace hO := hO.stays hb5
          replace hO6 := hO6.stays hb5
          replace hO9 := hO9.stays hb5
          replace hO10 := hO10.stays hb5
          have bw5 := nx bY hb5
          obtain ⟨q9l, q9r, q9p, ⟨q9c0, q9c1, q9c2, q9c3, q9c4, q9c5⟩, ⟨q9f0, q9f1, q9f2, q9f3, q9f4, q9f5⟩⟩ := B9.d6
          obtain ⟨q10l, q10r, q10p, ⟨q10c0, q10c1, q10c2, q10c3, q10c4, q10c5⟩, ⟨q10f0, q10f1, q10f2, q10f3, q10f4, q10f5⟩⟩ := B11.d6
          obtain ⟨q11l, q11r, q11p, ⟨q11c0, q11c1, q11c2, q11c3, q11c4, q11c5⟩, ⟨q11f0, q11f1, q11f2, q11f3, q11f4, q11f5⟩⟩ := B0.d6
          obtain ⟨Z1, hZ1⟩ : ∃ Q_ : World, w5.setRow (p) #[.string a4, .string b4, .slice a9 n9 c9, .int .i64 c4, .int .i64 f4, .bool dn4] = Q_ := ⟨_, rfl⟩
          have bZ1 : Below w.heap.size w Z1 := hZ1 ▸ (bw5).trans (low_setRow _ (by omega))
          replace hO : OL n ll (.slice a3 n3 c3) Z1 := hZ1 ▸ hO.keep (keeps_setRow _ B0 (by decide) (by show n ≤ _; omega))
          replace hO6 : OL n ll (.slice a5 n3 c5) Z1 := hZ1 ▸ hO6.keep (keeps_setRow _ B0 (by decide) (by show n ≤ _; omega))
          replace hO9 : OL n l4 (.slice a9 n9 c9) Z1 := hZ1 ▸ hO9.keep (keeps_setRow _ B0 (by decide) (by show n ≤ _; omega))
          replace hO10 : OL n l4 (.slice a10 n9 c10) Z1 := hZ1 ▸ hO10.keep (keeps_setRow _ B0 (by decide) (by show n ≤ _; omega))
          replace B6 : Bx Z1 (p6) #[.string a, .string b, .slice a5 n3 c5, .int .i64 c, .int .i64 f, .bool dn] 28 := hZ1 ▸ B6.put' (by omega) _
          replace B8 : Bx Z1 (wo.heap.size) #[.int .i64 3, .int .i64 o2, .int .i64 o3, .int .i64 o4, .string o5] 31 := hZ1 ▸ B8.put' (by omega) _
          replace B9 : Bx Z1 (w3.heap.size) #[.string a4, .string b4, .slice a9 n9 c9, .int .i64 c4, .int .i64 f4, .bool dn4] 28 := hZ1 ▸ B9.put' (by omega) _
          replace B11 : Bx Z1 (X.heap.size) #[.string a4, .string b4, .slice a10 n9 c10, .int .i64 c4, .int .i64 f4, .bool dn4] 28 := hZ1 ▸ B11.put' (by omega) _
          replace B0 : Bx Z1 (p) #[.string a4, .string b4, .slice a9 n9 c9, .int .i64 c4, .int .i64 f4, .bool dn4] 28 := hZ1 ▸ B0.put _
          obtain ⟨q12l, q12r, q12p, ⟨q12c0, q12c1, q12c2, q12c3, q12c4, q12c5⟩, ⟨q12f0, q12f1, q12f2, q12f3, q12f4, q12f5⟩⟩ := B6.d6
          obtain ⟨q13l, q13r, q13p, ⟨q13c0, q13c1, q13c2, q13c3, q13c4, q13c5⟩, ⟨q13f0, q13f1, q13f2, q13f3, q13f4, q13f5⟩⟩ := B9.d6
          obtain ⟨q14l, q14r, q14p, ⟨q14c0, q14c1, q14c2, q14c3, q14c4, q14c5⟩, ⟨q14f0, q14f1, q14f2, q14f3, q14f4, q14f5⟩⟩ := B11.d6
          obtain ⟨Z2, hZ2⟩ : ∃ Q_ : World, Z1.setRow (p6) #[.string a4, .string b4, .slice a10 n9 c10, .int .i64 c4, .int .i64 f4, .bool dn4] = Q_ := ⟨_, rfl⟩
          have bZ2 : Below w.heap.size w Z2 := hZ2 ▸ (bZ1).trans (low_setRow _ (by omega))
          replace hO : OL n ll (.slice a3 n3 c3) Z2 := hZ2 ▸ hO.keep (keeps_setRow _ B6 (by decide) (by show n ≤ _; omega))
          replace hO6 : OL n ll (.slice a5 n3 c5) Z2 := hZ2 ▸ hO6.keep (keeps_setRow _ B6 (by decide) (by show n ≤ _; omega))
          replace hO9 : OL n l4 (.slice a9 n9 c9) Z2 := hZ2 ▸ hO9.keep (keeps_setRow _ B6 (by decide) (by show n ≤ _; omega))
          replace hO10 : OL n l4 (.slice a10 n9 c10) Z2 := hZ2 ▸ hO10.keep (keeps_setRow _ B6 (by decide) (by show n ≤ _; omega))
          replace B0 : Bx Z2 (p) #[.string a4, .string b4, .slice a9 n9 c9, .int .i64 c4, .int .i64 f4, .bool dn4] 28 := hZ2 ▸ B0.put' (by omega) _
          replace B8 : Bx Z2 (wo.heap.size) #[.int .i64 3, .int .i64 o2, .int .i64 o3, .int .i64 o4, .string o5] 31 := hZ2 ▸ B8.put' (by omega) _
          replace B9 : Bx Z2 (w3.heap.size) #[.string a4, .string b4, .slice a9 n9 c9, .int .i64 c4, .int .i64 f4, .bool dn4] 28 := hZ2 ▸ B9.put' (by omega) _
          replace B11 : Bx Z2 (X.heap.size) #[.string a4, .string b4, .slice a10 n9 c10, .int .i64 c4, .int .i64 f4, .bool dn4] 28 := hZ2 ▸ B11.put' (by omega) _
          replace B6 : Bx Z2 (p6) #[.string a4, .string b4, .slice a10 n9 c10, .int .i64 c4, .int .i64 f4, .bool dn4] 28 := hZ2 ▸ B6.put _
          obtain ⟨Z, hZ⟩ : ∃ Q_ : World, Z2.drew = Q_ := ⟨_, rfl⟩
          have aZ : Below Z2.heap.size Z2 Z := hZ ▸ (Below.refl _ _).drew
          replace B0 := B0.stays aZ
          replace B6 := B6.stays aZ
          replace B8 := B8.stays aZ
          replace B9 := B9.stays aZ
          replace B11 := B11.stays aZ
          replace hO := hO.stays aZ
          replace hO6 := hO6.stays aZ
          replace hO9 := hO9.stays aZ
          replace hO10 := hO10.stays aZ
          have bZ := nx bZ2 aZ
          have HB5 := Lib.hid B0
          have HB6 := Lib.hid B6
          have HB8 := Lib.hid B8
          have HO5 := Lib.hid (show DV n ⟨a4, b4, l4, c4, f4, dn4⟩ (.agg (cD a4 b4 (.slice a9 n9 c9) c4 f4 dn4)) Z from DV.mk hO9 hc9)
          have HO6 := Lib.hid (show DV n ⟨a4, b4, l4, c4, f4, dn4⟩ (.agg (cD a4 b4 (.slice a10 n9 c10) c4 f4 dn4)) Z from DV.mk hO10 hc10)
          have jZ := bZ.size
          have jnZ : n ≤ Z.heap.size := by omega
          go_wp2
          go_region
          go_wp2
          clear q9l q9r q9p q9c0 q9c1 q9c2 q9c3 q9c4 q9c5 q9f0 q9f1 q9f2 q9f3 q9f4 q9f5
          clear q10l q10r q10p q10c0 q10c1 q10c2 q10c3 q10c4 q10c5 q10f0 q10f1 q10f2 q10f3 q10f4 q10f5
          clear q11l q11r q11p q11c0 q11c1 q11c2 q11c3 q11c4 q11c5 q11f0 q11f1 q11f2 q11f3 q11f4 q11f5
          clear q12l q12r q12p q12c0 q12c1 q12c2 q12c3 q12c4 q12c5 q12f0 q12f1 q12f2 q12f3 q12f4 q12f5
          clear q13l q13r q13p q13c0 q13c1 q13c2 q13c3 q13c4 q13c5 q13f0 q13f1 q13f2 q13f3 q13f4 q13f5
          clear q14l q14r q14p q14c0 q14c1 q14c2 q14c3 q14c4 q14c5 q14f0 q14f1 q14f2 q14f3 q14f4 q14f5
          clear B0 B6 B8 B9 B11 hO hO6 hO9 hO10
          have HC9 := Lib.hid hc9
          have HC10 := Lib.hid hc10
          go_loopw [99] (fun i wx => ∃ j : Nat, j ≤ 3 ∧ i = .int .i64 j ∧ Below Z.heap.size Z wx) (fun i _ => 3 - (intOf i).toNat)
          case atStart => exact ⟨0, by omega, rfl, Below.refl _ _⟩
          case round =>
            obtain ⟨j, hj, rfl, hbz⟩ := hrel
            have jwr := hbz.size
            by_cases hj3 : j < 3
            · have hj4 : (j : Int) < 3 := by omega
              obtain ⟨q1, q2, q3, ⟨q4, q5, q6, q7, q8, q9⟩, _⟩ := (HB5.out.stays hbz).d6
              obtain ⟨p1, p2, p3, p4, p5⟩ := (HB8.out.stays hbz).d5
              go_wp2_with fail
              with_reducible refine (read_any n ⟨a4, b4, l4, c4, f4, dn4⟩ _ _ wr (HO5.out.stays hbz) (by omega) HOKR.out.wt (Nat.le_trans HOKR.out.len (by decide))).mono ?_
              rintro e w6 ⟨rfl, hb6⟩
              have hbz6 := nx hbz hb6
              have j6 := hb6.size
              clear q1 q2 q3 q4 q5 q6 q7 q8 q9 p1 p2 p3 p4 p5
              obtain ⟨q1, q2, q3, ⟨q4, q5, q6, q7, q8, q9⟩, _⟩ := (HB6.out.stays hbz6).d6
              obtain ⟨p1, p2, p3, p4, p5⟩ := (HB8.out.stays hbz6).d5
              go_wp2_with fail
              with_reducible refine (rRead_any n ⟨a4, b4, l4, c4, f4, dn4⟩ _ _ w6 (HO6.out.stays hbz6) (by omega) HOKR.out.wt (Nat.le_trans HOKR.out.len (by decide))).mono ?_
              rintro e w7 ⟨rfl, hb7⟩
              go_wp2
              go_roundw
              case rel => exact ⟨j + 1, by omega, by go_num, nx hbz6 hb7⟩
              case measure => simp [intOf]; omega
            · have HF := Lib.hid (show Dst n p ⟨a4, b4, l4, c4, f4, dn4⟩ wr ∧ Dst n p6 ⟨a4, b4, l4, c4, f4, dn4⟩ wr ∧ Below w.heap.size w wr from ⟨⟨_, HB5.out.stays hbz, (HO5.out.stays hbz).ol, HC9.out⟩, ⟨_, HB6.out.stays hbz, (HO6.out.stays hbz).ol, HC10.out⟩, nx bZ hbz⟩)
              obtain rfl : j = 3 := by omega
              go_wp2
              go_roundw
              case rel => first | exact ⟨k + 1, ⟨a4, b4, l4, c4, f4, dn4⟩, by omega, by go_num, HOK1.out, HF.out⟩ | ((repeat apply Exists.intro); exact ⟨⟨k + 1, ⟨a4, b4, l4, c4, f4, dn4⟩, by omega, by go_num, HOK1.out, HF.out⟩, rfl⟩)
              case measure => simp [intOf]; omega
        by_cases h4 : o1 = 4
        · subst h4
          have HR2 : Hid ((staP ⟨a, b, ll, c, f, dn⟩, 0) = r) := HR
          clear h0 h1 h2 h3
          obtain ⟨W, hW⟩ : ∃ Q_ : World, wo.alloc (.cells #[.int .i64 4, .int .i64 o2, .int .i64 o3, .int .i64 o4, .string o5] 31) = Q_ := ⟨_, rfl⟩
          have aW : Below wo.heap.size wo W := hW ▸ below1 _ _
          have B8 : Bx W (wo.heap.size) #[.int .i64 4, .int .i64 o2, .int .i64 o3, .int .i64 o4, .string o5] 31 := hW ▸ Bx.at (by first | rfl | omega) _ _
          replace B0 := B0.stays aW
          replace B6 := B6.stays aW
          replace hO := hO.stays aW
          replace hO6 := hO6.stays aW
          have bW := nx hb aW
          obtain ⟨q1l, q1r, q1p, ⟨q1c0, q1c1, q1c2, q1c3, q1c4, q1c5⟩, ⟨q1f0, q1f1, q1f2, q1f3, q1f4, q1f5⟩⟩ := B0.d6
          obtain ⟨q2l, q2r, q2p, ⟨q2c0, q2c1, q2c2, q2c3, q2c4⟩⟩ := B8.d5
          have hwr := hb.size
          have hnW : n ≤ W.heap.size := by have := aW.size; omega
          go_wp2_with fail
          with_reducible refine (step_is HR (DV.mk hO hc) hnW HOKD.out hx5).mono ?_
          rintro e w3 ⟨v3, rfl, hb3, o9, rfl, hO9, hc9⟩
          have hr0 : r.2 = 0 := by rw [← HR2.out]
          rw [hr0]
          clear hr0
          obtain ⟨⟨a4, b4, l4, c4, f4, dn4⟩, k4⟩ := r
          simp only at hO9 ⊢
          obtain ⟨a9, c9, rfl⟩ := hO9.len
          obtain ⟨n9, hn9⟩ : ∃ q, l4.length = q := ⟨_, rfl⟩
          rw [hn9] at hO9 hc9 ⊢
          have HN9 := Lib.hid hn9
          clear hn9
          clear q1l q1r q1p q1c0 q1c1 q1c2 q1c3 q1c4 q1c5 q1f0 q1f1 q1f2 q1f3 q1f4 q1f5
          clear q2l q2r q2p q2c0 q2c1 q2c2 q2c3 q2c4
          replace B0 := B0.stays hb3
          replace B6 := B6.stays hb3
          replace B8 := B8.stays hb3
          replace hO := hO.stays hb3
          replace hO6 := hO6.stays hb3
          have bw3 := nx bW hb3
          have j3 := hb3.size
          have jW := aW.size
          have j8 := B8.lt
          obtain ⟨X, hX⟩ : ∃ Q_ : World, w3.alloc (.cells #[.string a4, .string b4, .slice a9 n9 c9, .int .i64 c4, .int .i64 f4, .bool dn4] 28) = Q_ := ⟨_, rfl⟩
          have aX : Below w3.heap.size w3 X := hX ▸ below1 _ _
          have B9 : Bx X (w3.heap.size) #[.string a4, .string b4, .slice a9 n9 c9, .int .i64 c4, .int .i64 f4, .bool dn4] 28 := hX ▸ Bx.at (by first | rfl | omega) _ _
          replace B0 := B0.stays aX
          replace B6 := B6.stays aX
          replace B8 := B8.stays aX
          replace hO := hO.stays aX
          replace hO6 := hO6.stays aX
          replace hO9 := hO9.stays aX
          have bX := nx bw3 aX
          have j9 := B9.lt
          obtain ⟨X2, hX2⟩ : ∃ Q_ : World, X.alloc (.cells #[.string ⟨#[]⟩, .string ⟨#[]⟩, .slice none 0 0, .int .i64 0, .int .i64 0, .bool false] 28) = Q_ := ⟨_, rfl⟩
          have aX2 : Below X.heap.size X X2 := hX2 ▸ below1 _ _
          have B11 : Bx X2 (X.heap.size) #[.string ⟨#[]⟩, .string ⟨#[]⟩, .slice none 0 0, .int .i64 0, .int .i64 0, .bool false] 28 := hX2 ▸ Bx.at (by first | rfl | omega) _ _
          replace B0 := B0.stays aX2
          replace B6 := B6.stays aX2
          replace B8 := B8.stays aX2
          replace B9 := B9.stays aX2
          replace hO := hO.stays aX2
          replace hO6 := hO6.stays aX2
          replace hO9 := hO9.stays aX2
          have bX2 := nx bX aX2
          have j11 := B11.lt
          have HNX : n ≤ X2.heap.size := by omega
          obtain ⟨q3l, q3r, q3p, ⟨q3c0, q3c1, q3c2, q3c3, q3c4⟩⟩ := B8.d5
          obtain ⟨q4l, q4r, q4p, ⟨q4c0, q4c1, q4c2, q4c3, q4c4, q4c5⟩, ⟨q4f0, q4f1, q4f2, q4f3, q4f4, q4f5⟩⟩ := B6.d6
          obtain ⟨q5l, q5r, q5p, ⟨q5c0, q5c1, q5c2, q5c3, q5c4, q5c5⟩, ⟨q5f0, q5f1, q5f2, q5f3, q5f4, q5f5⟩⟩ := B9.d6
          go_wp2_with fail
          with_reducible refine (start2 HR2 (DV.mk hO6 hc6) HNX HLL.out).mono ?_
          rintro e w4 ⟨v4, rfl, hb4, o10, rfl, hO10, hc10⟩
          simp only at hO10 ⊢
          obtain ⟨a10, c10, rfl⟩ := hO10.len
          rw [HN9.out] at hO10 hc10 ⊢
          clear q3l q3r q3p q3c0 q3c1 q3c2 q3c3 q3c4
          clear q4l q4r q4p q4c0 q4c1 q4c2 q4c3 q4c4 q4c5 q4f0 q4f1 q4f2 q4f3 q4f4 q4f5
          clear q5l q5r q5p q5c0 q5c1 q5c2 q5c3 q5c4 q5c5 q5f0 q5f1 q5f2 q5f3 q5f4 q5f5
          replace B0 := B0.stays hb4
          replace B6 := B6.stays hb4
          replace B8 := B8.stays hb4
          replace B9 := B9.stays hb4
          replace B11 := B11.stays hb4
          replace hO := hO.stays hb4
          replace hO6 := hO6.stays hb4
          replace hO9 := hO9.stays hb4
          have bw4 := nx bX2 hb4
          obtain ⟨q6l, q6r, q6p, ⟨q6c0, q6c1, q6c2, q6c3, q6c4, q6c5⟩, ⟨q6f0, q6f1, q6f2, q6f3, q6f4, q6f5⟩⟩ := B11.d6
          obtain ⟨Y, hY⟩ : ∃ Q_ : World, w4.setRow (X.heap.size) #[.string a4, .string b4, .slice a10 n9 c10, .int .i64 c4, .int .i64 f4, .bool dn4] = Q_ := ⟨_, rfl⟩
          have bY : Below w.heap.size w Y := hY ▸ (bw4).trans (low_setRow _ (by omega))
          replace hO : OL n ll (.slice a3 n3 c3) Y := hY ▸ hO.keep (keeps_setRow _ B11 (by decide) (by show n ≤ _; omega))
          replace hO6 : OL n ll (.slice a5 n3 c5) Y := hY ▸ hO6.keep (keeps_setRow _ B11 (by decide) (by show n ≤ _; omega))
          replace hO9 : OL n l4 (.slice a9 n9 c9) Y := hY ▸ hO9.keep (keeps_setRow _ B11 (by decide) (by show n ≤ _; omega))
          replace hO10 : OL n l4 (.slice a10 n9 c10) Y := hY ▸ hO10.keep (keeps_setRow _ B11 (by decide) (by show n ≤ _; omega))
          replace B0 : Bx Y (p) #[.string a, .string b, .slice a3 n3 c3, .int .i64 c, .int .i64 f, .bool dn] 28 := hY ▸ B0.put' (by omega) _
          replace B6 : Bx Y (p6) #[.string a, .string b, .slice a5 n3 c5, .int .i64 c, .int .i64 f, .bool dn] 28 := hY ▸ B6.put' (by omega) _
          replace B8 : Bx Y (wo.heap.size) #[.int .i64 4, .int .i64 o2, .int .i64 o3, .int .i64 o4, .string o5] 31 := hY ▸ B8.put' (by omega) _
          replace B9 : Bx Y (w3.heap.size) #[.string a4, .string b4, .slice a9 n9 c9, .int .i64 c4, .int .i64 f4, .bool dn4] 28 := hY ▸ B9.put' (by omega) _
          replace B11 : Bx Y (X.heap.size) #[.string a4, .string b4, .slice a10 n9 c10, .int .i64 c4, .int .i64 f4, .bool dn4] 28 := hY ▸ B11.put _
          obtain ⟨q7l, q7r, q7p, ⟨q7c0, q7c1, q7c2, q7c3, q7c4, q7c5⟩, ⟨q7f0, q7f1, q7f2, q7f3, q7f4, q7f5⟩⟩ := B9.d6
          obtain ⟨q8l, q8r, q8p, ⟨q8c0, q8c1, q8c2, q8c3, q8c4, q8c5⟩, ⟨q8f0, q8f1, q8f2, q8f3, q8f4, q8f5⟩⟩ := B11.d6
          go_wp2_with fail
          with_reducible refine (same_yes (n := n) (n' := n) ⟨a4, b4, l4, c4, f4, dn4⟩ _ _ Y (DV.mk hO9 hc9) (DV.mk hO10 hc10) (Nat.le_trans HOKR.out.len (by decide))).mono ?_
          rintro e w5 ⟨rfl, hb5⟩
          clear q6l q6r q6p q6c0 q6c1 q6c2 q6c3 q6c4 q6c5 q6f0 q6f1 q6f2 q6f3 q6f4 q6f5
          clear q7l q7r q7p q7c0 q7c1 q7c2 q7c3 q7c4 q7c5 q7f0 q7f1 q7f2 q7f3 q7f4 q7f5
          clear q8l q8r q8p q8c0 q8c1 q8c2 q8c3 q8c4 q8c5 q8f0 q8f1 q8f2 q8f3 q8f4 q8f5
          replace B0 := B0.stays hb5
          replace B6 := B6.stays hb5
          replace B8 := B8.stays hb5
          replace B9 := B9.stays hb5
          replace B11 := B11.stays hb5
          replace hO := hO.stays hb5
          replace hO6 := hO6.stays hb5
          replace hO9 := hO9.stays hb5
          replace hO10 := hO10.stays hb5
          have bw5 := nx bY hb5
          obtain ⟨q9l, q9r, q9p, ⟨q9c0, q9c1, q9c2, q9c3, q9c4, q9c5⟩, ⟨q9f0, q9f1, q9f2, q9f3, q9f4, q9f5⟩⟩ := B9.d6
          obtain ⟨q10l, q10r, q10p, ⟨q10c0, q10c1, q10c2, q10c3, q10c4, q10c5⟩, ⟨q10f0, q10f1, q10f2, q10f3, q10f4, q10f5⟩⟩ := B11.d6
          obtain ⟨q11l, q11r, q11p, ⟨q11c0, q11c1, q11c2, q11c3, q11c4, q11c5⟩, ⟨q11f0, q11f1, q11f2, q11f3, q11f4, q11f5⟩⟩ := B0.d6
          obtain ⟨Z1, hZ1⟩ : ∃ Q_ : World, w5.setRow (p) #[.string a4, .string b4, .slice a9 n9 c9, .int .i64 c4, .int .i64 f4, .bool dn4] = Q_ := ⟨_, rfl⟩
          have bZ1 : Below w.heap.size w Z1 := hZ1 ▸ (bw5).trans (low_setRow _ (by omega))
          replace hO : OL n ll (.slice a3 n3 c3) Z1 := hZ1 ▸ hO.keep (keeps_setRow _ B0 (by decide) (by show n ≤ _; omega))
          replace hO6 : OL n ll (.slice a5 n3 c5) Z1 := hZ1 ▸ hO6.keep (keeps_setRow _ B0 (by decide) (by show n ≤ _; omega))
          replace hO9 : OL n l4 (.slice a9 n9 c9) Z1 := hZ1 ▸ hO9.keep (keeps_setRow _ B0 (by decide) (by show n ≤ _; omega))
          replace hO10 : OL n l4 (.slice a10 n9 c10) Z1 := hZ1 ▸ hO10.keep (keeps_setRow _ B0 (by decide) (by show n ≤ _; omega))
          replace B6 : Bx Z1 (p6) #[.string a, .string b, .slice a5 n3 c5, .int .i64 c, .int .i64 f, .bool dn] 28 := hZ1 ▸ B6.put' (by omega) _
          replace B8 : Bx Z1 (wo.heap.size) #[.int .i64 4, .int .i64 o2, .int .i64 o3, .int .i64 o4, .string o5] 31 := hZ1 ▸ B8.put' (by omega) _
          replace B9 : Bx Z1 (w3.heap.size) #[.string a4, .string b4, .slice a9 n9 c9, .int .i64 c4, .int .i64 f4, .bool dn4] 28 := hZ1 ▸ B9.put' (by omega) _
          replace B11 : Bx Z1 (X.heap.size) #[.string a4, .string b4, .slice a10 n9 c10, .int .i64 c4, .int .i64 f4, .bool dn4] 28 := hZ1 ▸ B11.put' (by omega) _
          replace B0 : Bx Z1 (p) #[.string a4, .string b4, .slice a9 n9 c9, .int .i64 c4, .int .i64 f4, .bool dn4] 28 := hZ1 ▸ B0.put _
          obtain ⟨q12l, q12r, q12p, ⟨q12c0, q12c1, q12c2, q12c3, q12c4, q12c5⟩, ⟨q12f0, q12f1, q12f2, q12f3, q12f4, q12f5⟩⟩ := B6.d6
          obtain ⟨q13l, q13r, q13p, ⟨q13c0, q13c1, q13c2, q13c3, q13c4, q13c5⟩, ⟨q13f0, q13f1, q13f2, q13f3, q13f4, q13f5⟩⟩ := B9.d6
          obtain ⟨q14l, q14r, q14p, ⟨q14c0, q14c1, q14c2, q14c3, q14c4, q14c5⟩, ⟨q14f0, q14f1, q14f2, q14f3, q14f4, q14f5⟩⟩ := B11.d6
          obtain ⟨Z2, hZ2⟩ : ∃ Q_ : World, Z1.setRow (p6) #[.string a4, .string b4, .slice a10 n9 c10, .int .i64 c4, .int .i64 f4, .bool dn4] = Q_ := ⟨_, rfl⟩
          have bZ2 : Below w.heap.size w Z2 := hZ2 ▸ (bZ1).trans (low_setRow _ (by omega))
          replace hO : OL n ll (.slice a3 n3 c3) Z2 := hZ2 ▸ hO.keep (keeps_setRow _ B6 (by decide) (by show n ≤ _; omega))
          replace hO6 : OL n ll (.slice a5 n3 c5) Z2 := hZ2 ▸ hO6.keep (keeps_setRow _ B6 (by decide) (by show n ≤ _; omega))
          replace hO9 : OL n l4 (.slice a9 n9 c9) Z2 := hZ2 ▸ hO9.keep (keeps_setRow _ B6 (by decide) (by show n ≤ _; omega))
          replace hO10 : OL n l4 (.slice a10 n9 c10) Z2 := hZ2 ▸ hO10.keep (keeps_setRow _ B6 (by decide) (by show n ≤ _; omega))
          replace B0 : Bx Z2 (p) #[.string a4, .string b4, .slice a9 n9 c9, .int .i64 c4, .int .i64 f4, .bool dn4] 28 := hZ2 ▸ B0.put' (by omega) _
          replace B8 : Bx Z2 (wo.heap.size) #[.int .i64 4, .int .i64 o2, .int .i64 o3, .int .i64 o4, .string o5] 31 := hZ2 ▸ B8.put' (by omega) _
          replace B9 : Bx Z2 (w3.heap.size) #[.string a4, .string b4, .slice a9 n9 c9, .int .i64 c4, .int .i64 f4, .bool dn4] 28 := hZ2 ▸ B9.put' (by omega) _
          replace B11 : Bx Z2 (X.heap.size) #[.string a4, .string b4, .slice a10 n9 c10, .int .i64 c4, .int .i64 f4, .bool dn4] 28 := hZ2 ▸ B11.put' (by omega) _
          replace B6 : Bx Z2 (p6) #[.string a4, .string b4, .slice a10 n9 c10, .int .i64 c4, .int .i64 f4, .bool dn4] 28 := hZ2 ▸ B6.put _
          obtain ⟨Z, hZ⟩ : ∃ Q_ : World, Z2.drew = Q_ := ⟨_, rfl⟩
          have aZ : Below Z2.heap.size Z2 Z := hZ ▸ (Below.refl _ _).drew
          replace B0 := B0.stays aZ
          replace B6 := B6.stays aZ
          replace B8 := B8.stays aZ
          replace B9 := B9.stays aZ
          replace B11 := B11.stays aZ
          replace hO := hO.stays aZ
          replace hO6 := hO6.stays aZ
          replace hO9 := hO9.stays aZ
          replace hO10 := hO10.stays aZ
          have bZ := nx bZ2 aZ
          have HB5 := Lib.hid B0
          have HB6 := Lib.hid B6
          have HB8 := Lib.hid B8
          have HO5 := Lib.hid (show DV n ⟨a4, b4, l4, c4, f4, dn4⟩ (.agg (cD a4 b4 (.slice a9 n9 c9) c4 f4 dn4)) Z from DV.mk hO9 hc9)
          have HO6 := Lib.hid (show DV n ⟨a4, b4, l4, c4, f4, dn4⟩ (.agg (cD a4 b4 (.slice a10 n9 c10) c4 f4 dn4)) Z from DV.mk hO10 hc10)
          have jZ := bZ.size
          have jnZ : n ≤ Z.heap.size := by omega
          go_wp2
          go_region
          go_wp2
          clear q9l q9r q9p q9c0 q9c1 q9c2 q9c3 q9c4 q9c5 q9f0 q9f1 q9f2 q9f3 q9f4 q9f5
          clear q10l q10r q10p q10c0 q10c1 q10c2 q10c3 q10c4 q10c5 q10f0 q10f1 q10f2 q10f3 q10f4 q10f5
          clear q11l q11r q11p q11c0 q11c1 q11c2 q11c3 q11c4 q11c5 q11f0 q11f1 q11f2 q11f3 q11f4 q11f5
          clear q12l q12r q12p q12c0 q12c1 q12c2 q12c3 q12c4 q12c5 q12f0 q12f1 q12f2 q12f3 q12f4 q12f5
          clear q13l q13r q13p q13c0 q13c1 q13c2 q13c3 q13c4 q13c5 q13f0 q13f1 q13f2 q13f3 q13f4 q13f5
          clear q14l q14r q14p q14c0 q14c1 q14c2 q14c3 q14c4 q14c5 q14f0 q14f1 q14f2 q14f3 q14f4 q14f5
          clear B0 B6 B8 B9 B11 hO hO6 hO9 hO10
          have HC9 := Lib.hid hc9
          have HC10 := Lib.hid hc10
          go_loopw [99] (fun i wx => ∃ j : Nat, j ≤ 3 ∧ i = .int .i64 j ∧ Below Z.heap.size Z wx) (fun i _ => 3 - (intOf i).toNat)
          case atStart => exact ⟨0, by omega, rfl, Below.refl _ _⟩
          case round =>
            obtain ⟨j, hj, rfl, hbz⟩ := hrel
            have jwr := hbz.size
            by_cases hj3 : j < 3
            · have hj4 : (j : Int) < 3 := by omega
              obtain ⟨q1, q2, q3, ⟨q4, q5, q6, q7, q8, q9⟩, _⟩ := (HB5.out.stays hbz).d6
              obtain ⟨p1, p2, p3, p4, p5⟩ := (HB8.out.stays hbz).d5
              go_wp2_with fail
              with_reducible refine (read_any n ⟨a4, b4, l4, c4, f4, dn4⟩ _ _ wr (HO5.out.stays hbz) (by omega) HOKR.out.wt (Nat.le_trans HOKR.out.len (by decide))).mono ?_
              rintro e w6 ⟨rfl, hb6⟩
              have hbz6 := nx hbz hb6
              have j6 := hb6.size
              clear q1 q2 q3 q4 q5 q6 q7 q8 q9 p1 p2 p3 p4 p5
              obtain ⟨q1, q2, q3, ⟨q4, q5, q6, q7, q8, q9⟩, _⟩ := (HB6.out.stays hbz6).d6
              obtain ⟨p1, p2, p3, p4, p5⟩ := (HB8.out.stays hbz6).d5
              go_wp2_with fail
              with_reducible refine (rRead_any n ⟨a4, b4, l4, c4, f4, dn4⟩ _ _ w6 (HO6.out.stays hbz6) (by omega) HOKR.out.wt (Nat.le_trans HOKR.out.len (by decide))).mono ?_
              rintro e w7 ⟨rfl, hb7⟩
              go_wp2
              go_roundw
              case rel => exact ⟨j + 1, by omega, by go_num, nx hbz6 hb7⟩
              case measure => simp [intOf]; omega
            · have HF := Lib.hid (show Dst n p ⟨a4, b4, l4, c4, f4, dn4⟩ wr ∧ Dst n p6 ⟨a4, b4, l4, c4, f4, dn4⟩ wr ∧ Below w.heap.size w wr from ⟨⟨_, HB5.out.stays hbz, (HO5.out.stays hbz).ol, HC9.out⟩, ⟨_, HB6.out.stays hbz, (HO6.out.stays hbz).ol, HC10.out⟩, nx bZ hbz⟩)
              obtain rfl : j = 3 := by omega
              go_wp2
              go_roundw
              case rel => first | exact ⟨k + 1, ⟨a4, b4, l4, c4, f4, dn4⟩, by omega, by go_num, HOK1.out, HF.out⟩ | ((repeat apply Exists.intro); exact ⟨⟨k + 1, ⟨a4, b4, l4, c4, f4, dn4⟩, by omega, by go_num, HOK1.out, HF.out⟩, rfl⟩)
              case measure => simp [intOf]; omega
        by_cases h5 : o1 = 5
        · subst h5
          have HR2 : Hid ((armP ⟨a, b, ll, c, f, dn⟩ o3, 0) = r) := HR
          clear h0 h1 h2 h3 h4
          obtain ⟨W, hW⟩ : ∃ Q_ : World, wo.alloc (.cells #[.int .i64 5, .int .i64 o2, .int .i64 o3, .int .i64 o4, .string o5] 31) = Q_ := ⟨_, rfl⟩
          have aW : Below wo.heap.size wo W := hW ▸ below1 _ _
          have B8 : Bx W (wo.heap.size) #[.int .i64 5, .int .i64 o2, .int .i64 o3, .int .i64 o4, .string o5] 31 := hW ▸ Bx.at (by first | rfl | omega) _ _
          replace B0 := B0.stays aW
          replace B6 := B6.stays aW
          replace hO := hO.stays aW
          replace hO6 := hO6.stays aW
          have bW := nx hb aW
          obtain ⟨q1l, q1r, q1p, ⟨q1c0, q1c1, q1c2, q1c3, q1c4, q1c5⟩, ⟨q1f0, q1f1, q1f2, q1f3, q1f4, q1f5⟩⟩ := B0.d6
          obtain ⟨q2l, q2r, q2p, ⟨q2c0, q2c1, q2c2, q2c3, q2c4⟩⟩ := B8.d5
          have hwr := hb.size
          have hnW : n ≤ W.heap.size := by have := aW.size; omega
          go_wp2_with fail
          with_reducible refine (step_is HR (DV.mk hO hc) hnW HOKD.out hx5).mono ?_
          rintro e w3 ⟨v3, rfl, hb3, o9, rfl, hO9, hc9⟩
          have hr0 : r.2 = 0 := by rw [← HR2.out]
          rw [hr0]
          clear hr0
          obtain ⟨⟨a4, b4, l4, c4, f4, dn4⟩, k4⟩ := r
          simp only at hO9 ⊢
          obtain ⟨a9, c9, rfl⟩ := hO9.len
          obtain ⟨n9, hn9⟩ : ∃ q, l4.length = q := ⟨_, rfl⟩
          rw [hn9] at hO9 hc9 ⊢
          have HN9 := Lib.hid hn9
          clear hn9
          clear q1l q1r q1p q1c0 q1c1 q1c2 q1c3 q1c4 q1c5 q1f0 q1f1 q1f2 q1f3 q1f4 q1f5
          clear q2l q2r q2p q2c0 q2c1 q2c2 q2c3 q2c4
          replace B0 := B0.stays hb3
          replace B6 := B6.stays hb3
          replace B8 := B8.stays hb3
          replace hO := hO.stays hb3
          replace hO6 := hO6.stays hb3
          have bw3 := nx bW hb3
          have j3 := hb3.size
          have jW := aW.size
          have j8 := B8.lt
          obtain ⟨X, hX⟩ : ∃ Q_ : World, w3.alloc (.cells #[.string a4, .string b4, .slice a9 n9 c9, .int .i64 c4, .int .i64 f4, .bool dn4] 28) = Q_ := ⟨_, rfl⟩
          have aX : Below w3.heap.size w3 X := hX ▸ below1 _ _
          have B9 : Bx X (w3.heap.size) #[.string a4, .string b4, .slice a9 n9 c9, .int .i64 c4, .int .i64 f4, .bool dn4] 28 := hX ▸ Bx.at (by first | rfl | omega) _ _
          replace B0 := B0.stays aX
          replace B6 := B6.stays aX
          replace B8 := B8.stays aX
          replace hO := hO.stays aX
          replace hO6 := hO6.stays aX
          replace hO9 := hO9.stays aX
          have bX := nx bw3 aX
          have j9 := B9.lt
          obtain ⟨X2, hX2⟩ : ∃ Q_ : World, X.alloc (.cells #[.string ⟨#[]⟩, .string ⟨#[]⟩, .slice none 0 0, .int .i64 0, .int .i64 0, .bool false] 28) = Q_ := ⟨_, rfl⟩
          have aX2 : Below X.heap.size X X2 := hX2 ▸ below1 _ _
          have B11 : Bx X2 (X.heap.size) #[.string ⟨#[]⟩, .string ⟨#[]⟩, .slice none 0 0, .int .i64 0, .int .i64 0, .bool false] 28 := hX2 ▸ Bx.at (by first | rfl | omega) _ _
          replace B0 := B0.stays aX2
          replace B6 := B6.stays aX2
          replace B8 := B8.stays aX2
          replace B9 := B9.stays aX2
          replace hO := hO.stays aX2
          replace hO6 := hO6.stays aX2
          replace hO9 := hO9.stays aX2
          have bX2 := nx bX aX2
          have j11 := B11.lt
          have HNX : n ≤ X2.heap.size := by omega
          obtain ⟨q3l, q3r, q3p, ⟨q3c0, q3c1, q3c2, q3c3, q3c4⟩⟩ := B8.d5
          obtain ⟨q4l, q4r, q4p, ⟨q4c0, q4c1, q4c2, q4c3, q4c4, q4c5⟩, ⟨q4f0, q4f1, q4f2, q4f3, q4f4, q4f5⟩⟩ := B6.d6
          obtain ⟨q5l, q5r, q5p, ⟨q5c0, q5c1, q5c2, q5c3, q5c4, q5c5⟩, ⟨q5f0, q5f1, q5f2, q5f3, q5f4, q5f5⟩⟩ := B9.d6
          go_wp2_with fail
          with_reducible refine (arm2 HR2 (DV.mk hO6 hc6) HNX HLL.out).mono ?_
          rintro e w4 ⟨v4, rfl, hb4, o10, rfl, hO10, hc10⟩
          simp only at hO10 ⊢
          obtain ⟨a10, c10, rfl⟩ := hO10.len
          rw [HN9.out] at hO10 hc10 ⊢
          clear q3l q3r q3p q3c0 q3c1 q3c2 q3c3 q3c4
          clear q4l q4r q4p q4c0 q4c1 q4c2 q4c3 q4c4 q4c5 q4f0 q4f1 q4f2 q4f3 q4f4 q4f5
          clear q5l q5r q5p q5c0 q5c1 q5c2 q5c3 q5c4 q5c5 q5f0 q5f1 q5f2 q5f3 q5f4 q5f5
          replace B0 := B0.stays hb4
          replace B6 := B6.stays hb4
          replace B8 := B8.stays hb4
          replace B9 := B9.stays hb4
          replace B11 := B11.stays hb4
          replace hO := hO.stays hb4
          replace hO6 := hO6.stays hb4
          replace hO9 := hO9.stays hb4
          have bw4 := nx bX2 hb4
          obtain ⟨q6l, q6r, q6p, ⟨q6c0, q6c1, q6c2, q6c3, q6c4, q6c5⟩, ⟨q6f0, q6f1, q6f2, q6f3, q6f4, q6f5⟩⟩ := B11.d6
          obtain ⟨Y, hY⟩ : ∃ Q_ : World, w4.setRow (X.heap.size) #[.string a4, .string b4, .slice a10 n9 c10, .int .i64 c4, .int .i64 f4, .bool dn4] = Q_ := ⟨_, rfl⟩
          have bY : Below w.heap.size w Y := hY ▸ (bw4).trans (low_setRow _ (by omega))
          replace hO : OL n ll (.slice a3 n3 c3) Y := hY ▸ hO.keep (keeps_setRow _ B11 (by decide) (by show n ≤ _; omega))
          replace hO6 : OL n ll (.slice a5 n3 c5) Y := hY ▸ hO6.keep (keeps_setRow _ B11 (by decide) (by show n ≤ _; omega))
          replace hO9 : OL n l4 (.slice a9 n9 c9) Y := hY ▸ hO9.keep (keeps_setRow _ B11 (by decide) (by show n ≤ _; omega))
          replace hO10 : OL n l4 (.slice a10 n9 c10) Y := hY ▸ hO10.keep (keeps_setRow _ B11 (by decide) (by show n ≤ _; omega))
          replace B0 : Bx Y (p) #[.string a, .string b, .slice a3 n3 c3, .int .i64 c, .int .i64 f, .bool dn] 28 := hY ▸ B0.put' (by omega) _
          replace B6 : Bx Y (p6) #[.string a, .string b, .slice a5 n3 c5, .int .i64 c, .int .i64 f, .bool dn] 28 := hY ▸ B6.put' (by omega) _
          replace B8 : Bx Y (wo.heap.size) #[.int .i64 5, .int .i64 o2, .int .i64 o3, .int .i64 o4, .string o5] 31 := hY ▸ B8.put' (by omega) _
          replace B9 : Bx Y (w3.heap.size) #[.string a4, .string b4, .slice a9 n9 c9, .int .i64 c4, .int .i64 f4, .bool dn4] 28 := hY ▸ B9.put' (by omega) _
          replace B11 : Bx Y (X.heap.size) #[.string a4, .string b4, .slice a10 n9 c10, .int .i64 c4, .int .i64 f4, .bool dn4] 28 := hY ▸ B11.put _
          obtain ⟨q7l, q7r, q7p, ⟨q7c0, q7c1, q7c2, q7c3, q7c4, q7c5⟩, ⟨q7f0, q7f1, q7f2, q7f3, q7f4, q7f5⟩⟩ := B9.d6
          obtain ⟨q8l, q8r, q8p, ⟨q8c0, q8c1, q8c2, q8c3, q8c4, q8c5⟩, ⟨q8f0, q8f1, q8f2, q8f3, q8f4, q8f5⟩⟩ := B11.d6
          go_wp2_with fail
          with_reducible refine (same_yes (n := n) (n' := n) ⟨a4, b4, l4, c4, f4, dn4⟩ _ _ Y (DV.mk hO9 hc9) (DV.mk hO10 hc10) (Nat.le_trans HOKR.out.len (by decide))).mono ?_
          rintro e w5 ⟨rfl, hb5⟩
          clear q6l q6r q6p q6c0 q6c1 q6c2 q6c3 q6c4 q6c5 q6f0 q6f1 q6f2 q6f3 q6f4 q6f5
          clear q7l q7r q7p q7c0 q7c1 q7c2 q7c3 q7c4 q7c5 q7f0 q7f1 q7f2 q7f3 q7f4 q7f5
          clear q8l q8r q8p q8c0 q8c1 q8c2 q8c3 q8c4 q8c5 q8f0 q8f1 q8f2 q8f3 q8f4 q8f5
          replace B0 := B0.stays hb5
          replace B6 := B6.stays hb5
          replace B8 := B8.stays hb5
          replace B9 := B9.stays hb5
          replace B11 := B11.stays hb5
          replace hO := hO.stays hb5
          replace hO6 := hO6.stays hb5
          replace hO9 := hO9.stays hb5
          replace hO10 := hO10.stays hb5
          have bw5 := nx bY hb5
          obtain ⟨q9l, q9r, q9p, ⟨q9c0, q9c1, q9c2, q9c3, q9c4, q9c5⟩, ⟨q9f0, q9f1, q9f2, q9f3, q9f4, q9f5⟩⟩ := B9.d6
          obtain ⟨q10l, q10r, q10p, ⟨q10c0, q10c1, q10c2, q10c3, q10c4, q10c5⟩, ⟨q10f0, q10f1, q10f2, q10f3, q10f4, q10f5⟩⟩ := B11.d6
          obtain ⟨q11l, q11r, q11p, ⟨q11c0, q11c1, q11c2, q11c3, q11c4, q11c5⟩, ⟨q11f0, q11f1, q11f2, q11f3, q11f4, q11f5⟩⟩ := B0.d6
          obtain ⟨Z1, hZ1⟩ : ∃ Q_ : World, w5.setRow (p) #[.string a4, .string b4, .slice a9 n9 c9, .int .i64 c4, .int .i64 f4, .bool dn4] = Q_ := ⟨_, rfl⟩
          have bZ1 : Below w.heap.size w Z1 := hZ1 ▸ (bw5).trans (low_setRow _ (by omega))
          replace hO : OL n ll (.slice a3 n3 c3) Z1 := hZ1 ▸ hO.keep (keeps_setRow _ B0 (by decide) (by show n ≤ _; omega))
          replace hO6 : OL n ll (.slice a5 n3 c5) Z1 := hZ1 ▸ hO6.keep (keeps_setRow _ B0 (by decide) (by show n ≤ _; omega))
          replace hO9 : OL n l4 (.slice a9 n9 c9) Z1 := hZ1 ▸ hO9.keep (keeps_setRow _ B0 (by decide) (by show n ≤ _; omega))
          replace hO10 : OL n l4 (.slice a10 n9 c10) Z1 := hZ1 ▸ hO10.keep (keeps_setRow _ B0 (by decide) (by show n ≤ _; omega))
          replace B6 : Bx Z1 (p6) #[.string a, .string b, .slice a5 n3 c5, .int .i64 c, .int .i64 f, .bool dn] 28 := hZ1 ▸ B6.put' (by omega) _
          replace B8 : Bx Z1 (wo.heap.size) #[.int .i64 5, .int .i64 o2, .int .i64 o3, .int .i64 o4, .string o5] 31 := hZ1 ▸ B8.put' (by omega) _
          replace B9 : Bx Z1 (w3.heap.size) #[.string a4, .string b4, .slice a9 n9 c9, .int .i64 c4, .int .i64 f4, .bool dn4] 28 := hZ1 ▸ B9.put' (by omega) _
          replace B11 : Bx Z1 (X.heap.size) #[.string a4, .string b4, .slice a10 n9 c10, .int .i64 c4, .int .i64 f4, .bool dn4] 28 := hZ1 ▸ B11.put' (by omega) _
          replace B0 : Bx Z1 (p) #[.string a4, .string b4, .slice a9 n9 c9, .int .i64 c4, .int .i64 f4, .bool dn4] 28 := hZ1 ▸ B0.put _
          obtain ⟨q12l, q12r, q12p, ⟨q12c0, q12c1, q12c2, q12c3, q12c4, q12c5⟩, ⟨q12f0, q12f1, q12f2, q12f3, q12f4, q12f5⟩⟩ := B6.d6
          obtain ⟨q13l, q13r, q13p, ⟨q13c0, q13c1, q13c2, q13c3, q13c4, q13c5⟩, ⟨q13f0, q13f1, q13f2, q13f3, q13f4, q13f5⟩⟩ := B9.d6
          obtain ⟨q14l, q14r, q14p, ⟨q14c0, q14c1, q14c2, q14c3, q14c4, q14c5⟩, ⟨q14f0, q14f1, q14f2, q14f3, q14f4, q14f5⟩⟩ := B11.d6
          obtain ⟨Z2, hZ2⟩ : ∃ Q_ : World, Z1.setRow (p6) #[.string a4, .string b4, .slice a10 n9 c10, .int .i64 c4, .int .i64 f4, .bool dn4] = Q_ := ⟨_, rfl⟩
          have bZ2 : Below w.heap.size w Z2 := hZ2 ▸ (bZ1).trans (low_setRow _ (by omega))
          replace hO : OL n ll (.slice a3 n3 c3) Z2 := hZ2 ▸ hO.keep (keeps_setRow _ B6 (by decide) (by show n ≤ _; omega))
          replace hO6 : OL n ll (.slice a5 n3 c5) Z2 := hZ2 ▸ hO6.keep (keeps_setRow _ B6 (by decide) (by show n ≤ _; omega))
          replace hO9 : OL n l4 (.slice a9 n9 c9) Z2 := hZ2 ▸ hO9.keep (keeps_setRow _ B6 (by decide) (by show n ≤ _; omega))
          replace hO10 : OL n l4 (.slice a10 n9 c10) Z2 := hZ2 ▸ hO10.keep (keeps_setRow _ B6 (by decide) (by show n ≤ _; omega))
          replace B0 : Bx Z2 (p) #[.string a4, .string b4, .slice a9 n9 c9, .int .i64 c4, .int .i64 f4, .bool dn4] 28 := hZ2 ▸ B0.put' (by omega) _
          replace B8 : Bx Z2 (wo.heap.size) #[.int .i64 5, .int .i64 o2, .int .i64 o3, .int .i64 o4, .string o5] 31 := hZ2 ▸ B8.put' (by omega) _
          replace B9 : Bx Z2 (w3.heap.size) #[.string a4, .string b4, .slice a9 n9 c9, .int .i64 c4, .int .i64 f4, .bool dn4] 28 := hZ2 ▸ B9.put' (by omega) _
          replace B11 : Bx Z2 (X.heap.size) #[.string a4, .string b4, .slice a10 n9 c10, .int .i64 c4, .int .i64 f4, .bool dn4] 28 := hZ2 ▸ B11.put' (by omega) _
          replace B6 : Bx Z2 (p6) #[.string a4, .string b4, .slice a10 n9 c10, .int .i64 c4, .int .i64 f4, .bool dn4] 28 := hZ2 ▸ B6.put _
          obtain ⟨Z, hZ⟩ : ∃ Q_ : World, Z2.drew = Q_ := ⟨_, rfl⟩
          have aZ : Below Z2.heap.size Z2 Z := hZ ▸ (Below.refl _ _).drew
          replace B0 := B0.stays aZ
          replace B6 := B6.stays aZ
          replace B8 := B8.stays aZ
          replace B9 := B9.stays aZ
          replace B11 := B11.stays aZ
          replace hO := hO.stays aZ
          replace hO6 := hO6.stays aZ
          replace hO9 := hO9.stays aZ
          replace hO10 := hO10.stays aZ
          have bZ := nx bZ2 aZ
          have HB5 := Lib.hid B0
          have HB6 := Lib.hid B6
          have HB8 := Lib.hid B8
          have HO5 := Lib.hid (show DV n ⟨a4, b4, l4, c4, f4, dn4⟩ (.agg (cD a4 b4 (.slice a9 n9 c9) c4 f4 dn4)) Z from DV.mk hO9 hc9)
          have HO6 := Lib.hid (show DV n ⟨a4, b4, l4, c4, f4, dn4⟩ (.agg (cD a4 b4 (.slice a10 n9 c10) c4 f4 dn4)) Z from DV.mk hO10 hc10)
          have jZ := bZ.size
          have jnZ : n ≤ Z.heap.size := by omega
          go_wp2
          go_region
          go_wp2
          clear q9l q9r q9p q9c0 q9c1 q9c2 q9c3 q9c4 q9c5 q9f0 q9f1 q9f2 q9f3 q9f4 q9f5
          clear q10l q10r q10p q10c0 q10c1 q10c2 q10c3 q10c4 q10c5 q10f0 q10f1 q10f2 q10f3 q10f4 q10f5
          clear q11l q11r q11p q11c0 q11c1 q11c2 q11c3 q11c4 q11c5 q11f0 q11f1 q11f2 q11f3 q11f4 q11f5
          clear q12l q12r q12p q12c0 q12c1 q12c2 q12c3 q12c4 q12c5 q12f0 q12f1 q12f2 q12f3 q12f4 q12f5
          clear q13l q13r q13p q13c0 q13c1 q13c2 q13c3 q13c4 q13c5 q13f0 q13f1 q13f2 q13f3 q13f4 q13f5
          clear q14l q14r q14p q14c0 q14c1 q14c2 q14c3 q14c4 q14c5 q14f0 q14f1 q14f2 q14f3 q14f4 q14f5
          clear B0 B6 B8 B9 B11 hO hO6 hO9 hO10
          have HC9 := Lib.hid hc9
          have HC10 := Lib.hid hc10
          go_loopw [99] (fun i wx => ∃ j : Nat, j ≤ 3 ∧ i = .int .i64 j ∧ Below Z.heap.size Z wx) (fun i _ => 3 - (intOf i).toNat)
          case atStart => exact ⟨0, by omega, rfl, Below.refl _ _⟩
          case round =>
            obtain ⟨j, hj, rfl, hbz⟩ := hrel
            have jwr := hbz.size
            by_cases hj3 : j < 3
            · have hj4 : (j : Int) < 3 := by omega
              obtain ⟨q1, q2, q3, ⟨q4, q5, q6, q7, q8, q9⟩, _⟩ := (HB5.out.stays hbz).d6
              obtain ⟨p1, p2, p3, p4, p5⟩ := (HB8.out.stays hbz).d5
              go_wp2_with fail
              with_reducible refine (read_any n ⟨a4, b4, l4, c4, f4, dn4⟩ _ _ wr (HO5.out.stays hbz) (by omega) HOKR.out.wt (Nat.le_trans HOKR.out.len (by decide))).mono ?_
              rintro e w6 ⟨rfl, hb6⟩
              have hbz6 := nx hbz hb6
              have j6 := hb6.size
              clear q1 q2 q3 q4 q5 q6 q7 q8 q9 p1 p2 p3 p4 p5
              obtain ⟨q1, q2, q3, ⟨q4, q5, q6, q7, q8, q9⟩, _⟩ := (HB6.out.stays hbz6).d6
              obtain ⟨p1, p2, p3, p4, p5⟩ := (HB8.out.stays hbz6).d5
              go_wp2_with fail
              with_reducible refine (rRead_any n ⟨a4, b4, l4, c4, f4, dn4⟩ _ _ w6 (HO6.out.stays hbz6) (by omega) HOKR.out.wt (Nat.le_trans HOKR.out.len (by decide))).mono ?_
              rintro e w7 ⟨rfl, hb7⟩
              go_wp2
              go_roundw
              case rel => exact ⟨j + 1, by omega, by go_num, nx hbz6 hb7⟩
              case measure => simp [intOf]; omega
            · have HF := Lib.hid (show Dst n p ⟨a4, b4, l4, c4, f4, dn4⟩ wr ∧ Dst n p6 ⟨a4, b4, l4, c4, f4, dn4⟩ wr ∧ Below w.heap.size w wr from ⟨⟨_, HB5.out.stays hbz, (HO5.out.stays hbz).ol, HC9.out⟩, ⟨_, HB6.out.stays hbz, (HO6.out.stays hbz).ol, HC10.out⟩, nx bZ hbz⟩)
              obtain rfl : j = 3 := by omega
              go_wp2
              go_roundw
              case rel => first | exact ⟨k + 1, ⟨a4, b4, l4, c4, f4, dn4⟩, by omega, by go_num, HOK1.out, HF.out⟩ | ((repeat apply Exists.intro); exact ⟨⟨k + 1, ⟨a4, b4, l4, c4, f4, dn4⟩, by omega, by go_num, HOK1.out, HF.out⟩, rfl⟩)
              case measure => simp [intOf]; omega
        have HR2 : Hid ((rooP ⟨a, b, ll, c, f, dn⟩ o3, 0) = r) := Lib.hid (by have h9 := HR.out; simp only [stepP] at h9; rw [if_neg h0, if_neg h1, if_neg h2, if_neg h3, if_neg h4, if_neg h5] at h9; exact h9)
        replace h0 : (o1 == 0) = false := by simpa using h0
        replace h1 : (o1 == 1) = false := by simpa using h1
        replace h2 : (o1 == 2) = false := by simpa using h2
        replace h3 : (o1 == 3) = false := by simpa using h3
        replace h4 : (o1 == 4) = false := by simpa using h4
        replace h5 : (o1 == 5) = false := by simpa using h5
        obtain ⟨W, hW⟩ : ∃ Q_ : World, wo.alloc (.cells #[.int .i64 o1, .int .i64 o2, .int .i64 o3, .int .i64 o4, .string o5] 31) = Q_ := ⟨_, rfl⟩
        have aW : Below wo.heap.size wo W := hW ▸ below1 _ _
        have B8 : Bx W (wo.heap.size) #[.int .i64 o1, .int .i64 o2, .int .i64 o3, .int .i64 o4, .string o5] 31 := hW ▸ Bx.at (by first | rfl | omega) _ _
        replace B0 := B0.stays aW
        replace B6 := B6.stays aW
        replace hO := hO.stays aW
        replace hO6 := hO6.stays aW
        have bW := nx hb aW
        obtain ⟨q1l, q1r, q1p, ⟨q1c0, q1c1, q1c2, q1c3, q1c4, q1c5⟩, ⟨q1f0, q1f1, q1f2, q1f3, q1f4, q1f5⟩⟩ := B0.d6
        obtain ⟨q2l, q2r, q2p, ⟨q2c0, q2c1, q2c2, q2c3, q2c4⟩⟩ := B8.d5
        have hwr := hb.size
        have hnW : n ≤ W.heap.size := by have := aW.size; omega
        go_wp2_with fail
        with_reducible refine (step_is HR (DV.mk hO hc) hnW HOKD.out hx5).mono ?_
        rintro e w3 ⟨v3, rfl, hb3, o9, rfl, hO9, hc9⟩
        have hr0 : r.2 = 0 := by rw [← HR2.out]
        rw [hr0]
        clear hr0
        obtain ⟨⟨a4, b4, l4, c4, f4, dn4⟩, k4⟩ := r
        simp only at hO9 ⊢
        obtain ⟨a9, c9, rfl⟩ := hO9.len
        obtain ⟨n9, hn9⟩ : ∃ q, l4.length = q := ⟨_, rfl⟩
        rw [hn9] at hO9 hc9 ⊢
        have HN9 := Lib.hid hn9
        clear hn9
        clear q1l q1r q1p q1c0 q1c1 q1c2 q1c3 q1c4 q1c5 q1f0 q1f1 q1f2 q1f3 q1f4 q1f5
        clear q2l q2r q2p q2c0 q2c1 q2c2 q2c3 q2c4
        replace B0 := B0.stays hb3
        replace B6 := B6.stays hb3
        replace B8 := B8.stays hb3
        replace hO := hO.stays hb3
        replace hO6 := hO6.stays hb3
        have bw3 := nx bW hb3
        have j3 := hb3.size
        have jW := aW.size
        have j8 := B8.lt
        obtain ⟨X, hX⟩ : ∃ Q_ : World, w3.alloc (.cells #[.string a4, .string b4, .slice a9 n9 c9, .int .i64 c4, .int .i64 f4, .bool dn4] 28) = Q_ := ⟨_, rfl⟩
        have aX : Below w3.heap.size w3 X := hX ▸ below1 _ _
        have B9 : Bx X (w3.heap.size) #[.string a4, .string b4, .slice a9 n9 c9, .int .i64 c4, .int .i64 f4, .bool dn4] 28 := hX ▸ Bx.at (by first | rfl | omega) _ _
        replace B0 := B0.stays aX
        replace B6 := B6.stays aX
        replace B8 := B8.stays aX
        replace hO := hO.stays aX
        replace hO6 := hO6.stays aX
        replace hO9 := hO9.stays aX
        have bX := nx bw3 aX
        have j9 := B9.lt
        obtain ⟨X2, hX2⟩ : ∃ Q_ : World, X.alloc (.cells #[.string ⟨#[]⟩, .string ⟨#[]⟩, .slice none 0 0, .int .i64 0, .int .i64 0, .bool false] 28) = Q_ := ⟨_, rfl⟩
        have aX2 : Below X.heap.size X X2 := hX2 ▸ below1 _ _
        have B11 : Bx X2 (X.heap.size) #[.string ⟨#[]⟩, .string ⟨#[]⟩, .slice none 0 0, .int .i64 0, .int .i64 0, .bool false] 28 := hX2 ▸ Bx.at (by first | rfl | omega) _ _
        replace B0 := B0.stays aX2
        replace B6 := B6.stays aX2
        replace B8 := B8.stays aX2
        replace B9 := B9.stays aX2
        replace hO := hO.stays aX2
        replace hO6 := hO6.stays aX2
        replace hO9 := hO9.stays aX2
        have bX2 := nx bX aX2
        have j11 := B11.lt
        have HNX : n ≤ X2.heap.size := by omega
        obtain ⟨q3l, q3r, q3p, ⟨q3c0, q3c1, q3c2, q3c3, q3c4⟩⟩ := B8.d5
        obtain ⟨q4l, q4r, q4p, ⟨q4c0, q4c1, q4c2, q4c3, q4c4, q4c5⟩, ⟨q4f0, q4f1, q4f2, q4f3, q4f4, q4f5⟩⟩ := B6.d6
        obtain ⟨q5l, q5r, q5p, ⟨q5c0, q5c1, q5c2, q5c3, q5c4, q5c5⟩, ⟨q5f0, q5f1, q5f2, q5f3, q5f4, q5f5⟩⟩ := B9.d6
        go_wp2_with fail
        with_reducible refine (room2 HR2 (DV.mk hO6 hc6) HNX HLL.out).mono ?_
        rintro e w4 ⟨v4, rfl, hb4, o10, rfl, hO10, hc10⟩
        simp only at hO10 ⊢
        obtain ⟨a10, c10, rfl⟩ := hO10.len
        rw [HN9.out] at hO10 hc10 ⊢
        clear q3l q3r q3p q3c0 q3c1 q3c2 q3c3 q3c4
        clear q4l q4r q4p q4c0 q4c1 q4c2 q4c3 q4c4 q4c5 q4f0 q4f1 q4f2 q4f3 q4f4 q4f5
        clear q5l q5r q5p q5c0 q5c1 q5c2 q5c3 q5c4 q5c5 q5f0 q5f1 q5f2 q5f3 q5f4 q5f5
        replace B0 := B0.stays hb4
        replace B6 := B6.stays hb4
        replace B8 := B8.stays hb4
        replace B9 := B9.stays hb4
        replace B11 := B11.stays hb4
        replace hO := hO.stays hb4
        replace hO6 := hO6.stays hb4
        replace hO9 := hO9.stays hb4
        have bw4 := nx bX2 hb4
        obtain ⟨q6l, q6r, q6p, ⟨q6c0, q6c1, q6c2, q6c3, q6c4, q6c5⟩, ⟨q6f0, q6f1, q6f2, q6f3, q6f4, q6f5⟩⟩ := B11.d6
        obtain ⟨Y, hY⟩ : ∃ Q_ : World, w4.setRow (X.heap.size) #[.string a4, .string b4, .slice a10 n9 c10, .int .i64 c4, .int .i64 f4, .bool dn4] = Q_ := ⟨_, rfl⟩
        have bY : Below w.heap.size w Y := hY ▸ (bw4).trans (low_setRow _ (by omega))
        replace hO : OL n ll (.slice a3 n3 c3) Y := hY ▸ hO.keep (keeps_setRow _ B11 (by decide) (by show n ≤ _; omega))
        replace hO6 : OL n ll (.slice a5 n3 c5) Y := hY ▸ hO6.keep (keeps_setRow _ B11 (by decide) (by show n ≤ _; omega))
        replace hO9 : OL n l4 (.slice a9 n9 c9) Y := hY ▸ hO9.keep (keeps_setRow _ B11 (by decide) (by show n ≤ _; omega))
        replace hO10 : OL n l4 (.slice a10 n9 c10) Y := hY ▸ hO10.keep (keeps_setRow _ B11 (by decide) (by show n ≤ _; omega))
        replace B0 : Bx Y (p) #[.string a, .string b, .slice a3 n3 c3, .int .i64 c, .int .i64 f, .bool dn] 28 := hY ▸ B0.put' (by omega) _
        replace B6 : Bx Y (p6) #[.string a, .string b, .slice a5 n3 c5, .int .i64 c, .int .i64 f, .bool dn] 28 := hY ▸ B6.put' (by omega) _
        replace B8 : Bx Y (wo.heap.size) #[.int .i64 o1, .int .i64 o2, .int .i64 o3, .int .i64 o4, .string o5] 31 := hY ▸ B8.put' (by omega) _
        replace B9 : Bx Y (w3.heap.size) #[.string a4, .string b4, .slice a9 n9 c9, .int .i64 c4, .int .i64 f4, .bool dn4] 28 := hY ▸ B9.put' (by omega) _
        replace B11 : Bx Y (X.heap.size) #[.string a4, .string b4, .slice a10 n9 c10, .int .i64 c4, .int .i64 f4, .bool dn4] 28 := hY ▸ B11.put _
        obtain ⟨q7l, q7r, q7p, ⟨q7c0, q7c1, q7c2, q7c3, q7c4, q7c5⟩, ⟨q7f0, q7f1, q7f2, q7f3, q7f4, q7f5⟩⟩ := B9.d6
        obtain ⟨q8l, q8r, q8p, ⟨q8c0, q8c1, q8c2, q8c3, q8c4, q8c5⟩, ⟨q8f0, q8f1, q8f2, q8f3, q8f4, q8f5⟩⟩ := B11.d6
        go_wp2_with fail
        with_reducible refine (same_yes (n := n) (n' := n) ⟨a4, b4, l4, c4, f4, dn4⟩ _ _ Y (DV.mk hO9 hc9) (DV.mk hO10 hc10) (Nat.le_trans HOKR.out.len (by decide))).mono ?_
        rintro e w5 ⟨rfl, hb5⟩
        clear q6l q6r q6p q6c0 q6c1 q6c2 q6c3 q6c4 q6c5 q6f0 q6f1 q6f2 q6f3 q6f4 q6f5
        clear q7l q7r q7p q7c0 q7c1 q7c2 q7c3 q7c4 q7c5 q7f0 q7f1 q7f2 q7f3 q7f4 q7f5
        clear q8l q8r q8p q8c0 q8c1 q8c2 q8c3 q8c4 q8c5 q8f0 q8f1 q8f2 q8f3 q8f4 q8f5
        replace B0 := B0.stays hb5
        replace B6 := B6.stays hb5
        replace B8 := B8.stays hb5
        replace B9 := B9.stays hb5
        replace B11 := B11.stays hb5
        replace hO := hO.stays hb5
        replace hO6 := hO6.stays hb5
        replace hO9 := hO9.stays hb5
        replace hO10 := hO10.stays hb5
        have bw5 := nx bY hb5
        obtain ⟨q9l, q9r, q9p, ⟨q9c0, q9c1, q9c2, q9c3, q9c4, q9c5⟩, ⟨q9f0, q9f1, q9f2, q9f3, q9f4, q9f5⟩⟩ := B9.d6
        obtain ⟨q10l, q10r, q10p, ⟨q10c0, q10c1, q10c2, q10c3, q10c4, q10c5⟩, ⟨q10f0, q10f1, q10f2, q10f3, q10f4, q10f5⟩⟩ := B11.d6
        obtain ⟨q11l, q11r, q11p, ⟨q11c0, q11c1, q11c2, q11c3, q11c4, q11c5⟩, ⟨q11f0, q11f1, q11f2, q11f3, q11f4, q11f5⟩⟩ := B0.d6
        obtain ⟨Z1, hZ1⟩ : ∃ Q_ : World, w5.setRow (p) #[.string a4, .string b4, .slice a9 n9 c9, .int .i64 c4, .int .i64 f4, .bool dn4] = Q_ := ⟨_, rfl⟩
        have bZ1 : Below w.heap.size w Z1 := hZ1 ▸ (bw5).trans (low_setRow _ (by omega))
        replace hO : OL n ll (.slice a3 n3 c3) Z1 := hZ1 ▸ hO.keep (keeps_setRow _ B0 (by decide) (by show n ≤ _; omega))
        replace hO6 : OL n ll (.slice a5 n3 c5) Z1 := hZ1 ▸ hO6.keep (keeps_setRow _ B0 (by decide) (by show n ≤ _; omega))
        replace hO9 : OL n l4 (.slice a9 n9 c9) Z1 := hZ1 ▸ hO9.keep (keeps_setRow _ B0 (by decide) (by show n ≤ _; omega))
        replace hO10 : OL n l4 (.slice a10 n9 c10) Z1 := hZ1 ▸ hO10.keep (keeps_setRow _ B0 (by decide) (by show n ≤ _; omega))
        replace B6 : Bx Z1 (p6) #[.string a, .string b, .slice a5 n3 c5, .int .i64 c, .int .i64 f, .bool dn] 28 := hZ1 ▸ B6.put' (by omega) _
        replace B8 : Bx Z1 (wo.heap.size) #[.int .i64 o1, .int .i64 o2, .int .i64 o3, .int .i64 o4, .string o5] 31 := hZ1 ▸ B8.put' (by omega) _
        replace B9 : Bx Z1 (w3.heap.size) #[.string a4, .string b4, .slice a9 n9 c9, .int .i64 c4, .int .i64 f4, .bool dn4] 28 := hZ1 ▸ B9.put' (by omega) _
        replace B11 : Bx Z1 (X.heap.size) #[.string a4, .string b4, .slice a10 n9 c10, .int .i64 c4, .int .i64 f4, .bool dn4] 28 := hZ1 ▸ B11.put' (by omega) _
        replace B0 : Bx Z1 (p) #[.string a4, .string b4, .slice a9 n9 c9, .int .i64 c4, .int .i64 f4, .bool dn4] 28 := hZ1 ▸ B0.put _
        obtain ⟨q12l, q12r, q12p, ⟨q12c0, q12c1, q12c2, q12c3, q12c4, q12c5⟩, ⟨q12f0, q12f1, q12f2, q12f3, q12f4, q12f5⟩⟩ := B6.d6
        obtain ⟨q13l, q13r, q13p, ⟨q13c0, q13c1, q13c2, q13c3, q13c4, q13c5⟩, ⟨q13f0, q13f1, q13f2, q13f3, q13f4, q13f5⟩⟩ := B9.d6
        obtain ⟨q14l, q14r, q14p, ⟨q14c0, q14c1, q14c2, q14c3, q14c4, q14c5⟩, ⟨q14f0, q14f1, q14f2, q14f3, q14f4, q14f5⟩⟩ := B11.d6
        obtain ⟨Z2, hZ2⟩ : ∃ Q_ : World, Z1.setRow (p6) #[.string a4, .string b4, .slice a10 n9 c10, .int .i64 c4, .int .i64 f4, .bool dn4] = Q_ := ⟨_, rfl⟩
        have bZ2 : Below w.heap.size w Z2 := hZ2 ▸ (bZ1).trans (low_setRow _ (by omega))
        replace hO : OL n ll (.slice a3 n3 c3) Z2 := hZ2 ▸ hO.keep (keeps_setRow _ B6 (by decide) (by show n ≤ _; omega))
        replace hO6 : OL n ll (.slice a5 n3 c5) Z2 := hZ2 ▸ hO6.keep (keeps_setRow _ B6 (by decide) (by show n ≤ _; omega))
        replace hO9 : OL n l4 (.slice a9 n9 c9) Z2 := hZ2 ▸ hO9.keep (keeps_setRow _ B6 (by decide) (by show n ≤ _; omega))
        replace hO10 : OL n l4 (.slice a10 n9 c10) Z2 := hZ2 ▸ hO10.keep (keeps_setRow _ B6 (by decide) (by show n ≤ _; omega))
        replace B0 : Bx Z2 (p) #[.string a4, .string b4, .slice a9 n9 c9, .int .i64 c4, .int .i64 f4, .bool dn4] 28 := hZ2 ▸ B0.put' (by omega) _
        replace B8 : Bx Z2 (wo.heap.size) #[.int .i64 o1, .int .i64 o2, .int .i64 o3, .int .i64 o4, .string o5] 31 := hZ2 ▸ B8.put' (by omega) _
        replace B9 : Bx Z2 (w3.heap.size) #[.string a4, .string b4, .slice a9 n9 c9, .int .i64 c4, .int .i64 f4, .bool dn4] 28 := hZ2 ▸ B9.put' (by omega) _
        replace B11 : Bx Z2 (X.heap.size) #[.string a4, .string b4, .slice a10 n9 c10, .int .i64 c4, .int .i64 f4, .bool dn4] 28 := hZ2 ▸ B11.put' (by omega) _
        replace B6 : Bx Z2 (p6) #[.string a4, .string b4, .slice a10 n9 c10, .int .i64 c4, .int .i64 f4, .bool dn4] 28 := hZ2 ▸ B6.put _
        obtain ⟨Z, hZ⟩ : ∃ Q_ : World, Z2.drew = Q_ := ⟨_, rfl⟩
        have aZ : Below Z2.heap.size Z2 Z := hZ ▸ (Below.refl _ _).drew
        replace B0 := B0.stays aZ
        replace B6 := B6.stays aZ
        replace B8 := B8.stays aZ
        replace B9 := B9.stays aZ
        replace B11 := B11.stays aZ
        replace hO := hO.stays aZ
        replace hO6 := hO6.stays aZ
        replace hO9 := hO9.stays aZ
        replace hO10 := hO10.stays aZ
        have bZ := nx bZ2 aZ
        have HB5 := Lib.hid B0
        have HB6 := Lib.hid B6
        have HB8 := Lib.hid B8
        have HO5 := Lib.hid (show DV n ⟨a4, b4, l4, c4, f4, dn4⟩ (.agg (cD a4 b4 (.slice a9 n9 c9) c4 f4 dn4)) Z from DV.mk hO9 hc9)
        have HO6 := Lib.hid (show DV n ⟨a4, b4, l4, c4, f4, dn4⟩ (.agg (cD a4 b4 (.slice a10 n9 c10) c4 f4 dn4)) Z from DV.mk hO10 hc10)
        have jZ := bZ.size
        have jnZ : n ≤ Z.heap.size := by omega
        go_wp2
        go_region
        go_wp2
        clear q9l q9r q9p q9c0 q9c1 q9c2 q9c3 q9c4 q9c5 q9f0 q9f1 q9f2 q9f3 q9f4 q9f5
        clear q10l q10r q10p q10c0 q10c1 q10c2 q10c3 q10c4 q10c5 q10f0 q10f1 q10f2 q10f3 q10f4 q10f5
        clear q11l q11r q11p q11c0 q11c1 q11c2 q11c3 q11c4 q11c5 q11f0 q11f1 q11f2 q11f3 q11f4 q11f5
        clear q12l q12r q12p q12c0 q12c1 q12c2 q12c3 q12c4 q12c5 q12f0 q12f1 q12f2 q12f3 q12f4 q12f5
        clear q13l q13r q13p q13c0 q13c1 q13c2 q13c3 q13c4 q13c5 q13f0 q13f1 q13f2 q13f3 q13f4 q13f5
        clear q14l q14r q14p q14c0 q14c1 q14c2 q14c3 q14c4 q14c5 q14f0 q14f1 q14f2 q14f3 q14f4 q14f5
        clear B0 B6 B8 B9 B11 hO hO6 hO9 hO10
        have HC9 := Lib.hid hc9
        have HC10 := Lib.hid hc10
        go_loopw [99] (fun i wx => ∃ j : Nat, j ≤ 3 ∧ i = .int .i64 j ∧ Below Z.heap.size Z wx) (fun i _ => 3 - (intOf i).toNat)
        case atStart => exact ⟨0, by omega, rfl, Below.refl _ _⟩
        case round =>
          obtain ⟨j, hj, rfl, hbz⟩ := hrel
          have jwr := hbz.size
          by_cases hj3 : j < 3
          · have hj4 : (j : Int) < 3 := by omega
            obtain ⟨q1, q2, q3, ⟨q4, q5, q6, q7, q8, q9⟩, _⟩ := (HB5.out.stays hbz).d6
            obtain ⟨p1, p2, p3, p4, p5⟩ := (HB8.out.stays hbz).d5
            go_wp2_with fail
            with_reducible refine (read_any n ⟨a4, b4, l4, c4, f4, dn4⟩ _ _ wr (HO5.out.stays hbz) (by omega) HOKR.out.wt (Nat.le_trans HOKR.out.len (by decide))).mono ?_
            rintro e w6 ⟨rfl, hb6⟩
            have hbz6 := nx hbz hb6
            have j6 := hb6.size
            clear q1 q2 q3 q4 q5 q6 q7 q8 q9 p1 p2 p3 p4 p5
            obtain ⟨q1, q2, q3, ⟨q4, q5, q6, q7, q8, q9⟩, _⟩ := (HB6.out.stays hbz6).d6
            obtain ⟨p1, p2, p3, p4, p5⟩ := (HB8.out.stays hbz6).d5
            go_wp2_with fail
            with_reducible refine (rRead_any n ⟨a4, b4, l4, c4, f4, dn4⟩ _ _ w6 (HO6.out.stays hbz6) (by omega) HOKR.out.wt (Nat.le_trans HOKR.out.len (by decide))).mono ?_
            rintro e w7 ⟨rfl, hb7⟩
            go_wp2
            go_roundw
            case rel => exact ⟨j + 1, by omega, by go_num, nx hbz6 hb7⟩
            case measure => simp [intOf]; omega
          · have HF := Lib.hid (show Dst n p ⟨a4, b4, l4, c4, f4, dn4⟩ wr ∧ Dst n p6 ⟨a4, b4, l4, c4, f4, dn4⟩ wr ∧ Below w.heap.size w wr from ⟨⟨_, HB5.out.stays hbz, (HO5.out.stays hbz).ol, HC9.out⟩, ⟨_, HB6.out.stays hbz, (HO6.out.stays hbz).ol, HC10.out⟩, nx bZ hbz⟩)
            obtain rfl : j = 3 := by omega
            go_wp2
            go_roundw
            case rel => first | exact ⟨k + 1, ⟨a4, b4, l4, c4, f4, dn4⟩, by omega, by go_num, HOK1.out, HF.out⟩ | ((repeat apply Exists.intro); exact ⟨⟨k + 1, ⟨a4, b4, l4, c4, f4, dn4⟩, by omega, by go_num, HOK1.out, HF.out⟩, rfl⟩)
            case measure => simp [intOf]; omega
      · obtain rfl : k = n1 := by omega
        go_wp2_with fail
        refine (awake_any wo).mono ?_
        rintro e w4 ⟨rfl, hb4⟩
        go_wp2
        go_ret
        exact ⟨rfl, nx hb hb4⟩
  · go_enter Try.func3, Try.ntmps3
    go_wp2_with fail
    with_reducible refine (far_is HQ h hlm).mono ?_
    rintro e w1 ⟨rfl, hb1⟩
    go_wp2_with fail
    refine (awake_any w1).mono ?_
    rintro e w2 ⟨rfl, hb2⟩
    go_wp2
    go_ret
    exact ⟨rfl, nx hb1 hb2⟩
end Go.Proofs.Ytegepbifbhamnaa.Dk
