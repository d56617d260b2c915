/- Of the statements of layer 14: DiskRefuses. -/
import Derived.Test.YtegepbifbhamnaaDkS
import Derived.Test.YtegepbifbhamnaaDkT
namespace Go.Proofs.Ytegepbifbhamnaa.Dk
open Go.RowKit
set_option linter.unusedVariables false
open Go.Proofs.Ytegepbifbhamnaa.Rw
open Go.Proofs.Ytegepbifbhamnaa.Da
/-- A disk in the variable p. -/
def Dst (n p : Nat) (d : Ds) (w : World) : Prop := ∃ o, Bx w p #[.string d.a, .string d.b, o, .int .i64 d.c, .int .i64 d.f, .bool d.n] 28 ∧ OL n d.l o w ∧ capOk o
theorem step_is {d : Ds} {k z p q : Int} {x : ByteArray} {r : Ds × Int} (H : Hid (stepP d (k, z, p, q, x) = r)) {n : Nat} {v : Value} {w : World} (h : DV n d v w) (hn : n ≤ w.heap.size) (hk : Ok 1000000 1000 d) (hx : x.size ≤ 1000000) :
    Calls Try.prog 10 #[v, .agg #[.int .i64 k, .int .i64 z, .int .i64 p, .int .i64 q, .string x]] w (Post2 n r w) := by
  rw [← H.out]; exact step_any n d v k z p q x w h hn hk hx
theorem mem_wf {l : List Op5} (h : wfCs l) (k : Nat) (hk : k < l.length) : l[k].2.2.1 ≤ 9223372036854775807 := by
  have h1 := (h.2 _ (List.getElem_mem hk)).2.2.1
  have : IntKind.i64.min ≤ l[k].2.2.1 ∧ l[k].2.2.1 ≤ 9223372036854775807 := by simpa [wfI, Lit.wf] using h1
  exact this.2
set_option maxRecDepth 8000 in
set_option maxHeartbeats 16000000 in
theorem walkRefuses (room : Int) (l : List Op5) (v : Value) (w : World) (h : CL (Bs.of w.heap.size) l v w) (hwf : wfCs l) {P : Prop} (_ : P) :
    Calls Try.prog 5 #[.int .i64 room, v] w fun e w' => e = .returned (.bool true) ∧ Below w.heap.size w w' := by
  have hlm : l.length ≤ maxLen := hwf.1
  obtain ⟨q, hq⟩ : ∃ q, farB l = q := ⟨_, rfl⟩
  have HQ := Lib.hid hq
  have HCL := Lib.hid (show ∀ u, Below w.heap.size w u → CL (Bs.of w.heap.size) l v u from fun u hu => Is.stays eC 31 h hu)
  have HWF := Lib.hid hwf
  cases q
  · have hfn := far_no hq
    obtain ⟨n, hn⟩ : ∃ n, n = w.heap.size := ⟨_, rfl⟩
    have hn0 : n ≤ w.heap.size := by omega
    clear hq hn hwf
    obtain ⟨n1, hn1⟩ : ∃ n, l.length = n := ⟨_, rfl⟩
    obtain ⟨a0, c0, rfl⟩ := h.len
    rw [hn1] at h HCL
    have HN := Lib.hid hn1
    have hl100 : n1 ≤ 100 := by omega
    have hwc : wc l ≤ 40000 := hfn.2
    rw [hn1]
    clear hfn hn1
    go_enter Try.func5, Try.ntmps5
    go_wp2_with fail
    with_reducible refine (far_is HQ (by rw [← HN.out] at h; exact HN.out ▸ h) hlm).mono ?_
    rintro e w1 ⟨rfl, hb1⟩
    go_wp2_with fail
    refine (new_any n room w1 (by have := hb1.size; omega)).mono ?_
    rintro e w2 ⟨v2, rfl, hb2, o2, rfl, hO2, hc2⟩
    obtain ⟨d, hd⟩ : ∃ d, newP room = d := ⟨_, rfl⟩
    have hok : Ok (wc (l.take 0)) 0 d := by rw [← hd]; exact (Ok.newP room).mono (Nat.zero_le _) (Nat.le_refl 0)
    rw [hd] at hO2 ⊢
    have bw2 := nx hb1 hb2
    obtain ⟨p, hp⟩ : ∃ p, p = w2.heap.size := ⟨_, rfl⟩
    have hp0 : w.heap.size ≤ p := by have := bw2.size; omega
    have HD0 : Hid (Dst n p d (w2.alloc (.cells #[.string d.a, .string d.b, o2, .int .i64 d.c, .int .i64 d.f, .bool d.n] 28)) ∧ Below w.heap.size w (w2.alloc (.cells #[.string d.a, .string d.b, o2, .int .i64 d.c, .int .i64 d.f, .bool d.n] 28))) := Lib.hid ⟨⟨o2, Bx.at hp _ _, hO2.stays (below1 _ _), hc2⟩, nx bw2 (below1 _ _)⟩
    have HOK := Lib.hid hok
    have HP := Lib.hid hp
    obtain ⟨a2, c2, ho2⟩ := hO2.len
    obtain ⟨n2, hn2⟩ : ∃ q, d.l.length = q := ⟨_, rfl⟩
    rw [hn2] at ho2
    subst ho2
    clear hok hd hO2 hc2 hp hn2 hb1 hb2
    go_wp2
    rw [← HP.out]
    go_loopw [24] (fun i wr => ∃ (k : Nat) (d : Ds), k ≤ n1 ∧ i = .int .i64 k ∧ Ok (wc (l.take k)) k d ∧ Dst n p d wr ∧ Below w.heap.size w wr) (fun i _ => n1 - (intOf i).toNat)
    case atStart => exact ⟨0, d, Nat.zero_le _, rfl, HOK.out, HD0.out.1, HD0.out.2⟩
    case round =>
      clear HOK HD0 bw2
      obtain ⟨k, d, hk, rfl, hok, ⟨o, B0, hO, hc⟩, hb⟩ := hrel
      by_cases hlt : k < n1
      · have hlt2 : (k : Int) < n1 := by omega
        have hkl : k < l.length := by rw [HN.out]; exact hlt
        have hcl := HCL.out wr hb
        rcases hcl.cases with ⟨e, _⟩ | ⟨_, bb, off, cc, e, hat⟩
        · rw [e] at hkl; cases hkl
        simp only [Value.slice.injEq] at e
        obtain ⟨rfl, -, rfl⟩ := e
        obtain ⟨y0, y1, y2, y3, y4⟩ := atC hat k hkl
        have hwt := wc_take hkl
        have hwl := wc_le l (k + 1)
        have hmw := mem_wf HWF.out k hkl
        obtain ⟨⟨o1, o2, o3, o4, o5⟩, hs⟩ : ∃ s, l[k] = s := ⟨_, rfl⟩
        rw [hs] at y0 y1 y2 y3 y4 hwt hmw
        simp only at y0 y1 y2 y3 y4 hwt hmw
        obtain ⟨r, hr⟩ : ∃ r, stepP d (o1, o2, o3, o4, o5) = r := ⟨_, rfl⟩
        have HR := Lib.hid hr
        have hok1 : Ok (wc (l.take (k + 1))) (k + 1) r.1 := by rw [← hr, hwt]; exact hok.stepP (o1, o2, o3, o4, o5) hmw
        have HOK1 := Lib.hid hok1
        have hokd : Ok 1000000 1000 d := hok.mono (by have := wc_le l k; omega) (by omega)
        have hokr : Ok 1000000 1000 r.1 := hok1.mono (by omega) (by omega)
        have hx5 : o5.size ≤ 1000000 := by omega
        have hE : r.2 ≠ 0 → r.1 = left d r.2 := fun h9 => by rw [← hr] at h9 ⊢; exact step_err h9
        have hZ : (o1 = 0 ∨ o1 = 1) → r.2 = 0 → d.n = false ∧ (o2 = 0 ∨ o2 = 1) ∧ r.1.n = false ∧ readS d (1 - o2) = readS r.1 (1 - o2) ∧ (o1 = 0 → (readS r.1 o2).size ≤ r.1.c) := fun h8 h9 => by rw [← hr] at h9 ⊢; exact step_done h8 h9
        have HE := Lib.hid hE
        have HZ := Lib.hid hZ
        have HOKD := Lib.hid hokd
        have HOKR := Lib.hid hokr
        obtain ⟨a, b, ll, c, f, dn⟩ := d
        simp only at B0 hO
        obtain ⟨a3, c3, rfl⟩ := hO.len
        obtain ⟨n3, hn3⟩ : ∃ q, ll.length = q := ⟨_, rfl⟩
        rw [hn3] at B0 hO hc
        have hpl := B0.lt
        clear hcl hat hs hwt hwl hmw hr hok1 hokd hokr hE hZ hn3 hok
        obtain ⟨W, hW⟩ : ∃ Q_ : World, wr.alloc (.cells #[.int .i64 o1, .int .i64 o2, .int .i64 o3, .int .i64 o4, .string o5] 31) = Q_ := ⟨_, rfl⟩
        have aW : Below wr.heap.size wr W := hW ▸ below1 _ _
        have B1 : Bx W (wr.heap.size) #[.int .i64 o1, .int .i64 o2, .int .i64 o3, .int .i64 o4, .string o5] 31 := hW ▸ Bx.at (by first | rfl | omega) _ _
        replace B0 := B0.stays aW
        replace hO := hO.stays aW
        have bW := nx hb aW
        obtain ⟨q1l, q1r, q1p, ⟨q1c0, q1c1, q1c2, q1c3, q1c4, q1c5⟩, ⟨q1f0, q1f1, q1f2, q1f3, q1f4, q1f5⟩⟩ := B0.d6
        obtain ⟨q2l, q2r, q2p, ⟨q2c0, q2c1, q2c2, q2c3, q2c4⟩⟩ := B1.d5
        have hwr := hb.size
        have hnW : n ≤ W.heap.size := by have := aW.size; omega
        go_wp2_with fail
        with_reducible refine (step_is HR (DV.mk hO hc) hnW HOKD.out hx5).mono ?_
        rintro e w3 ⟨v3, rfl, hb3, o9, rfl, hO9, hc9⟩
        obtain ⟨⟨a4, b4, l4, c4, f4, dn4⟩, k4⟩ := r
        simp only at hO9 ⊢
        obtain ⟨a9, c9, rfl⟩ := hO9.len
        obtain ⟨n9, hn9⟩ : ∃ q, l4.length = q := ⟨_, rfl⟩
        rw [hn9] at hO9 hc9 ⊢
        clear hn9
        clear q1l q1r q1p q1c0 q1c1 q1c2 q1c3 q1c4 q1c5 q1f0 q1f1 q1f2 q1f3 q1f4 q1f5
        clear q2l q2r q2p q2c0 q2c1 q2c2 q2c3 q2c4
        replace B0 := B0.stays hb3
        replace B1 := B1.stays hb3
        replace hO := hO.stays hb3
        have bw3 := nx bW hb3
        obtain ⟨X, hX⟩ : ∃ Q_ : World, w3.alloc (.cells #[.string a4, .string b4, .slice a9 n9 c9, .int .i64 c4, .int .i64 f4, .bool dn4] 28) = Q_ := ⟨_, rfl⟩
        have aX : Below w3.heap.size w3 X := hX ▸ below1 _ _
        have B8 : Bx X (w3.heap.size) #[.string a4, .string b4, .slice a9 n9 c9, .int .i64 c4, .int .i64 f4, .bool dn4] 28 := hX ▸ Bx.at (by first | rfl | omega) _ _
        replace B0 := B0.stays aX
        replace B1 := B1.stays aX
        replace hO := hO.stays aX
        replace hO9 := hO9.stays aX
        have bX := nx bw3 aX
        have hw3 := bw3.size
        have hpw3 : p < w3.heap.size := by have := aW.size; have := hb3.size; omega
        have hwrX : wr.heap.size < X.heap.size := B1.lt
        by_cases h4 : k4 = 0
        · subst h4
          by_cases h1 : o1 = 0 ∨ o1 = 1
          · obtain ⟨z1, z2, z3, z4, z5⟩ := HZ.out h1 rfl
            simp only at z1 z3 z5
            subst z1 z3
            obtain ⟨s1, hs1⟩ : ∃ q, readS ⟨a, b, ll, c, f, false⟩ (1 - o2) = q := ⟨_, rfl⟩
            obtain ⟨s2, hs2⟩ : ∃ q, readS ⟨a4, b4, l4, c4, f4, false⟩ o2 = q := ⟨_, rfl⟩
            rw [hs1] at z4
            rw [hs2] at z5
            have HS1 := Lib.hid hs1
            have HS2 := Lib.hid z4.symm
            have HS3 := Lib.hid hs2
            have h21 : (1 - o2) = 0 ∨ (1 - o2) = 1 := by omega
            have HE1 := Lib.hid (readS_up (d := ⟨a, b, ll, c, f, false⟩) rfl h21).2
            have HE2 := Lib.hid (readS_up (d := ⟨a4, b4, l4, c4, f4, false⟩) rfl h21).2
            have HE3 := Lib.hid (readS_up (d := ⟨a4, b4, l4, c4, f4, false⟩) rfl z2).2
            clear h21 hs1 hs2 z4
            rcases h1 with rfl | rfl <;> rcases z2 with rfl | rfl
            · obtain ⟨q3l, q3r, q3p, ⟨q3c0, q3c1, q3c2, q3c3, q3c4, q3c5⟩, ⟨q3f0, q3f1, q3f2, q3f3, q3f4, q3f5⟩⟩ := B0.d6
              obtain ⟨q4l, q4r, q4p, ⟨q4c0, q4c1, q4c2, q4c3, q4c4⟩⟩ := B1.d5
              obtain ⟨q5l, q5r, q5p, ⟨q5c0, q5c1, q5c2, q5c3, q5c4, q5c5⟩, ⟨q5f0, q5f1, q5f2, q5f3, q5f4, q5f5⟩⟩ := B8.d6
              have hnX : n ≤ X.heap.size := by have := aX.size; omega
              have HS1 : Hid (readS ⟨a, b, ll, c, f, false⟩ 1 = s1) := Lib.hid (by simpa using HS1.out)
              have HS2 : Hid (readS ⟨a4, b4, l4, c4, f4, false⟩ 1 = s1) := Lib.hid (by simpa using HS2.out)
              have HE1 : Hid (readE ⟨a, b, ll, c, f, false⟩ 1 = 0) := Lib.hid (by simpa using HE1.out)
              have HE2 : Hid (readE ⟨a4, b4, l4, c4, f4, false⟩ 1 = 0) := Lib.hid (by simpa using HE2.out)
              have z6 := z5 rfl
              have z7 : decide ((c4 : Int) < s2.size) = false := decide_eq_false (by omega)
              clear z5
              go_wp2_with fail
              with_reducible refine (read_is HS1 HE1 (DV.mk hO hc) hnX HOKD.out.wt (Nat.le_trans HOKD.out.len (by decide))).mono ?_
              rintro e w4 ⟨rfl, hb4⟩
              clear q3l q3r q3p q3c0 q3c1 q3c2 q3c3 q3c4 q3c5 q3f0 q3f1 q3f2 q3f3 q3f4 q3f5
              clear q4l q4r q4p q4c0 q4c1 q4c2 q4c3 q4c4
              clear q5l q5r q5p q5c0 q5c1 q5c2 q5c3 q5c4 q5c5 q5f0 q5f1 q5f2 q5f3 q5f4 q5f5
              replace B0 := B0.stays hb4
              replace B1 := B1.stays hb4
              replace B8 := B8.stays hb4
              replace hO := hO.stays hb4
              replace hO9 := hO9.stays hb4
              have bw4 := nx bX hb4
              obtain ⟨q6l, q6r, q6p, ⟨q6c0, q6c1, q6c2, q6c3, q6c4, q6c5⟩, ⟨q6f0, q6f1, q6f2, q6f3, q6f4, q6f5⟩⟩ := B0.d6
              obtain ⟨q7l, q7r, q7p, ⟨q7c0, q7c1, q7c2, q7c3, q7c4⟩⟩ := B1.d5
              obtain ⟨q8l, q8r, q8p, ⟨q8c0, q8c1, q8c2, q8c3, q8c4, q8c5⟩, ⟨q8f0, q8f1, q8f2, q8f3, q8f4, q8f5⟩⟩ := B8.d6
              go_wp2_with fail
              with_reducible refine (read_is HS2 HE2 (DV.mk hO9 hc9) (by have := hb4.size; omega) HOKR.out.wt (Nat.le_trans HOKR.out.len (by decide))).mono ?_
              rintro e w5 ⟨rfl, hb5⟩
              clear q6l q6r q6p q6c0 q6c1 q6c2 q6c3 q6c4 q6c5 q6f0 q6f1 q6f2 q6f3 q6f4 q6f5
              clear q7l q7r q7p q7c0 q7c1 q7c2 q7c3 q7c4
              clear q8l q8r q8p q8c0 q8c1 q8c2 q8c3 q8c4 q8c5 q8f0 q8f1 q8f2 q8f3 q8f4 q8f5
              replace B0 := B0.stays hb5
              replace B1 := B1.stays hb5
              replace B8 := B8.stays hb5
              replace hO := hO.stays hb5
              replace hO9 := hO9.stays hb5
              have bw5 := nx bw4 hb5
              obtain ⟨q9l, q9r, q9p, ⟨q9c0, q9c1, q9c2, q9c3, q9c4, q9c5⟩, ⟨q9f0, q9f1, q9f2, q9f3, q9f4, q9f5⟩⟩ := B0.d6
              obtain ⟨q10l, q10r, q10p, ⟨q10c0, q10c1, q10c2, q10c3, q10c4⟩⟩ := B1.d5
              obtain ⟨q11l, q11r, q11p, ⟨q11c0, q11c1, q11c2, q11c3, q11c4, q11c5⟩, ⟨q11f0, q11f1, q11f2, q11f3, q11f4, q11f5⟩⟩ := B8.d6
              go_wp2_with fail
              with_reducible refine (read_is HS3 HE3 (DV.mk hO9 hc9) (by have := hb4.size; have := hb5.size; omega) HOKR.out.wt (Nat.le_trans HOKR.out.len (by decide))).mono ?_
              rintro e w6 ⟨rfl, hb6⟩
              clear q9l q9r q9p q9c0 q9c1 q9c2 q9c3 q9c4 q9c5 q9f0 q9f1 q9f2 q9f3 q9f4 q9f5
              clear q10l q10r q10p q10c0 q10c1 q10c2 q10c3 q10c4
              clear q11l q11r q11p q11c0 q11c1 q11c2 q11c3 q11c4 q11c5 q11f0 q11f1 q11f2 q11f3 q11f4 q11f5
              replace B0 := B0.stays hb6
              replace B1 := B1.stays hb6
              replace B8 := B8.stays hb6
              replace hO := hO.stays hb6
              replace hO9 := hO9.stays hb6
              have bw6 := nx bw5 hb6
              obtain ⟨q12l, q12r, q12p, ⟨q12c0, q12c1, q12c2, q12c3, q12c4⟩⟩ := B1.d5
              obtain ⟨q13l, q13r, q13p, ⟨q13c0, q13c1, q13c2, q13c3, q13c4, q13c5⟩, ⟨q13f0, q13f1, q13f2, q13f3, q13f4, q13f5⟩⟩ := B8.d6
              obtain ⟨q14l, q14r, q14p, ⟨q14c0, q14c1, q14c2, q14c3, q14c4, q14c5⟩, ⟨q14f0, q14f1, q14f2, q14f3, q14f4, q14f5⟩⟩ := B0.d6
              obtain ⟨Z, hZ⟩ : ∃ Q_ : World, w6.setRow (p) #[.string a4, .string b4, .slice a9 n9 c9, .int .i64 c4, .int .i64 f4, .bool false] = Q_ := ⟨_, rfl⟩
              have bZ : Below w.heap.size w Z := hZ ▸ (bw6).trans (low_setRow _ (by omega))
              replace hO : OL n ll (.slice a3 n3 c3) Z := hZ ▸ hO.keep (keeps_setRow _ B0 (by decide) (by show n ≤ _; omega))
              replace hO9 : OL n l4 (.slice a9 n9 c9) Z := hZ ▸ hO9.keep (keeps_setRow _ B0 (by decide) (by show n ≤ _; omega))
              replace B1 : Bx Z (wr.heap.size) #[.int .i64 0, .int .i64 0, .int .i64 o3, .int .i64 o4, .string o5] 31 := hZ ▸ B1.put' (by omega) _
              replace B8 : Bx Z (w3.heap.size) #[.string a4, .string b4, .slice a9 n9 c9, .int .i64 c4, .int .i64 f4, .bool false] 28 := hZ ▸ B8.put' (by omega) _
              replace B0 : Bx Z (p) #[.string a4, .string b4, .slice a9 n9 c9, .int .i64 c4, .int .i64 f4, .bool false] 28 := hZ ▸ B0.put _
              have HB := Lib.hid (show Dst n p ⟨a4, b4, l4, c4, f4, false⟩ Z from ⟨_, B0, hO9, hc9⟩)
              go_wp2
              all_goals
                go_roundw
                case rel => exact ⟨k + 1, ⟨a4, b4, l4, c4, f4, false⟩, by omega, by go_num, HOK1.out, HB.out, bZ⟩
                case measure => simp [intOf]; omega
            · obtain ⟨q3l, q3r, q3p, ⟨q3c0, q3c1, q3c2, q3c3, q3c4, q3c5⟩, ⟨q3f0, q3f1, q3f2, q3f3, q3f4, q3f5⟩⟩ := B0.d6
              obtain ⟨q4l, q4r, q4p, ⟨q4c0, q4c1, q4c2, q4c3, q4c4⟩⟩ := B1.d5
              obtain ⟨q5l, q5r, q5p, ⟨q5c0, q5c1, q5c2, q5c3, q5c4, q5c5⟩, ⟨q5f0, q5f1, q5f2, q5f3, q5f4, q5f5⟩⟩ := B8.d6
              have hnX : n ≤ X.heap.size := by have := aX.size; omega
              have HS1 : Hid (readS ⟨a, b, ll, c, f, false⟩ 0 = s1) := Lib.hid (by simpa using HS1.out)
              have HS2 : Hid (readS ⟨a4, b4, l4, c4, f4, false⟩ 0 = s1) := Lib.hid (by simpa using HS2.out)
              have HE1 : Hid (readE ⟨a, b, ll, c, f, false⟩ 0 = 0) := Lib.hid (by simpa using HE1.out)
              have HE2 : Hid (readE ⟨a4, b4, l4, c4, f4, false⟩ 0 = 0) := Lib.hid (by simpa using HE2.out)
              have z6 := z5 rfl
              have z7 : decide ((c4 : Int) < s2.size) = false := decide_eq_false (by omega)
              clear z5
              go_wp2_with fail
              with_reducible refine (read_is HS1 HE1 (DV.mk hO hc) hnX HOKD.out.wt (Nat.le_trans HOKD.out.len (by decide))).mono ?_
              rintro e w4 ⟨rfl, hb4⟩
              clear q3l q3r q3p q3c0 q3c1 q3c2 q3c3 q3c4 q3c5 q3f0 q3f1 q3f2 q3f3 q3f4 q3f5
              clear q4l q4r q4p q4c0 q4c1 q4c2 q4c3 q4c4
              clear q5l q5r q5p q5c0 q5c1 q5c2 q5c3 q5c4 q5c5 q5f0 q5f1 q5f2 q5f3 q5f4 q5f5
              replace B0 := B0.stays hb4
              replace B1 := B1.stays hb4
              replace B8 := B8.stays hb4
              replace hO := hO.stays hb4
              replace hO9 := hO9.stays hb4
              have bw4 := nx bX hb4
              obtain ⟨q6l, q6r, q6p, ⟨q6c0, q6c1, q6c2, q6c3, q6c4, q6c5⟩, ⟨q6f0, q6f1, q6f2, q6f3, q6f4, q6f5⟩⟩ := B0.d6
              obtain ⟨q7l, q7r, q7p, ⟨q7c0, q7c1, q7c2, q7c3, q7c4⟩⟩ := B1.d5
              obtain ⟨q8l, q8r, q8p, ⟨q8c0, q8c1, q8c2, q8c3, q8c4, q8c5⟩, ⟨q8f0, q8f1, q8f2, q8f3, q8f4, q8f5⟩⟩ := B8.d6
              go_wp2_with fail
              with_reducible refine (read_is HS2 HE2 (DV.mk hO9 hc9) (by have := hb4.size; omega) HOKR.out.wt (Nat.le_trans HOKR.out.len (by decide))).mono ?_
              rintro e w5 ⟨rfl, hb5⟩
              clear q6l q6r q6p q6c0 q6c1 q6c2 q6c3 q6c4 q6c5 q6f0 q6f1 q6f2 q6f3 q6f4 q6f5
              clear q7l q7r q7p q7c0 q7c1 q7c2 q7c3 q7c4
              clear q8l q8r q8p q8c0 q8c1 q8c2 q8c3 q8c4 q8c5 q8f0 q8f1 q8f2 q8f3 q8f4 q8f5
              replace B0 := B0.stays hb5
              replace B1 := B1.stays hb5
              replace B8 := B8.stays hb5
              replace hO := hO.stays hb5
              replace hO9 := hO9.stays hb5
              have bw5 := nx bw4 hb5
              obtain ⟨q9l, q9r, q9p, ⟨q9c0, q9c1, q9c2, q9c3, q9c4, q9c5⟩, ⟨q9f0, q9f1, q9f2, q9f3, q9f4, q9f5⟩⟩ := B0.d6
              obtain ⟨q10l, q10r, q10p, ⟨q10c0, q10c1, q10c2, q10c3, q10c4⟩⟩ := B1.d5
              obtain ⟨q11l, q11r, q11p, ⟨q11c0, q11c1, q11c2, q11c3, q11c4, q11c5⟩, ⟨q11f0, q11f1, q11f2, q11f3, q11f4, q11f5⟩⟩ := B8.d6
              go_wp2_with fail
              with_reducible refine (read_is HS3 HE3 (DV.mk hO9 hc9) (by have := hb4.size; have := hb5.size; omega) HOKR.out.wt (Nat.le_trans HOKR.out.len (by decide))).mono ?_
              rintro e w6 ⟨rfl, hb6⟩
              clear q9l q9r q9p q9c0 q9c1 q9c2 q9c3 q9c4 q9c5 q9f0 q9f1 q9f2 q9f3 q9f4 q9f5
              clear q10l q10r q10p q10c0 q10c1 q10c2 q10c3 q10c4
              clear q11l q11r q11p q11c0 q11c1 q11c2 q11c3 q11c4 q11c5 q11f0 q11f1 q11f2 q11f3 q11f4 q11f5
              replace B0 := B0.stays hb6
              replace B1 := B1.stays hb6
              replace B8 := B8.stays hb6
              replace hO := hO.stays hb6
              replace hO9 := hO9.stays hb6
              have bw6 := nx bw5 hb6
              obtain ⟨q12l, q12r, q12p, ⟨q12c0, q12c1, q12c2, q12c3, q12c4⟩⟩ := B1.d5
              obtain ⟨q13l, q13r, q13p, ⟨q13c0, q13c1, q13c2, q13c3, q13c4, q13c5⟩, ⟨q13f0, q13f1, q13f2, q13f3, q13f4, q13f5⟩⟩ := B8.d6
              obtain ⟨q14l, q14r, q14p, ⟨q14c0, q14c1, q14c2, q14c3, q14c4, q14c5⟩, ⟨q14f0, q14f1, q14f2, q14f3, q14f4, q14f5⟩⟩ := B0.d6
              obtain ⟨Z, hZ⟩ : ∃ Q_ : World, w6.setRow (p) #[.string a4, .string b4, .slice a9 n9 c9, .int .i64 c4, .int .i64 f4, .bool false] = Q_ := ⟨_, rfl⟩
              have bZ : Below w.heap.size w Z := hZ ▸ (bw6).trans (low_setRow _ (by omega))
              replace hO : OL n ll (.slice a3 n3 c3) Z := hZ ▸ hO.keep (keeps_setRow _ B0 (by decide) (by show n ≤ _; omega))
              replace hO9 : OL n l4 (.slice a9 n9 c9) Z := hZ ▸ hO9.keep (keeps_setRow _ B0 (by decide) (by show n ≤ _; omega))
              replace B1 : Bx Z (wr.heap.size) #[.int .i64 0, .int .i64 1, .int .i64 o3, .int .i64 o4, .string o5] 31 := hZ ▸ B1.put' (by omega) _
              replace B8 : Bx Z (w3.heap.size) #[.string a4, .string b4, .slice a9 n9 c9, .int .i64 c4, .int .i64 f4, .bool false] 28 := hZ ▸ B8.put' (by omega) _
              replace B0 : Bx Z (p) #[.string a4, .string b4, .slice a9 n9 c9, .int .i64 c4, .int .i64 f4, .bool false] 28 := hZ ▸ B0.put _
              have HB := Lib.hid (show Dst n p ⟨a4, b4, l4, c4, f4, false⟩ Z from ⟨_, B0, hO9, hc9⟩)
              go_wp2
              all_goals
                go_roundw
                case rel => exact ⟨k + 1, ⟨a4, b4, l4, c4, f4, false⟩, by omega, by go_num, HOK1.out, HB.out, bZ⟩
                case measure => simp [intOf]; omega
            · obtain ⟨q3l, q3r, q3p, ⟨q3c0, q3c1, q3c2, q3c3, q3c4, q3c5⟩, ⟨q3f0, q3f1, q3f2, q3f3, q3f4, q3f5⟩⟩ := B0.d6
              obtain ⟨q4l, q4r, q4p, ⟨q4c0, q4c1, q4c2, q4c3, q4c4⟩⟩ := B1.d5
              obtain ⟨q5l, q5r, q5p, ⟨q5c0, q5c1, q5c2, q5c3, q5c4, q5c5⟩, ⟨q5f0, q5f1, q5f2, q5f3, q5f4, q5f5⟩⟩ := B8.d6
              have hnX : n ≤ X.heap.size := by have := aX.size; omega
              have HS1 : Hid (readS ⟨a, b, ll, c, f, false⟩ 1 = s1) := Lib.hid (by simpa using HS1.out)
              have HS2 : Hid (readS ⟨a4, b4, l4, c4, f4, false⟩ 1 = s1) := Lib.hid (by simpa using HS2.out)
              have HE1 : Hid (readE ⟨a, b, ll, c, f, false⟩ 1 = 0) := Lib.hid (by simpa using HE1.out)
              have HE2 : Hid (readE ⟨a4, b4, l4, c4, f4, false⟩ 1 = 0) := Lib.hid (by simpa using HE2.out)
              clear z5
              go_wp2_with fail
              with_reducible refine (read_is HS1 HE1 (DV.mk hO hc) hnX HOKD.out.wt (Nat.le_trans HOKD.out.len (by decide))).mono ?_
              rintro e w4 ⟨rfl, hb4⟩
              clear q3l q3r q3p q3c0 q3c1 q3c2 q3c3 q3c4 q3c5 q3f0 q3f1 q3f2 q3f3 q3f4 q3f5
              clear q4l q4r q4p q4c0 q4c1 q4c2 q4c3 q4c4
              clear q5l q5r q5p q5c0 q5c1 q5c2 q5c3 q5c4 q5c5 q5f0 q5f1 q5f2 q5f3 q5f4 q5f5
              replace B0 := B0.stays hb4
              replace B1 := B1.stays hb4
              replace B8 := B8.stays hb4
              replace hO := hO.stays hb4
              replace hO9 := hO9.stays hb4
              have bw4 := nx bX hb4
              obtain ⟨q6l, q6r, q6p, ⟨q6c0, q6c1, q6c2, q6c3, q6c4, q6c5⟩, ⟨q6f0, q6f1, q6f2, q6f3, q6f4, q6f5⟩⟩ := B0.d6
              obtain ⟨q7l, q7r, q7p, ⟨q7c0, q7c1, q7c2, q7c3, q7c4⟩⟩ := B1.d5
              obtain ⟨q8l, q8r, q8p, ⟨q8c0, q8c1, q8c2, q8c3, q8c4, q8c5⟩, ⟨q8f0, q8f1, q8f2, q8f3, q8f4, q8f5⟩⟩ := B8.d6
              go_wp2_with fail
              with_reducible refine (read_is HS2 HE2 (DV.mk hO9 hc9) (by have := hb4.size; omega) HOKR.out.wt (Nat.le_trans HOKR.out.len (by decide))).mono ?_
              rintro e w5 ⟨rfl, hb5⟩
              clear q6l q6r q6p q6c0 q6c1 q6c2 q6c3 q6c4 q6c5 q6f0 q6f1 q6f2 q6f3 q6f4 q6f5
              clear q7l q7r q7p q7c0 q7c1 q7c2 q7c3 q7c4
              clear q8l q8r q8p q8c0 q8c1 q8c2 q8c3 q8c4 q8c5 q8f0 q8f1 q8f2 q8f3 q8f4 q8f5
              replace B0 := B0.stays hb5
              replace B1 := B1.stays hb5
              replace B8 := B8.stays hb5
              replace hO := hO.stays hb5
              replace hO9 := hO9.stays hb5
              have bw5 := nx bw4 hb5
              obtain ⟨q9l, q9r, q9p, ⟨q9c0, q9c1, q9c2, q9c3, q9c4, q9c5⟩, ⟨q9f0, q9f1, q9f2, q9f3, q9f4, q9f5⟩⟩ := B0.d6
              obtain ⟨q10l, q10r, q10p, ⟨q10c0, q10c1, q10c2, q10c3, q10c4⟩⟩ := B1.d5
              obtain ⟨q11l, q11r, q11p, ⟨q11c0, q11c1, q11c2, q11c3, q11c4, q11c5⟩, ⟨q11f0, q11f1, q11f2, q11f3, q11f4, q11f5⟩⟩ := B8.d6
              go_wp2_with fail
              with_reducible refine (read_is HS3 HE3 (DV.mk hO9 hc9) (by have := hb4.size; have := hb5.size; omega) HOKR.out.wt (Nat.le_trans HOKR.out.len (by decide))).mono ?_
              rintro e w6 ⟨rfl, hb6⟩
              clear q9l q9r q9p q9c0 q9c1 q9c2 q9c3 q9c4 q9c5 q9f0 q9f1 q9f2 q9f3 q9f4 q9f5
              clear q10l q10r q10p q10c0 q10c1 q10c2 q10c3 q10c4
              clear q11l q11r q11p q11c0 q11c1 q11c2 q11c3 q11c4 q11c5 q11f0 q11f1 q11f2 q11f3 q11f4 q11f5
              replace B0 := B0.stays hb6
              replace B1 := B1.stays hb6
              replace B8 := B8.stays hb6
              replace hO := hO.stays hb6
              replace hO9 := hO9.stays hb6
              have bw6 := nx bw5 hb6
              obtain ⟨q12l, q12r, q12p, ⟨q12c0, q12c1, q12c2, q12c3, q12c4⟩⟩ := B1.d5
              obtain ⟨q13l, q13r, q13p, ⟨q13c0, q13c1, q13c2, q13c3, q13c4, q13c5⟩, ⟨q13f0, q13f1, q13f2, q13f3, q13f4, q13f5⟩⟩ := B8.d6
              obtain ⟨q14l, q14r, q14p, ⟨q14c0, q14c1, q14c2, q14c3, q14c4, q14c5⟩, ⟨q14f0, q14f1, q14f2, q14f3, q14f4, q14f5⟩⟩ := B0.d6
              obtain ⟨Z, hZ⟩ : ∃ Q_ : World, w6.setRow (p) #[.string a4, .string b4, .slice a9 n9 c9, .int .i64 c4, .int .i64 f4, .bool false] = Q_ := ⟨_, rfl⟩
              have bZ : Below w.heap.size w Z := hZ ▸ (bw6).trans (low_setRow _ (by omega))
              replace hO : OL n ll (.slice a3 n3 c3) Z := hZ ▸ hO.keep (keeps_setRow _ B0 (by decide) (by show n ≤ _; omega))
              replace hO9 : OL n l4 (.slice a9 n9 c9) Z := hZ ▸ hO9.keep (keeps_setRow _ B0 (by decide) (by show n ≤ _; omega))
              replace B1 : Bx Z (wr.heap.size) #[.int .i64 1, .int .i64 0, .int .i64 o3, .int .i64 o4, .string o5] 31 := hZ ▸ B1.put' (by omega) _
              replace B8 : Bx Z (w3.heap.size) #[.string a4, .string b4, .slice a9 n9 c9, .int .i64 c4, .int .i64 f4, .bool false] 28 := hZ ▸ B8.put' (by omega) _
              replace B0 : Bx Z (p) #[.string a4, .string b4, .slice a9 n9 c9, .int .i64 c4, .int .i64 f4, .bool false] 28 := hZ ▸ B0.put _
              have HB := Lib.hid (show Dst n p ⟨a4, b4, l4, c4, f4, false⟩ Z from ⟨_, B0, hO9, hc9⟩)
              go_wp2
              all_goals
                go_roundw
                case rel => exact ⟨k + 1, ⟨a4, b4, l4, c4, f4, false⟩, by omega, by go_num, HOK1.out, HB.out, bZ⟩
                case measure => simp [intOf]; omega
            · obtain ⟨q3l, q3r, q3p, ⟨q3c0, q3c1, q3c2, q3c3, q3c4, q3c5⟩, ⟨q3f0, q3f1, q3f2, q3f3, q3f4, q3f5⟩⟩ := B0.d6
              obtain ⟨q4l, q4r, q4p, ⟨q4c0, q4c1, q4c2, q4c3, q4c4⟩⟩ := B1.d5
              obtain ⟨q5l, q5r, q5p, ⟨q5c0, q5c1, q5c2, q5c3, q5c4, q5c5⟩, ⟨q5f0, q5f1, q5f2, q5f3, q5f4, q5f5⟩⟩ := B8.d6
              have hnX : n ≤ X.heap.size := by have := aX.size; omega
              have HS1 : Hid (readS ⟨a, b, ll, c, f, false⟩ 0 = s1) := Lib.hid (by simpa using HS1.out)
              have HS2 : Hid (readS ⟨a4, b4, l4, c4, f4, false⟩ 0 = s1) := Lib.hid (by simpa using HS2.out)
              have HE1 : Hid (readE ⟨a, b, ll, c, f, false⟩ 0 = 0) := Lib.hid (by simpa using HE1.out)
              have HE2 : Hid (readE ⟨a4, b4, l4, c4, f4, false⟩ 0 = 0) := Lib.hid (by simpa using HE2.out)
              clear z5
              go_wp2_with fail
              with_reducible refine (read_is HS1 HE1 (DV.mk hO hc) hnX HOKD.out.wt (Nat.le_trans HOKD.out.len (by decide))).mono ?_
              rintro e w4 ⟨rfl, hb4⟩
              clear q3l q3r q3p q3c0 q3c1 q3c2 q3c3 q3c4 q3c5 q3f0 q3f1 q3f2 q3f3 q3f4 q3f5
              clear q4l q4r q4p q4c0 q4c1 q4c2 q4c3 q4c4
              clear q5l q5r q5p q5c0 q5c1 q5c2 q5c3 q5c4 q5c5 q5f0 q5f1 q5f2 q5f3 q5f4 q5f5
              replace B0 := B0.stays hb4
              replace B1 := B1.stays hb4
              replace B8 := B8.stays hb4
              replace hO := hO.stays hb4
              replace hO9 := hO9.stays hb4
              have bw4 := nx bX hb4
              obtain ⟨q6l, q6r, q6p, ⟨q6c0, q6c1, q6c2, q6c3, q6c4, q6c5⟩, ⟨q6f0, q6f1, q6f2, q6f3, q6f4, q6f5⟩⟩ := B0.d6
              obtain ⟨q7l, q7r, q7p, ⟨q7c0, q7c1, q7c2, q7c3, q7c4⟩⟩ := B1.d5
              obtain ⟨q8l, q8r, q8p, ⟨q8c0, q8c1, q8c2, q8c3, q8c4, q8c5⟩, ⟨q8f0, q8f1, q8f2, q8f3, q8f4, q8f5⟩⟩ := B8.d6
              go_wp2_with fail
              with_reducible refine (read_is HS2 HE2 (DV.mk hO9 hc9) (by have := hb4.size; omega) HOKR.out.wt (Nat.le_trans HOKR.out.len (by decide))).mono ?_
              rintro e w5 ⟨rfl, hb5⟩
              clear q6l q6r q6p q6c0 q6c1 q6c2 q6c3 q6c4 q6c5 q6f0 q6f1 q6f2 q6f3 q6f4 q6f5
              clear q7l q7r q7p q7c0 q7c1 q7c2 q7c3 q7c4
              clear q8l q8r q8p q8c0 q8c1 q8c2 q8c3 q8c4 q8c5 q8f0 q8f1 q8f2 q8f3 q8f4 q8f5
              replace B0 := B0.stays hb5
              replace B1 := B1.stays hb5
              replace B8 := B8.stays hb5
              replace hO := hO.stays hb5
              replace hO9 := hO9.stays hb5
              have bw5 := nx bw4 hb5
              obtain ⟨q9l, q9r, q9p, ⟨q9c0, q9c1, q9c2, q9c3, q9c4, q9c5⟩, ⟨q9f0, q9f1, q9f2, q9f3, q9f4, q9f5⟩⟩ := B0.d6
              obtain ⟨q10l, q10r, q10p, ⟨q10c0, q10c1, q10c2, q10c3, q10c4⟩⟩ := B1.d5
              obtain ⟨q11l, q11r, q11p, ⟨q11c0, q11c1, q11c2, q11c3, q11c4, q11c5⟩, ⟨q11f0, q11f1, q11f2, q11f3, q11f4, q11f5⟩⟩ := B8.d6
              go_wp2_with fail
              with_reducible refine (read_is HS3 HE3 (DV.mk hO9 hc9) (by have := hb4.size; have := hb5.size; omega) HOKR.out.wt (Nat.le_trans HOKR.out.len (by decide))).mono ?_
              rintro e w6 ⟨rfl, hb6⟩
              clear q9l q9r q9p q9c0 q9c1 q9c2 q9c3 q9c4 q9c5 q9f0 q9f1 q9f2 q9f3 q9f4 q9f5
              clear q10l q10r q10p q10c0 q10c1 q10c2 q10c3 q10c4
              clear q11l q11r q11p q11c0 q11c1 q11c2 q11c3 q11c4 q11c5 q11f0 q11f1 q11f2 q11f3 q11f4 q11f5
              replace B0 := B0.stays hb6
              replace B1 := B1.stays hb6
              replace B8 := B8.stays hb6
              replace hO := hO.stays hb6
              replace hO9 := hO9.stays hb6
              have bw6 := nx bw5 hb6
              obtain ⟨q12l, q12r, q12p, ⟨q12c0, q12c1, q12c2, q12c3, q12c4⟩⟩ := B1.d5
              obtain ⟨q13l, q13r, q13p, ⟨q13c0, q13c1, q13c2, q13c3, q13c4, q13c5⟩, ⟨q13f0, q13f1, q13f2, q13f3, q13f4, q13f5⟩⟩ := B8.d6
              obtain ⟨q14l, q14r, q14p, ⟨q14c0, q14c1, q14c2, q14c3, q14c4, q14c5⟩, ⟨q14f0, q14f1, q14f2, q14f3, q14f4, q14f5⟩⟩ := B0.d6
              obtain ⟨Z, hZ⟩ : ∃ Q_ : World, w6.setRow (p) #[.string a4, .string b4, .slice a9 n9 c9, .int .i64 c4, .int .i64 f4, .bool false] = Q_ := ⟨_, rfl⟩
              have bZ : Below w.heap.size w Z := hZ ▸ (bw6).trans (low_setRow _ (by omega))
              replace hO : OL n ll (.slice a3 n3 c3) Z := hZ ▸ hO.keep (keeps_setRow _ B0 (by decide) (by show n ≤ _; omega))
              replace hO9 : OL n l4 (.slice a9 n9 c9) Z := hZ ▸ hO9.keep (keeps_setRow _ B0 (by decide) (by show n ≤ _; omega))
              replace B1 : Bx Z (wr.heap.size) #[.int .i64 1, .int .i64 1, .int .i64 o3, .int .i64 o4, .string o5] 31 := hZ ▸ B1.put' (by omega) _
              replace B8 : Bx Z (w3.heap.size) #[.string a4, .string b4, .slice a9 n9 c9, .int .i64 c4, .int .i64 f4, .bool false] 28 := hZ ▸ B8.put' (by omega) _
              replace B0 : Bx Z (p) #[.string a4, .string b4, .slice a9 n9 c9, .int .i64 c4, .int .i64 f4, .bool false] 28 := hZ ▸ B0.put _
              have HB := Lib.hid (show Dst n p ⟨a4, b4, l4, c4, f4, false⟩ Z from ⟨_, B0, hO9, hc9⟩)
              go_wp2
              all_goals
                go_roundw
                case rel => exact ⟨k + 1, ⟨a4, b4, l4, c4, f4, false⟩, by omega, by go_num, HOK1.out, HB.out, bZ⟩
                case measure => simp [intOf]; omega
          · have g0 : (o1 == 0) = false := by simp; omega
            have g1 : (o1 == 1) = false := by simp; omega
            clear h1
            obtain ⟨q3l, q3r, q3p, ⟨q3c0, q3c1, q3c2, q3c3, q3c4⟩⟩ := B1.d5
            obtain ⟨q4l, q4r, q4p, ⟨q4c0, q4c1, q4c2, q4c3, q4c4, q4c5⟩, ⟨q4f0, q4f1, q4f2, q4f3, q4f4, q4f5⟩⟩ := B8.d6
            obtain ⟨q5l, q5r, q5p, ⟨q5c0, q5c1, q5c2, q5c3, q5c4, q5c5⟩, ⟨q5f0, q5f1, q5f2, q5f3, q5f4, q5f5⟩⟩ := B0.d6
            obtain ⟨Z, hZ⟩ : ∃ Q_ : World, X.setRow (p) #[.string a4, .string b4, .slice a9 n9 c9, .int .i64 c4, .int .i64 f4, .bool dn4] = Q_ := ⟨_, rfl⟩
            have bZ : Below w.heap.size w Z := hZ ▸ (bX).trans (low_setRow _ (by omega))
            replace hO : OL n ll (.slice a3 n3 c3) Z := hZ ▸ hO.keep (keeps_setRow _ B0 (by decide) (by show n ≤ _; omega))
            replace hO9 : OL n l4 (.slice a9 n9 c9) Z := hZ ▸ hO9.keep (keeps_setRow _ B0 (by decide) (by show n ≤ _; omega))
            replace B1 : Bx Z (wr.heap.size) #[.int .i64 o1, .int .i64 o2, .int .i64 o3, .int .i64 o4, .string o5] 31 := hZ ▸ B1.put' (by omega) _
            replace B8 : Bx Z (w3.heap.size) #[.string a4, .string b4, .slice a9 n9 c9, .int .i64 c4, .int .i64 f4, .bool dn4] 28 := hZ ▸ B8.put' (by omega) _
            replace B0 : Bx Z (p) #[.string a4, .string b4, .slice a9 n9 c9, .int .i64 c4, .int .i64 f4, .bool dn4] 28 := hZ ▸ B0.put _
            have HB := Lib.hid (show Dst n p ⟨a4, b4, l4, c4, f4, dn4⟩ Z from ⟨_, B0, hO9, hc9⟩)
            go_wp2
            all_goals
              go_roundw
              case rel => exact ⟨k + 1, ⟨a4, b4, l4, c4, f4, dn4⟩, by omega, by go_num, HOK1.out, HB.out, bZ⟩
              case measure => simp [intOf]; omega
        · have g4 : (k4 == 0) = false := by simpa using h4
          have g5 : (k4 != 0) = true := by simpa using h4
          have hl := HE.out h4
          simp only at hl
          by_cases h15 : k4 = 15 ∧ dn = false
          · obtain ⟨rfl, rfl⟩ := h15
            rw [left_yes rfl] at hl
            have HY : Hid ((⟨a4, b4, l4, c4, f4, dn4⟩ : Ds) = ⟨a, b, ll, c, f, true⟩) := Lib.hid hl
            clear hl h4
            obtain ⟨q3l, q3r, q3p, ⟨q3c0, q3c1, q3c2, q3c3, q3c4, q3c5⟩, ⟨q3f0, q3f1, q3f2, q3f3, q3f4, q3f5⟩⟩ := B0.d6
            obtain ⟨Y, hY⟩ : ∃ Q_ : World, X.alloc (.cells #[.string a, .string b, .slice a3 n3 c3, .int .i64 c, .int .i64 f, .bool false] 28) = Q_ := ⟨_, rfl⟩
            have aY : Below X.heap.size X Y := hY ▸ below1 _ _
            have B10 : Bx Y (X.heap.size) #[.string a, .string b, .slice a3 n3 c3, .int .i64 c, .int .i64 f, .bool false] 28 := hY ▸ Bx.at (by first | rfl | omega) _ _
            replace B0 := B0.stays aY
            replace B1 := B1.stays aY
            replace B8 := B8.stays aY
            replace hO := hO.stays aY
            replace hO9 := hO9.stays aY
            have bY := nx bX aY
            have hpX : p < X.heap.size := by have := aX.size; omega
            have h8X : w3.heap.size < X.heap.size := by rw [← hX]; simp
            have hwX : w.heap.size ≤ X.heap.size := by have := aX.size; omega
            have h7X : wr.heap.size < X.heap.size := by have := hwrX; omega
            obtain ⟨q4l, q4r, q4p, ⟨q4c0, q4c1, q4c2, q4c3, q4c4, q4c5⟩, ⟨q4f0, q4f1, q4f2, q4f3, q4f4, q4f5⟩⟩ := B8.d6
            obtain ⟨q5l, q5r, q5p, ⟨q5c0, q5c1, q5c2, q5c3, q5c4, q5c5⟩, ⟨q5f0, q5f1, q5f2, q5f3, q5f4, q5f5⟩⟩ := B10.d6
            obtain ⟨q6l, q6r, q6p, ⟨q6c0, q6c1, q6c2, q6c3, q6c4, q6c5⟩, ⟨q6f0, q6f1, q6f2, q6f3, q6f4, q6f5⟩⟩ := B0.d6
            obtain ⟨Y2, hY2⟩ : ∃ Q_ : World, Y.setCell ⟨X.heap.size, 5, none⟩ (.bool true) = Q_ := ⟨_, rfl⟩
            have bY2 : Below w.heap.size w Y2 := hY2 ▸ (bY).trans (low_setCell _ _ (by omega))
            replace hO : OL n ll (.slice a3 n3 c3) Y2 := hY2 ▸ hO.keep (keeps_setCell _ _ B10 (by decide) (by show n ≤ _; omega))
            replace hO9 : OL n l4 (.slice a9 n9 c9) Y2 := hY2 ▸ hO9.keep (keeps_setCell _ _ B10 (by decide) (by show n ≤ _; omega))
            replace B0 : Bx Y2 (p) #[.string a, .string b, .slice a3 n3 c3, .int .i64 c, .int .i64 f, .bool false] 28 := hY2 ▸ B0.set' (by omega) _ _
            replace B1 : Bx Y2 (wr.heap.size) #[.int .i64 o1, .int .i64 o2, .int .i64 o3, .int .i64 o4, .string o5] 31 := hY2 ▸ B1.set' (by omega) _ _
            replace B8 : Bx Y2 (w3.heap.size) #[.string a4, .string b4, .slice a9 n9 c9, .int .i64 c4, .int .i64 f4, .bool dn4] 28 := hY2 ▸ B8.set' (by omega) _ _
            replace B10 : Bx Y2 (X.heap.size) #[.string a, .string b, .slice a3 n3 c3, .int .i64 c, .int .i64 f, .bool true] 28 := hY2 ▸ (show Bx (Y.setCell ⟨X.heap.size, 5, none⟩ (.bool true)) (X.heap.size) #[.string a, .string b, .slice a3 n3 c3, .int .i64 c, .int .i64 f, .bool true] 28 from B10.set 5 (.bool true))
            obtain ⟨q7l, q7r, q7p, ⟨q7c0, q7c1, q7c2, q7c3, q7c4, q7c5⟩, ⟨q7f0, q7f1, q7f2, q7f3, q7f4, q7f5⟩⟩ := B8.d6
            obtain ⟨q8l, q8r, q8p, ⟨q8c0, q8c1, q8c2, q8c3, q8c4, q8c5⟩, ⟨q8f0, q8f1, q8f2, q8f3, q8f4, q8f5⟩⟩ := B10.d6
            go_wp2_with fail
            with_reducible refine (same_yes (n := n) (n' := n) ⟨a4, b4, l4, c4, f4, dn4⟩ _ _ Y2 (DV.mk hO9 hc9) (by rw [HY.out]; exact DV.mk hO hc) (Nat.le_trans HOKR.out.len (by decide))).mono ?_
            rintro e w4 ⟨rfl, hb4⟩
            clear q3l q3r q3p q3c0 q3c1 q3c2 q3c3 q3c4 q3c5 q3f0 q3f1 q3f2 q3f3 q3f4 q3f5
            clear q4l q4r q4p q4c0 q4c1 q4c2 q4c3 q4c4 q4c5 q4f0 q4f1 q4f2 q4f3 q4f4 q4f5
            clear q5l q5r q5p q5c0 q5c1 q5c2 q5c3 q5c4 q5c5 q5f0 q5f1 q5f2 q5f3 q5f4 q5f5
            clear q6l q6r q6p q6c0 q6c1 q6c2 q6c3 q6c4 q6c5 q6f0 q6f1 q6f2 q6f3 q6f4 q6f5
            clear q7l q7r q7p q7c0 q7c1 q7c2 q7c3 q7c4 q7c5 q7f0 q7f1 q7f2 q7f3 q7f4 q7f5
            clear q8l q8r q8p q8c0 q8c1 q8c2 q8c3 q8c4 q8c5 q8f0 q8f1 q8f2 q8f3 q8f4 q8f5
            replace B0 := B0.stays hb4
            replace B1 := B1.stays hb4
            replace B8 := B8.stays hb4
            replace B10 := B10.stays hb4
            replace hO := hO.stays hb4
            replace hO9 := hO9.stays hb4
            have bw4 := nx bY2 hb4
            obtain ⟨q9l, q9r, q9p, ⟨q9c0, q9c1, q9c2, q9c3, q9c4⟩⟩ := B1.d5
            obtain ⟨q10l, q10r, q10p, ⟨q10c0, q10c1, q10c2, q10c3, q10c4, q10c5⟩, ⟨q10f0, q10f1, q10f2, q10f3, q10f4, q10f5⟩⟩ := B8.d6
            obtain ⟨q11l, q11r, q11p, ⟨q11c0, q11c1, q11c2, q11c3, q11c4, q11c5⟩, ⟨q11f0, q11f1, q11f2, q11f3, q11f4, q11f5⟩⟩ := B0.d6
            obtain ⟨Z, hZ⟩ : ∃ Q_ : World, w4.setRow (p) #[.string a4, .string b4, .slice a9 n9 c9, .int .i64 c4, .int .i64 f4, .bool dn4] = Q_ := ⟨_, rfl⟩
            have bZ : Below w.heap.size w Z := hZ ▸ (bw4).trans (low_setRow _ (by omega))
            replace hO : OL n ll (.slice a3 n3 c3) Z := hZ ▸ hO.keep (keeps_setRow _ B0 (by decide) (by show n ≤ _; omega))
            replace hO9 : OL n l4 (.slice a9 n9 c9) Z := hZ ▸ hO9.keep (keeps_setRow _ B0 (by decide) (by show n ≤ _; omega))
            replace B1 : Bx Z (wr.heap.size) #[.int .i64 o1, .int .i64 o2, .int .i64 o3, .int .i64 o4, .string o5] 31 := hZ ▸ B1.put' (by omega) _
            replace B8 : Bx Z (w3.heap.size) #[.string a4, .string b4, .slice a9 n9 c9, .int .i64 c4, .int .i64 f4, .bool dn4] 28 := hZ ▸ B8.put' (by omega) _
            replace B0 : Bx Z (p) #[.string a4, .string b4, .slice a9 n9 c9, .int .i64 c4, .int .i64 f4, .bool dn4] 28 := hZ ▸ B0.put _
            have HB := Lib.hid (show Dst n p ⟨a4, b4, l4, c4, f4, dn4⟩ Z from ⟨_, B0, hO9, hc9⟩)
            go_wp2
            all_goals
              go_roundw
              case rel => exact ⟨k + 1, ⟨a4, b4, l4, c4, f4, dn4⟩, by omega, by go_num, HOK1.out, HB.out, bZ⟩
              case measure => simp [intOf]; omega
          · rw [left_no h15] at hl
            have HY := Lib.hid hl
            by_cases h16 : k4 = 15
            · have hdn : dn = true := by cases dn <;> simp_all
              subst h16 hdn
              clear hl h4 h15
              obtain ⟨q3l, q3r, q3p, ⟨q3c0, q3c1, q3c2, q3c3, q3c4, q3c5⟩, ⟨q3f0, q3f1, q3f2, q3f3, q3f4, q3f5⟩⟩ := B0.d6
              obtain ⟨Y, hY⟩ : ∃ Q_ : World, X.alloc (.cells #[.string a, .string b, .slice a3 n3 c3, .int .i64 c, .int .i64 f, .bool true] 28) = Q_ := ⟨_, rfl⟩
              have aY : Below X.heap.size X Y := hY ▸ below1 _ _
              have B10 : Bx Y (X.heap.size) #[.string a, .string b, .slice a3 n3 c3, .int .i64 c, .int .i64 f, .bool true] 28 := hY ▸ Bx.at (by first | rfl | omega) _ _
              replace B0 := B0.stays aY
              replace B1 := B1.stays aY
              replace B8 := B8.stays aY
              replace hO := hO.stays aY
              replace hO9 := hO9.stays aY
              have bY := nx bX aY
              have hpX : p < X.heap.size := by have := aX.size; omega
              have h8X : w3.heap.size < X.heap.size := by rw [← hX]; simp
              have hwX : w.heap.size ≤ X.heap.size := by have := aX.size; omega
              have h7X : wr.heap.size < X.heap.size := by have := hwrX; omega
              obtain ⟨q4l, q4r, q4p, ⟨q4c0, q4c1, q4c2, q4c3, q4c4, q4c5⟩, ⟨q4f0, q4f1, q4f2, q4f3, q4f4, q4f5⟩⟩ := B8.d6
              obtain ⟨q5l, q5r, q5p, ⟨q5c0, q5c1, q5c2, q5c3, q5c4, q5c5⟩, ⟨q5f0, q5f1, q5f2, q5f3, q5f4, q5f5⟩⟩ := B10.d6
              obtain ⟨q6l, q6r, q6p, ⟨q6c0, q6c1, q6c2, q6c3, q6c4, q6c5⟩, ⟨q6f0, q6f1, q6f2, q6f3, q6f4, q6f5⟩⟩ := B0.d6
              go_wp2_with fail
              with_reducible refine (same_yes (n := n) (n' := n) ⟨a4, b4, l4, c4, f4, dn4⟩ _ _ Y (DV.mk hO9 hc9) (by rw [HY.out]; exact DV.mk hO hc) (Nat.le_trans HOKR.out.len (by decide))).mono ?_
              rintro e w4 ⟨rfl, hb4⟩
              clear q3l q3r q3p q3c0 q3c1 q3c2 q3c3 q3c4 q3c5 q3f0 q3f1 q3f2 q3f3 q3f4 q3f5
              clear q4l q4r q4p q4c0 q4c1 q4c2 q4c3 q4c4 q4c5 q4f0 q4f1 q4f2 q4f3 q4f4 q4f5
              clear q5l q5r q5p q5c0 q5c1 q5c2 q5c3 q5c4 q5c5 q5f0 q5f1 q5f2 q5f3 q5f4 q5f5
              clear q6l q6r q6p q6c0 q6c1 q6c2 q6c3 q6c4 q6c5 q6f0 q6f1 q6f2 q6f3 q6f4 q6f5
              replace B0 := B0.stays hb4
              replace B1 := B1.stays hb4
              replace B8 := B8.stays hb4
              replace B10 := B10.stays hb4
              replace hO := hO.stays hb4
              replace hO9 := hO9.stays hb4
              have bw4 := nx bY hb4
              obtain ⟨q7l, q7r, q7p, ⟨q7c0, q7c1, q7c2, q7c3, q7c4⟩⟩ := B1.d5
              obtain ⟨q8l, q8r, q8p, ⟨q8c0, q8c1, q8c2, q8c3, q8c4, q8c5⟩, ⟨q8f0, q8f1, q8f2, q8f3, q8f4, q8f5⟩⟩ := B8.d6
              obtain ⟨q9l, q9r, q9p, ⟨q9c0, q9c1, q9c2, q9c3, q9c4, q9c5⟩, ⟨q9f0, q9f1, q9f2, q9f3, q9f4, q9f5⟩⟩ := B0.d6
              obtain ⟨Z, hZ⟩ : ∃ Q_ : World, w4.setRow (p) #[.string a4, .string b4, .slice a9 n9 c9, .int .i64 c4, .int .i64 f4, .bool dn4] = Q_ := ⟨_, rfl⟩
              have bZ : Below w.heap.size w Z := hZ ▸ (bw4).trans (low_setRow _ (by omega))
              replace hO : OL n ll (.slice a3 n3 c3) Z := hZ ▸ hO.keep (keeps_setRow _ B0 (by decide) (by show n ≤ _; omega))
              replace hO9 : OL n l4 (.slice a9 n9 c9) Z := hZ ▸ hO9.keep (keeps_setRow _ B0 (by decide) (by show n ≤ _; omega))
              replace B1 : Bx Z (wr.heap.size) #[.int .i64 o1, .int .i64 o2, .int .i64 o3, .int .i64 o4, .string o5] 31 := hZ ▸ B1.put' (by omega) _
              replace B8 : Bx Z (w3.heap.size) #[.string a4, .string b4, .slice a9 n9 c9, .int .i64 c4, .int .i64 f4, .bool dn4] 28 := hZ ▸ B8.put' (by omega) _
              replace B0 : Bx Z (p) #[.string a4, .string b4, .slice a9 n9 c9, .int .i64 c4, .int .i64 f4, .bool dn4] 28 := hZ ▸ B0.put _
              have HB := Lib.hid (show Dst n p ⟨a4, b4, l4, c4, f4, dn4⟩ Z from ⟨_, B0, hO9, hc9⟩)
              go_wp2
              all_goals
                go_roundw
                case rel => exact ⟨k + 1, ⟨a4, b4, l4, c4, f4, dn4⟩, by omega, by go_num, HOK1.out, HB.out, bZ⟩
                case measure => simp [intOf]; omega
            · have g6 : (k4 == 15) = false := by simpa using h16
              clear hl h4 h15 h16
              obtain ⟨q3l, q3r, q3p, ⟨q3c0, q3c1, q3c2, q3c3, q3c4, q3c5⟩, ⟨q3f0, q3f1, q3f2, q3f3, q3f4, q3f5⟩⟩ := B0.d6
              obtain ⟨Y, hY⟩ : ∃ Q_ : World, X.alloc (.cells #[.string a, .string b, .slice a3 n3 c3, .int .i64 c, .int .i64 f, .bool dn] 28) = Q_ := ⟨_, rfl⟩
              have aY : Below X.heap.size X Y := hY ▸ below1 _ _
              have B10 : Bx Y (X.heap.size) #[.string a, .string b, .slice a3 n3 c3, .int .i64 c, .int .i64 f, .bool dn] 28 := hY ▸ Bx.at (by first | rfl | omega) _ _
              replace B0 := B0.stays aY
              replace B1 := B1.stays aY
              replace B8 := B8.stays aY
              replace hO := hO.stays aY
              replace hO9 := hO9.stays aY
              have bY := nx bX aY
              have hpX : p < X.heap.size := by have := aX.size; omega
              have h8X : w3.heap.size < X.heap.size := by rw [← hX]; simp
              have hwX : w.heap.size ≤ X.heap.size := by have := aX.size; omega
              have h7X : wr.heap.size < X.heap.size := by have := hwrX; omega
              obtain ⟨q4l, q4r, q4p, ⟨q4c0, q4c1, q4c2, q4c3, q4c4, q4c5⟩, ⟨q4f0, q4f1, q4f2, q4f3, q4f4, q4f5⟩⟩ := B8.d6
              obtain ⟨q5l, q5r, q5p, ⟨q5c0, q5c1, q5c2, q5c3, q5c4, q5c5⟩, ⟨q5f0, q5f1, q5f2, q5f3, q5f4, q5f5⟩⟩ := B10.d6
              obtain ⟨q6l, q6r, q6p, ⟨q6c0, q6c1, q6c2, q6c3, q6c4, q6c5⟩, ⟨q6f0, q6f1, q6f2, q6f3, q6f4, q6f5⟩⟩ := B0.d6
              go_wp2_with fail
              with_reducible refine (same_yes (n := n) (n' := n) ⟨a4, b4, l4, c4, f4, dn4⟩ _ _ Y (DV.mk hO9 hc9) (by rw [HY.out]; exact DV.mk hO hc) (Nat.le_trans HOKR.out.len (by decide))).mono ?_
              rintro e w4 ⟨rfl, hb4⟩
              clear q3l q3r q3p q3c0 q3c1 q3c2 q3c3 q3c4 q3c5 q3f0 q3f1 q3f2 q3f3 q3f4 q3f5
              clear q4l q4r q4p q4c0 q4c1 q4c2 q4c3 q4c4 q4c5 q4f0 q4f1 q4f2 q4f3 q4f4 q4f5
              clear q5l q5r q5p q5c0 q5c1 q5c2 q5c3 q5c4 q5c5 q5f0 q5f1 q5f2 q5f3 q5f4 q5f5
              clear q6l q6r q6p q6c0 q6c1 q6c2 q6c3 q6c4 q6c5 q6f0 q6f1 q6f2 q6f3 q6f4 q6f5
              replace B0 := B0.stays hb4
              replace B1 := B1.stays hb4
              replace B8 := B8.stays hb4
              replace B10 := B10.stays hb4
              replace hO := hO.stays hb4
              replace hO9 := hO9.stays hb4
              have bw4 := nx bY hb4
              obtain ⟨q7l, q7r, q7p, ⟨q7c0, q7c1, q7c2, q7c3, q7c4⟩⟩ := B1.d5
              obtain ⟨q8l, q8r, q8p, ⟨q8c0, q8c1, q8c2, q8c3, q8c4, q8c5⟩, ⟨q8f0, q8f1, q8f2, q8f3, q8f4, q8f5⟩⟩ := B8.d6
              obtain ⟨q9l, q9r, q9p, ⟨q9c0, q9c1, q9c2, q9c3, q9c4, q9c5⟩, ⟨q9f0, q9f1, q9f2, q9f3, q9f4, q9f5⟩⟩ := B0.d6
              obtain ⟨Z, hZ⟩ : ∃ Q_ : World, w4.setRow (p) #[.string a4, .string b4, .slice a9 n9 c9, .int .i64 c4, .int .i64 f4, .bool dn4] = Q_ := ⟨_, rfl⟩
              have bZ : Below w.heap.size w Z := hZ ▸ (bw4).trans (low_setRow _ (by omega))
              replace hO : OL n ll (.slice a3 n3 c3) Z := hZ ▸ hO.keep (keeps_setRow _ B0 (by decide) (by show n ≤ _; omega))
              replace hO9 : OL n l4 (.slice a9 n9 c9) Z := hZ ▸ hO9.keep (keeps_setRow _ B0 (by decide) (by show n ≤ _; omega))
              replace B1 : Bx Z (wr.heap.size) #[.int .i64 o1, .int .i64 o2, .int .i64 o3, .int .i64 o4, .string o5] 31 := hZ ▸ B1.put' (by omega) _
              replace B8 : Bx Z (w3.heap.size) #[.string a4, .string b4, .slice a9 n9 c9, .int .i64 c4, .int .i64 f4, .bool dn4] 28 := hZ ▸ B8.put' (by omega) _
              replace B0 : Bx Z (p) #[.string a4, .string b4, .slice a9 n9 c9, .int .i64 c4, .int .i64 f4, .bool dn4] 28 := hZ ▸ B0.put _
              have HB := Lib.hid (show Dst n p ⟨a4, b4, l4, c4, f4, dn4⟩ Z from ⟨_, B0, hO9, hc9⟩)
              go_wp2
              all_goals
                go_roundw
                case rel => exact ⟨k + 1, ⟨a4, b4, l4, c4, f4, dn4⟩, by omega, by go_num, HOK1.out, HB.out, bZ⟩
                case measure => simp [intOf]; omega
      · obtain rfl : k = n1 := by omega
        go_wp2_with fail
        refine (awake_any wr).mono ?_
        rintro e w3 ⟨rfl, hb3⟩
        go_wp2
        go_ret
        exact ⟨rfl, nx hb hb3⟩
  · go_enter Try.func5, Try.ntmps5
    go_wp2_with fail
    with_reducible refine (far_is HQ h hlm).mono ?_
    rintro e w1 ⟨rfl, hb1⟩
    go_wp2_with fail
    refine (awake_any w1).mono ?_
    rintro e w2 ⟨rfl, hb2⟩
    go_wp2
    go_ret
    exact ⟨rfl, nx hb1 hb2⟩
end Go.Proofs.Ytegepbifbhamnaa.Dk
