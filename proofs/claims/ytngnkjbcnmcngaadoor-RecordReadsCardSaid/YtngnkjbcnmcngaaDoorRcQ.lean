/- The document's own of layer 16: Read. -/
import Derived.Test.YtngnkjbcnmcngaaDoorRcR
import Derived.Test.YtngnkjbcnmcngaaDoorRcO
namespace Go.Proofs.YtngnkjbcnmcngaaDoor.Rc
open Go.RowKit
set_option linter.unusedVariables false
open Go.Proofs.YtngnkjbcnmcngaaDoor.Rw
open Go.Proofs.YtngnkjbcnmcngaaDoor.Bv
open Go.Proofs.YtngnkjbcnmcngaaDoor.Fx (enc enc_size putV dec getV oB wB)
open Go.Proofs.YtngnkjbcnmcngaaDoor.Cm (Tab readC readE rGet_is)
theorem rGetValue_is {s : ByteArray} {a n x y q : Int} {c d : Nat → Int} (H : Hid (gvC s a n = c ∧ gvQ s a n = q ∧ gvV s a n = d ∧ gvA s a n = x ∧ gvE s a n = y)) (hs : Hid (s.size ≤ 1000000)) (w : World) :
    Calls Tryd.prog 17 #[.string s, .int .i64 a, .int .i64 n] w fun e w' => e = .returned (.tuple #[.agg (cv c q d), .int .i64 x, .int .i64 y]) ∧ Below w.heap.size w w' := by
  obtain ⟨rfl, rfl, rfl, rfl, rfl⟩ := H.out
  exact rGetValue_any s a n hs.out w
theorem dec1 (s : ByteArray) (b : Nat) (h : b < s.size) : dec s b 1 = s[b].toNat := by
  rw [Fx.dec_succ s b 0 (by omega), Fx.dec]; simp
theorem byte1 (s : ByteArray) (b : Nat) (h : b < s.size) : wrap64 (s[b].toNat : Int) = dec s b 1 := by
  rw [dec1 s b h]
  have := s[b].toNat_lt
  unfold wrap64; omega
theorem two_b (s : ByteArray) (h : 2 < s.size) : bits BinOp.or IntKind.i64 (wrap64 (wrap64 (s[1].toNat : Int) * 256)) (wrap64 (s[2].toNat : Int)) = dec s 1 2 := by
  have h1 := Fx.dec_stepi s 1 1 (by omega) h
  have h2 := Fx.dec_lt s 1 1
  rw [byte1 s 1 (by omega), show wrap64 ((dec s 1 1 : Int) * 256) = (dec s 1 1 : Int) * 256 by unfold wrap64; omega]
  exact h1
theorem flag_b (s : ByteArray) (h : 4 < s.size) : ((s[4].toNat : Int) == 1) = decide (dec s 4 1 = 1) := by
  rw [dec1 s 4 h, Bool.eq_iff_iff]; simp; omega
theorem ci_s2 (i : Ins) (x : Int) : (ci i).setIfInBounds 2 (.int .i64 x) = ci ⟨i.pr, i.ps, x, i.br, i.tn, i.tr, i.st, i.c, i.q, i.d, i.sm⟩ := rfl
theorem ci_s3 (i : Ins) (x : Int) : (ci i).setIfInBounds 3 (.int .i64 x) = ci ⟨i.pr, i.ps, i.bn, x, i.tn, i.tr, i.st, i.c, i.q, i.d, i.sm⟩ := rfl
theorem ci_s4 (i : Ins) (x : Int) : (ci i).setIfInBounds 4 (.int .i64 x) = ci ⟨i.pr, i.ps, i.bn, i.br, x, i.tr, i.st, i.c, i.q, i.d, i.sm⟩ := rfl
theorem ci_s5 (i : Ins) (x : Int) : (ci i).setIfInBounds 5 (.int .i64 x) = ci ⟨i.pr, i.ps, i.bn, i.br, i.tn, x, i.st, i.c, i.q, i.d, i.sm⟩ := rfl
attribute [go_sem] ci_s2 ci_s3 ci_s4 ci_s5
set_option maxRecDepth 8000 in
set_option maxHeartbeats 8000000 in
theorem rRead_any (s : ByteArray) (n : Int) (hs : s.size ≤ 1000000) (w : World) :
    Calls Tryd.prog 15 #[.string s, .int .i64 n] w fun e w' => e = .returned (rdT s n) ∧ Below w.heap.size w w' := by
  have HS := Lib.hid hs
  have HM : Hid (s.size ≤ maxLen) := Lib.hid (Nat.le_trans hs (by decide))
  obtain ⟨V, hV⟩ : ∃ Q_ : World, w.alloc (.cells (ci zeroI) 33) = Q_ := ⟨_, rfl⟩
  have bV : Below w.heap.size w V := hV ▸ below1 _ _
  have B0 : Bx V w.heap.size (ci zeroI) 33 := hV ▸ Bx.new _ _ _
  have HB0 := Lib.hid B0
  by_cases h15 : s.size < 15
  · have HE := Lib.hid (rd_bad (rdE_short (n := n) h15) (by decide))
    have hd : decide ((s.size : Int) < 15) = true := decide_eq_true (by omega)
    obtain ⟨X, hX⟩ : ∃ Q_ : World, V.setRow w.heap.size (ci zeroI) = Q_ := ⟨_, rfl⟩
    have X0 : Bx X w.heap.size (ci zeroI) 33 := hX ▸ B0.put _
    have bX : Below w.heap.size w X := hX ▸ bV.trans (low_setRow _ (by omega))
    have p0 := B0.plain (n := 25) rfl
    have x0 := X0.row
    clear B0 X0
    go_enter Tryd.func15, Tryd.ntmps15
    go_wp2
    exact bodyPost_ret (v := .tuple #[.agg (ci zeroI), .int .i64 2]) (ret_I2 Tryd.results15 _ _ zeroI (by simp [go_sem, x0])) rfl ⟨by rw [HE.out], bX⟩
  · have hd : decide ((s.size : Int) < 15) = false := decide_eq_false (by omega)
    have h15 : 15 ≤ s.size := by omega
    clear B0
    have hsz : (15 : Int) ≤ s.size := by omega
    have i0 : 0 < s.size := by omega
    have i1 : 1 < s.size := by omega
    have i2 : 2 < s.size := by omega
    have i3 : 3 < s.size := by omega
    have i4 : 4 < s.size := by omega
    have j0 : (0 : Int) < s.size := by omega
    have j1 : (1 : Int) < s.size := by omega
    have j2 : (2 : Int) < s.size := by omega
    have j3 : (3 : Int) < s.size := by omega
    have j4 : (4 : Int) < s.size := by omega
    have W0 := Lib.hid (byte1 s 0 i0)
    have W1 := Lib.hid (two_b s i2)
    have W3 := Lib.hid (byte1 s 3 i3)
    have W4 := Lib.hid (flag_b s i4)
    have i9 : 9 < s.size := by omega
    have i14 : 14 < s.size := by omega
    have j9 : (9 : Int) < s.size := by omega
    have j14 : (14 : Int) < s.size := by omega
    have W9 := Lib.hid (byte1 s 9 i9)
    have W14 := Lib.hid (byte1 s 14 i14)
    obtain ⟨g5, hg5⟩ : ∃ g : Nat, dec s 5 4 = g := ⟨_, rfl⟩
    obtain ⟨g10, hg10⟩ : ∃ g : Nat, dec s 10 4 = g := ⟨_, rfl⟩
    have G5 : Hid (getV s 5 4 = .tuple #[.int .i64 g5, .int .i64 0]) := Lib.hid (by rw [← hg5]; exact get_w (b := 5) (k := 4) (by omega) (by decide))
    have G10 : Hid (getV s 10 4 = .tuple #[.int .i64 g10, .int .i64 0]) := Lib.hid (by rw [← hg10]; exact get_w (b := 10) (k := 4) (by omega) (by decide))
    have HG5 := Lib.hid hg5
    have HG10 := Lib.hid hg10
    clear hg5 hg10
    obtain ⟨c, hc⟩ : ∃ x, gvC s 15 n = x := ⟨_, rfl⟩
    obtain ⟨q, hq⟩ : ∃ x, gvQ s 15 n = x := ⟨_, rfl⟩
    obtain ⟨d, hdd⟩ : ∃ x, gvV s 15 n = x := ⟨_, rfl⟩
    obtain ⟨x, hx⟩ : ∃ x, gvA s 15 n = x := ⟨_, rfl⟩
    obtain ⟨y, hy⟩ : ∃ x, gvE s 15 n = x := ⟨_, rfl⟩
    have HG := Lib.hid (⟨hc, hq, hdd, hx, hy⟩ : gvC s 15 n = c ∧ gvQ s 15 n = q ∧ gvV s 15 n = d ∧ gvA s 15 n = x ∧ gvE s 15 n = y)
    clear hc hq hdd hx hy
    go_enter Tryd.func15, Tryd.ntmps15
    go_wp2
    go_region
    rw [W0.out, W1.out, W3.out, W4.out]
    go_wp2_with fail
    refine (rGet_is HM.out G5 _).mono ?_
    rintro e w' ⟨rfl, rfl⟩
    go_wp2_with fail
    refine (rGet_is HM.out G10 _).mono ?_
    rintro e w' ⟨rfl, rfl⟩
    go_wp2_with fail
    rw [W9.out, W14.out]
    obtain ⟨J, hJ⟩ : ∃ J : Ins, (⟨dec s 0 1, dec s 1 2, g5, dec s 9 1, g10, dec s 14 1, dec s 3 1, Cm.zeroF, 0, Ve.zeroV, decide (dec s 4 1 = 1)⟩ : Ins) = J := ⟨_, rfl⟩
    rw [hJ]
    obtain ⟨Z, hZ⟩ : ∃ Q_ : World, (V.alloc (.cells (ci J) 33)).drew = Q_ := ⟨_, rfl⟩
    have aZ : Below V.heap.size V Z := hZ ▸ (below1 V (.cells (ci J) 33)).drew
    have Z0 := HB0.out.stays aZ
    have Z1 : Bx Z V.heap.size (ci J) 33 := hZ ▸ (show Bx (V.alloc (.cells (ci J) 33)).drew V.heap.size (ci J) 33 from Bx.new V (ci J) 33)
    rw [hZ]
    have HZ0 := Lib.hid Z0
    have HZ1 := Lib.hid Z1
    have bZ := nx bV aZ
    have hl0 : w.heap.size < V.heap.size := HB0.out.lt
    clear hZ Z0 Z1
    have HJ := Lib.hid hJ
    have HX : Hid (y = 0 → (⟨J.pr, J.ps, J.bn, J.br, J.tn, J.tr, J.st, c, q, d, J.sm⟩ : Ins) = insAt s n ∧ x = 49 + 2 * cl n) := Lib.hid fun h => by
      obtain ⟨e1, e2, e3, e4, e5⟩ := HG.out
      have e5 := e5.trans h
      rw [← HJ.out, ← HG5.out, ← HG10.out]
      unfold gvC at e1; unfold gvQ at e2; unfold gvV at e3; unfold gvA at e4
      rw [e5, if_pos rfl] at e1 e2 e3 e4
      rw [← e1, ← e2, ← e3, ← e4]
      exact ⟨rfl, by omega⟩
    clear hJ W0 W1 W3 W9 W14 G5 G10 HG5 HG10
    refine (rGetValue_is HG HS _).mono ?_
    rintro e w1 ⟨rfl, hb1⟩
    have C0 := HZ0.out.stays hb1
    have C1 := HZ1.out.stays hb1
    have hl1 : V.heap.size < w1.heap.size := C1.lt
    obtain ⟨U, hU⟩ : ∃ Q_ : World, w1.alloc (.cells (cv Cm.zeroF 0 Ve.zeroV) 31) = Q_ := ⟨_, rfl⟩
    have aU : Below w1.heap.size w1 U := hU ▸ below1 w1 (.cells (cv Cm.zeroF 0 Ve.zeroV) 31)
    have bU := nx bZ (nx hb1 aU)
    have U0 := C0.stays aU
    have U1 := C1.stays aU
    have U2 : Bx U w1.heap.size (cv Cm.zeroF 0 Ve.zeroV) 31 := hU ▸ Bx.new _ _ _
    have pU := U2.plain (n := 17) rfl
    obtain ⟨T, hT⟩ : ∃ Q_ : World, U.setRow w1.heap.size (cv c q d) = Q_ := ⟨_, rfl⟩
    have T0 : Bx T w.heap.size (ci zeroI) 33 := hT ▸ U0.put' (by omega) _
    have T1 : Bx T V.heap.size (ci J) 33 := hT ▸ U1.put' (by omega) _
    have T2 : Bx T w1.heap.size (cv c q d) 31 := hT ▸ U2.put _
    have bT : Below w.heap.size w T := hT ▸ bU.trans (low_setRow _ (by omega))
    clear C0 C1 U0 U1 U2
    by_cases hy0 : y = 0
    · obtain ⟨hI, hxe⟩ := HX.out hy0
      obtain ⟨I, hII⟩ : ∃ I, insAt s n = I := ⟨_, rfl⟩
      rw [hII] at hI
      have HII := Lib.hid hII
      have hF := rdE_form h15 (HG.out.2.2.2.2.trans hy0)
      rw [hII] at hF
      have HF := Lib.hid hF
      subst hy0
      have rT := T2.row
      have lT := T2.lt
      have thT := T1.there (o := 7) (n := 17) (by show 7 + 17 ≤ 25; decide)
      obtain ⟨C, hC⟩ : ∃ Q_ : World, T.setCells V.heap.size 7 (cv c q d).toList = Q_ := ⟨_, rfl⟩
      have C0 : Bx C w.heap.size (ci zeroI) 33 := hC ▸ Bx.sets' (by omega) _ _ _ T0
      have C1 : Bx C V.heap.size (ci I) 33 := by
        have := Bx.sets (w := T) (cv c q d).toList 7 _ _ T1
        rw [hC, over_val, hI] at this; exact this
      have bC : Below w.heap.size w C := hC ▸ bT.trans (low_setCells (by omega) _ _ _)
      clear T0 T1 T2 hI hF hII
      have p0 := C0.plain (n := 25) rfl
      have l0 := C0.lt
      by_cases k1 : dec s 4 1 ≤ 1
      · have k1' : decide ((1 : Int) < (s[4].toNat : Int)) = false := by rw [← dec1 s 4 i4]; simp; omega
        by_cases k2 : s.size = 49 + 2 * cl n
        · have k2' : x = s.size := by omega
          have HK1 := Lib.hid k1
          have HK2 := Lib.hid k2
          subst k2'
          clear k1 k2 hxe
          have r1 := C1.row
          have l1 := C1.lt
          have G0 := Lib.hid C0
          have G1 := Lib.hid C1
          cases ho : okI I n
          · have HO := Lib.hid ho
            have HE := Lib.hid (rd_bad (HF.out.trans (if_neg fun k => by rw [HO.out] at k; exact absurd k.2.2 (by decide))) (by decide))
            clear ho C0 C1 p0 l0
            go_wp2_with fail
            clear r1 l1
            refine (rRight_is HO _).mono ?_
            rintro e w2 ⟨rfl, hb2⟩
            have D0 := G0.out.stays hb2
            have bD := nx bC hb2
            have p0 := D0.plain (n := 25) rfl
            obtain ⟨X, hX⟩ : ∃ Q_ : World, w2.setRow w.heap.size (ci zeroI) = Q_ := ⟨_, rfl⟩
            have X0 : Bx X w.heap.size (ci zeroI) 33 := hX ▸ D0.put _
            have bX : Below w.heap.size w X := hX ▸ bD.trans (low_setRow _ (by omega))
            have x0 := X0.row
            clear D0 X0
            go_wp2
            exact bodyPost_ret (v := .tuple #[.agg (ci zeroI), .int .i64 3]) (ret_I2 Tryd.results15 _ _ zeroI (by simp [go_sem, x0])) rfl ⟨by rw [HE.out], bX⟩
          · have HO := Lib.hid ho
            have HE := Lib.hid (rd_good (HF.out.trans (if_pos ⟨HK1.out, HK2.out, HO.out⟩)))
            rw [HII.out] at HE
            clear ho C0 C1 p0 l0
            go_wp2_with fail
            clear r1 l1
            refine (rRight_is HO _).mono ?_
            rintro e w2 ⟨rfl, hb2⟩
            have D0 := G0.out.stays hb2
            have D1 := G1.out.stays hb2
            have bD := nx bC hb2
            have p0 := D0.plain (n := 25) rfl
            have r1 := D1.row
            have l1 := D1.lt
            obtain ⟨X, hX⟩ : ∃ Q_ : World, w2.setRow w.heap.size (ci I) = Q_ := ⟨_, rfl⟩
            have X0 : Bx X w.heap.size (ci I) 33 := hX ▸ D0.put _
            have bX : Below w.heap.size w X := hX ▸ bD.trans (low_setRow _ (by omega))
            have x0 := X0.row
            clear D0 D1 X0
            go_wp2
            exact bodyPost_ret (v := .tuple #[.agg (ci I), .int .i64 0]) (ret_I2 Tryd.results15 _ _ I (by simp [go_sem, x0])) rfl ⟨by rw [HE.out], bX⟩
        · have HE := Lib.hid (rd_bad (HF.out.trans (if_neg fun k => k2 k.2.1)) (by decide))
          have k3 : (x != (s.size : Int)) = true := by simp; omega
          obtain ⟨X, hX⟩ : ∃ Q_ : World, C.setRow w.heap.size (ci zeroI) = Q_ := ⟨_, rfl⟩
          have X0 : Bx X w.heap.size (ci zeroI) 33 := hX ▸ C0.put _
          have bX : Below w.heap.size w X := hX ▸ bC.trans (low_setRow _ (by omega))
          have x0 := X0.row
          clear C0 C1 X0 k1 k2 hxe
          go_wp2
          exact bodyPost_ret (v := .tuple #[.agg (ci zeroI), .int .i64 3]) (ret_I2 Tryd.results15 _ _ zeroI (by simp [go_sem, x0])) rfl ⟨by rw [HE.out], bX⟩
      · have HE := Lib.hid (rd_bad (HF.out.trans (if_neg fun k => k1 k.1)) (by decide))
        have k1' : decide ((1 : Int) < (s[4].toNat : Int)) = true := by rw [← dec1 s 4 i4]; simp; omega
        obtain ⟨X, hX⟩ : ∃ Q_ : World, C.setRow w.heap.size (ci zeroI) = Q_ := ⟨_, rfl⟩
        have X0 : Bx X w.heap.size (ci zeroI) 33 := hX ▸ C0.put _
        have bX : Below w.heap.size w X := hX ▸ bC.trans (low_setRow _ (by omega))
        have x0 := X0.row
        clear C0 C1 X0 k1 hxe
        go_wp2
        exact bodyPost_ret (v := .tuple #[.agg (ci zeroI), .int .i64 3]) (ret_I2 Tryd.results15 _ _ zeroI (by simp [go_sem, x0])) rfl ⟨by rw [HE.out], bX⟩
    · have HE := Lib.hid (rd_bad ((rdE_val h15 (by rw [HG.out.2.2.2.2]; exact hy0)).trans HG.out.2.2.2.2) hy0)
      have hy1 : (y != 0) = true := by simpa using hy0
      have pT := T0.plain (n := 25) rfl
      obtain ⟨X, hX⟩ : ∃ Q_ : World, T.setRow w.heap.size (ci zeroI) = Q_ := ⟨_, rfl⟩
      have X0 : Bx X w.heap.size (ci zeroI) 33 := hX ▸ T0.put _
      have bX : Below w.heap.size w X := hX ▸ bT.trans (low_setRow _ (by omega))
      have x0 := X0.row
      clear T0 T1 T2 X0 hy0
      go_wp2
      exact bodyPost_ret (v := .tuple #[.agg (ci zeroI), .int .i64 y]) (ret_I2 Tryd.results15 _ _ zeroI (by simp [go_sem, x0])) rfl ⟨by rw [HE.out], bX⟩
end Go.Proofs.YtngnkjbcnmcngaaDoor.Rc
