/- The document's own of layer 16: GetValue. -/
import Derived.Test.YtngnkjbcnmcngaaDoorRcN
import Derived.Test.YtngnkjbcnmcngaaDoorCmK
namespace Go.Proofs.YtngnkjbcnmcngaaDoor.Rc
open Go.RowKit
set_option linter.unusedVariables false
open Go.Proofs.YtngnkjbcnmcngaaDoor.Rw
open Go.Proofs.YtngnkjbcnmcngaaDoor.Bv
open Go.Proofs.YtngnkjbcnmcngaaDoor.Fx (enc enc_size putV dec getV oB wB)
open Go.Proofs.YtngnkjbcnmcngaaDoor.Cm (chkB chkE numF Tab oB_nat rGet_is readE readC readA rdC)
theorem rRead_is {s : ByteArray} {a : Int} {c : Nat → Int} {x y : Int} (H : Hid (readC s a = c ∧ readA s a = x ∧ readE s a = y)) (hs : Hid (s.size ≤ 1000000)) (w : World) :
    Calls Tryd.prog 40 #[.string s, .int .i64 a] w fun e w' => e = .returned (.tuple #[.agg (Cm.fc c), .int .i64 x, .int .i64 y]) ∧ Below w.heap.size w w' := by
  obtain ⟨rfl, rfl, rfl⟩ := H.out
  exact Cm.rRead_any s a (Nat.le_trans hs.out (by decide)) w
section
variable (ρ : Operand → Value) (dst : Option Tmp) (ty : TypeId) (pos : String) (after : Array Edge) (guard : Option (Nat × Bool)) (w : World)
theorem storeMidC (p x : Operand) (h : thereOf w (ρ p) 9) (hs : (ρ x).cells.size = 9) (h1 : oneAll (ρ x) = true) (ha : ρ x = .agg (ρ x).cells) : (execOp ρ { dst, op := .store 27 p x, type := ty, pos, after, guard }).run Tryd.prog w = .ok .skip (putMid w (ρ p) (ρ x).cells) :=
  storeMid (by kernel_rfl) ρ dst ty pos after guard w p x h hs h1 ha
end
attribute [go_sem ↓] storeMidC
theorem over_cmd (c c' d : Nat → Int) (q : Int) : over (cv c q d) 0 (Cm.fc c').toList = cv c' q d := by
  rw [Cm.fc_list]
  simp [over, cv]
set_option maxRecDepth 8000 in
set_option maxHeartbeats 8000000 in
theorem rGetValue_any (s : ByteArray) (a n : Int) (hs : s.size ≤ 1000000) (w : World) :
    Calls Tryd.prog 17 #[.string s, .int .i64 a, .int .i64 n] w fun e w' => e = .returned (gvT s a n) ∧ Below w.heap.size w w' := by
  have HS := Lib.hid hs
  have HM : Hid (s.size ≤ maxLen) := Lib.hid (Nat.le_trans hs (by decide))
  obtain ⟨V, hV⟩ : ∃ Q_ : World, (w.alloc (.cells (cv Cm.zeroF 0 Ve.zeroV) 31)).alloc (.cells (cv Cm.zeroF 0 Ve.zeroV) 31) = Q_ := ⟨_, rfl⟩
  have bV : Below w.heap.size w V := hV ▸ below2 _ _ _
  have B0 : Bx V w.heap.size (cv Cm.zeroF 0 Ve.zeroV) 31 := hV ▸ (Bx.new _ _ _).alloc _
  have B1 : Bx V (w.heap.size + 1) (cv Cm.zeroF 0 Ve.zeroV) 31 := hV ▸ Bx.at (by simp) _ _
  have HB0 := Lib.hid B0
  have HB1 := Lib.hid B1
  obtain ⟨c, hc⟩ : ∃ x, readC s a = x := ⟨_, rfl⟩
  obtain ⟨x, hx⟩ : ∃ x, readA s a = x := ⟨_, rfl⟩
  obtain ⟨y, hy⟩ : ∃ x, readE s a = x := ⟨_, rfl⟩
  have HR := Lib.hid (⟨hc, hx, hy⟩ : readC s a = c ∧ readA s a = x ∧ readE s a = y)
  clear B0 B1 hc hx hy
  by_cases h0 : y = 0
  · subst h0
    obtain ⟨b, hab, hb30, hbx⟩ := rd_ok HR.out.2.2
    obtain rfl : x = (b + 30 : Nat) := HR.out.2.1.symm.trans hbx
    subst hab
    clear hbx
    have hb0 : b ≤ 1000000 := by omega
    by_cases h34 : b + 34 ≤ s.size
    · obtain ⟨M, hM⟩ : ∃ M : Int, max 0 (min n 7) = M := ⟨_, rfl⟩
      have hMl : ∀ k : Nat, k ≤ cl n → ((k : Int) < M ↔ k < cl n) := fun k hk => by
        unfold cl at hk ⊢
        by_cases h1 : n < 0
        · simp only [if_pos h1] at hk ⊢
          omega
        · by_cases h2 : 7 < n
          · simp only [if_neg h1, if_pos h2]; omega
          · simp only [if_neg h1, if_neg h2]; omega
      have HMl := Lib.hid hMl
      have hm7 : M ≤ 7 := by omega
      obtain ⟨q, hq⟩ : ∃ q : Nat, dec s (b + 30) 4 = q := ⟨_, rfl⟩
      have HG1 : Hid (getV s (b + 30 : Nat) (4 : Nat) = .tuple #[.int .i64 q, .int .i64 0]) := Lib.hid (by rw [get_w (by omega) (by decide), hq])
      have HQ := Lib.hid hq
      have e34 : (b : Int) + 30 + 4 = (b : Int) + 34 + 2 * (0 : Nat) := by omega
      have HE34 := Lib.hid e34
      clear hMl hq e34
      go_enter Tryd.func17, Tryd.ntmps17
      go_wp2_with fail
      refine (rRead_is HR HS _).mono ?_
      rintro e w1 ⟨rfl, hb1⟩
      have C0 := HB0.out.stays hb1
      have C1 := HB1.out.stays hb1
      have hlt1 : w.heap.size + 1 < w1.heap.size := C1.lt
      obtain ⟨U, hU⟩ : ∃ Q_ : World, w1.alloc (.cells (Cm.fc Cm.zeroF) 27) = Q_ := ⟨_, rfl⟩
      have aU : Below w1.heap.size w1 U := hU ▸ below1 _ _
      have U2 : Bx U w1.heap.size (Cm.fc Cm.zeroF) 27 := hU ▸ Bx.new _ _ _
      have U0 := C0.stays aU
      have U1 := C1.stays aU
      have bU := nx bV (nx hb1 aU)
      have pu := U2.plain (n := 9) (Cm.fc_size _)
      obtain ⟨T, hT⟩ : ∃ Q_ : World, U.setRow w1.heap.size (Cm.fc c) = Q_ := ⟨_, rfl⟩
      have T0 : Bx T w.heap.size (cv Cm.zeroF 0 Ve.zeroV) 31 := hT ▸ U0.put' (by omega) _
      have T1 : Bx T (w.heap.size + 1) (cv Cm.zeroF 0 Ve.zeroV) 31 := hT ▸ U1.put' (by omega) _
      have T2 : Bx T w1.heap.size (Cm.fc c) 27 := hT ▸ U2.put _
      have bT : Below w.heap.size w T := hT ▸ bU.trans (low_setRow _ (by omega))
      have rt := T2.row
      have lt := T2.lt
      have th := T1.there (o := 0) (n := 9) (by decide)
      obtain ⟨X, hX⟩ : ∃ Q_ : World, T.setCells (w.heap.size + 1) 0 (Cm.fc c).toList = Q_ := ⟨_, rfl⟩
      have X0 : Bx X w.heap.size (cv Cm.zeroF 0 Ve.zeroV) 31 := hX ▸ Bx.sets' (by omega) _ _ _ T0
      have X1 : Bx X (w.heap.size + 1) (cv c 0 Ve.zeroV) 31 := by
        have := Bx.sets (w := T) (Cm.fc c).toList 0 _ _ T1
        rw [hX, over_cmd] at this; exact this
      have bX : Below w.heap.size w X := hX ▸ bT.trans (low_setCells (by omega) _ _ _)
      have x9 : X.cell? ⟨w.heap.size + 1, 9, none⟩ = some (.int .i64 0) := X1.cell 9
      have f9 : X.frozen? ⟨w.heap.size + 1, 9, none⟩ = false := X1.thawed 9
      obtain ⟨Y, hY⟩ : ∃ Q_ : World, X.setCell ⟨w.heap.size + 1, 9, none⟩ (.int .i64 q) = Q_ := ⟨_, rfl⟩
      have Y0 : Hid (Bx Y w.heap.size (cv Cm.zeroF 0 Ve.zeroV) 31) := Lib.hid (hY ▸ X0.set' (by omega) _ _)
      have Y1 : Hid (Bx Y (w.heap.size + 1) (cv c q (gvD s (b + 34) 0)) 31) := Lib.hid (by
        have := X1.set 9 (.int .i64 q)
        rw [hY, cv_set9] at this
        rw [gvD_zero]; exact this)
      have bY : Below w.heap.size w Y := hY ▸ bX.trans (low_setCell _ _ (by omega))
      clear C0 C1 U0 U1 U2 T0 T1 T2 X0 X1
      go_wp2_with fail
      refine (rGet_is HM.out HG1 _).mono ?_
      rintro e w' ⟨rfl, rfl⟩
      go_wp2
      rw [HE34.out]
      clear pu rt lt th x9 f9 hU hT hX hY aU bU bT bX
      go_loopw [11, 45] (fun at_ j wr => ∃ (k : Nat), k ≤ cl n ∧ j = .int .i64 k ∧ at_ = .int .i64 ((b : Int) + 34 + 2 * (k : Nat)) ∧ b + 34 + 2 * k ≤ s.size ∧ Bx wr w.heap.size (cv Cm.zeroF 0 Ve.zeroV) 31 ∧ Bx wr (w.heap.size + 1) (cv c q (gvD s (b + 34) k)) 31 ∧ Below w.heap.size w wr) (fun _ j _ => 7 - (intOf j).toNat)
      case atStart => exact ⟨0, Nat.zero_le _, rfl, rfl, h34, Y0.out, Y1.out, bY⟩
      case round =>
        obtain ⟨k, hk, rfl, rfl, hks, b0, b1, hb⟩ := hrel
        have hk7 := cl_le n
        clear Y0 Y1 bY
        by_cases hlt : k < cl n
        · have hlt2 : (k : Int) < M := (HMl.out k hk).2 hlt
          have hk8 : k < 7 := by omega
          have hk9 : (k : Int) < 7 := by omega
          by_cases hin : b + 34 + 2 * k + 2 ≤ s.size
          · obtain ⟨z, hz⟩ : ∃ z : Nat, dec s (b + 34 + 2 * k) 2 = z := ⟨_, rfl⟩
            have HGk : Hid (getV s ((b : Int) + 34 + 2 * (k : Nat)) 2 = .tuple #[.int .i64 z, .int .i64 0]) := Lib.hid (by rw [show (b : Int) + 34 + 2 * (k : Nat) = ((b + 34 + 2 * k : Nat) : Int) by omega, ← hz]; exact get_w (k := 2) hin (by decide))
            obtain ⟨X, hX⟩ : ∃ Q_ : World, wr.setCell ⟨w.heap.size + 1, 10 + k, none⟩ (.int .i64 z) = Q_ := ⟨_, rfl⟩
            have X0 : Hid (Bx X w.heap.size (cv Cm.zeroF 0 Ve.zeroV) 31) := Lib.hid (hX ▸ b0.set' (by omega) _ _)
            have X1 : Hid (Bx X (w.heap.size + 1) (cv c q (gvD s (b + 34) (k + 1))) 31) := Lib.hid (by
              have := b1.set (10 + k) (.int .i64 z)
              rw [hX, cv_setD _ _ _ _ _ hk8, ← hz, gvD_succ] at this
              exact this)
            have bX : Below w.heap.size w X := hX ▸ hb.trans (low_setCell _ _ (by omega))
            have hcl : wr.cell? ⟨w.heap.size + 1, 10 + k, none⟩ = some (.int .i64 (gvD s (b + 34) k k)) := by rw [b1.cell, dep_at _ _ _ _ hk8]
            have hfz : wr.frozen? ⟨w.heap.size + 1, 10 + k, none⟩ = false := b1.thawed _
            have e36 : (b : Int) + 34 + 2 * ((k + 1 : Nat) : Int) = (b : Int) + 34 + 2 * (k : Nat) + 2 := by omega
            have HE36 := Lib.hid e36
            clear b0 b1 e36 hz
            go_wp2_with fail
            refine (rGet_is HM.out HGk _).mono ?_
            rintro e w' ⟨rfl, rfl⟩
            go_wp2
            go_roundw
            case rel => first | exact ⟨k + 1, by omega, by go_num, by rw [HE36.out], by omega, X0.out, X1.out, bX⟩ | ((repeat apply Exists.intro); exact ⟨⟨k + 1, by omega, by go_num, by rw [HE36.out], by omega, X0.out, X1.out, bX⟩, rfl⟩)
            case measure => simp [intOf]; omega
          · have HGk : Hid (getV s ((b : Int) + 34 + 2 * (k : Nat)) 2 = .tuple #[.int .i64 0, .int .i64 2]) := Lib.hid (by rw [show (b : Int) + 34 + 2 * (k : Nat) = ((b + 34 + 2 * k : Nat) : Int) by omega]; exact get_no (k := 2) hks (by omega) (by decide))
            have hsh : s.size < b + 34 + 2 * cl n := by omega
            have HE := Lib.hid (gv_bad (gvE_short (n := n) HR.out.2.2 hsh) (by decide))
            clear hsh
            obtain ⟨Y, hY⟩ : ∃ Q_ : World, wr.setRow w.heap.size (cv Cm.zeroF 0 Ve.zeroV) = Q_ := ⟨_, rfl⟩
            have Y0 : Bx Y w.heap.size (cv Cm.zeroF 0 Ve.zeroV) 31 := hY ▸ b0.put _
            have bY : Below w.heap.size w Y := hY ▸ hb.trans (low_setRow _ (by omega))
            have px := b0.plain (n := 17) rfl
            have y0 := Y0.row
            clear b0 b1 Y0
            go_wp2_with fail
            refine (rGet_is HM.out HGk _).mono ?_
            rintro e w' ⟨rfl, rfl⟩
            go_wp2
            exact bodyPost_ret (v := .tuple #[.agg (cv Cm.zeroF 0 Ve.zeroV), .int .i64 0, .int .i64 2]) (ret_V3 Tryd.results17 _ _ Cm.zeroF 0 Ve.zeroV (by simp [go_sem, y0])) rfl ⟨by rw [HE.out], bY⟩
        · obtain rfl : k = cl n := by omega
          have hlt2 : ¬ ((cl n : Nat) : Int) < M := fun h => hlt ((HMl.out _ hk).1 h)
          obtain ⟨K, hK⟩ : ∃ K, cl n = K := ⟨_, rfl⟩
          obtain ⟨d, hd⟩ : ∃ d, gvD s (b + 34) (cl n) = d := ⟨_, rfl⟩
          rw [hd] at b1
          cases ho : okV c q d n
          · have HE : Hid (gvT s b n = .tuple #[.agg (cv Cm.zeroF 0 Ve.zeroV), .int .i64 0, .int .i64 3]) := Lib.hid (gv_bad (gvE_no HR.out.2.2 hks (by rw [HR.out.1, HQ.out, hd]; exact ho)) (by decide))
            have HO := Lib.hid ho
            have r1 := b1.row
            have l1 := b1.lt
            have HB0' := Lib.hid b0
            clear ho hd b0 b1 HB0 HB1
            have hlt3 : decide ((K : Int) < M) = false := by rw [← hK]; exact decide_eq_false hlt2
            rw [hK] at *
            clear hK
            go_wp2_with fail
            refine (rValue_is HO _).mono ?_
            rintro e w2 ⟨rfl, hb2⟩
            have W0 := HB0'.out.stays hb2
            have bW : Below w.heap.size w w2 := nx hb hb2
            obtain ⟨Y, hY⟩ : ∃ Q_ : World, w2.setRow w.heap.size (cv Cm.zeroF 0 Ve.zeroV) = Q_ := ⟨_, rfl⟩
            have Y0 : Bx Y w.heap.size (cv Cm.zeroF 0 Ve.zeroV) 31 := hY ▸ W0.put _
            have bY : Below w.heap.size w Y := hY ▸ bW.trans (low_setRow _ (by omega))
            have px := W0.plain (n := 17) rfl
            have y0 := Y0.row
            clear W0 Y0 r1 l1
            go_wp2
            exact bodyPost_ret (v := .tuple #[.agg (cv Cm.zeroF 0 Ve.zeroV), .int .i64 0, .int .i64 3]) (ret_V3 Tryd.results17 _ _ Cm.zeroF 0 Ve.zeroV (by simp [go_sem, y0])) rfl ⟨by rw [HE.out], bY⟩
          · have HE : Hid (gvT s b n = .tuple #[.agg (cv c q d), .int .i64 ((b : Int) + 34 + 2 * (cl n : Nat)), .int .i64 0]) := Lib.hid (by
              have := gv_yes (n := n) HR.out.2.2 hks (by rw [HR.out.1, HQ.out, hd]; exact ho)
              rw [HR.out.1, HQ.out, hd] at this; exact this)
            have HO := Lib.hid ho
            have r1 := b1.row
            have l1 := b1.lt
            have HB0' := Lib.hid b0
            have HB1' := Lib.hid b1
            clear ho hd b0 b1 HB0 HB1
            have hlt3 : decide ((K : Int) < M) = false := by rw [← hK]; exact decide_eq_false hlt2
            rw [hK] at *
            clear hK
            go_wp2_with fail
            refine (rValue_is HO _).mono ?_
            rintro e w2 ⟨rfl, hb2⟩
            clear r1 l1
            have W0 := HB0'.out.stays hb2
            have W1 := HB1'.out.stays hb2
            have bW : Below w.heap.size w w2 := nx hb hb2
            obtain ⟨Y, hY⟩ : ∃ Q_ : World, w2.setRow w.heap.size (cv c q d) = Q_ := ⟨_, rfl⟩
            have Y0 : Bx Y w.heap.size (cv c q d) 31 := hY ▸ W0.put _
            have bY : Below w.heap.size w Y := hY ▸ bW.trans (low_setRow _ (by omega))
            have px := W0.plain (n := 17) rfl
            have r1 := W1.row
            have y0 := Y0.row
            clear W0 W1 Y0
            go_wp2
            exact bodyPost_ret (v := .tuple #[.agg (cv c q d), .int .i64 ((b : Int) + 34 + 2 * (K : Nat)), .int .i64 0]) (ret_V3 Tryd.results17 _ _ c q d (by simp [go_sem, y0])) rfl ⟨by rw [HE.out], bY⟩
    · have HG1 : Hid (getV s (b + 30 : Nat) (4 : Nat) = .tuple #[.int .i64 0, .int .i64 2]) := Lib.hid (get_no (by omega) (by omega) (by decide))
      have HE := Lib.hid (gv_bad (gvE_short (n := n) HR.out.2.2 (by omega)) (by decide))
      go_enter Tryd.func17, Tryd.ntmps17
      go_wp2_with fail
      refine (rRead_is HR HS _).mono ?_
      rintro e w1 ⟨rfl, hb1⟩
      have C0 := HB0.out.stays hb1
      have C1 := HB1.out.stays hb1
      have hlt1 : w.heap.size + 1 < w1.heap.size := C1.lt
      obtain ⟨U, hU⟩ : ∃ Q_ : World, w1.alloc (.cells (Cm.fc Cm.zeroF) 27) = Q_ := ⟨_, rfl⟩
      have aU : Below w1.heap.size w1 U := hU ▸ below1 _ _
      have U2 : Bx U w1.heap.size (Cm.fc Cm.zeroF) 27 := hU ▸ Bx.new _ _ _
      have U0 := C0.stays aU
      have U1 := C1.stays aU
      have bU := nx bV (nx hb1 aU)
      have pu := U2.plain (n := 9) (Cm.fc_size _)
      obtain ⟨T, hT⟩ : ∃ Q_ : World, U.setRow w1.heap.size (Cm.fc c) = Q_ := ⟨_, rfl⟩
      have T0 : Bx T w.heap.size (cv Cm.zeroF 0 Ve.zeroV) 31 := hT ▸ U0.put' (by omega) _
      have T1 : Bx T (w.heap.size + 1) (cv Cm.zeroF 0 Ve.zeroV) 31 := hT ▸ U1.put' (by omega) _
      have bT : Below w.heap.size w T := hT ▸ bU.trans (low_setRow _ (by omega))
      have rt := T1.row
      have pt := T0.plain (n := 17) rfl
      have lt := T1.lt
      obtain ⟨Y, hY⟩ : ∃ Q_ : World, T.setRow w.heap.size (cv Cm.zeroF 0 Ve.zeroV) = Q_ := ⟨_, rfl⟩
      have Y0 : Bx Y w.heap.size (cv Cm.zeroF 0 Ve.zeroV) 31 := hY ▸ T0.put _
      have bY : Below w.heap.size w Y := hY ▸ bT.trans (low_setRow _ (by omega))
      have y0 := Y0.row
      clear C0 C1 U0 U1 U2 T0 T1 Y0
      go_wp2_with fail
      refine (rGet_is HM.out HG1 _).mono ?_
      rintro e w' ⟨rfl, rfl⟩
      go_wp2
      exact bodyPost_ret (v := .tuple #[.agg (cv Cm.zeroF 0 Ve.zeroV), .int .i64 0, .int .i64 2]) (ret_V3 Tryd.results17 _ _ Cm.zeroF 0 Ve.zeroV (by simp [go_sem, y0])) rfl ⟨by rw [HE.out], bY⟩
  · have HE := Lib.hid (gv_bad (n := n) ((gvE_rd (by rw [HR.out.2.2]; exact h0)).trans HR.out.2.2) h0)
    have hy1 : (y != 0) = true := by simpa using h0
    clear h0
    go_enter Tryd.func17, Tryd.ntmps17
    go_wp2_with fail
    refine (rRead_is HR HS _).mono ?_
    rintro e w1 ⟨rfl, hb1⟩
    have C0 := HB0.out.stays hb1
    have C1 := HB1.out.stays hb1
    have hlt1 : w.heap.size + 1 < w1.heap.size := C1.lt
    obtain ⟨U, hU⟩ : ∃ Q_ : World, w1.alloc (.cells (Cm.fc Cm.zeroF) 27) = Q_ := ⟨_, rfl⟩
    have aU : Below w1.heap.size w1 U := hU ▸ below1 _ _
    have U2 : Bx U w1.heap.size (Cm.fc Cm.zeroF) 27 := hU ▸ Bx.new _ _ _
    have U0 := C0.stays aU
    have U1 := C1.stays aU
    have bU := nx bV (nx hb1 aU)
    have pu := U2.plain (n := 9) (Cm.fc_size _)
    obtain ⟨T, hT⟩ : ∃ Q_ : World, U.setRow w1.heap.size (Cm.fc c) = Q_ := ⟨_, rfl⟩
    have T0 : Bx T w.heap.size (cv Cm.zeroF 0 Ve.zeroV) 31 := hT ▸ U0.put' (by omega) _
    have T1 : Bx T (w.heap.size + 1) (cv Cm.zeroF 0 Ve.zeroV) 31 := hT ▸ U1.put' (by omega) _
    have bT : Below w.heap.size w T := hT ▸ bU.trans (low_setRow _ (by omega))
    have rt := T1.row
    have pt := T0.plain (n := 17) rfl
    have lt := T1.lt
    obtain ⟨Y, hY⟩ : ∃ Q_ : World, T.setRow w.heap.size (cv Cm.zeroF 0 Ve.zeroV) = Q_ := ⟨_, rfl⟩
    have Y0 : Bx Y w.heap.size (cv Cm.zeroF 0 Ve.zeroV) 31 := hY ▸ T0.put _
    have bY : Below w.heap.size w Y := hY ▸ bT.trans (low_setRow _ (by omega))
    have y0 := Y0.row
    clear C0 C1 U0 U1 U2 T0 T1 Y0
    go_wp2
    exact bodyPost_ret (v := .tuple #[.agg (cv Cm.zeroF 0 Ve.zeroV), .int .i64 0, .int .i64 y]) (ret_V3 Tryd.results17 _ _ Cm.zeroF 0 Ve.zeroV (by simp [go_sem, y0])) rfl ⟨by rw [HE.out], bY⟩
end Go.Proofs.YtngnkjbcnmcngaaDoor.Rc
