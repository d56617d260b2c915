/- Package record: GetValue. -/
import Derived.Test.YtngnkjbcnmcngaaDoorRcM
namespace Go.Proofs.YtngnkjbcnmcngaaDoor.Rc
open Go.RowKit
set_option linter.unusedVariables false
open Go.Proofs.YtngnkjbcnmcngaaDoor.Rw
open Go.Proofs.YtngnkjbcnmcngaaDoor.Bv
open Go.Proofs.YtngnkjbcnmcngaaDoor.Fx (enc enc_size putV dec getV oB wB)
open Go.Proofs.YtngnkjbcnmcngaaDoor.Cm (chkB chkE numF Tab Bld string_any row_lt getV_arg oB_nat get_is readE readC readA rdC)
/-- The value at a, with the offset behind it; zero where there is an error. -/
def gvC (s : ByteArray) (a n : Int) : Nat → Int := if gvE s a n = 0 then readC s a else Cm.zeroF
def gvQ (s : ByteArray) (a n : Int) : Int := if gvE s a n = 0 then dec s (a.toNat + 30) 4 else 0
def gvV (s : ByteArray) (a n : Int) : Nat → Int := if gvE s a n = 0 then gvD s (a.toNat + 34) (cl n) else Ve.zeroV
def gvA (s : ByteArray) (a n : Int) : Int := if gvE s a n = 0 then a + 34 + 2 * cl n else 0
abbrev gvT (s : ByteArray) (a n : Int) : Value := .tuple #[.agg (cv (gvC s a n) (gvQ s a n) (gvV s a n)), .int .i64 (gvA s a n), .int .i64 (gvE s a n)]
theorem gv_bad {s : ByteArray} {a n x : Int} (h : gvE s a n = x) (hx : x ≠ 0) : gvT s a n = .tuple #[.agg (cv Cm.zeroF 0 Ve.zeroV), .int .i64 0, .int .i64 x] := by
  unfold gvT gvC gvQ gvV gvA
  rw [h, if_neg hx, if_neg hx, if_neg hx, if_neg hx]
theorem cv_set9 (c d : Nat → Int) (q x : Int) : (cv c q d).setIfInBounds 9 (.int .i64 x) = cv c x d := rfl
theorem cv_setD (c d : Nat → Int) (q x : Int) (k : Nat) (hk : k < 7) : (cv c q d).setIfInBounds (10 + k) (.int .i64 x) = cv c q (Ve.upd d k x) := by
  match k, hk with
  | 0, _ => rfl
  | 1, _ => rfl
  | 2, _ => rfl
  | 3, _ => rfl
  | 4, _ => rfl
  | 5, _ => rfl
  | 6, _ => rfl
theorem gvD_zero (s : ByteArray) (b : Nat) : gvD s b 0 = Ve.zeroV := by funext i; simp [gvD, Ve.zeroV]
theorem gvD_succ (s : ByteArray) (b k : Nat) : Ve.upd (gvD s b k) k (dec s (b + 2 * k) 2) = gvD s b (k + 1) := by
  funext i
  unfold Ve.upd gvD
  by_cases h : i = k
  · subst h; simp
  · by_cases h2 : i < k
    · simp [h, h2, show i < k + 1 by omega]
    · simp [h, h2, show ¬ i < k + 1 by omega]
theorem get_w {s : ByteArray} {b k : Nat} (h : b + k ≤ s.size) (hk : 1 ≤ k ∧ k ≤ 7) : getV s b k = .tuple #[.int .i64 (dec s b k), .int .i64 0] := by
  unfold getV
  rw [oB_nat, show wB ((k : Nat) : Int) = true by unfold wB; simp; omega, decide_eq_true (by omega), if_pos (by rfl), if_pos (by omega), Int.toNat_natCast, Int.toNat_natCast]
theorem get_no {s : ByteArray} {b k : Nat} (h0 : b ≤ s.size) (h : s.size < b + k) (hk : 1 ≤ k ∧ k ≤ 7) : getV s b k = .tuple #[.int .i64 0, .int .i64 2] := by
  unfold getV
  rw [oB_nat, show wB ((k : Nat) : Int) = true by unfold wB; simp; omega, decide_eq_true h0, if_pos (by rfl), if_neg (by omega)]
theorem cl_le (n : Int) : cl n ≤ 7 := by unfold cl; split <;> (try split) <;> omega
/-- What a command's reading says. -/
theorem rd_ok {s : ByteArray} {a : Int} (h : readE s a = 0) : ∃ b : Nat, a = b ∧ b + 30 ≤ s.size ∧ readA s a = (b + 30 : Nat) := by
  obtain ⟨b, rfl, hb, _⟩ := Cm.write_rd h
  exact ⟨b, rfl, hb, by unfold readA; rw [if_pos h]; omega⟩
theorem gvE_rd {s : ByteArray} {a n : Int} (h : readE s a ≠ 0) : gvE s a n = readE s a := by unfold gvE; rw [if_neg h]
theorem gvE_short {s : ByteArray} {b : Nat} {n : Int} (h : readE s b = 0) (hs : s.size < b + 34 + 2 * cl n) : gvE s b n = 2 := by
  unfold gvE; rw [if_pos h, Int.toNat_natCast, if_pos hs]
theorem gvE_no {s : ByteArray} {b : Nat} {n : Int} (h : readE s b = 0) (hs : b + 34 + 2 * cl n ≤ s.size) (ho : okV (readC s b) (dec s (b + 30) 4) (gvD s (b + 34) (cl n)) n = false) : gvE s b n = 3 := by
  unfold gvE; rw [if_pos h, Int.toNat_natCast, if_neg (by omega), ho]; rfl
theorem gv_yes {s : ByteArray} {b : Nat} {n : Int} (h : readE s b = 0) (hs : b + 34 + 2 * cl n ≤ s.size) (ho : okV (readC s b) (dec s (b + 30) 4) (gvD s (b + 34) (cl n)) n = true) : gvT s b n = .tuple #[.agg (cv (readC s b) (dec s (b + 30) 4) (gvD s (b + 34) (cl n))), .int .i64 ((b : Int) + 34 + 2 * (cl n : Nat)), .int .i64 0] := by
  have e : gvE s b n = 0 := by unfold gvE; rw [if_pos h, Int.toNat_natCast, if_neg (by omega), ho]; rfl
  unfold gvT gvC gvQ gvV gvA
  rw [e, if_pos rfl, if_pos rfl, if_pos rfl, if_pos rfl, Int.toNat_natCast]
theorem read_is {s : ByteArray} {a : Int} {c : Nat → Int} {x y : Int} (H : Hid (readC s a = c ∧ readA s a = x ∧ readE s a = y)) (hs : Hid (s.size ≤ 1000000)) (w : World) (ht : Tab w) :
    Calls Tryd.prog 38 #[.string s, .int .i64 a] w fun e w' => e = .returned (.tuple #[.agg (Cm.fc c), .int .i64 x, .int .i64 y]) ∧ Below w.heap.size w w' := by
  obtain ⟨rfl, rfl, rfl⟩ := H.out
  exact Cm.read_any s a (Nat.le_trans hs.out (by decide)) w ht
theorem ret_y (a b : Int) (e : a = b) (v : Value) (y : Int) : Ending.returned (.tuple #[v, .int .i64 a, .int .i64 y]) = .returned (.tuple #[v, .int .i64 b, .int .i64 y]) := by rw [e]
set_option maxRecDepth 8000 in
set_option maxHeartbeats 8000000 in
theorem getValue_any (s : ByteArray) (a n : Int) (hs : s.size ≤ 1000000) (w : World) (ht : Tab w) :
    Calls Tryd.prog 16 #[.string s, .int .i64 a, .int .i64 n] w fun e w' => e = .returned (gvT s a n) ∧ Below w.heap.size w w' := by
  have HS := Lib.hid hs
  have HM : Hid (s.size ≤ maxLen) := Lib.hid (Nat.le_trans hs (by decide))
  obtain ⟨V, hV⟩ : ∃ Q_ : World, w.alloc (.cells (cv Cm.zeroF 0 Ve.zeroV) 31) = Q_ := ⟨_, rfl⟩
  have bV : Below w.heap.size w V := hV ▸ below1 _ _
  have B0 : Bx V w.heap.size (cv Cm.zeroF 0 Ve.zeroV) 31 := hV ▸ Bx.new _ _ _
  have HT := Lib.hid (ht.below bV)
  have HB0 := Lib.hid B0
  obtain ⟨c, hc⟩ : ∃ x, readC s a = x := ⟨_, rfl⟩
  obtain ⟨x, hx⟩ : ∃ x, readA s a = x := ⟨_, rfl⟩
  obtain ⟨y, hy⟩ : ∃ x, readE s a = x := ⟨_, rfl⟩
  have HR := Lib.hid (⟨hc, hx, hy⟩ : readC s a = c ∧ readA s a = x ∧ readE s a = y)
  clear ht B0 hc hx hy
  by_cases h0 : y = 0
  · subst h0
    obtain ⟨b, hab, hb30, hbx⟩ := rd_ok HR.out.2.2
    obtain rfl : x = (b + 30 : Nat) := HR.out.2.1.symm.trans hbx
    subst hab
    clear hbx
    have hb0 : b ≤ 1000000 := by omega
    by_cases h34 : b + 34 ≤ s.size
    · obtain ⟨M, hM⟩ : ∃ M : Int, min n 7 = M := ⟨_, rfl⟩
      have hMl : ∀ k : Nat, k ≤ cl n → ((k : Int) < M ↔ k < cl n) := fun k hk => by
        unfold cl at hk ⊢
        by_cases h1 : n < 0
        · simp only [if_pos h1] at hk ⊢
          omega
        · by_cases h2 : 7 < n
          · simp only [if_neg h1, if_pos h2]; omega
          · simp only [if_neg h1, if_neg h2]; omega
      have HMl := Lib.hid hMl
      have hm7 : M ≤ 7 := by omega
      obtain ⟨q, hq⟩ : ∃ q : Nat, dec s (b + 30) 4 = q := ⟨_, rfl⟩
      have HG1 : Hid (getV s (b + 30 : Nat) (4 : Nat) = .tuple #[.int .i64 q, .int .i64 0]) := Lib.hid (by rw [get_w (by omega) (by decide), hq])
      have HQ := Lib.hid hq
      have e34 : (b : Int) + 30 + 4 = (b : Int) + 34 + 2 * (0 : Nat) := by omega
      have HE34 := Lib.hid e34
      clear hMl hq e34
      go_enter Tryd.func16, Tryd.ntmps16
      go_wp2_with fail
      refine (read_is HR HS _ HT.out).mono ?_
      rintro e w1 ⟨rfl, hb1⟩
      have C0 := HB0.out.stays hb1
      obtain ⟨U, hU⟩ : ∃ Q_ : World, (w1.alloc (.cells (Cm.fc c) 27)).alloc (.cells (cv c q Ve.zeroV) 31) = Q_ := ⟨_, rfl⟩
      have bU : Below w1.heap.size w1 U := hU ▸ below2 _ _ _
      have U0 := Lib.hid (C0.stays bU)
      have U1 : Hid (Bx U (w1.heap.size + 1) (cv c q (gvD s (b + 34) 0)) 31) := Lib.hid (by rw [gvD_zero]; exact hU ▸ Bx.at (by simp) _ _)
      have hlt1 : w.heap.size < w1.heap.size := C0.lt
      have HU := Lib.hid hU
      have bWU := nx bV (nx hb1 bU)
      clear C0 hU
      go_wp2_with fail
      refine (get_is HM.out HG1 _).mono ?_
      rintro e w' ⟨rfl, rfl⟩
      go_wp2
      rw [cv_set9, HU.out, HE34.out]
      clear HU bU
      go_loopw [1, 41] (fun at_ j wr => ∃ (k : Nat), k ≤ cl n ∧ j = .int .i64 k ∧ at_ = .int .i64 ((b : Int) + 34 + 2 * (k : Nat)) ∧ b + 34 + 2 * k ≤ s.size ∧ Bx wr w.heap.size (cv Cm.zeroF 0 Ve.zeroV) 31 ∧ Bx wr (w1.heap.size + 1) (cv c q (gvD s (b + 34) k)) 31 ∧ Below w.heap.size w wr) (fun _ j _ => 7 - (intOf j).toNat)
      case atStart => exact ⟨0, Nat.zero_le _, rfl, rfl, h34, U0.out, U1.out, bWU⟩
      case round =>
        obtain ⟨k, hk, rfl, rfl, hks, b0, b1, hb⟩ := hrel
        have hk7 := cl_le n
        clear U0 U1 bWU
        by_cases hlt : k < cl n
        · have hlt2 : (k : Int) < M := (HMl.out k hk).2 hlt
          have hk8 : k < 7 := by omega
          have hk9 : (k : Int) < 7 := by omega
          by_cases hin : b + 34 + 2 * k + 2 ≤ s.size
          · obtain ⟨z, hz⟩ : ∃ z : Nat, dec s (b + 34 + 2 * k) 2 = z := ⟨_, rfl⟩
            have HGk : Hid (getV s ((b : Int) + 34 + 2 * (k : Nat)) 2 = .tuple #[.int .i64 z, .int .i64 0]) := Lib.hid (by rw [show (b : Int) + 34 + 2 * (k : Nat) = ((b + 34 + 2 * k : Nat) : Int) by omega, ← hz]; exact get_w (k := 2) hin (by decide))
            obtain ⟨X, hX⟩ : ∃ Q_ : World, wr.setCell ⟨w1.heap.size + 1, 10 + k, none⟩ (.int .i64 z) = Q_ := ⟨_, rfl⟩
            have X0 : Hid (Bx X w.heap.size (cv Cm.zeroF 0 Ve.zeroV) 31) := Lib.hid (hX ▸ b0.set' (by omega) _ _)
            have X1 : Hid (Bx X (w1.heap.size + 1) (cv c q (gvD s (b + 34) (k + 1))) 31) := Lib.hid (by
              have := b1.set (10 + k) (.int .i64 z)
              rw [hX, cv_setD _ _ _ _ _ hk8, ← hz, gvD_succ] at this
              exact this)
            have bX : Below w.heap.size w X := hX ▸ hb.trans (low_setCell _ _ (by omega))
            have hcl : wr.cell? ⟨w1.heap.size + 1, 10 + k, none⟩ = some (.int .i64 (gvD s (b + 34) k k)) := by rw [b1.cell, dep_at _ _ _ _ hk8]
            have hfz : wr.frozen? ⟨w1.heap.size + 1, 10 + k, none⟩ = false := b1.thawed _
            have e36 : (b : Int) + 34 + 2 * ((k + 1 : Nat) : Int) = (b : Int) + 34 + 2 * (k : Nat) + 2 := by omega
            have HE36 := Lib.hid e36
            clear b0 b1 e36 hz
            go_wp2_with fail
            refine (get_is HM.out HGk _).mono ?_
            rintro e w' ⟨rfl, rfl⟩
            go_wp2
            go_roundw
            case rel => first | exact ⟨k + 1, by omega, by go_num, by rw [HE36.out], by omega, X0.out, X1.out, bX⟩ | ((repeat apply Exists.intro); exact ⟨⟨k + 1, by omega, by go_num, by rw [HE36.out], by omega, X0.out, X1.out, bX⟩, rfl⟩)
            case measure => simp [intOf]; omega
          · have HGk : Hid (getV s ((b : Int) + 34 + 2 * (k : Nat)) 2 = .tuple #[.int .i64 0, .int .i64 2]) := Lib.hid (by rw [show (b : Int) + 34 + 2 * (k : Nat) = ((b + 34 + 2 * k : Nat) : Int) by omega]; exact get_no (k := 2) hks (by omega) (by decide))
            have hsh : s.size < b + 34 + 2 * cl n := by omega
            have HE := Lib.hid (gv_bad (gvE_short (n := n) HR.out.2.2 hsh) (by decide))
            clear hsh
            obtain ⟨X, hX⟩ : ∃ Q_ : World, wr.setCell ⟨w1.heap.size + 1, 10 + k, none⟩ (.int .i64 0) = Q_ := ⟨_, rfl⟩
            have X0 : Bx X w.heap.size (cv Cm.zeroF 0 Ve.zeroV) 31 := hX ▸ b0.set' (by omega) _ _
            have bX : Below w.heap.size w X := hX ▸ hb.trans (low_setCell _ _ (by omega))
            have hcl : wr.cell? ⟨w1.heap.size + 1, 10 + k, none⟩ = some (.int .i64 (gvD s (b + 34) k k)) := by rw [b1.cell, dep_at _ _ _ _ hk8]
            have hfz : wr.frozen? ⟨w1.heap.size + 1, 10 + k, none⟩ = false := b1.thawed _
            obtain ⟨Y, hY⟩ : ∃ Q_ : World, X.setRow w.heap.size (cv Cm.zeroF 0 Ve.zeroV) = Q_ := ⟨_, rfl⟩
            have Y0 : Bx Y w.heap.size (cv Cm.zeroF 0 Ve.zeroV) 31 := hY ▸ X0.put _
            have bY : Below w.heap.size w Y := hY ▸ bX.trans (low_setRow _ (by omega))
            have px := X0.plain (n := 17) rfl
            have y0 := Y0.row
            clear b0 b1 X0 Y0
            go_wp2_with fail
            refine (get_is HM.out HGk _).mono ?_
            rintro e w' ⟨rfl, rfl⟩
            go_wp2
            exact bodyPost_ret (v := .tuple #[.agg (cv Cm.zeroF 0 Ve.zeroV), .int .i64 0, .int .i64 2]) (ret_V3 Tryd.results16 _ _ Cm.zeroF 0 Ve.zeroV (by simp [go_sem, y0])) rfl ⟨by rw [HE.out], bY⟩
        · obtain rfl : k = cl n := by omega
          have hlt2 : ¬ ((cl n : Nat) : Int) < M := fun h => hlt ((HMl.out _ hk).1 h)
          obtain ⟨K, hK⟩ : ∃ K, cl n = K := ⟨_, rfl⟩
          obtain ⟨d, hd⟩ : ∃ d, gvD s (b + 34) (cl n) = d := ⟨_, rfl⟩
          rw [hd] at b1
          cases ho : okV c q d n
          · have HE : Hid (gvT s b n = .tuple #[.agg (cv Cm.zeroF 0 Ve.zeroV), .int .i64 0, .int .i64 3]) := Lib.hid (gv_bad (gvE_no HR.out.2.2 hks (by rw [HR.out.1, HQ.out, hd]; exact ho)) (by decide))
            have HO := Lib.hid ho
            have r1 := b1.row
            have l1 := b1.lt
            have HB0' := Lib.hid b0
            clear ho hd b0 b1 HB0
            have hlt3 : decide ((K : Int) < M) = false := by rw [← hK]; exact decide_eq_false hlt2
            rw [hK] at *
            clear hK
            go_wp2_with fail
            refine (isValue_is HO _).mono ?_
            rintro e w2 ⟨rfl, hb2⟩
            have W0 := HB0'.out.stays hb2
            have bW : Below w.heap.size w w2 := nx hb hb2
            obtain ⟨Y, hY⟩ : ∃ Q_ : World, w2.setRow w.heap.size (cv Cm.zeroF 0 Ve.zeroV) = Q_ := ⟨_, rfl⟩
            have Y0 : Bx Y w.heap.size (cv Cm.zeroF 0 Ve.zeroV) 31 := hY ▸ W0.put _
            have bY : Below w.heap.size w Y := hY ▸ bW.trans (low_setRow _ (by omega))
            have px := W0.plain (n := 17) rfl
            have y0 := Y0.row
            clear W0 Y0 r1 l1
            go_wp2
            exact bodyPost_ret (v := .tuple #[.agg (cv Cm.zeroF 0 Ve.zeroV), .int .i64 0, .int .i64 3]) (ret_V3 Tryd.results16 _ _ Cm.zeroF 0 Ve.zeroV (by simp [go_sem, y0])) rfl ⟨by rw [HE.out], bY⟩
          · have HE : Hid (gvT s b n = .tuple #[.agg (cv c q d), .int .i64 ((b : Int) + 34 + 2 * (cl n : Nat)), .int .i64 0]) := Lib.hid (by
              have := gv_yes (n := n) HR.out.2.2 hks (by rw [HR.out.1, HQ.out, hd]; exact ho)
              rw [HR.out.1, HQ.out, hd] at this; exact this)
            have HO := Lib.hid ho
            have r1 := b1.row
            have l1 := b1.lt
            have HB0' := Lib.hid b0
            have HB1' := Lib.hid b1
            clear ho hd b0 b1 HB0
            have hlt3 : decide ((K : Int) < M) = false := by rw [← hK]; exact decide_eq_false hlt2
            rw [hK] at *
            clear hK
            go_wp2_with fail
            refine (isValue_is HO _).mono ?_
            rintro e w2 ⟨rfl, hb2⟩
            clear r1 l1
            have W0 := HB0'.out.stays hb2
            have W1 := HB1'.out.stays hb2
            have bW : Below w.heap.size w w2 := nx hb hb2
            obtain ⟨Y, hY⟩ : ∃ Q_ : World, w2.setRow w.heap.size (cv c q d) = Q_ := ⟨_, rfl⟩
            have Y0 : Bx Y w.heap.size (cv c q d) 31 := hY ▸ W0.put _
            have bY : Below w.heap.size w Y := hY ▸ bW.trans (low_setRow _ (by omega))
            have px := W0.plain (n := 17) rfl
            have r1 := W1.row
            have y0 := Y0.row
            clear W0 W1 Y0
            go_wp2
            exact bodyPost_ret (v := .tuple #[.agg (cv c q d), .int .i64 ((b : Int) + 34 + 2 * (K : Nat)), .int .i64 0]) (ret_V3 Tryd.results16 _ _ c q d (by simp [go_sem, y0])) rfl ⟨by rw [HE.out], bY⟩
    · have HG1 : Hid (getV s (b + 30 : Nat) (4 : Nat) = .tuple #[.int .i64 0, .int .i64 2]) := Lib.hid (get_no (by omega) (by omega) (by decide))
      have HE := Lib.hid (gv_bad (gvE_short (n := n) HR.out.2.2 (by omega)) (by decide))
      go_enter Tryd.func16, Tryd.ntmps16
      go_wp2_with fail
      refine (read_is HR HS _ HT.out).mono ?_
      rintro e w1 ⟨rfl, hb1⟩
      have C0 := HB0.out.stays hb1
      obtain ⟨U, hU⟩ : ∃ Q_ : World, (w1.alloc (.cells (Cm.fc c) 27)).alloc (.cells (cv c 0 Ve.zeroV) 31) = Q_ := ⟨_, rfl⟩
      have bU : Below w1.heap.size w1 U := hU ▸ below2 _ _ _
      have U0 := C0.stays bU
      have hlt1 : w.heap.size < w1.heap.size := C0.lt
      have bWU := nx bV (nx hb1 bU)
      have U1 : Bx U (w1.heap.size + 1) (cv c 0 Ve.zeroV) 31 := hU ▸ Bx.at (by simp) _ _
      obtain ⟨X, hX⟩ : ∃ Q_ : World, U.setCell ⟨w1.heap.size + 1, 9, none⟩ (.int .i64 0) = Q_ := ⟨_, rfl⟩
      have X0 : Bx X w.heap.size (cv Cm.zeroF 0 Ve.zeroV) 31 := hX ▸ U0.set' (by omega) _ _
      have bX : Below w.heap.size w X := hX ▸ bWU.trans (low_setCell _ _ (by omega))
      obtain ⟨Y, hY⟩ : ∃ Q_ : World, X.setRow w.heap.size (cv Cm.zeroF 0 Ve.zeroV) = Q_ := ⟨_, rfl⟩
      have Y0 : Bx Y w.heap.size (cv Cm.zeroF 0 Ve.zeroV) 31 := hY ▸ X0.put _
      have bY : Below w.heap.size w Y := hY ▸ bX.trans (low_setRow _ (by omega))
      have u9 : U.cell? ⟨w1.heap.size + 1, 9, none⟩ = some (.int .i64 0) := U1.cell 9
      have f9 : U.frozen? ⟨w1.heap.size + 1, 9, none⟩ = false := U1.thawed 9
      have px := X0.plain (n := 17) rfl
      have y0 := Y0.row
      have HU := Lib.hid hU
      clear C0 U0 U1 X0 Y0 hU
      go_wp2_with fail
      rw [HU.out]
      refine (get_is HM.out HG1 _).mono ?_
      rintro e w' ⟨rfl, rfl⟩
      go_wp2
      exact bodyPost_ret (v := .tuple #[.agg (cv Cm.zeroF 0 Ve.zeroV), .int .i64 0, .int .i64 2]) (ret_V3 Tryd.results16 _ _ Cm.zeroF 0 Ve.zeroV (by simp [go_sem, y0])) rfl ⟨by rw [HE.out], bY⟩
  · have HE := Lib.hid (gv_bad (n := n) ((gvE_rd (by rw [HR.out.2.2]; exact h0)).trans HR.out.2.2) h0)
    have hy1 : (y != 0) = true := by simpa using h0
    clear h0
    go_enter Tryd.func16, Tryd.ntmps16
    go_wp2_with fail
    refine (read_is HR HS _ HT.out).mono ?_
    rintro e w1 ⟨rfl, hb1⟩
    have C0 := HB0.out.stays hb1
    obtain ⟨U, hU⟩ : ∃ Q_ : World, w1.alloc (.cells (Cm.fc Cm.zeroF) 27) = Q_ := ⟨_, rfl⟩
    have bU : Below w1.heap.size w1 U := hU ▸ below1 _ _
    have U0 := C0.stays bU
    have hlt1 : w.heap.size < w1.heap.size := C0.lt
    have bWU := nx bV (nx hb1 bU)
    have U1 : Bx U w1.heap.size (Cm.fc Cm.zeroF) 27 := hU ▸ Bx.new _ _ _
    obtain ⟨X, hX⟩ : ∃ Q_ : World, U.setRow w1.heap.size (Cm.fc c) = Q_ := ⟨_, rfl⟩
    have X0 : Bx X w.heap.size (cv Cm.zeroF 0 Ve.zeroV) 31 := hX ▸ U0.put' (by omega) _
    have bX : Below w.heap.size w X := hX ▸ bWU.trans (low_setRow _ (by omega))
    obtain ⟨Y, hY⟩ : ∃ Q_ : World, X.setRow w.heap.size (cv Cm.zeroF 0 Ve.zeroV) = Q_ := ⟨_, rfl⟩
    have Y0 : Bx Y w.heap.size (cv Cm.zeroF 0 Ve.zeroV) 31 := hY ▸ X0.put _
    have bY : Below w.heap.size w Y := hY ▸ bX.trans (low_setRow _ (by omega))
    have pu := U1.plain (n := 9) (Cm.fc_size _)
    have px := X0.plain (n := 17) rfl
    have y0 := Y0.row
    clear C0 U0 U1 X0 Y0
    go_wp2
    exact bodyPost_ret (v := .tuple #[.agg (cv Cm.zeroF 0 Ve.zeroV), .int .i64 0, .int .i64 y]) (ret_V3 Tryd.results16 _ _ Cm.zeroF 0 Ve.zeroV (by simp [go_sem, y0])) rfl ⟨by rw [HE.out], bY⟩
end Go.Proofs.YtngnkjbcnmcngaaDoor.Rc
