/- Package record: Read. -/
import Derived.Test.YtngnkjbcnmcngaaDoorRcN
namespace Go.Proofs.YtngnkjbcnmcngaaDoor.Rc
open Go.RowKit
set_option linter.unusedVariables false
open Go.Proofs.YtngnkjbcnmcngaaDoor.Rw
open Go.Proofs.YtngnkjbcnmcngaaDoor.Bv
open Go.Proofs.YtngnkjbcnmcngaaDoor.Fx (enc enc_size putV dec getV oB wB)
open Go.Proofs.YtngnkjbcnmcngaaDoor.Cm (Tab readC readE)
section
variable (ρ : Operand → Value) (dst : Option Tmp) (ty : TypeId) (pos : String) (after : Array Edge) (guard : Option (Nat × Bool)) (w : World)
theorem storeMidV (p x : Operand) (h : thereOf w (ρ p) 17) (hs : (ρ x).cells.size = 17) (h1 : oneAll (ρ x) = true) (ha : ρ x = .agg (ρ x).cells) : (execOp ρ { dst, op := .store 31 p x, type := ty, pos, after, guard }).run Tryd.prog w = .ok .skip (putMid w (ρ p) (ρ x).cells) :=
  storeMid (by kernel_rfl) ρ dst ty pos after guard w p x h hs h1 ha
end
attribute [go_sem ↓] storeMidV
theorem cv_list (c d : Nat → Int) (q : Int) : (cv c q d).toList = [.int .i64 (c 0), .int .i64 (c 1), .int .i64 (c 2), .int .i64 (c 3), .int .i64 (c 4), .int .i64 (c 5), .int .i64 (c 6), .int .i64 (c 7), .int .i64 (c 8), .int .i64 q, .int .i64 (d 0), .int .i64 (d 1), .int .i64 (d 2), .int .i64 (d 3), .int .i64 (d 4), .int .i64 (d 5), .int .i64 (d 6)] := rfl
theorem over_val (i : Ins) (c d : Nat → Int) (q : Int) : over (ci i) 7 (cv c q d).toList = ci ⟨i.pr, i.ps, i.bn, i.br, i.tn, i.tr, i.st, c, q, d, i.sm⟩ := by
  rw [cv_list]
  simp [over, ci]
theorem str_ne {x y : ByteArray} (h : x ≠ y) : (x.toList == y.toList) = false := by
  rw [Lib.toList_data, Lib.toList_data, beq_eq_false_iff_ne]
  intro e
  exact h (ByteArray.ext (Array.ext' e))
/-- What is read. -/
def rdI (s : ByteArray) (n : Int) : Ins := if rdE s n = 0 then insAt s n else zeroI
abbrev rdT (s : ByteArray) (n : Int) : Value := .tuple #[.agg (ci (rdI s n)), .int .i64 (rdE s n)]
theorem rd_bad {s : ByteArray} {n x : Int} (h : rdE s n = x) (hx : x ≠ 0) : rdT s n = .tuple #[.agg (ci zeroI), .int .i64 x] := by
  unfold rdT rdI; rw [h, if_neg hx]
theorem rd_good {s : ByteArray} {n : Int} (h : rdE s n = 0) : rdT s n = .tuple #[.agg (ci (insAt s n)), .int .i64 0] := by
  unfold rdT rdI; rw [h, if_pos rfl]
theorem rdE_short {s : ByteArray} {n : Int} (h : s.size < 15) : rdE s n = 2 := by unfold rdE; rw [if_pos h]
theorem rdE_val {s : ByteArray} {n : Int} (h : 15 ≤ s.size) (hg : gvE s 15 n ≠ 0) : rdE s n = gvE s 15 n := by unfold rdE; rw [if_neg (by omega), if_neg hg]
theorem rdE_form {s : ByteArray} {n : Int} (h : 15 ≤ s.size) (hg : gvE s 15 n = 0) : rdE s n = if dec s 4 1 ≤ 1 ∧ s.size = 49 + 2 * cl n ∧ okI (insAt s n) n = true then 0 else 3 := by unfold rdE; rw [if_neg (by omega), if_pos hg]
/-- The instance that the numbers ahead, and the value, say. -/
theorem ofH_at (s : ByteArray) (n : Int) (h : gvE s 15 n = 0) : (⟨(ofH (rdH s)).pr, (ofH (rdH s)).ps, (ofH (rdH s)).bn, (ofH (rdH s)).br, (ofH (rdH s)).tn, (ofH (rdH s)).tr, (ofH (rdH s)).st, gvC s 15 n, gvQ s 15 n, gvV s 15 n, (ofH (rdH s)).sm⟩ : Ins) = insAt s n := by
  have e : ((rdH s 3 == 1) : Bool) = decide (dec s 4 1 = 1) := by
    show (((dec s 4 1 : Nat) : Int) == 1) = _
    rw [Bool.eq_iff_iff]; simp; omega
  unfold insAt gvC gvQ gvV ofH
  rw [h, if_pos rfl, if_pos rfl, if_pos rfl, e]
  rfl
/-- What is read is written as the same bytes, just if it is one. -/
theorem again_iff {s : ByteArray} {n : Int} (h : 15 ≤ s.size) (hg : gvE s 15 n = 0) (ho : okI (insAt s n) n = true) : rdE s n = if cat (insF (insAt s n) n.toNat) = s then 0 else 3 := by
  by_cases e : cat (insF (insAt s n) n.toNat) = s
  · rw [if_pos e, rdE_form h hg, if_pos]
    refine ⟨?_, ?_, ho⟩
    · have h3 := (ins_mid ho ByteArray.empty).2.2
      rw [ByteArray.append_empty, e] at h3
      exact h3
    · have h1 := ins_size (insAt s n) n.toNat
      rw [e] at h1
      rw [h1, cl_in (okI_iff.1 ho).1]
  · rw [if_neg e]
    by_cases e0 : rdE s n = 0
    · exact absurd (write_read e0).2.2 e
    · rw [rdE_form h hg] at e0 ⊢
      split
      · rename_i h9; rw [if_pos h9] at e0; exact absurd rfl e0
      · rfl
theorem again_no {s : ByteArray} {n : Int} (h : 15 ≤ s.size) (hg : gvE s 15 n = 0) (ho : okI (insAt s n) n = false) : rdE s n = 3 := by
  rw [rdE_form h hg, if_neg (fun k => by rw [ho] at k; exact absurd k.2.2 (by decide))]
theorem getValue_is {s : ByteArray} {a n x y q : Int} {c d : Nat → Int} (H : Hid (gvC s a n = c ∧ gvQ s a n = q ∧ gvV s a n = d ∧ gvA s a n = x ∧ gvE s a n = y)) (hs : Hid (s.size ≤ 1000000)) (w : World) (ht : Tab w) :
    Calls Tryd.prog 16 #[.string s, .int .i64 a, .int .i64 n] w fun e w' => e = .returned (.tuple #[.agg (cv c q d), .int .i64 x, .int .i64 y]) ∧ Below w.heap.size w w' := by
  obtain ⟨rfl, rfl, rfl, rfl, rfl⟩ := H.out
  exact getValue_any s a n hs.out w ht
theorem numbers_is {s : ByteArray} {f : Nat → Int} (H : Hid (rdH s = f)) (hs : Hid (s.size ≤ maxLen)) (h : 15 ≤ s.size) (w : World) (hb : Tb w) :
    Calls Tryd.prog 36 #[.string s] w fun e w' => e = .returned (.agg (hc f)) ∧ Below w.heap.size w w' := by
  rw [← H.out]; exact numbers_any s hs.out h w hb
theorem ofHead_is {f : Nat → Int} {i : Ins} (H : Hid (ofH f = i)) (w : World) :
    Calls Tryd.prog 35 #[.agg (hc f)] w fun e w' => e = .returned (.agg (ci i)) ∧ Below w.heap.size w w' := by
  rw [← H.out]; exact ofHead_any f w
set_option maxRecDepth 8000 in
set_option maxHeartbeats 8000000 in
theorem read_any (s : ByteArray) (n : Int) (hs : s.size ≤ 1000000) (w : World) (ht : Tab w) (htb : Tb w) :
    Calls Tryd.prog 14 #[.string s, .int .i64 n] w fun e w' => e = .returned (rdT s n) ∧ Below w.heap.size w w' := by
  have HS := Lib.hid hs
  have HM : Hid (s.size ≤ maxLen) := Lib.hid (Nat.le_trans hs (by decide))
  obtain ⟨V, hV⟩ : ∃ Q_ : World, w.alloc (.cells (ci zeroI) 33) = Q_ := ⟨_, rfl⟩
  have bV : Below w.heap.size w V := hV ▸ below1 _ _
  have B0 : Bx V w.heap.size (ci zeroI) 33 := hV ▸ Bx.new _ _ _
  have HT := Lib.hid (show ∀ u, Below V.heap.size V u → Tab u from fun u hu => ht.below (nx bV hu))
  have HW := Lib.hid (show ∀ u, Below V.heap.size V u → Tb u from fun u hu => htb.below (nx bV hu))
  have HB0 := Lib.hid B0
  clear ht htb
  by_cases h15 : s.size < 15
  · have HE := Lib.hid (rd_bad (rdE_short (n := n) h15) (by decide))
    have hd : decide ((s.size : Int) < 15) = true := decide_eq_true (by omega)
    obtain ⟨X, hX⟩ : ∃ Q_ : World, V.setRow w.heap.size (ci zeroI) = Q_ := ⟨_, rfl⟩
    have X0 : Bx X w.heap.size (ci zeroI) 33 := hX ▸ B0.put _
    have bX : Below w.heap.size w X := hX ▸ bV.trans (low_setRow _ (by omega))
    have p0 := B0.plain (n := 25) rfl
    have x0 := X0.row
    clear B0 X0
    go_enter Tryd.func14, Tryd.ntmps14
    go_wp2
    exact bodyPost_ret (v := .tuple #[.agg (ci zeroI), .int .i64 2]) (ret_I2 Tryd.results14 _ _ zeroI (by simp [go_sem, x0])) rfl ⟨by rw [HE.out], bX⟩
  · have hd : decide ((s.size : Int) < 15) = false := decide_eq_false (by omega)
    have h15 : 15 ≤ s.size := by omega
    clear B0
    obtain ⟨c, hc⟩ : ∃ x, gvC s 15 n = x := ⟨_, rfl⟩
    obtain ⟨q, hq⟩ : ∃ x, gvQ s 15 n = x := ⟨_, rfl⟩
    obtain ⟨d, hdd⟩ : ∃ x, gvV s 15 n = x := ⟨_, rfl⟩
    obtain ⟨x, hx⟩ : ∃ x, gvA s 15 n = x := ⟨_, rfl⟩
    obtain ⟨y, hy⟩ : ∃ x, gvE s 15 n = x := ⟨_, rfl⟩
    have HG := Lib.hid (⟨hc, hq, hdd, hx, hy⟩ : gvC s 15 n = c ∧ gvQ s 15 n = q ∧ gvV s 15 n = d ∧ gvA s 15 n = x ∧ gvE s 15 n = y)
    clear hc hq hdd hx hy
    by_cases hy0 : y = 0
    · subst hy0
      obtain ⟨f, hf⟩ : ∃ f, rdH s = f := ⟨_, rfl⟩
      have HF := Lib.hid hf
      obtain ⟨j, hj⟩ : ∃ j, ofH f = j := ⟨_, rfl⟩
      have HJ := Lib.hid hj
      have hat := ofH_at s n HG.out.2.2.2.2
      rw [hf, hj, HG.out.1, HG.out.2.1, HG.out.2.2.1] at hat
      have HAt := Lib.hid hat
      clear hf hj hat
      obtain ⟨ws, hws⟩ : ∃ x, wrS (insAt s n) n = x := ⟨_, rfl⟩
      obtain ⟨we, hwe⟩ : ∃ x, wrE (insAt s n) n = x := ⟨_, rfl⟩
      have HWr := Lib.hid (⟨hws, hwe⟩ : wrS (insAt s n) n = ws ∧ wrE (insAt s n) n = we)
      clear hws hwe
      obtain ⟨I, hI⟩ : ∃ I, insAt s n = I := ⟨_, rfl⟩
      rw [hI] at HWr HAt
      have HI := Lib.hid hI
      clear hI
      go_enter Tryd.func14, Tryd.ntmps14
      go_wp2_with fail
      refine (getValue_is HG HS _ (HT.out _ (Below.refl _ _))).mono ?_
      rintro e w1 ⟨rfl, hb1⟩
      obtain ⟨U, hU⟩ : ∃ Q_ : World, w1.alloc (.cells (cv c q d) 31) = Q_ := ⟨_, rfl⟩
      have bU := nx hb1 (hU ▸ below1 w1 (.cells (cv c q d) 31))
      have U0 := Lib.hid (HB0.out.stays bU)
      have U1 : Hid (Bx U w1.heap.size (cv c q d) 31) := Lib.hid (hU ▸ Bx.new _ _ _)
      have hl1 : w.heap.size < w1.heap.size := (HB0.out.stays hb1).lt
      have HU := Lib.hid hU
      clear hU
      go_wp2_with fail
      rw [HU.out]
      refine (numbers_is HF HM h15 _ (HW.out _ bU)).mono ?_
      rintro e w2 ⟨rfl, hb2⟩
      go_wp2_with fail
      refine (ofHead_is HJ _).mono ?_
      rintro e w3 ⟨rfl, hb3⟩
      have b23 := nx hb2 hb3
      have b3 := nx bU b23
      have T0 := U0.out.stays b23
      have T1 := U1.out.stays b23
      obtain ⟨A, hA⟩ : ∃ Q_ : World, w3.alloc (.cells (ci zeroI) 33) = Q_ := ⟨_, rfl⟩
      have bA := hA ▸ below1 w3 (.cells (ci zeroI) 33)
      have A2 : Bx A w3.heap.size (ci zeroI) 33 := hA ▸ Bx.new _ _ _
      have A0 := T0.stays bA
      have A1 := T1.stays bA
      have hl3 : w1.heap.size < w3.heap.size := T1.lt
      have hpA := A2.plain (n := 25) rfl
      obtain ⟨B, hB⟩ : ∃ Q_ : World, A.setRow w3.heap.size (ci j) = Q_ := ⟨_, rfl⟩
      have B0 : Bx B w.heap.size (ci zeroI) 33 := hB ▸ A0.put' (by omega) _
      have B1 : Bx B w1.heap.size (cv c q d) 31 := hB ▸ A1.put' (by omega) _
      have B2 : Bx B w3.heap.size (ci j) 33 := hB ▸ A2.put _
      have bB : Below w.heap.size w B := hB ▸ (nx bV (nx b3 bA)).trans (low_setRow _ (by omega))
      have hrB := B1.row
      have hlB := B1.lt
      have hth := B2.there (o := 7) (n := 17) (by show 7 + 17 ≤ 25; decide)
      obtain ⟨C, hC⟩ : ∃ Q_ : World, B.setCells w3.heap.size 7 (cv c q d).toList = Q_ := ⟨_, rfl⟩
      have C0 : Bx C w.heap.size (ci zeroI) 33 := hC ▸ Bx.sets' (by omega) _ _ _ B0
      have C2 : Bx C w3.heap.size (ci I) 33 := by
        have := Bx.sets (w := B) (cv c q d).toList 7 _ _ B2
        rw [hC, over_val, HAt.out] at this; exact this
      have bC : Below w.heap.size w C := hC ▸ bB.trans (low_setCells (by omega) _ _ _)
      have bVC : Below V.heap.size V C := hC ▸ (hB ▸ (nx b3 bA).trans (low_setRow _ (by have := b3.size; omega))).trans (low_setCells (by have := b3.size; omega) _ _ _)
      have hrC := C2.row
      have hlC := C2.lt
      have G0 := Lib.hid C0
      have G2 := Lib.hid C2
      clear T0 T1 A0 A1 A2 B0 B1 B2 C0 C2 U0 U1
      go_wp2_with fail
      refine (write_is HWr _ (HT.out _ bVC) (HW.out _ bVC)).mono ?_
      rintro e w4 ⟨rfl, hb4⟩
      have D0 := G0.out.stays hb4
      have D2 := G2.out.stays hb4
      have bD := nx bC hb4
      clear hpA hrB hlB hth hrC hlC hA hB hC
      have hl4 : w.heap.size < w4.heap.size := D0.lt
      have p4 := D0.plain (n := 25) rfl
      have r4 := D2.row
      have l4 := D2.lt
      cases ho : okI I n
      · have e1 : we = 1 := by rw [← HWr.out.2]; unfold wrE; rw [ho]; rfl
        have HE := Lib.hid (rd_bad (again_no h15 HG.out.2.2.2.2 (by rw [HI.out]; exact ho)) (by decide))
        subst e1
        obtain ⟨X, hX⟩ : ∃ Q_ : World, w4.setRow w.heap.size (ci zeroI) = Q_ := ⟨_, rfl⟩
        have X0 : Bx X w.heap.size (ci zeroI) 33 := hX ▸ D0.put _
        have bX : Below w.heap.size w X := hX ▸ bD.trans (low_setRow _ (by omega))
        have x0 := X0.row
        clear D0 D2 X0 ho
        go_wp2
        exact bodyPost_ret (v := .tuple #[.agg (ci zeroI), .int .i64 3]) (ret_I2 Tryd.results14 _ _ zeroI (by simp [go_sem, x0])) rfl ⟨by rw [HE.out], bX⟩
      · have e1 : we = 0 := by rw [← HWr.out.2]; unfold wrE; rw [ho]; rfl
        have e2 : ws = cat (insF I n.toNat) := by rw [← HWr.out.1]; unfold wrS; rw [ho]; rfl
        have e3 := again_iff h15 HG.out.2.2.2.2 (by rw [HI.out]; exact ho)
        rw [HI.out, ← e2] at e3
        subst e1
        clear e2
        by_cases e4 : ws = s
        · rw [if_pos e4] at e3
          have HE := Lib.hid (rd_good e3)
          rw [HI.out] at HE
          subst e4
          obtain ⟨X, hX⟩ : ∃ Q_ : World, w4.setRow w.heap.size (ci I) = Q_ := ⟨_, rfl⟩
          have X0 : Bx X w.heap.size (ci I) 33 := hX ▸ D0.put _
          have bX : Below w.heap.size w X := hX ▸ bD.trans (low_setRow _ (by omega))
          have x0 := X0.row
          clear D0 D2 X0 ho e3
          go_wp2
          exact bodyPost_ret (v := .tuple #[.agg (ci I), .int .i64 0]) (ret_I2 Tryd.results14 _ _ I (by simp [go_sem, x0])) rfl ⟨by rw [HE.out], bX⟩
        · rw [if_neg e4] at e3
          have e5 := str_ne e4
          have HE := Lib.hid (rd_bad e3 (by decide))
          obtain ⟨X, hX⟩ : ∃ Q_ : World, w4.setRow w.heap.size (ci zeroI) = Q_ := ⟨_, rfl⟩
          have X0 : Bx X w.heap.size (ci zeroI) 33 := hX ▸ D0.put _
          have bX : Below w.heap.size w X := hX ▸ bD.trans (low_setRow _ (by omega))
          have x0 := X0.row
          clear D0 D2 X0 ho e3
          go_wp2
          exact bodyPost_ret (v := .tuple #[.agg (ci zeroI), .int .i64 3]) (ret_I2 Tryd.results14 _ _ zeroI (by simp [go_sem, x0])) rfl ⟨by rw [HE.out], bX⟩
    · have HE := Lib.hid (rd_bad ((rdE_val h15 (by rw [HG.out.2.2.2.2]; exact hy0)).trans HG.out.2.2.2.2) hy0)
      have hy1 : (y != 0) = true := by simpa using hy0
      clear hy0
      go_enter Tryd.func14, Tryd.ntmps14
      go_wp2_with fail
      refine (getValue_is HG HS _ (HT.out _ (Below.refl _ _))).mono ?_
      rintro e w1 ⟨rfl, hb1⟩
      obtain ⟨U, hU⟩ : ∃ Q_ : World, w1.alloc (.cells (cv Cm.zeroF 0 Ve.zeroV) 31) = Q_ := ⟨_, rfl⟩
      have bU := nx hb1 (hU ▸ below1 w1 (.cells (cv Cm.zeroF 0 Ve.zeroV) 31))
      have U0 := HB0.out.stays bU
      have U1 : Bx U w1.heap.size (cv Cm.zeroF 0 Ve.zeroV) 31 := hU ▸ Bx.new _ _ _
      have hl1 : w.heap.size < w1.heap.size := (HB0.out.stays hb1).lt
      have pU := U1.plain (n := 17) rfl
      obtain ⟨T, hT⟩ : ∃ Q_ : World, U.setRow w1.heap.size (cv c q d) = Q_ := ⟨_, rfl⟩
      have T0 : Bx T w.heap.size (ci zeroI) 33 := hT ▸ U0.put' (by omega) _
      have bT : Below w.heap.size w T := hT ▸ (nx bV bU).trans (low_setRow _ (by omega))
      have pT := T0.plain (n := 25) rfl
      obtain ⟨X, hX⟩ : ∃ Q_ : World, T.setRow w.heap.size (ci zeroI) = Q_ := ⟨_, rfl⟩
      have X0 : Bx X w.heap.size (ci zeroI) 33 := hX ▸ T0.put _
      have bX : Below w.heap.size w X := hX ▸ bT.trans (low_setRow _ (by omega))
      have x0 := X0.row
      clear U0 U1 T0 X0
      go_wp2
      exact bodyPost_ret (v := .tuple #[.agg (ci zeroI), .int .i64 y]) (ret_I2 Tryd.results14 _ _ zeroI (by simp [go_sem, x0])) rfl ⟨by rw [HE.out], bX⟩
end Go.Proofs.YtngnkjbcnmcngaaDoor.Rc
