/- RecordReads: the call. -/
import Derived.Test.YtngnkjbcnmcngaaDoorRcS
import Derived.Test.YtngnkjbcnmcngaaDoorRcQ
namespace Go.Proofs.YtngnkjbcnmcngaaDoor.Rc
open Go.RowKit
set_option linter.unusedVariables false
open Go.Proofs.YtngnkjbcnmcngaaDoor.Rw
open Go.Proofs.YtngnkjbcnmcngaaDoor.Bv
open Go.Proofs.YtngnkjbcnmcngaaDoor.Cm (Tab)
theorem readI_is {s : ByteArray} {n y : Int} {i : Ins} (H : Hid (rdI s n = i ∧ rdE s n = y)) (hs : Hid (s.size ≤ 1000000)) (w : World) (ht : Tab w) (hb : Tb w) :
    Calls Tryd.prog 14 #[.string s, .int .i64 n] w fun e w' => e = .returned (.tuple #[.agg (ci i), .int .i64 y]) ∧ Below w.heap.size w w' := by
  obtain ⟨rfl, rfl⟩ := H.out
  exact read_any s n hs.out w ht hb
theorem rReadI_is {s : ByteArray} {n y : Int} {i : Ins} (H : Hid (rdI s n = i ∧ rdE s n = y)) (hs : Hid (s.size ≤ 1000000)) (w : World) :
    Calls Tryd.prog 15 #[.string s, .int .i64 n] w fun e w' => e = .returned (.tuple #[.agg (ci i), .int .i64 y]) ∧ Below w.heap.size w w' := by
  obtain ⟨rfl, rfl⟩ := H.out
  exact rRead_any s n hs.out w
set_option maxRecDepth 8000 in
set_option maxHeartbeats 4000000 in
theorem walkReads (s : ByteArray) (a n : Int) (hs : s.size ≤ maxLen) (wa : (Lit.int .i64 a).wf = true) (wn : (Lit.int .i64 n).wf = true) (w : World) (ht : Tab w ∧ Tb w) :
    Calls Tryd.prog 4 #[.string s, .int .i64 a, .int .i64 n] w fun e w' => e = .returned (.bool true) ∧ Below w.heap.size w w' := by
  have hs' := hs
  unfold maxLen at hs'
  have HT := Lib.hid (show ∀ u, Below w.heap.size w u → Tab u ∧ Tb u from fun u hu => ⟨ht.1.below hu, ht.2.below hu⟩)
  clear ht hs wa wn
  by_cases hl : 3000 < s.size
  · have hd : decide ((3000 : Int) < s.size) = true := by simp; omega
    go_enter Tryd.func4, Tryd.ntmps4
    go_wp2_with fail
    refine (awake_any _ (HT.out _ (Below.refl _ _)).1 (HT.out _ (Below.refl _ _)).2).mono ?_
    rintro e w1 ⟨rfl, hb1⟩
    go_wp2
    go_ret
    exact ⟨rfl, hb1⟩
  · have hd : decide ((3000 : Int) < s.size) = false := by simp; omega
    have HS : Hid (s.size ≤ 1000000) := Lib.hid (by omega)
    obtain ⟨i, hi⟩ : ∃ x, rdI s n = x := ⟨_, rfl⟩
    obtain ⟨e1, he⟩ : ∃ x, rdE s n = x := ⟨_, rfl⟩
    obtain ⟨c, hc⟩ : ∃ x, gvC s a n = x := ⟨_, rfl⟩
    obtain ⟨q, hq⟩ : ∃ x, gvQ s a n = x := ⟨_, rfl⟩
    obtain ⟨d, hdd⟩ : ∃ x, gvV s a n = x := ⟨_, rfl⟩
    obtain ⟨x, hx⟩ : ∃ x, gvA s a n = x := ⟨_, rfl⟩
    obtain ⟨y, hy⟩ : ∃ x, gvE s a n = x := ⟨_, rfl⟩
    have HG := Lib.hid (⟨hc, hq, hdd, hx, hy⟩ : gvC s a n = c ∧ gvQ s a n = q ∧ gvV s a n = d ∧ gvA s a n = x ∧ gvE s a n = y)
    have HR := Lib.hid (⟨hi, he⟩ : rdI s n = i ∧ rdE s n = e1)
    have k1 : eqIns i i = true := eqIns_refl i
    have k2 : eqVal c q d c q d = true := eqVal_refl c q d
    clear hi he hc hq hdd hx hy hl
    go_enter Tryd.func4, Tryd.ntmps4
    go_wp2_with fail
    refine (readI_is HR HS _ (HT.out _ (Below.refl _ _)).1 (HT.out _ (Below.refl _ _)).2).mono ?_
    rintro e w1 ⟨rfl, hb1⟩
    obtain ⟨A, hA⟩ : ∃ Q_ : World, w1.alloc (.cells (ci i) 33) = Q_ := ⟨_, rfl⟩
    have A0 : Bx A w1.heap.size (ci i) 33 := hA ▸ Bx.new _ _ _
    have bA := nx hb1 (hA ▸ below1 w1 (.cells (ci i) 33))
    have HA := Lib.hid hA
    clear hA
    go_wp2_with fail
    rw [HA.out]
    refine (rReadI_is HR HS _).mono ?_
    rintro e w2 ⟨rfl, hb2⟩
    have B0 := A0.stays hb2
    have b2 := nx bA hb2
    obtain ⟨B, hB⟩ : ∃ Q_ : World, w2.alloc (.cells (ci i) 33) = Q_ := ⟨_, rfl⟩
    have aB := hB ▸ below1 w2 (.cells (ci i) 33)
    have B1 : Bx B w2.heap.size (ci i) 33 := hB ▸ Bx.new _ _ _
    replace B0 := B0.stays aB
    have bB := nx b2 aB
    have HB := Lib.hid hB
    clear hB A0
    go_wp2_with fail
    rw [HB.out]
    refine (getValue_is HG HS _ (HT.out _ bB).1).mono ?_
    rintro e w3 ⟨rfl, hb3⟩
    have b3 := nx bB hb3
    obtain ⟨C, hC⟩ : ∃ Q_ : World, w3.alloc (.cells (cv c q d) 31) = Q_ := ⟨_, rfl⟩
    have aC := hC ▸ below1 w3 (.cells (cv c q d) 31)
    have C2 : Bx C w3.heap.size (cv c q d) 31 := hC ▸ Bx.new _ _ _
    have C0 := (B0.stays hb3).stays aC
    have C1 := (B1.stays hb3).stays aC
    have bC := nx b3 aC
    have HC := Lib.hid hC
    clear hC B0 B1
    go_wp2_with fail
    rw [HC.out]
    refine (rGetValue_is HG HS _).mono ?_
    rintro e w4 ⟨rfl, hb4⟩
    have b4 := nx bC hb4
    obtain ⟨U, hU⟩ : ∃ Q_ : World, w4.alloc (.cells (cv Cm.zeroF 0 Ve.zeroV) 31) = Q_ := ⟨_, rfl⟩
    have aU := hU ▸ below1 w4 (.cells (cv Cm.zeroF 0 Ve.zeroV) 31)
    have U3 : Bx U w4.heap.size (cv Cm.zeroF 0 Ve.zeroV) 31 := hU ▸ Bx.new _ _ _
    have U0 := (C0.stays hb4).stays aU
    have U1 := (C1.stays hb4).stays aU
    have U2 := (C2.stays hb4).stays aU
    have l0 := (C0.stays hb4).lt
    have l1 := (C1.stays hb4).lt
    have l2 := (C2.stays hb4).lt
    have pU := U3.plain (n := 17) rfl
    have bU := nx b4 aU
    obtain ⟨D, hD⟩ : ∃ Q_ : World, U.setRow w4.heap.size (cv c q d) = Q_ := ⟨_, rfl⟩
    have D3 : Bx D w4.heap.size (cv c q d) 31 := hD ▸ U3.put _
    have D0 : Bx D w1.heap.size (ci i) 33 := hD ▸ U0.put' (by omega) _
    have D1 : Bx D w2.heap.size (ci i) 33 := hD ▸ U1.put' (by omega) _
    have D2 : Bx D w3.heap.size (cv c q d) 31 := hD ▸ U2.put' (by omega) _
    have bD : Below w.heap.size w D := hD ▸ bU.trans (low_setRow _ (by have := b4.size; omega))
    have r0 := D0.row
    have r1 := D1.row
    have r2 := D2.row
    have r3 := D3.row
    clear C0 C1 C2 U0 U1 U2 U3 D0 D1 D2 D3
    go_wp2_with fail
    refine (awake_any _ (HT.out _ bD).1 (HT.out _ bD).2).mono ?_
    rintro e w5 ⟨rfl, hb5⟩
    clear r0 r1 r2 r3 pU
    go_wp2
    go_ret
    exact ⟨rfl, nx bD hb5⟩
end Go.Proofs.YtngnkjbcnmcngaaDoor.Rc
