/- RecordShort: the call. -/
import Derived.Test.YtngnkjbcnmcngaaDoorRcW
namespace Go.Proofs.YtngnkjbcnmcngaaDoor.Rc
open Go.RowKit
set_option linter.unusedVariables false
open Go.Proofs.YtngnkjbcnmcngaaDoor.Rw
open Go.Proofs.YtngnkjbcnmcngaaDoor.Bv
open Go.Proofs.YtngnkjbcnmcngaaDoor.Cm (Tab)
theorem mod_any (a : Int) (n : Nat) (h : 0 < n) : ∃ c : Nat, c < n ∧ (IntKind.u64.wrap a).tmod (n : Int) = c := by
  rw [Int.tmod_eq_emod_of_nonneg (Fx.u64_lt a).1]
  have h1 := Int.emod_nonneg (IntKind.u64.wrap a) (show (n : Int) ≠ 0 by omega)
  have h2 := Int.emod_lt_of_pos (IntKind.u64.wrap a) (show (0 : Int) < n by omega)
  exact ⟨(IntKind.u64.wrap a % (n : Int)).toNat, by omega, by omega⟩
theorem readCut_is {i : Ins} {N c : Nat} {x : ByteArray} (h : Hid (okI i N = true)) (hx : Hid (cat (insF i N) = x)) (hc : c < 49 + 2 * N) (w : World) (ht : Tab w) (hb : Tb w) :
    Calls Tryd.prog 14 #[.string (x.extract 0 c), .int .i64 N] w fun e w' => e = .returned (.tuple #[.agg (ci zeroI), .int .i64 2]) ∧ Below w.heap.size w w' := by
  have e1 := read_cut (i := i) (n := N) h.out c (by omega)
  rw [Int.toNat_natCast, hx.out] at e1
  have hn := (okI_iff.1 h.out).1
  have k := read_any (x.extract 0 c) N (by rw [ByteArray.size_extract]; omega) w ht hb
  rw [rd_bad e1 (by decide)] at k; exact k
theorem readMore_is {i : Ins} {N : Nat} {x z y : ByteArray} (h : Hid (okI i N = true)) (hx : Hid (cat (insF i N) = x)) (hy : Hid (x ++ z = y)) (hz : z.size = 1) (w : World) (ht : Tab w) (hb : Tb w) :
    Calls Tryd.prog 14 #[.string y, .int .i64 N] w fun e w' => e = .returned (.tuple #[.agg (ci zeroI), .int .i64 3]) ∧ Below w.heap.size w w' := by
  have e1 := read_more (i := i) (n := N) h.out z (by omega)
  have hs := ins_size i N
  rw [Int.toNat_natCast, hx.out, hy.out] at e1
  have hn := (okI_iff.1 h.out).1
  have k := read_any y N (by rw [← hy.out, ← hx.out, ByteArray.size_append, hs, hz]; omega) w ht hb
  rw [rd_bad e1 (by decide)] at k; exact k
set_option maxRecDepth 8000 in
set_option maxHeartbeats 4000000 in
theorem walkShort (i : Ins) (n a : Int) (wn : (Lit.int .i64 n).wf = true) (wa : (Lit.int .i64 a).wf = true) (w : World) (ht : Tab w ∧ Tb w) :
    Calls Tryd.prog 6 #[.agg (ci i), .int .i64 n, .int .i64 a] w fun e w' => e = .returned (.bool true) ∧ Below w.heap.size w w' := by
  obtain ⟨V, hV⟩ : ∃ Q_ : World, w.alloc (.cells (ci i) 33) = Q_ := ⟨_, rfl⟩
  have bV : Below w.heap.size w V := hV ▸ below1 _ _
  have A0 : Bx V w.heap.size (ci i) 33 := hV ▸ Bx.new _ _ _
  have HT := Lib.hid (show ∀ u, Below V.heap.size V u → Tab u ∧ Tb u from fun u hu => ⟨ht.1.below (nx bV hu), ht.2.below (nx bV hu)⟩)
  have r0 := A0.row
  have l0 := A0.lt
  clear ht wn wa A0
  cases ho : okI i n
  · have HW : Hid (wrS i n = ByteArray.empty ∧ wrE i n = 1) := Lib.hid ⟨by unfold wrS; rw [ho]; rfl, by unfold wrE; rw [ho]; rfl⟩
    clear ho
    go_enter Tryd.func6, Tryd.ntmps6
    go_wp2_with fail
    clear r0 l0
    refine (write_is HW _ (HT.out _ (Below.refl _ _)).1 (HT.out _ (Below.refl _ _)).2).mono ?_
    rintro e w1 ⟨rfl, hb1⟩
    go_wp2_with fail
    refine (awake_any _ (HT.out _ hb1).1 (HT.out _ hb1).2).mono ?_
    rintro e w5 ⟨rfl, hb5⟩
    go_wp2
    go_ret
    exact ⟨rfl, nx bV (nx hb1 hb5)⟩
  · have HO := Lib.hid ho
    have hn := (okI_iff.1 ho).1
    obtain ⟨N, hN⟩ : ∃ N : Nat, n = N := ⟨n.toNat, by omega⟩
    subst hN
    obtain ⟨x, hx⟩ : ∃ x, cat (insF i N) = x := ⟨_, rfl⟩
    have hz : x.size = 49 + 2 * N := by rw [← hx]; exact ins_size i N
    have HW : Hid (wrS i N = x ∧ wrE i N = 0) := Lib.hid ⟨by unfold wrS; rw [ho, if_pos rfl]; exact hx, by unfold wrE; rw [ho]; rfl⟩
    have HX := Lib.hid hx
    have hN7 : N ≤ 7 := by omega
    obtain ⟨c, hc, hcm⟩ := mod_any a (49 + 2 * N) (by omega)
    have hcm : (IntKind.u64.wrap a).tmod (49 + 2 * (N : Int)) = c := by rw [← hcm]; congr 1
    have hne : x.toList.isEmpty = false := by
      rw [List.isEmpty_eq_false_iff]; intro e
      have := congrArg List.length e
      rw [Lib.toList_data, Array.length_toList, show x.data.size = x.size from rfl, hz] at this
      exact absurd this (by simp)
    obtain ⟨y, hy⟩ : ∃ y, x ++ (⟨#[120]⟩ : ByteArray) = y := ⟨_, rfl⟩
    have HY := Lib.hid hy
    have kk : eqIns zeroI zeroI = true := eqIns_refl zeroI
    have hc1 : (c : Int) ≤ 49 + 2 * (N : Int) := by omega
    clear ho hx hn
    go_enter Tryd.func6, Tryd.ntmps6
    go_wp2_with fail
    clear r0 l0
    refine (write_is HW _ (HT.out _ (Below.refl _ _)).1 (HT.out _ (Below.refl _ _)).2).mono ?_
    rintro e w1 ⟨rfl, hb1⟩
    go_wp2_with fail
    refine (readCut_is HO HX hc _ (HT.out _ hb1).1 (HT.out _ hb1).2).mono ?_
    rintro e w2 ⟨rfl, hb2⟩
    have b2 := nx hb1 hb2
    obtain ⟨A, hA⟩ : ∃ Q_ : World, w2.alloc (.cells (ci zeroI) 33) = Q_ := ⟨_, rfl⟩
    have A0 : Bx A w2.heap.size (ci zeroI) 33 := hA ▸ Bx.new _ _ _
    have bA := nx b2 (hA ▸ below1 w2 (.cells (ci zeroI) 33))
    have HA := Lib.hid hA
    clear hA
    go_wp2_with fail
    rw [HA.out]
    refine (readMore_is HO HX HY rfl _ (HT.out _ bA).1 (HT.out _ bA).2).mono ?_
    rintro e w3 ⟨rfl, hb3⟩
    have b3 := nx bA hb3
    have B0 := A0.stays hb3
    obtain ⟨U, hU⟩ : ∃ Q_ : World, w3.alloc (.cells (ci zeroI) 33) = Q_ := ⟨_, rfl⟩
    have aU := hU ▸ below1 w3 (.cells (ci zeroI) 33)
    have U1 : Bx U w3.heap.size (ci zeroI) 33 := hU ▸ Bx.new _ _ _
    have U0 := B0.stays aU
    have pU := U1.plain (n := 25) rfl
    have lB := B0.lt
    obtain ⟨C, hC⟩ : ∃ Q_ : World, U.setRow w3.heap.size (ci zeroI) = Q_ := ⟨_, rfl⟩
    have C0 : Bx C w2.heap.size (ci zeroI) 33 := hC ▸ U0.put' (by omega) _
    have bC : Below V.heap.size V C := hC ▸ (nx b3 aU).trans (low_setRow _ (by have := b3.size; omega))
    have rC := C0.row
    clear A0 B0 U0 U1 C0
    go_wp2_with fail
    clear rC pU
    refine (awake_any _ (HT.out _ bC).1 (HT.out _ bC).2).mono ?_
    rintro e w5 ⟨rfl, hb5⟩
    go_wp2
    go_ret
    exact ⟨rfl, nx bV (nx bC hb5)⟩
end Go.Proofs.YtngnkjbcnmcngaaDoor.Rc
