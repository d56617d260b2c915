/- RecordBack: the call. -/
import Derived.Test.YtngnkjbcnmcngaaDoorRcS
namespace Go.Proofs.YtngnkjbcnmcngaaDoor.Rc
open Go.RowKit
set_option linter.unusedVariables false
open Go.Proofs.YtngnkjbcnmcngaaDoor.Rw
open Go.Proofs.YtngnkjbcnmcngaaDoor.Bv
open Go.Proofs.YtngnkjbcnmcngaaDoor.Cm (Tab)
theorem readS_is {s : ByteArray} {n y : Int} {i : Ins} (H : Hid (rdI s n = i ∧ rdE s n = y)) (hs : Hid (s.size ≤ 1000000)) (w : World) (ht : Tab w) (hb : Tb w) :
    Calls Tryd.prog 14 #[.string s, .int .i64 n] w fun e w' => e = .returned (.tuple #[.agg (ci i), .int .i64 y]) ∧ Below w.heap.size w w' := by
  obtain ⟨rfl, rfl⟩ := H.out
  exact read_any s n hs.out w ht hb
theorem rdI_of {i : Ins} {n : Int} (h : okI i n = true) : rdE (cat (insF i n.toNat)) n = 0 ∧ ci (rdI (cat (insF i n.toNat)) n) = ci i := by
  obtain ⟨h1, h2⟩ := read_write h
  refine ⟨h1, ?_⟩
  unfold rdI; rw [h1, if_pos rfl]; exact ci_congr h2
theorem readB_is {i : Ins} {n : Int} {x : ByteArray} (h : Hid (okI i n = true)) (hx : Hid (cat (insF i n.toNat) = x)) (w : World) (ht : Tab w) (hb : Tb w) :
    Calls Tryd.prog 14 #[.string x, .int .i64 n] w fun e w' => e = .returned (.tuple #[.agg (ci i), .int .i64 0]) ∧ Below w.heap.size w w' := by
  obtain ⟨h1, h2⟩ := rdI_of h.out
  have hz := ins_size i n.toNat
  have hn := (okI_iff.1 h.out).1
  have k := read_any (cat (insF i n.toNat)) n (by rw [hz]; omega) w ht hb
  unfold rdT at k
  rw [h1, h2, hx.out] at k; exact k
theorem back_second (s : ByteArray) (n : Int) (hs : s.size ≤ 1000000) : (rdE s n ≠ 0) ∨ (rdE s n = 0 ∧ wrS (rdI s n) n = s ∧ wrE (rdI s n) n = 0 ∧ okI (rdI s n) n = true) := by
  by_cases h : rdE s n = 0
  · right
    obtain ⟨h1, h2, h3⟩ := write_read h
    have e : rdI s n = insAt s n := by unfold rdI; rw [if_pos h]
    rw [e]
    refine ⟨h, ?_, ?_, h1⟩
    · unfold wrS; rw [h1, if_pos rfl, h3]
    · unfold wrE; rw [h1]; rfl
  · exact .inl h
set_option maxRecDepth 8000 in
set_option maxHeartbeats 4000000 in
theorem walkBack (i : Ins) (s : ByteArray) (n : Int) (hs : s.size ≤ maxLen) (wn : (Lit.int .i64 n).wf = true) (w : World) (ht : Tab w ∧ Tb w) :
    Calls Tryd.prog 5 #[.agg (ci i), .string s, .int .i64 n] w fun e w' => e = .returned (.bool true) ∧ Below w.heap.size w w' := by
  have hs' := hs
  unfold maxLen at hs'
  obtain ⟨V, hV⟩ : ∃ Q_ : World, w.alloc (.cells (ci i) 33) = Q_ := ⟨_, rfl⟩
  have bV : Below w.heap.size w V := hV ▸ below1 _ _
  have A0 : Bx V w.heap.size (ci i) 33 := hV ▸ Bx.new _ _ _
  have HT := Lib.hid (show ∀ u, Below V.heap.size V u → Tab u ∧ Tb u from fun u hu => ⟨ht.1.below (nx bV hu), ht.2.below (nx bV hu)⟩)
  have r0 := A0.row
  have l0 := A0.lt
  have HA := Lib.hid A0
  clear ht hs wn A0
  by_cases hl : 3000 < s.size
  · have hd : decide ((3000 : Int) < s.size) = true := by simp; omega
    go_enter Tryd.func5, Tryd.ntmps5
    go_wp2_with fail
    refine (awake_any _ (HT.out _ (Below.refl _ _)).1 (HT.out _ (Below.refl _ _)).2).mono ?_
    rintro e w1 ⟨rfl, hb1⟩
    clear r0 l0
    go_wp2
    go_ret
    exact ⟨rfl, nx bV hb1⟩
  · have hd : decide ((3000 : Int) < s.size) = false := by simp; omega
    have HS : Hid (s.size ≤ 1000000) := Lib.hid (by omega)
    -- what the second half says
    obtain ⟨I, hI⟩ : ∃ x, rdI s n = x := ⟨_, rfl⟩
    obtain ⟨y, hy⟩ : ∃ x, rdE s n = x := ⟨_, rfl⟩
    have hB := back_second s n HS.out
    rw [hI, hy] at hB
    have HB := Lib.hid hB
    have HR := Lib.hid (⟨hI, hy⟩ : rdI s n = I ∧ rdE s n = y)
    clear hI hy hB hl
    -- the second half, from any world behind V
    cases ho : okI i n
    · have HW : Hid (wrS i n = ByteArray.empty ∧ wrE i n = 1) := Lib.hid ⟨by unfold wrS; rw [ho]; rfl, by unfold wrE; rw [ho]; rfl⟩
      clear ho
      by_cases hy0 : y = 0
      · subst hy0
        obtain ⟨-, h1, h2, h3⟩ := HB.out.resolve_left (fun h => h rfl)
        have HW2 := Lib.hid (⟨h1, h2⟩ : wrS I n = s ∧ wrE I n = 0)
        have HO := Lib.hid h3
        have hse : (s.toList == s.toList) = true := beq_self_eq_true _
        clear h1 h2 h3
        go_enter Tryd.func5, Tryd.ntmps5
        go_wp2_with fail
        clear r0 l0
        refine (write_is HW _ (HT.out _ (Below.refl _ _)).1 (HT.out _ (Below.refl _ _)).2).mono ?_
        rintro e w1 ⟨rfl, hb1⟩
        go_wp2_with fail
        refine (readS_is HR HS _ (HT.out _ hb1).1 (HT.out _ hb1).2).mono ?_
        rintro e w2 ⟨rfl, hb2⟩
        have b2 := nx hb1 hb2
        obtain ⟨A, hA⟩ : ∃ Q_ : World, w2.alloc (.cells (ci I) 33) = Q_ := ⟨_, rfl⟩
        have A0 : Bx A w2.heap.size (ci I) 33 := hA ▸ Bx.new _ _ _
        have bA := nx b2 (hA ▸ below1 w2 (.cells (ci I) 33))
        have HA2 := Lib.hid hA
        clear hA
        go_wp2_with fail
        rw [HA2.out]
        refine (write_is HW2 _ (HT.out _ bA).1 (HT.out _ bA).2).mono ?_
        rintro e w3 ⟨rfl, hb3⟩
        have b3 := nx bA hb3
        have B0 := A0.stays hb3
        have rB := B0.row
        have lB := B0.lt
        go_wp2_with fail
        clear rB lB
        refine (right_is HO _).mono ?_
        rintro e w4 ⟨rfl, hb4⟩
        have b4 := nx b3 hb4
        go_wp2_with fail
        refine (awake_any _ (HT.out _ b4).1 (HT.out _ b4).2).mono ?_
        rintro e w5 ⟨rfl, hb5⟩
        go_wp2
        go_ret
        exact ⟨rfl, nx bV (nx b4 hb5)⟩
      · have hy1 : (y == 0) = false := by simpa using hy0
        clear hy0
        go_enter Tryd.func5, Tryd.ntmps5
        go_wp2_with fail
        clear r0 l0
        refine (write_is HW _ (HT.out _ (Below.refl _ _)).1 (HT.out _ (Below.refl _ _)).2).mono ?_
        rintro e w1 ⟨rfl, hb1⟩
        go_wp2_with fail
        refine (readS_is HR HS _ (HT.out _ hb1).1 (HT.out _ hb1).2).mono ?_
        rintro e w2 ⟨rfl, hb2⟩
        have b2 := nx hb1 hb2
        obtain ⟨A, hA⟩ : ∃ Q_ : World, w2.alloc (.cells (ci I) 33) = Q_ := ⟨_, rfl⟩
        have bA := nx b2 (hA ▸ below1 w2 (.cells (ci I) 33))
        have HA2 := Lib.hid hA
        clear hA
        go_wp2_with fail
        rw [HA2.out]
        refine (awake_any _ (HT.out _ bA).1 (HT.out _ bA).2).mono ?_
        rintro e w5 ⟨rfl, hb5⟩
        go_wp2
        go_ret
        exact ⟨rfl, nx bV (nx bA hb5)⟩
    · have HO1 := Lib.hid ho
      have hn := (okI_iff.1 ho).1
      obtain ⟨N, hN⟩ : ∃ N : Nat, n = N := ⟨n.toNat, by omega⟩
      subst hN
      obtain ⟨x, hx⟩ : ∃ x, cat (insF i N) = x := ⟨_, rfl⟩
      have HX : Hid (cat (insF i ((N : Int)).toNat) = x) := Lib.hid hx
      have hz : x.size = 49 + 2 * N := by rw [← hx]; exact ins_size i N
      have HW : Hid (wrS i N = x ∧ wrE i N = 0) := Lib.hid ⟨by unfold wrS; rw [ho, if_pos rfl]; exact hx, by unfold wrE; rw [ho]; rfl⟩
      have kk : eqIns i i = true := eqIns_refl i
      have hN7 : N ≤ 7 := by omega
      clear ho hx hn
      by_cases hy0 : y = 0
      · subst hy0
        obtain ⟨-, h1, h2, h3⟩ := HB.out.resolve_left (fun h => h rfl)
        have HW2 := Lib.hid (⟨h1, h2⟩ : wrS I N = s ∧ wrE I N = 0)
        have HO := Lib.hid h3
        have hse : (s.toList == s.toList) = true := beq_self_eq_true _
        clear h1 h2 h3
        go_enter Tryd.func5, Tryd.ntmps5
        go_wp2_with fail
        clear r0 l0
        refine (write_is HW _ (HT.out _ (Below.refl _ _)).1 (HT.out _ (Below.refl _ _)).2).mono ?_
        rintro e w1 ⟨rfl, hb1⟩
        have B0 := HA.out.stays hb1
        go_wp2_with fail
        refine (readB_is HO1 HX _ (HT.out _ hb1).1 (HT.out _ hb1).2).mono ?_
        rintro e w2 ⟨rfl, hb2⟩
        have b2 := nx hb1 hb2
        obtain ⟨U, hU⟩ : ∃ Q_ : World, w2.alloc (.cells (ci zeroI) 33) = Q_ := ⟨_, rfl⟩
        have aU := hU ▸ below1 w2 (.cells (ci zeroI) 33)
        have U1 : Bx U w2.heap.size (ci zeroI) 33 := hU ▸ Bx.new _ _ _
        have C0 := B0.stays hb2
        have U0 := C0.stays aU
        have lC := C0.lt
        have pU := U1.plain (n := 25) rfl
        obtain ⟨A, hA⟩ : ∃ Q_ : World, U.setRow w2.heap.size (ci i) = Q_ := ⟨_, rfl⟩
        have A0 : Bx A w.heap.size (ci i) 33 := hA ▸ U0.put' (by omega) _
        have A1 : Bx A w2.heap.size (ci i) 33 := hA ▸ U1.put _
        have bA : Below V.heap.size V A := hA ▸ (nx b2 aU).trans (low_setRow _ (by have := b2.size; omega))
        have r0 := A0.row
        have r1 := A1.row
        clear B0 C0 U0 U1 A0 A1
        go_wp2_with fail
        clear r0 r1 pU
        refine (readS_is HR HS _ (HT.out _ bA).1 (HT.out _ bA).2).mono ?_
        rintro e w6 ⟨rfl, hb6⟩
        have b6 := nx bA hb6
        clear hU hA
        obtain ⟨A2, hA⟩ : ∃ Q_ : World, w6.alloc (.cells (ci I) 33) = Q_ := ⟨_, rfl⟩
        have A0 : Bx A2 w6.heap.size (ci I) 33 := hA ▸ Bx.new _ _ _
        have bA2 := nx b6 (hA ▸ below1 w6 (.cells (ci I) 33))
        have HA2 := Lib.hid hA
        clear hA
        go_wp2_with fail
        rw [HA2.out]
        refine (write_is HW2 _ (HT.out _ bA2).1 (HT.out _ bA2).2).mono ?_
        rintro e w3 ⟨rfl, hb3⟩
        have b3 := nx bA2 hb3
        have B0 := A0.stays hb3
        have rB := B0.row
        have lB := B0.lt
        go_wp2_with fail
        clear rB lB
        refine (right_is HO _).mono ?_
        rintro e w4 ⟨rfl, hb4⟩
        have b4 := nx b3 hb4
        go_wp2_with fail
        refine (awake_any _ (HT.out _ b4).1 (HT.out _ b4).2).mono ?_
        rintro e w5 ⟨rfl, hb5⟩
        go_wp2
        go_ret
        exact ⟨rfl, nx bV (nx b4 hb5)⟩
      · have hy1 : (y == 0) = false := by simpa using hy0
        clear hy0
        go_enter Tryd.func5, Tryd.ntmps5
        go_wp2_with fail
        clear r0 l0
        refine (write_is HW _ (HT.out _ (Below.refl _ _)).1 (HT.out _ (Below.refl _ _)).2).mono ?_
        rintro e w1 ⟨rfl, hb1⟩
        have B0 := HA.out.stays hb1
        go_wp2_with fail
        refine (readB_is HO1 HX _ (HT.out _ hb1).1 (HT.out _ hb1).2).mono ?_
        rintro e w2 ⟨rfl, hb2⟩
        have b2 := nx hb1 hb2
        obtain ⟨U, hU⟩ : ∃ Q_ : World, w2.alloc (.cells (ci zeroI) 33) = Q_ := ⟨_, rfl⟩
        have aU := hU ▸ below1 w2 (.cells (ci zeroI) 33)
        have U1 : Bx U w2.heap.size (ci zeroI) 33 := hU ▸ Bx.new _ _ _
        have C0 := B0.stays hb2
        have U0 := C0.stays aU
        have lC := C0.lt
        have pU := U1.plain (n := 25) rfl
        obtain ⟨A, hA⟩ : ∃ Q_ : World, U.setRow w2.heap.size (ci i) = Q_ := ⟨_, rfl⟩
        have A0 : Bx A w.heap.size (ci i) 33 := hA ▸ U0.put' (by omega) _
        have A1 : Bx A w2.heap.size (ci i) 33 := hA ▸ U1.put _
        have bA : Below V.heap.size V A := hA ▸ (nx b2 aU).trans (low_setRow _ (by have := b2.size; omega))
        have r0 := A0.row
        have r1 := A1.row
        clear B0 C0 U0 U1 A0 A1
        go_wp2_with fail
        clear r0 r1 pU
        refine (readS_is HR HS _ (HT.out _ bA).1 (HT.out _ bA).2).mono ?_
        rintro e w6 ⟨rfl, hb6⟩
        have b6 := nx bA hb6
        clear hU hA
        obtain ⟨A2, hA⟩ : ∃ Q_ : World, w6.alloc (.cells (ci I) 33) = Q_ := ⟨_, rfl⟩
        have bA2 := nx b6 (hA ▸ below1 w6 (.cells (ci I) 33))
        have HA2 := Lib.hid hA
        clear hA
        go_wp2_with fail
        rw [HA2.out]
        refine (awake_any _ (HT.out _ bA2).1 (HT.out _ bA2).2).mono ?_
        rintro e w5 ⟨rfl, hb5⟩
        go_wp2
        go_ret
        exact ⟨rfl, nx bV (nx bA2 hb5)⟩
end Go.Proofs.YtngnkjbcnmcngaaDoor.Rc
