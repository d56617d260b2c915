/- WalBack: the call. -/
import Derived.Test.YtodlibpibopnoaaDoorWaI
namespace Go.Proofs.YtodlibpibopnoaaDoor.Wa
open Go.RowKit
set_option linter.unusedVariables false
open Go.Proofs.YtodlibpibopnoaaDoor.Rw
open Go.Proofs.YtodlibpibopnoaaDoor.Da
open Go.Proofs.YtodlibpibopnoaaDoor.Cr
theorem mod_any (a : Int) (n : Nat) (h : 0 < n) : ∃ c : Nat, c < n ∧ (IntKind.u64.wrap a).tmod (n : Int) = c := by
  rw [Int.tmod_eq_emod_of_nonneg (Fx.u64_lt a).1]
  have h1 := Int.emod_nonneg (IntKind.u64.wrap a) (show (n : Int) ≠ 0 by omega)
  have h2 := Int.emod_lt_of_pos (IntKind.u64.wrap a) (show (0 : Int) < n by omega)
  exact ⟨(IntKind.u64.wrap a % (n : Int)).toNat, by omega, by omega⟩
/-- Of the frames of l so many fit into k bytes. -/
theorem whole (l : List ByteArray) (k : Nat) : ∃ i, i ≤ l.length ∧ wl (l.take i) ≤ k ∧ ∀ h : i < l.length, k < wl (l.take i) + (l[i].size + 6) := by
  induction l generalizing k with
  | nil => exact ⟨0, Nat.le_refl _, Nat.zero_le _, fun h => by cases h⟩
  | cons x l ih =>
    by_cases h : x.size + 6 ≤ k
    · obtain ⟨i, h1, h2, h3⟩ := ih (k - (x.size + 6))
      refine ⟨i + 1, by simp; omega, by rw [List.take_succ_cons, wl]; omega, fun h4 => ?_⟩
      have h5 := h3 (by simp at h4; omega)
      rw [List.take_succ_cons, wl, List.getElem_cons_succ]
      omega
    · exact ⟨0, Nat.zero_le _, Nat.zero_le _, fun _ => by simp [wl]; omega⟩
theorem wl_mono (l : List ByteArray) {i j : Nat} (h : i ≤ j) : wl (l.take i) ≤ wl (l.take j) := by
  have h1 := wl_take (l.take j) i
  rw [List.take_take, Nat.min_eq_left h] at h1
  omega
section
variable (ρ : Operand → Value) (dst : Option Tmp) (ty : TypeId) (pos : String) (after : Array Edge) (guard : Option (Nat × Bool)) (w : World)
theorem hiT (x y : Operand) (h : hiOk (ρ x) (ρ y) = true) : (execOp ρ { dst, op := .slice 23 x none (some y) none, type := ty, pos, after, guard }).run Tryd.prog w = .ok (.value (cutHi 1 (natOf (ρ y)) (ρ x))) w :=
  exec_hi ρ dst ty pos after guard w elemT x y h
end
attribute [go_sem ↓] hiT
theorem lay_zero {l : List ByteArray} {x : ByteArray} (h : layN ByteArray.empty l = (x, 0)) : x = laid l ∧ Short l := by
  obtain ⟨h1, h2⟩ := layN_ok ByteArray.empty l (by rw [h])
  rw [h, ByteArray.empty_append] at h1
  exact ⟨h1, h2⟩
theorem lay_none {l : List ByteArray} {x : ByteArray} {z : Int} (h : layN ByteArray.empty l = (x, z)) (hz : z ≠ 0) : x = ⟨#[]⟩ := by
  have h1 := layN_bad ByteArray.empty l (by rw [h]; exact hz)
  rw [h] at h1
  exact h1
set_option maxRecDepth 8000 in
set_option maxHeartbeats 4000000 in
theorem walkBack (l : List ByteArray) (v : Value) (cut : Int) (w : World) (h : TL w.heap.size l v w) (g : wfLs l ∧ capOk v) (wc : (Lit.int .i64 cut).wf = true) (ht : Tab w) :
    Calls Tryd.prog 5 #[v, .int .i64 cut] w fun e w' => e = .returned (.bool true) ∧ Below w.heap.size w w' := by
  obtain ⟨⟨g1, g2⟩, hcap⟩ := g
  have HT := Lib.hid ht
  have HL := Lib.hid h
  have HG := Lib.hid g1
  clear wc ht g1 g2
  obtain ⟨q, hq⟩ : ∃ q, farB l = q := ⟨_, rfl⟩
  have HQ := Lib.hid hq
  cases q with
  | true =>
    clear hq h hcap
    go_enter Tryd.func5, Tryd.ntmps5
    go_wp2_with fail
    refine (far_is HQ HL.out HG.out).mono ?_
    rintro e w1 ⟨rfl, b1⟩
    go_wp2_with fail
    refine (awake_any _ (HT.out.below b1)).mono ?_
    rintro e w2 ⟨rfl, hb2⟩
    go_wp2
    go_ret
    exact ⟨rfl, nx b1 hb2⟩
  | false =>
    have hn := near hq
    have HN := Lib.hid hn
    obtain ⟨⟨S, z⟩, hx⟩ : ∃ q, layN ByteArray.empty l = q := ⟨_, rfl⟩
    have HX := Lib.hid hx
    by_cases hz : z = 0
    · subst hz
      obtain ⟨rfl, hsh⟩ := lay_zero hx
      obtain ⟨n, hwl⟩ : ∃ n, wl l = n := ⟨_, rfl⟩
      have hsz : (laid l).size = n := by rw [laid_size, hwl]
      have hn4 : n ≤ 30600 := by rw [← hwl]; exact hn.2.2.2.1
      have HA : Hid (scan (laid l) = (l, n)) := Lib.hid (by have := scan_is (sc_all l hsh); rwa [hsz] at this)
      have HF : Hid (fitsN n l = true) := Lib.hid (by rw [fitsN_is _ _ hsh, hwl]; exact decide_eq_true (Int.le_refl _))
      have HF2 : Hid (fitsN ((n : Int) - 1) l = false) := Lib.hid (by rw [fitsN_is _ _ hsh, hwl]; exact decide_eq_false (by omega))
      obtain ⟨k, hk, hkm⟩ := mod_any cut (n + 1) (by omega)
      obtain ⟨i, hi, hi1, hi2⟩ := whole l k
      have hcut := sc_cut l hsh k i hi hi1 hi2 (by omega)
      have hsc := scan_is hcut
      obtain ⟨T, hT⟩ : ∃ T, (laid l).extract 0 k = T := ⟨_, rfl⟩
      obtain ⟨en, hen⟩ : ∃ e, wl (l.take i) = e := ⟨_, rfl⟩
      rw [hT, hen] at hsc
      have HC := Lib.hid hsc
      have HSz : Hid ((laid l).size ≤ 1000000) := Lib.hid (by omega)
      have HTz : Hid (T.size ≤ 1000000) := Lib.hid (by rw [← hT, ByteArray.size_extract]; omega)
      obtain ⟨S, hS⟩ : ∃ S, laid l = S := ⟨_, rfl⟩
      rw [hS] at HX HA hsz hT HSz
      have hlt := HL.out
      have hc2 := Is.cutHi (e := eT) (T := 9) hlt hi
      obtain ⟨a1, c1, rfl, hcc⟩ := capOk_len hlt hcap
      obtain ⟨m, hm⟩ : ∃ m, l.length = m := ⟨_, rfl⟩
      rw [hm] at HL hc2 hcc hi ⊢
      have HM := Lib.hid hm
      have HI1 := Lib.hid hi1
      have HI2 := Lib.hid hi2
      have HEn := Lib.hid hen
      have hkn : k ≤ n := by omega
      have hkm : (IntKind.u64.wrap cut).tmod ((n : Int) + 1) = k := hkm
      have HSame : Hid (sameB l l = true) := Lib.hid (sameB_yes rfl)
      have HSame2 : Hid (sameB (l.take i) (l.take i) = true) := Lib.hid (sameB_yes rfl)
      have hki : i ≤ c1 := by omega
      obtain ⟨vc, hvc⟩ : ∃ vc, cutHi 1 i (.slice a1 m c1) = vc := ⟨_, rfl⟩
      have hvc' : cutHi eT.k i (.slice a1 m c1) = vc := hvc
      rw [hvc'] at hc2
      have HC2 := Lib.hid hc2
      have hxi : (fun (_ : Unit) => i) () ≤ m := hi
      clear hq h hcap hn hx hsh hwl hk hi1 hi2 hcut hsc hen hlt hc2 hm hvc' hS hcc hxi
      go_enter Tryd.func5, Tryd.ntmps5
      go_wp2_with fail
      refine (far_is HQ HL.out HG.out).mono ?_
      rintro e w1 ⟨rfl, b1⟩
      go_wp2_with fail
      refine (lay_is HX (HL.out.stays b1) HN.out.1 HN.out.2.1 (HT.out.below b1)).mono ?_
      rintro e w2 ⟨rfl, hb2⟩
      have b2 := nx b1 hb2
      go_wp2_with fail
      refine (scan_is2 HA w.heap.size HSz.out _ b2.size (HT.out.below b2)).mono ?_
      rintro e w3 ⟨v3, rfl, hb3, o3⟩
      have b3 := nx b2 hb3
      have T3 := Lib.hid (o3.tl b2.size)
      clear o3
      go_wp2_with fail
      refine (texts_is HSame T3.out (HL.out.stays b3) HN.out.2.2.2.2 HN.out.2.2.2.2).mono ?_
      rintro e w4 ⟨rfl, hb4⟩
      have b4 := nx b3 hb4
      go_wp2_with fail
      refine (fits_is HF (HL.out.stays b4) HN.out.1 HN.out.2.2.1 (by omega)).mono ?_
      rintro e w5 ⟨rfl, hb5⟩
      have b5 := nx b4 hb5
      go_wp2_with fail
      refine (fits_is HF2 (HL.out.stays b5) HN.out.1 HN.out.2.2.1 (by omega)).mono ?_
      rintro e w6 ⟨rfl, hb6⟩
      have b6 := nx b5 hb6
      go_wp2_with fail
      refine (scan_is2 HC w.heap.size HTz.out _ b6.size (HT.out.below b6)).mono ?_
      rintro e w7 ⟨v7, rfl, hb7, o7⟩
      have b7 := nx b6 hb7
      have O7 := Lib.hid (o7.tl b6.size)
      clear o7
      go_wp2
      go_loopw [12, 13] (fun t j wr => ∃ u : Nat, u ≤ i ∧ j = .int .i64 u ∧ t = .int .i64 (wl (l.take u) : Nat) ∧ w7 = wr) (fun _ j _ => i - (intOf j).toNat)
      case atStart => exact ⟨0, Nat.zero_le _, rfl, rfl, rfl⟩
      case round =>
        obtain ⟨u, hu, rfl, rfl, rfl⟩ := hrel
        have HLi : Hid ((l.take i).length ≤ 1000000000) := Lib.hid (by rw [List.length_take]; have := HN.out.2.2.2.2; omega)
        obtain ⟨p, hp⟩ : ∃ p, wl (l.take u) = p := ⟨_, rfl⟩
        have hpb : p ≤ k := by have := wl_mono l hu; have := HI1.out; omega
        by_cases hlt : u < m
        · have hlt2 : (u : Int) < m := by omega
          have hul : u < l.length := by rw [HM.out]; exact hlt
          obtain ⟨bb, off, cc, e, hc, hbb⟩ := TL.get HL.out b7 (k := u) hul
          rw [HM.out] at e
          simp only [Value.slice.injEq] at e
          obtain ⟨rfl, -, rfl⟩ := e
          have hu6 : u ≤ 1000000 := by have := HN.out.1; omega
          have hsn := wl_snoc hul
          have hx9 := HN.out.2.2.1 _ (List.getElem_mem hul)
          by_cases hui : u < i
          · have hmo := wl_mono l (show u + 1 ≤ i by omega)
            have hi1 := HI1.out
            obtain ⟨x, hxx⟩ : ∃ x, l[u] = x := ⟨_, rfl⟩
            rw [hxx] at hsn hc hx9
            rw [hp] at hsn ⊢
            have HSn := Lib.hid hsn
            obtain ⟨y, hy⟩ : ∃ y : Nat, (p : Int) + (x.size : Int) = y := ⟨p + x.size, by omega⟩
            have hy1 : (y : Int) + 6 ≤ k := by omega
            have hy2 : decide ((y : Int) + 6 ≤ k) = true := decide_eq_true hy1
            have hy3 : (p : Int) + ((x.size : Int) + 6) ≤ k := by omega
            clear hsn hmo hi1 hxx hp
            go_wp2
            go_roundw
            case rel => exact ⟨u + 1, by omega, by go_num, by rw [HSn.out]; go_num, trivial⟩
            case measure => simp [intOf]; omega
          · obtain rfl : u = i := by omega
            have hi2 := HI2.out hul
            obtain ⟨x, hxx⟩ : ∃ x, l[u] = x := ⟨_, rfl⟩
            rw [hxx] at hi2 hc hx9
            have hpe : p = en := by rw [← hp]; exact HEn.out
            subst hpe
            rw [hp] at hi2 ⊢
            obtain ⟨y, hy⟩ : ∃ y : Nat, (p : Int) + (x.size : Int) = y := ⟨p + x.size, by omega⟩
            have hy2 : decide ((y : Int) + 6 ≤ k) = false := decide_eq_false (by omega)
            clear hsn hxx hp hi2
            go_wp2_with fail
            refine (texts_is HSame2 (TL.stays O7.out (Below.refl _ _)) (TL.stays HC2.out b7) HLi.out HLi.out).mono ?_
            rintro e w8 ⟨rfl, hb8⟩
            have b8 := nx b7 hb8
            go_wp2_with fail
            refine (awake_any _ (HT.out.below b8)).mono ?_
            rintro e w9 ⟨rfl, hb9⟩
            go_wp2
            go_ret
            exact ⟨rfl, nx b8 hb9⟩
        · obtain rfl : u = m := by omega
          obtain rfl : u = i := by omega
          have hpe : p = en := by rw [← hp]; exact HEn.out
          subst hpe
          rw [hp]
          have hlt2 : ¬ (u : Int) < u := by omega
          clear hp
          go_wp2_with fail
          refine (texts_is HSame2 (TL.stays O7.out (Below.refl _ _)) (TL.stays HC2.out b7) HLi.out HLi.out).mono ?_
          rintro e w8 ⟨rfl, hb8⟩
          have b8 := nx b7 hb8
          go_wp2_with fail
          refine (awake_any _ (HT.out.below b8)).mono ?_
          rintro e w9 ⟨rfl, hb9⟩
          go_wp2
          go_ret
          exact ⟨rfl, nx b8 hb9⟩
    · have hS := lay_none hx hz
      subst hS
      have z1 : (z != 0) = true := by simpa using hz
      have z2 : (z == 0) = false := by simpa using hz
      clear hq h hcap hn hx hz
      go_enter Tryd.func5, Tryd.ntmps5
      go_wp2_with fail
      refine (far_is HQ HL.out HG.out).mono ?_
      rintro e w1 ⟨rfl, b1⟩
      go_wp2_with fail
      refine (lay_is HX (HL.out.stays b1) HN.out.1 HN.out.2.1 (HT.out.below b1)).mono ?_
      rintro e w2 ⟨rfl, hb2⟩
      have b2 := nx b1 hb2
      go_wp2_with fail
      refine (awake_any _ (HT.out.below b2)).mono ?_
      rintro e w3 ⟨rfl, hb3⟩
      go_wp2
      go_ret
      exact ⟨rfl, nx b2 hb3⟩
end Go.Proofs.YtodlibpibopnoaaDoor.Wa
