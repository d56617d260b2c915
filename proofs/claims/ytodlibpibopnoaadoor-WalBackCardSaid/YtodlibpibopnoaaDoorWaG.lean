/- Of the statements of layer 15: awake. Package wal's contracts are used by name alone. -/
import Derived.Test.YtodlibpibopnoaaDoorWpA
import Derived.Test.YtodlibpibopnoaaDoorWaF
namespace Go.Proofs.YtodlibpibopnoaaDoor.Wa
open Go.RowKit
set_option linter.unusedVariables false
open Go.Proofs.YtodlibpibopnoaaDoor.Rw
open Go.Proofs.YtodlibpibopnoaaDoor.Da
open Go.Proofs.YtodlibpibopnoaaDoor.Cr
theorem lay_is {l : List ByteArray} {x : ByteArray} {z : Int} (H : Hid (layN ByteArray.empty l = (x, z))) {n : Nat} {v : Value} {w : World} (h : TL n l v w) (hl : l.length ≤ 1000000) (hz : ∀ x ∈ l, x.size ≤ maxLen) (ht : Tab w) :
    Calls Tryd.prog 14 #[v] w fun e w' => e = .returned (.tuple #[.string x, .int .i64 z]) ∧ Below w.heap.size w w' := by
  have k := lay_any n l v w h hl hz ht
  rw [H.out] at k; exact k
theorem fits_is {l : List ByteArray} {r : Int} {b : Bool} (H : Hid (fitsN r l = b)) {n : Nat} {v : Value} {w : World} (h : TL n l v w) (hl : l.length ≤ 1000000) (hz : ∀ x ∈ l, x.size ≤ 1000000000) (hr : -9223372036854775808 ≤ r ∧ r ≤ 9223372036854775807) :
    Calls Tryd.prog 16 #[v, .int .i64 r] w fun e w' => e = .returned (.bool b) ∧ Below w.heap.size w w' := by
  rw [← H.out]; exact fits_any n l v r w h hl hz hr
/-- Two texts, just made. -/
theorem two_is {n : Nat} {x y : ByteArray} {w : World} (hn : n ≤ w.heap.size) : TL n [x, y] (.slice (some ⟨w.heap.size, 0, none⟩) 2 2) (w.alloc (.cells #[.string x, .string y] 9)) := by
  have hk : (w.alloc (.cells #[.string x, .string y] 9)).heap[w.heap.size]? = some (.cells #[.string x, .string y] 9 (0, 0)) := heap_alloc_new w _
  refine ⟨_, 2, rfl, .inr ⟨w.heap.size, 0, rfl, by simp, .inr ⟨⟨_, hk⟩, fun h => h.elim⟩, fun i z hz => ?_⟩⟩
  match i, hz with
  | 0, hz =>
    obtain rfl := Option.some.inj hz
    refine ⟨_, rfl, fun j u hu => ?_⟩
    match j, hu with
    | 0, hu => obtain rfl := Option.some.inj hu; simp only [World.cell?, hk]; rfl
    | j + 1, hu => cases hu
  | 1, hz =>
    obtain rfl := Option.some.inj hz
    refine ⟨_, rfl, fun j u hu => ?_⟩
    match j, hu with
    | 0, hu => obtain rfl := Option.some.inj hu; simp only [World.cell?, hk]; rfl
    | j + 1, hu => cases hu
  | i + 2, hz => cases hz
def aa : ByteArray := ⟨#[97]⟩
def bc : ByteArray := ⟨#[98, 99]⟩
theorem ab_short : Short [aa, bc] := fun x hx => by
  simp at hx
  rcases hx with rfl | rfl <;> decide
theorem ab_lay : layN ByteArray.empty [aa, bc] = (laid [aa, bc], 0) := by
  rw [lay_go (by decide) (by decide), lay_go (by decide) (by rw [ByteArray.size_append, frm_size]; decide)]
  simp [layN, laid]
theorem ab_size : (laid [aa, bc]).size = 15 := by rw [laid_size]; rfl
theorem ab_scan : scan (laid [aa, bc]) = ([aa, bc], 15) := by
  have h := scan_is (sc_all _ ab_short)
  rwa [ab_size] at h
theorem ab_cut : scan ((laid [aa, bc]).extract 0 14) = ([aa], 7) := by
  have h := sc_cut [aa, bc] ab_short 14 1 (by decide) (by decide) (fun _ => (by decide : 14 < 7 + (bc.size + 6))) (by decide)
  exact scan_is h
theorem ab_fits : fitsN 15 [aa, bc] = true := by decide
theorem ab_not : fitsN 14 [aa, bc] = false := by decide
set_option maxRecDepth 8000 in
set_option maxHeartbeats 4000000 in
theorem awake_any (w : World) (ht : Tab w) : Calls Tryd.prog 7 #[] w fun e w' => e = .returned (.bool true) ∧ Below w.heap.size w w' := by
  obtain ⟨S, hS⟩ : ∃ S, laid [aa, bc] = S := ⟨_, rfl⟩
  obtain ⟨T, hT⟩ : ∃ T, S.extract 0 14 = T := ⟨_, rfl⟩
  have HL : Hid (layN ByteArray.empty [aa, bc] = (S, 0)) := Lib.hid (by rw [← hS]; exact ab_lay)
  have HA : Hid (scan S = ([aa, bc], 15)) := Lib.hid (by rw [← hS]; exact ab_scan)
  have HC : Hid (scan T = ([aa], 7)) := Lib.hid (by rw [← hT, ← hS]; exact ab_cut)
  have HE : Hid (lastS (scan S).1 = bc ∧ decide (0 < (scan S).1.length) = true) := Lib.hid (by rw [HA.out]; exact ⟨rfl, rfl⟩)
  have HF : Hid (fitsN 15 [aa, bc] = true) := Lib.hid ab_fits
  have HG : Hid (fitsN 14 [aa, bc] = false) := Lib.hid ab_not
  have hz : S.size = 15 := by rw [← hS]; exact ab_size
  have hz2 : T.size ≤ 1000000 := by rw [← hT, ByteArray.size_extract]; omega
  have hz3 : S.size ≤ 1000000 := by omega
  have HZ2 := Lib.hid hz2
  have HZ3 := Lib.hid hz3
  have HT := Lib.hid ht
  have HS2 : Hid (∀ x ∈ [aa, bc], x.size ≤ maxLen) := Lib.hid fun x hx => Nat.le_trans (ab_short x hx) (by decide)
  have HS3 : Hid (∀ x ∈ [aa, bc], x.size ≤ 1000000000) := Lib.hid fun x hx => Nat.le_trans (ab_short x hx) (by decide)
  obtain ⟨X, hX⟩ : ∃ Q_ : World, w.alloc (.cells #[.string ⟨#[97]⟩, .string ⟨#[98, 99]⟩] 9) = Q_ := ⟨_, rfl⟩
  have bX : Below w.heap.size w X := hX ▸ below1 _ _
  have lX : TL w.heap.size [aa, bc] (.slice (some ⟨w.heap.size, 0, none⟩) 2 2) X := hX ▸ two_is (Nat.le_refl _)
  have HLX := Lib.hid lX
  clear hS hz2 hz3 ht lX
  go_enter Tryd.func7, Tryd.ntmps7
  go_wp2_with fail
  refine (lay_is HL HLX.out (by decide) HS2.out (HT.out.below bX)).mono ?_
  rintro e w1 ⟨rfl, hb1⟩
  have b1 := nx bX hb1
  go_wp2_with fail
  refine (scan_is2 HC w.heap.size HZ2.out _ b1.size (HT.out.below b1)).mono ?_
  rintro e w2 ⟨v2, rfl, hb2, o2⟩
  have b2 := nx b1 hb2
  go_wp2_with fail
  refine (scan_is2 HA w.heap.size HZ3.out _ b2.size (HT.out.below b2)).mono ?_
  rintro e w3 ⟨v3, rfl, hb3, o3⟩
  have b3 := nx b2 hb3
  go_wp2_with fail
  refine (last_is HE HZ3.out _ (HT.out.below b3)).mono ?_
  rintro e w4 ⟨rfl, hb4⟩
  have b4 := nx b3 hb4
  have T2 := (o2.tl b1.size).stays (nx hb3 hb4)
  have T3 := (o3.tl b2.size).stays hb4
  obtain ⟨g1, f1, c1, rfl, m1, n1⟩ := TL.get T2 (Below.refl _ _) (k := 0) (by decide)
  obtain ⟨a3, c3, rfl⟩ := T3.len
  have m1 : w4.cell? ⟨g1, f1, none⟩ = some (.string ⟨#[97]⟩) := m1
  have hbc : bc = ⟨#[98, 99]⟩ := rfl
  rw [hbc]
  obtain ⟨Y, hY⟩ : ∃ Q_ : World, w4.alloc (.cells #[.string ⟨#[97]⟩, .string ⟨#[98, 99]⟩] 9) = Q_ := ⟨_, rfl⟩
  have bY : Below w4.heap.size w4 Y := hY ▸ below1 _ _
  have HLY := Lib.hid (show TL w4.heap.size [aa, bc] (.slice (some ⟨w4.heap.size, 0, none⟩) 2 2) Y from hY ▸ two_is (Nat.le_refl _))
  have b5 := nx b4 bY
  clear T2 T3 o2 o3 hbc
  go_wp2_with fail
  refine (fits_is HF HLY.out (by decide) HS3.out (by decide)).mono ?_
  rintro e w5 ⟨rfl, hb5⟩
  have b6 := nx b5 hb5
  obtain ⟨Z, hZ⟩ : ∃ Q_ : World, w5.alloc (.cells #[.string ⟨#[97]⟩, .string ⟨#[98, 99]⟩] 9) = Q_ := ⟨_, rfl⟩
  have bZ : Below w5.heap.size w5 Z := hZ ▸ below1 _ _
  have HLZ := Lib.hid (show TL w5.heap.size [aa, bc] (.slice (some ⟨w5.heap.size, 0, none⟩) 2 2) Z from hZ ▸ two_is (Nat.le_refl _))
  have b7 := nx b6 bZ
  go_wp2_with fail
  refine (fits_is HG HLZ.out (by decide) HS3.out (by decide)).mono ?_
  rintro e w6 ⟨rfl, hb6⟩
  go_wp2
  go_ret
  exact ⟨rfl, nx b7 hb6⟩
end Go.Proofs.YtodlibpibopnoaaDoor.Wa
