/- Of the statements of layer 14: awake. -/
import Derived.Test.YtegepbifbhamnaaDkM
import Derived.Test.YtegepbifbhamnaaDkN
namespace Go.Proofs.Ytegepbifbhamnaa.Dk
open Go.RowKit
set_option linter.unusedVariables false
open Go.Proofs.Ytegepbifbhamnaa.Rw
open Go.Proofs.Ytegepbifbhamnaa.Da
abbrev sAB : ByteArray := ⟨#[97, 98]⟩
abbrev sCD : ByteArray := ⟨#[99, 100]⟩
abbrev sABC : ByteArray := ⟨#[97, 98, 99]⟩
abbrev e0 : ByteArray := ⟨#[]⟩
abbrev d1 : Ds := ⟨e0, e0, [], 50, -1, false⟩
abbrev d2 : Ds := ⟨e0, e0, [(false, sAB, false)], 50, -1, false⟩
abbrev d3 : Ds := ⟨sAB, e0, [], 50, -1, false⟩
abbrev d4 : Ds := ⟨sAB, e0, [(false, sCD, false)], 50, -1, false⟩
abbrev d5 : Ds := ⟨sABC, e0, [], 50, -1, true⟩
abbrev d6 : Ds := ⟨sABC, e0, [], 50, -1, false⟩
theorem aw1 : newP 50 = d1 := by kernel_rfl
theorem aw2 : appP d1 0 sAB = (d2, 0) := by kernel_rfl
theorem aw3 : synP d2 = (d3, 0) := by kernel_rfl
theorem aw4 : appP d3 0 sCD = (d4, 0) := by kernel_rfl
theorem aw5 : craP d4 0 1 = d5 := by kernel_rfl
theorem aw6 : staP d5 = d6 := rfl
theorem aw7 : readS d6 0 = sABC := by kernel_rfl
theorem aw8 : readE d6 0 = 0 := by kernel_rfl
theorem ok_d (a : ByteArray) (l : List Do) (n : Bool) (h1 : a.size ≤ 3) (h2 : wl l ≤ 2) (h3 : l.length ≤ 1) : Ok 1000000 1000 ⟨a, e0, l, 50, -1, n⟩ :=
  ⟨by show a.size + e0.size + wl l ≤ _; have : e0.size = 0 := rfl; omega, by show l.length ≤ _; omega, by show (-1 : Int) ≤ -1 ∧ (-1 : Int) ≤ _; omega, by show (0 : Int) ≤ 50 ∧ (50 : Int) ≤ _; omega⟩
set_option maxRecDepth 8000 in
set_option maxHeartbeats 8000000 in
theorem awake_any (w : World) : Calls Try.prog 7 #[] w fun e w' => e = .returned (.bool true) ∧ Below w.heap.size w w' := by
  obtain ⟨n, hn⟩ : ∃ n, n = w.heap.size := ⟨_, rfl⟩
  have hn0 : n ≤ w.heap.size := by omega
  clear hn
  go_enter Try.func7, Try.ntmps7
  go_wp2_with fail
  refine (new_any n 50 w hn0).mono ?_
  rintro e w1 ⟨v1, rfl, hb1, h1⟩
  rw [aw1] at h1
  go_wp2_with fail
  with_reducible refine (append_any n d1 v1 0 sAB w1 h1 (by have := hb1.size; omega) (ok_d e0 [] false (by decide) (by decide) (by decide)) (by decide)).mono ?_
  rintro e w2 ⟨v2, rfl, hb2, h2⟩
  rw [aw2] at h2
  rw [aw2]
  simp only at h2 ⊢
  have bw2 := nx hb1 hb2
  have hz2 := bw2.size
  obtain ⟨o2, rfl, hO, hc2⟩ := h2
  simp only at hO ⊢
  obtain ⟨a2, c2, rfl⟩ := hO.len
  obtain ⟨n2, hn2⟩ : ∃ q, ([(false, sAB, false)] : List Do).length = q := ⟨_, rfl⟩
  rw [hn2] at hO hc2 ⊢
  clear hn2
  obtain ⟨X, hX⟩ : ∃ Q_ : World, w2.alloc (.cells #[.string e0, .string e0, .slice a2 n2 c2, .int .i64 50, .int .i64 (-1), .bool false] 28) = Q_ := ⟨_, rfl⟩
  have aX : Below w2.heap.size w2 X := hX ▸ below1 _ _
  have B0 : Bx X (w2.heap.size) #[.string e0, .string e0, .slice a2 n2 c2, .int .i64 50, .int .i64 (-1), .bool false] 28 := hX ▸ Bx.at (by first | rfl | omega) _ _
  replace hO := hO.stays aX
  have bX := nx bw2 aX
  obtain ⟨q1l, q1r, q1p, ⟨q1c0, q1c1, q1c2, q1c3, q1c4, q1c5⟩, ⟨q1f0, q1f1, q1f2, q1f3, q1f4, q1f5⟩⟩ := B0.d6
  have hnX : n ≤ X.heap.size := by have := bX.size; omega
  go_wp2_with fail
  with_reducible refine (sync_any n d2 _ X (DV.mk hO hc2) hnX (ok_d e0 _ false (by decide) (by decide) (by decide))).mono ?_
  rintro e w3 ⟨v3, rfl, hb3, h3⟩
  rw [aw3] at h3
  rw [aw3]
  simp only at h3 ⊢
  obtain ⟨o3, rfl, hO3, hc3⟩ := h3
  simp only at hO3 ⊢
  obtain ⟨a3, c3, rfl⟩ := hO3.len
  obtain ⟨n3, hn3⟩ : ∃ q, ([] : List Do).length = q := ⟨_, rfl⟩
  rw [hn3] at hO3 hc3 ⊢
  clear hn3
  clear q1l q1r q1p q1c0 q1c1 q1c2 q1c3 q1c4 q1c5 q1f0 q1f1 q1f2 q1f3 q1f4 q1f5
  replace B0 := B0.stays hb3
  have bw3 := nx bX hb3
  obtain ⟨q2l, q2r, q2p, ⟨q2c0, q2c1, q2c2, q2c3, q2c4, q2c5⟩, ⟨q2f0, q2f1, q2f2, q2f3, q2f4, q2f5⟩⟩ := B0.d6
  obtain ⟨Y, hY⟩ : ∃ Q_ : World, w3.setRow (w2.heap.size) #[.string sAB, .string e0, .slice a3 n3 c3, .int .i64 50, .int .i64 (-1), .bool false] = Q_ := ⟨_, rfl⟩
  have bY : Below w.heap.size w Y := hY ▸ (bw3).trans (low_setRow _ (by omega))
  replace hO3 : OL n [] (.slice a3 n3 c3) Y := hY ▸ hO3.keep (keeps_setRow _ B0 (by decide) (by show n ≤ _; omega))
  replace B0 : Bx Y (w2.heap.size) #[.string sAB, .string e0, .slice a3 n3 c3, .int .i64 50, .int .i64 (-1), .bool false] 28 := hY ▸ B0.put _
  obtain ⟨q3l, q3r, q3p, ⟨q3c0, q3c1, q3c2, q3c3, q3c4, q3c5⟩, ⟨q3f0, q3f1, q3f2, q3f3, q3f4, q3f5⟩⟩ := B0.d6
  have hnY : n ≤ Y.heap.size := by have := bY.size; omega
  go_wp2_with fail
  with_reducible refine (append_any n d3 _ 0 sCD Y (DV.mk hO3 hc3) hnY (ok_d sAB _ false (by decide) (by decide) (by decide)) (by decide)).mono ?_
  rintro e w4 ⟨v4, rfl, hb4, h4⟩
  rw [aw4] at h4
  rw [aw4]
  simp only at h4 ⊢
  obtain ⟨o4, rfl, hO4, hc4⟩ := h4
  simp only at hO4 ⊢
  obtain ⟨a4, c4, rfl⟩ := hO4.len
  obtain ⟨n4, hn4⟩ : ∃ q, ([(false, sCD, false)] : List Do).length = q := ⟨_, rfl⟩
  rw [hn4] at hO4 hc4 ⊢
  clear hn4
  clear q2l q2r q2p q2c0 q2c1 q2c2 q2c3 q2c4 q2c5 q2f0 q2f1 q2f2 q2f3 q2f4 q2f5
  clear q3l q3r q3p q3c0 q3c1 q3c2 q3c3 q3c4 q3c5 q3f0 q3f1 q3f2 q3f3 q3f4 q3f5
  replace B0 := B0.stays hb4
  have bw4 := nx bY hb4
  obtain ⟨q4l, q4r, q4p, ⟨q4c0, q4c1, q4c2, q4c3, q4c4, q4c5⟩, ⟨q4f0, q4f1, q4f2, q4f3, q4f4, q4f5⟩⟩ := B0.d6
  obtain ⟨Z, hZ⟩ : ∃ Q_ : World, w4.setRow (w2.heap.size) #[.string sAB, .string e0, .slice a4 n4 c4, .int .i64 50, .int .i64 (-1), .bool false] = Q_ := ⟨_, rfl⟩
  have bZ : Below w.heap.size w Z := hZ ▸ (bw4).trans (low_setRow _ (by omega))
  replace hO4 : OL n [(false, sCD, false)] (.slice a4 n4 c4) Z := hZ ▸ hO4.keep (keeps_setRow _ B0 (by decide) (by show n ≤ _; omega))
  replace B0 : Bx Z (w2.heap.size) #[.string sAB, .string e0, .slice a4 n4 c4, .int .i64 50, .int .i64 (-1), .bool false] 28 := hZ ▸ B0.put _
  obtain ⟨q5l, q5r, q5p, ⟨q5c0, q5c1, q5c2, q5c3, q5c4, q5c5⟩, ⟨q5f0, q5f1, q5f2, q5f3, q5f4, q5f5⟩⟩ := B0.d6
  have hnZ : n ≤ Z.heap.size := by have := bZ.size; omega
  go_wp2_with fail
  with_reducible refine (crash_any n d4 _ 0 1 Z (DV.mk hO4 hc4) hnZ (ok_d sAB _ false (by decide) (by decide) (by decide))).mono ?_
  rintro e w5 ⟨v5, rfl, hb5, h5⟩
  rw [aw5] at h5
  go_wp2_with fail
  with_reducible refine (start_any n d5 _ w5 h5).mono ?_
  rintro e w6 ⟨v6, rfl, hb6, h6⟩
  rw [aw6] at h6
  have b56 := nx hb5 hb6
  have hn6 : n ≤ w6.heap.size := by have := b56.size; omega
  go_wp2_with fail
  with_reducible refine (read_is (Lib.hid aw7) (Lib.hid aw8) h6 hn6 (ok_d sABC [] false (by decide) (by decide) (by decide)).wt (by decide)).mono ?_
  rintro e w7 ⟨rfl, hb7⟩
  go_wp2
  go_ret
  exact ⟨rfl, nx bZ (nx b56 hb7)⟩
end Go.Proofs.Ytegepbifbhamnaa.Dk
