/- Package disk as it landed: do. -/
import Derived.Test.YtegepbifbhamnaaDkD
namespace Go.Proofs.Ytegepbifbhamnaa.Dk
open Go.RowKit
set_option linter.unusedVariables false
open Go.Proofs.Ytegepbifbhamnaa.Rw
open Go.Proofs.Ytegepbifbhamnaa.Da
theorem Post2.intro {n : Nat} {p q : Ds × Int} {v : Value} {w w' : World} (H : Hid (p = q)) (hb : Below w.heap.size w w') (h : DV n q.1 v w') : Post2 n p w (.returned (.tuple #[v, .int .i64 q.2])) w' := by
  rw [H.out]; exact ⟨v, rfl, hb, h⟩
abbrev z6 : Array Value := #[.string ⟨#[]⟩, .string ⟨#[]⟩, .slice none 0 0, .int .i64 0, .int .i64 0, .bool false]
set_option maxRecDepth 8000 in
set_option maxHeartbeats 4000000 in
theorem do_any (n : Nat) (d : Ds) (z : Bool) (x : ByteArray) (er : Bool) (v : Value) (w : World) (h : DV n d v w) (hn : n ≤ w.heap.size) (hf : -1 ≤ d.f ∧ d.f ≤ 9223372036854775807) (hl : d.l.length ≤ 100000) :
    Calls Try.prog 35 #[v, .agg #[.int .i64 (zi z), .string x, .bool er]] w (Post2 n (doP d (z, x, er)) w) := by
  obtain ⟨o, rfl, hO, hc⟩ := h
  obtain ⟨a, b, l, c, f, dn⟩ := d
  simp only at hf hl hO ⊢
  obtain ⟨a1, c1, rfl⟩ := hO.len
  obtain ⟨n1, hn1⟩ : ∃ q, l.length = q := ⟨_, rfl⟩
  rw [hn1] at hO hc ⊢
  obtain ⟨zz, hzz⟩ : ∃ q, zi z = q := ⟨_, rfl⟩
  have HZZ := Lib.hid hzz
  rw [hzz]
  have HH := Lib.hid (show ∀ u, Below w.heap.size w u → OL n l (.slice a1 n1 c1) u from fun u hu => hO.stays hu)
  have HC := Lib.hid hc
  have HN := Lib.hid hn1
  obtain ⟨V, hV⟩ : ∃ V, ((w.alloc (.cells #[.string a, .string b, .slice a1 n1 c1, .int .i64 c, .int .i64 f, .bool dn] 28)).alloc (.cells #[.int .i64 zz, .string x, .bool er] 52)).alloc (.cells z6 28) = V := ⟨_, rfl⟩
  have bV : Below w.heap.size w V := hV ▸ below3 w _ _ _
  obtain ⟨B0, B1, B2⟩ : Bx V w.heap.size #[.string a, .string b, .slice a1 n1 c1, .int .i64 c, .int .i64 f, .bool dn] 28 ∧ Bx V (w.heap.size + 1) #[.int .i64 zz, .string x, .bool er] 52 ∧ Bx V (w.heap.size + 2) z6 28 := hV ▸ bx3 w _ _ _ _ _ _
  have HB0 := Lib.hid B0
  have HB1 := Lib.hid B1
  have HB2 := Lib.hid B2
  have dV : DV n ⟨a, b, l, c, f, dn⟩ (.agg (cD a b (.slice a1 n1 c1) c f dn)) V := DV.mk (HH.out _ bV) HC.out
  have HD := Lib.hid dV
  clear hO hc hn1 hzz dV
  by_cases h0 : f = 0
  · subst h0
    have HP : Hid (doP ⟨a, b, l, c, 0, dn⟩ (z, x, er) = (⟨a, b, l, c, 0, true⟩, 15)) := Lib.hid (by simp [doP])
    have HQ : Hid (burnP ⟨a, b, l, c, 0, dn⟩ = (⟨a, b, l, c, 0, true⟩, 15)) := Lib.hid (by simp [burnP])
    obtain ⟨q1l, q1r, q1p, ⟨q1c0, q1c1, q1c2, q1c3, q1c4, q1c5⟩, ⟨q1f0, q1f1, q1f2, q1f3, q1f4, q1f5⟩⟩ := B0.d6
    go_enter Try.func35, Try.ntmps35
    go_wp2_with fail
    refine (burn_any n _ _ V HD.out hf).mono ?_
    rintro e w1 ⟨v1, rfl, hb1, h1⟩
    rw [HQ.out] at h1
    rw [HQ.out]
    simp only at h1
    obtain ⟨o1, rfl, hO1, hc1⟩ := h1
    simp only at hO1 ⊢
    obtain ⟨a2, c2, rfl⟩ := hO1.len
    rw [HN.out] at hO1 hc1 ⊢
    clear q1l q1r q1p q1c0 q1c1 q1c2 q1c3 q1c4 q1c5 q1f0 q1f1 q1f2 q1f3 q1f4 q1f5
    replace B0 := B0.stays hb1
    replace B1 := B1.stays hb1
    replace B2 := B2.stays hb1
    have bw1 := nx bV hb1
    obtain ⟨q2l, q2r, q2p, ⟨q2c0, q2c1, q2c2, q2c3, q2c4, q2c5⟩, ⟨q2f0, q2f1, q2f2, q2f3, q2f4, q2f5⟩⟩ := B0.d6
    obtain ⟨X, hX⟩ : ∃ Q_ : World, w1.setRow (w.heap.size) #[.string a, .string b, .slice a2 n1 c2, .int .i64 c, .int .i64 0, .bool true] = Q_ := ⟨_, rfl⟩
    have bX : Below w.heap.size w X := hX ▸ (bw1).trans (low_setRow _ (by omega))
    replace hO1 : OL n l (.slice a2 n1 c2) X := hX ▸ hO1.keep (keeps_setRow _ B0 (by decide) (by show n ≤ _; omega))
    replace B1 : Bx X (w.heap.size + 1) #[.int .i64 zz, .string x, .bool er] 52 := hX ▸ B1.put' (by omega) _
    replace B2 : Bx X (w.heap.size + 2) #[.string ⟨#[]⟩, .string ⟨#[]⟩, .slice none 0 0, .int .i64 0, .int .i64 0, .bool false] 28 := hX ▸ B2.put' (by omega) _
    replace B0 : Bx X (w.heap.size) #[.string a, .string b, .slice a2 n1 c2, .int .i64 c, .int .i64 0, .bool true] 28 := hX ▸ B0.put _
    obtain ⟨q3l, q3r, q3p, ⟨q3c0, q3c1, q3c2, q3c3, q3c4, q3c5⟩, ⟨q3f0, q3f1, q3f2, q3f3, q3f4, q3f5⟩⟩ := B0.d6
    obtain ⟨q4l, q4r, q4p, ⟨q4c0, q4c1, q4c2, q4c3, q4c4, q4c5⟩, ⟨q4f0, q4f1, q4f2, q4f3, q4f4, q4f5⟩⟩ := B2.d6
    obtain ⟨Y, hY⟩ : ∃ Q_ : World, X.setRow (w.heap.size + 2) #[.string a, .string b, .slice a2 n1 c2, .int .i64 c, .int .i64 0, .bool true] = Q_ := ⟨_, rfl⟩
    have bY : Below w.heap.size w Y := hY ▸ (bX).trans (low_setRow _ (by omega))
    replace hO1 : OL n l (.slice a2 n1 c2) Y := hY ▸ hO1.keep (keeps_setRow _ B2 (by decide) (by show n ≤ _; omega))
    replace B0 : Bx Y (w.heap.size) #[.string a, .string b, .slice a2 n1 c2, .int .i64 c, .int .i64 0, .bool true] 28 := hY ▸ B0.put' (by omega) _
    replace B1 : Bx Y (w.heap.size + 1) #[.int .i64 zz, .string x, .bool er] 52 := hY ▸ B1.put' (by omega) _
    replace B2 : Bx Y (w.heap.size + 2) #[.string a, .string b, .slice a2 n1 c2, .int .i64 c, .int .i64 0, .bool true] 28 := hY ▸ B2.put _
    obtain ⟨q5l, q5r, q5p, ⟨q5c0, q5c1, q5c2, q5c3, q5c4, q5c5⟩, ⟨q5f0, q5f1, q5f2, q5f3, q5f4, q5f5⟩⟩ := B2.d6
    go_wp2
    refine bodyPost_ret (v := .tuple #[.agg (cD a b (.slice a2 n1 c2) c 0 true), .int .i64 15]) (ret_D2 Try.results35 _ _ rfl ?c1) rfl (Post2.intro HP bY (DV.mk hO1 hc1))
    case c1 => simp [go_sem, *]
  · have h1 : (f == 0) = false := by simpa using h0
    obtain ⟨f2, hf2⟩ : ∃ q, max f 0 - 1 = q := ⟨_, rfl⟩
    have HP : Hid (doP ⟨a, b, l, c, f, dn⟩ (z, x, er) = (⟨a, b, l ++ [(z, x, er)], c, f2, dn⟩, 0)) := Lib.hid (by simp only [doP]; rw [if_neg h0, hf2])
    have HQ : Hid (burnP ⟨a, b, l, c, f, dn⟩ = (⟨a, b, l, c, f2, dn⟩, 0)) := Lib.hid (by simp only [burnP]; rw [if_neg h0, hf2])
    clear hf2 h0
    obtain ⟨q1l, q1r, q1p, ⟨q1c0, q1c1, q1c2, q1c3, q1c4, q1c5⟩, ⟨q1f0, q1f1, q1f2, q1f3, q1f4, q1f5⟩⟩ := B0.d6
    go_enter Try.func35, Try.ntmps35
    go_wp2_with fail
    refine (burn_any n _ _ V HD.out hf).mono ?_
    rintro e w1 ⟨v1, rfl, hb1, h1⟩
    rw [HQ.out] at h1
    rw [HQ.out]
    simp only at h1
    obtain ⟨o1, rfl, hO1, hc1⟩ := h1
    simp only at hO1 ⊢
    obtain ⟨a2, c2, rfl⟩ := hO1.len
    rw [HN.out] at hO1 hc1 ⊢
    clear q1l q1r q1p q1c0 q1c1 q1c2 q1c3 q1c4 q1c5 q1f0 q1f1 q1f2 q1f3 q1f4 q1f5
    replace B0 := B0.stays hb1
    replace B1 := B1.stays hb1
    replace B2 := B2.stays hb1
    have bw1 := nx bV hb1
    obtain ⟨q2l, q2r, q2p, ⟨q2c0, q2c1, q2c2, q2c3, q2c4, q2c5⟩, ⟨q2f0, q2f1, q2f2, q2f3, q2f4, q2f5⟩⟩ := B0.d6
    obtain ⟨X, hX⟩ : ∃ Q_ : World, w1.setRow (w.heap.size) #[.string a, .string b, .slice a2 n1 c2, .int .i64 c, .int .i64 f2, .bool dn] = Q_ := ⟨_, rfl⟩
    have bX : Below w.heap.size w X := hX ▸ (bw1).trans (low_setRow _ (by omega))
    replace hO1 : OL n l (.slice a2 n1 c2) X := hX ▸ hO1.keep (keeps_setRow _ B0 (by decide) (by show n ≤ _; omega))
    replace B1 : Bx X (w.heap.size + 1) #[.int .i64 zz, .string x, .bool er] 52 := hX ▸ B1.put' (by omega) _
    replace B2 : Bx X (w.heap.size + 2) #[.string ⟨#[]⟩, .string ⟨#[]⟩, .slice none 0 0, .int .i64 0, .int .i64 0, .bool false] 28 := hX ▸ B2.put' (by omega) _
    replace B0 : Bx X (w.heap.size) #[.string a, .string b, .slice a2 n1 c2, .int .i64 c, .int .i64 f2, .bool dn] 28 := hX ▸ B0.put _
    obtain ⟨q3l, q3r, q3p, ⟨q3c0, q3c1, q3c2, q3c3, q3c4, q3c5⟩, ⟨q3f0, q3f1, q3f2, q3f3, q3f4, q3f5⟩⟩ := B0.d6
    obtain ⟨q4l, q4r, q4p, ⟨q4c0, q4c1, q4c2⟩, ⟨q4f0, q4f1, q4f2⟩⟩ := B1.d3
    have hX1 : OL n [(z, x, er)] (.slice (some ⟨X.heap.size, 0, none⟩) 1 1) (X.alloc (.cells #[.int .i64 zz, .string x, .bool er] 52)) := Is.one (e := eO) (T := 52) (B := Bs.of n) (cs := [.int .i64 zz, .string x, .bool er]) ⟨by show n ≤ _; have := bX.size; omega, fun _ h => h.elim⟩ (by show _ = cellsO _; rw [← HZZ.out]; rfl)
    obtain ⟨Y, hY⟩ : ∃ Q_ : World, (X.alloc (.cells #[.int .i64 zz, .string x, .bool er] 52)).alloc (.cells #[.slice a2 n1 c2, .slice (some ⟨X.heap.size, 0, none⟩) 1 1] 26) = Q_ := ⟨_, rfl⟩
    have aY : Below X.heap.size X Y := hY ▸ below2 _ _ _
    replace hX1 : OL n [(z, x, er)] (.slice (some ⟨X.heap.size, 0, none⟩) 1 1) Y := hY ▸ hX1.stays (below1 _ _)
    have BY : Bx Y (X.heap.size + 1) #[.slice a2 n1 c2, .slice (some ⟨X.heap.size, 0, none⟩) 1 1] 26 := hY ▸ Bx.at (by simp) _ _
    replace B0 := B0.stays aY
    replace B1 := B1.stays aY
    replace B2 := B2.stays aY
    replace hO1 := hO1.stays aY
    have bY := nx bX aY
    go_wp2_with fail
    refine (concat_any n l [(z, x, er)] _ _ (X.heap.size + 1) Y hO1 hX1 BY.lt (BY.cell 0) (BY.cell 1) (by have := bY.size; omega) (by omega) (by simp)).mono ?_
    rintro e w2 ⟨v2, rfl, hb2, hO2, hc2⟩
    obtain ⟨a3, c3, rfl⟩ := hO2.len
    obtain ⟨n3, hn3⟩ : ∃ q, (l ++ [(z, x, er)]).length = q := ⟨_, rfl⟩
    rw [hn3] at hO2 hc2 ⊢
    clear hn3
    clear q2l q2r q2p q2c0 q2c1 q2c2 q2c3 q2c4 q2c5 q2f0 q2f1 q2f2 q2f3 q2f4 q2f5
    clear q3l q3r q3p q3c0 q3c1 q3c2 q3c3 q3c4 q3c5 q3f0 q3f1 q3f2 q3f3 q3f4 q3f5
    clear q4l q4r q4p q4c0 q4c1 q4c2 q4f0 q4f1 q4f2
    replace B0 := B0.stays hb2
    replace B1 := B1.stays hb2
    replace B2 := B2.stays hb2
    replace hO1 := hO1.stays hb2
    have bw2 := nx bY hb2
    obtain ⟨q5l, q5r, q5p, ⟨q5c0, q5c1, q5c2, q5c3, q5c4, q5c5⟩, ⟨q5f0, q5f1, q5f2, q5f3, q5f4, q5f5⟩⟩ := B0.d6
    obtain ⟨Z, hZ⟩ : ∃ Q_ : World, w2.setCell ⟨w.heap.size, 2, none⟩ (.slice a3 n3 c3) = Q_ := ⟨_, rfl⟩
    have bZ : Below w.heap.size w Z := hZ ▸ (bw2).trans (low_setCell _ _ (by omega))
    replace hO2 : OL n (l ++ [(z, x, er)]) (.slice a3 n3 c3) Z := hZ ▸ hO2.keep (keeps_setCell _ _ B0 (by decide) (by show n ≤ _; omega))
    replace B1 : Bx Z (w.heap.size + 1) #[.int .i64 zz, .string x, .bool er] 52 := hZ ▸ B1.set' (by omega) _ _
    replace B2 : Bx Z (w.heap.size + 2) #[.string ⟨#[]⟩, .string ⟨#[]⟩, .slice none 0 0, .int .i64 0, .int .i64 0, .bool false] 28 := hZ ▸ B2.set' (by omega) _ _
    replace B0 : Bx Z (w.heap.size) #[.string a, .string b, .slice a3 n3 c3, .int .i64 c, .int .i64 f2, .bool dn] 28 := hZ ▸ (show Bx (w2.setCell ⟨w.heap.size, 2, none⟩ (.slice a3 n3 c3)) (w.heap.size) #[.string a, .string b, .slice a3 n3 c3, .int .i64 c, .int .i64 f2, .bool dn] 28 from B0.set 2 (.slice a3 n3 c3))
    obtain ⟨q6l, q6r, q6p, ⟨q6c0, q6c1, q6c2, q6c3, q6c4, q6c5⟩, ⟨q6f0, q6f1, q6f2, q6f3, q6f4, q6f5⟩⟩ := B0.d6
    obtain ⟨q7l, q7r, q7p, ⟨q7c0, q7c1, q7c2, q7c3, q7c4, q7c5⟩, ⟨q7f0, q7f1, q7f2, q7f3, q7f4, q7f5⟩⟩ := B2.d6
    obtain ⟨U, hU⟩ : ∃ Q_ : World, Z.setRow (w.heap.size + 2) #[.string a, .string b, .slice a3 n3 c3, .int .i64 c, .int .i64 f2, .bool dn] = Q_ := ⟨_, rfl⟩
    have bU : Below w.heap.size w U := hU ▸ (bZ).trans (low_setRow _ (by omega))
    replace hO2 : OL n (l ++ [(z, x, er)]) (.slice a3 n3 c3) U := hU ▸ hO2.keep (keeps_setRow _ B2 (by decide) (by show n ≤ _; omega))
    replace B0 : Bx U (w.heap.size) #[.string a, .string b, .slice a3 n3 c3, .int .i64 c, .int .i64 f2, .bool dn] 28 := hU ▸ B0.put' (by omega) _
    replace B1 : Bx U (w.heap.size + 1) #[.int .i64 zz, .string x, .bool er] 52 := hU ▸ B1.put' (by omega) _
    replace B2 : Bx U (w.heap.size + 2) #[.string a, .string b, .slice a3 n3 c3, .int .i64 c, .int .i64 f2, .bool dn] 28 := hU ▸ B2.put _
    obtain ⟨q8l, q8r, q8p, ⟨q8c0, q8c1, q8c2, q8c3, q8c4, q8c5⟩, ⟨q8f0, q8f1, q8f2, q8f3, q8f4, q8f5⟩⟩ := B2.d6
    go_wp2
    refine bodyPost_ret (v := .tuple #[.agg (cD a b (.slice a3 n3 c3) c f2 dn), .int .i64 0]) (ret_D2 Try.results35 _ _ rfl ?c1) rfl (Post2.intro HP bU (DV.mk hO2 hc2))
    case c1 => simp [go_sem, *]
end Go.Proofs.Ytegepbifbhamnaa.Dk
