/- Of the statements of layer 14: step. -/
import Derived.Test.YtegepbifbhamnaaDkP
namespace Go.Proofs.Ytegepbifbhamnaa.Dk
open Go.RowKit
set_option linter.unusedVariables false
open Go.Proofs.Ytegepbifbhamnaa.Rw
open Go.Proofs.Ytegepbifbhamnaa.Da
set_option maxRecDepth 8000 in
set_option maxHeartbeats 8000000 in
theorem step_any (n : Nat) (d : Ds) (v : Value) (k z p q : Int) (x : ByteArray) (w : World) (h : DV n d v w) (hn : n ≤ w.heap.size) (hk : Ok 1000000 1000 d) (hx : x.size ≤ 1000000) :
    Calls Try.prog 10 #[v, .agg #[.int .i64 k, .int .i64 z, .int .i64 p, .int .i64 q, .string x]] w (Post2 n (stepP d (k, z, p, q, x)) w) := by
  obtain ⟨o, rfl, hO, hc⟩ := h
  obtain ⟨a, b, l, c, f, dn⟩ := d
  simp only at hO ⊢
  obtain ⟨a1, c1, rfl⟩ := hO.len
  obtain ⟨n1, hn1⟩ : ∃ q, l.length = q := ⟨_, rfl⟩
  rw [hn1] at hO hc ⊢
  clear hn1
  obtain ⟨V, hV⟩ : ∃ Q_ : World, ((w.alloc (.cells #[.string a, .string b, .slice a1 n1 c1, .int .i64 c, .int .i64 f, .bool dn] 28)).alloc (.cells #[.int .i64 k, .int .i64 z, .int .i64 p, .int .i64 q, .string x] 31)).alloc (.cells #[.string ⟨#[]⟩, .string ⟨#[]⟩, .slice none 0 0, .int .i64 0, .int .i64 0, .bool false] 28) = Q_ := ⟨_, rfl⟩
  have bV : Below w.heap.size w V := hV ▸ below3 w _ _ _
  obtain ⟨B0, B1, B2⟩ : Bx V w.heap.size #[.string a, .string b, .slice a1 n1 c1, .int .i64 c, .int .i64 f, .bool dn] 28 ∧ Bx V (w.heap.size + 1) #[.int .i64 k, .int .i64 z, .int .i64 p, .int .i64 q, .string x] 31 ∧ Bx V (w.heap.size + 2) #[.string ⟨#[]⟩, .string ⟨#[]⟩, .slice none 0 0, .int .i64 0, .int .i64 0, .bool false] 28 := hV ▸ bx3 w _ _ _ _ _ _
  replace hO := hO.stays bV
  have hD : DV n ⟨a, b, l, c, f, dn⟩ (.agg (cD a b (.slice a1 n1 c1) c f dn)) V := DV.mk hO hc
  have HD := Lib.hid hD
  have hnV : n ≤ V.heap.size := by have := bV.size; omega
  obtain ⟨r, hr⟩ : ∃ r, stepP ⟨a, b, l, c, f, dn⟩ (k, z, p, q, x) = r := ⟨_, rfl⟩
  have HP := Lib.hid hr
  rw [hr]
  clear hO hc hD
  by_cases h0 : k = 0
  · subst h0
    have HR : Hid (r = (appP ⟨a, b, l, c, f, dn⟩ z x)) := Lib.hid (by rw [← hr]; rfl)
    clear hr 
    obtain ⟨q1l, q1r, q1p, ⟨q1c0, q1c1, q1c2, q1c3, q1c4, q1c5⟩, ⟨q1f0, q1f1, q1f2, q1f3, q1f4, q1f5⟩⟩ := B0.d6
    obtain ⟨q2l, q2r, q2p, ⟨q2c0, q2c1, q2c2, q2c3, q2c4⟩⟩ := B1.d5
    go_enter Try.func10, Try.ntmps10
    go_wp2_with fail
    with_reducible refine (append_any n _ _ z x V HD.out hnV hk hx).mono ?_
    rintro e w1 ⟨v1, rfl, hb1, h1⟩
    obtain ⟨r2, hr2⟩ : ∃ Q_, appP ⟨a, b, l, c, f, dn⟩ z x = Q_ := ⟨_, rfl⟩
    rw [hr2] at h1 HR ⊢
    clear hr2
    obtain ⟨⟨a3, b3, l3, c3, f3, dn3⟩, k3⟩ := r2
    obtain ⟨o3, rfl, hO3, hc3⟩ := h1
    simp only at hO3 ⊢
    obtain ⟨a4, c4, rfl⟩ := hO3.len
    obtain ⟨n4, hn4⟩ : ∃ q, l3.length = q := ⟨_, rfl⟩
    rw [hn4] at hO3 hc3 ⊢
    clear hn4
    clear q1l q1r q1p q1c0 q1c1 q1c2 q1c3 q1c4 q1c5 q1f0 q1f1 q1f2 q1f3 q1f4 q1f5
    clear q2l q2r q2p q2c0 q2c1 q2c2 q2c3 q2c4
    replace B0 := B0.stays hb1
    replace B1 := B1.stays hb1
    replace B2 := B2.stays hb1
    have bw1 := nx bV hb1
    obtain ⟨q3l, q3r, q3p, ⟨q3c0, q3c1, q3c2, q3c3, q3c4, q3c5⟩, ⟨q3f0, q3f1, q3f2, q3f3, q3f4, q3f5⟩⟩ := B2.d6
    obtain ⟨X, hX⟩ : ∃ Q_ : World, w1.setRow (w.heap.size + 2) #[.string a3, .string b3, .slice a4 n4 c4, .int .i64 c3, .int .i64 f3, .bool dn3] = Q_ := ⟨_, rfl⟩
    have bX : Below w.heap.size w X := hX ▸ (bw1).trans (low_setRow _ (by omega))
    replace hO3 : OL n l3 (.slice a4 n4 c4) X := hX ▸ hO3.keep (keeps_setRow _ B2 (by decide) (by show n ≤ _; omega))
    replace B0 : Bx X (w.heap.size) #[.string a, .string b, .slice a1 n1 c1, .int .i64 c, .int .i64 f, .bool dn] 28 := hX ▸ B0.put' (by omega) _
    replace B1 : Bx X (w.heap.size + 1) #[.int .i64 0, .int .i64 z, .int .i64 p, .int .i64 q, .string x] 31 := hX ▸ B1.put' (by omega) _
    replace B2 : Bx X (w.heap.size + 2) #[.string a3, .string b3, .slice a4 n4 c4, .int .i64 c3, .int .i64 f3, .bool dn3] 28 := hX ▸ B2.put _
    obtain ⟨q4l, q4r, q4p, ⟨q4c0, q4c1, q4c2, q4c3, q4c4, q4c5⟩, ⟨q4f0, q4f1, q4f2, q4f3, q4f4, q4f5⟩⟩ := B2.d6
    go_wp2
    refine bodyPost_ret (v := .tuple #[.agg (cD a3 b3 (.slice a4 n4 c4) c3 f3 dn3), .int .i64 k3]) (ret_D2 Try.results10 _ _ rfl ?_) rfl (Post2.intro HR bX (DV.mk hO3 hc3))
    simp [go_sem, *]
  by_cases h1 : k = 1
  · subst h1
    have HR : Hid (r = (eraP ⟨a, b, l, c, f, dn⟩ z)) := Lib.hid (by rw [← hr]; rfl)
    clear hr h0
    obtain ⟨q1l, q1r, q1p, ⟨q1c0, q1c1, q1c2, q1c3, q1c4, q1c5⟩, ⟨q1f0, q1f1, q1f2, q1f3, q1f4, q1f5⟩⟩ := B0.d6
    obtain ⟨q2l, q2r, q2p, ⟨q2c0, q2c1, q2c2, q2c3, q2c4⟩⟩ := B1.d5
    go_enter Try.func10, Try.ntmps10
    go_wp2_with fail
    with_reducible refine (erase_any n _ _ z V HD.out hnV hk).mono ?_
    rintro e w1 ⟨v1, rfl, hb1, h1⟩
    obtain ⟨r2, hr2⟩ : ∃ Q_, eraP ⟨a, b, l, c, f, dn⟩ z = Q_ := ⟨_, rfl⟩
    rw [hr2] at h1 HR ⊢
    clear hr2
    obtain ⟨⟨a3, b3, l3, c3, f3, dn3⟩, k3⟩ := r2
    obtain ⟨o3, rfl, hO3, hc3⟩ := h1
    simp only at hO3 ⊢
    obtain ⟨a4, c4, rfl⟩ := hO3.len
    obtain ⟨n4, hn4⟩ : ∃ q, l3.length = q := ⟨_, rfl⟩
    rw [hn4] at hO3 hc3 ⊢
    clear hn4
    clear q1l q1r q1p q1c0 q1c1 q1c2 q1c3 q1c4 q1c5 q1f0 q1f1 q1f2 q1f3 q1f4 q1f5
    clear q2l q2r q2p q2c0 q2c1 q2c2 q2c3 q2c4
    replace B0 := B0.stays hb1
    replace B1 := B1.stays hb1
    replace B2 := B2.stays hb1
    have bw1 := nx bV hb1
    obtain ⟨q3l, q3r, q3p, ⟨q3c0, q3c1, q3c2, q3c3, q3c4, q3c5⟩, ⟨q3f0, q3f1, q3f2, q3f3, q3f4, q3f5⟩⟩ := B2.d6
    obtain ⟨X, hX⟩ : ∃ Q_ : World, w1.setRow (w.heap.size + 2) #[.string a3, .string b3, .slice a4 n4 c4, .int .i64 c3, .int .i64 f3, .bool dn3] = Q_ := ⟨_, rfl⟩
    have bX : Below w.heap.size w X := hX ▸ (bw1).trans (low_setRow _ (by omega))
    replace hO3 : OL n l3 (.slice a4 n4 c4) X := hX ▸ hO3.keep (keeps_setRow _ B2 (by decide) (by show n ≤ _; omega))
    replace B0 : Bx X (w.heap.size) #[.string a, .string b, .slice a1 n1 c1, .int .i64 c, .int .i64 f, .bool dn] 28 := hX ▸ B0.put' (by omega) _
    replace B1 : Bx X (w.heap.size + 1) #[.int .i64 1, .int .i64 z, .int .i64 p, .int .i64 q, .string x] 31 := hX ▸ B1.put' (by omega) _
    replace B2 : Bx X (w.heap.size + 2) #[.string a3, .string b3, .slice a4 n4 c4, .int .i64 c3, .int .i64 f3, .bool dn3] 28 := hX ▸ B2.put _
    obtain ⟨q4l, q4r, q4p, ⟨q4c0, q4c1, q4c2, q4c3, q4c4, q4c5⟩, ⟨q4f0, q4f1, q4f2, q4f3, q4f4, q4f5⟩⟩ := B2.d6
    go_wp2
    refine bodyPost_ret (v := .tuple #[.agg (cD a3 b3 (.slice a4 n4 c4) c3 f3 dn3), .int .i64 k3]) (ret_D2 Try.results10 _ _ rfl ?_) rfl (Post2.intro HR bX (DV.mk hO3 hc3))
    simp [go_sem, *]
  by_cases h2 : k = 2
  · subst h2
    have HR : Hid (r = (synP ⟨a, b, l, c, f, dn⟩)) := Lib.hid (by rw [← hr]; rfl)
    clear hr h0 h1
    obtain ⟨q1l, q1r, q1p, ⟨q1c0, q1c1, q1c2, q1c3, q1c4, q1c5⟩, ⟨q1f0, q1f1, q1f2, q1f3, q1f4, q1f5⟩⟩ := B0.d6
    obtain ⟨q2l, q2r, q2p, ⟨q2c0, q2c1, q2c2, q2c3, q2c4⟩⟩ := B1.d5
    go_enter Try.func10, Try.ntmps10
    go_wp2_with fail
    with_reducible refine (sync_any n _ _ V HD.out hnV hk).mono ?_
    rintro e w1 ⟨v1, rfl, hb1, h1⟩
    obtain ⟨r2, hr2⟩ : ∃ Q_, synP ⟨a, b, l, c, f, dn⟩ = Q_ := ⟨_, rfl⟩
    rw [hr2] at h1 HR ⊢
    clear hr2
    obtain ⟨⟨a3, b3, l3, c3, f3, dn3⟩, k3⟩ := r2
    obtain ⟨o3, rfl, hO3, hc3⟩ := h1
    simp only at hO3 ⊢
    obtain ⟨a4, c4, rfl⟩ := hO3.len
    obtain ⟨n4, hn4⟩ : ∃ q, l3.length = q := ⟨_, rfl⟩
    rw [hn4] at hO3 hc3 ⊢
    clear hn4
    clear q1l q1r q1p q1c0 q1c1 q1c2 q1c3 q1c4 q1c5 q1f0 q1f1 q1f2 q1f3 q1f4 q1f5
    clear q2l q2r q2p q2c0 q2c1 q2c2 q2c3 q2c4
    replace B0 := B0.stays hb1
    replace B1 := B1.stays hb1
    replace B2 := B2.stays hb1
    have bw1 := nx bV hb1
    obtain ⟨q3l, q3r, q3p, ⟨q3c0, q3c1, q3c2, q3c3, q3c4, q3c5⟩, ⟨q3f0, q3f1, q3f2, q3f3, q3f4, q3f5⟩⟩ := B2.d6
    obtain ⟨X, hX⟩ : ∃ Q_ : World, w1.setRow (w.heap.size + 2) #[.string a3, .string b3, .slice a4 n4 c4, .int .i64 c3, .int .i64 f3, .bool dn3] = Q_ := ⟨_, rfl⟩
    have bX : Below w.heap.size w X := hX ▸ (bw1).trans (low_setRow _ (by omega))
    replace hO3 : OL n l3 (.slice a4 n4 c4) X := hX ▸ hO3.keep (keeps_setRow _ B2 (by decide) (by show n ≤ _; omega))
    replace B0 : Bx X (w.heap.size) #[.string a, .string b, .slice a1 n1 c1, .int .i64 c, .int .i64 f, .bool dn] 28 := hX ▸ B0.put' (by omega) _
    replace B1 : Bx X (w.heap.size + 1) #[.int .i64 2, .int .i64 z, .int .i64 p, .int .i64 q, .string x] 31 := hX ▸ B1.put' (by omega) _
    replace B2 : Bx X (w.heap.size + 2) #[.string a3, .string b3, .slice a4 n4 c4, .int .i64 c3, .int .i64 f3, .bool dn3] 28 := hX ▸ B2.put _
    obtain ⟨q4l, q4r, q4p, ⟨q4c0, q4c1, q4c2, q4c3, q4c4, q4c5⟩, ⟨q4f0, q4f1, q4f2, q4f3, q4f4, q4f5⟩⟩ := B2.d6
    go_wp2
    refine bodyPost_ret (v := .tuple #[.agg (cD a3 b3 (.slice a4 n4 c4) c3 f3 dn3), .int .i64 k3]) (ret_D2 Try.results10 _ _ rfl ?_) rfl (Post2.intro HR bX (DV.mk hO3 hc3))
    simp [go_sem, *]
  by_cases h3 : k = 3
  · subst h3
    have HR : Hid (r = (craP ⟨a, b, l, c, f, dn⟩ p q, 0)) := Lib.hid (by rw [← hr]; rfl)
    clear hr h0 h1 h2
    obtain ⟨q1l, q1r, q1p, ⟨q1c0, q1c1, q1c2, q1c3, q1c4, q1c5⟩, ⟨q1f0, q1f1, q1f2, q1f3, q1f4, q1f5⟩⟩ := B0.d6
    obtain ⟨q2l, q2r, q2p, ⟨q2c0, q2c1, q2c2, q2c3, q2c4⟩⟩ := B1.d5
    go_enter Try.func10, Try.ntmps10
    go_wp2_with fail
    with_reducible refine (crash_any n _ _ p q V HD.out hnV hk).mono ?_
    rintro e w1 ⟨v1, rfl, hb1, h1⟩
    obtain ⟨r2, hr2⟩ : ∃ Q_, craP ⟨a, b, l, c, f, dn⟩ p q = Q_ := ⟨_, rfl⟩
    rw [hr2] at h1 HR
    clear hr2
    obtain ⟨a3, b3, l3, c3, f3, dn3⟩ := r2
    obtain ⟨o3, rfl, hO3, hc3⟩ := h1
    simp only at hO3 ⊢
    obtain ⟨a4, c4, rfl⟩ := hO3.len
    obtain ⟨n4, hn4⟩ : ∃ q, l3.length = q := ⟨_, rfl⟩
    rw [hn4] at hO3 hc3 ⊢
    clear hn4
    clear q1l q1r q1p q1c0 q1c1 q1c2 q1c3 q1c4 q1c5 q1f0 q1f1 q1f2 q1f3 q1f4 q1f5
    clear q2l q2r q2p q2c0 q2c1 q2c2 q2c3 q2c4
    replace B0 := B0.stays hb1
    replace B1 := B1.stays hb1
    replace B2 := B2.stays hb1
    have bw1 := nx bV hb1
    obtain ⟨q3l, q3r, q3p, ⟨q3c0, q3c1, q3c2, q3c3, q3c4, q3c5⟩, ⟨q3f0, q3f1, q3f2, q3f3, q3f4, q3f5⟩⟩ := B2.d6
    obtain ⟨X, hX⟩ : ∃ Q_ : World, w1.setRow (w.heap.size + 2) #[.string a3, .string b3, .slice a4 n4 c4, .int .i64 c3, .int .i64 f3, .bool dn3] = Q_ := ⟨_, rfl⟩
    have bX : Below w.heap.size w X := hX ▸ (bw1).trans (low_setRow _ (by omega))
    replace hO3 : OL n l3 (.slice a4 n4 c4) X := hX ▸ hO3.keep (keeps_setRow _ B2 (by decide) (by show n ≤ _; omega))
    replace B0 : Bx X (w.heap.size) #[.string a, .string b, .slice a1 n1 c1, .int .i64 c, .int .i64 f, .bool dn] 28 := hX ▸ B0.put' (by omega) _
    replace B1 : Bx X (w.heap.size + 1) #[.int .i64 3, .int .i64 z, .int .i64 p, .int .i64 q, .string x] 31 := hX ▸ B1.put' (by omega) _
    replace B2 : Bx X (w.heap.size + 2) #[.string a3, .string b3, .slice a4 n4 c4, .int .i64 c3, .int .i64 f3, .bool dn3] 28 := hX ▸ B2.put _
    obtain ⟨q4l, q4r, q4p, ⟨q4c0, q4c1, q4c2, q4c3, q4c4, q4c5⟩, ⟨q4f0, q4f1, q4f2, q4f3, q4f4, q4f5⟩⟩ := B2.d6
    go_wp2
    refine bodyPost_ret (v := .tuple #[.agg (cD a3 b3 (.slice a4 n4 c4) c3 f3 dn3), .int .i64 0]) (ret_D2 Try.results10 _ _ rfl ?_) rfl (Post2.intro HR bX (DV.mk hO3 hc3))
    simp [go_sem, *]
  by_cases h4 : k = 4
  · subst h4
    have HR : Hid (r = (staP ⟨a, b, l, c, f, dn⟩, 0)) := Lib.hid (by rw [← hr]; rfl)
    clear hr h0 h1 h2 h3
    obtain ⟨q1l, q1r, q1p, ⟨q1c0, q1c1, q1c2, q1c3, q1c4, q1c5⟩, ⟨q1f0, q1f1, q1f2, q1f3, q1f4, q1f5⟩⟩ := B0.d6
    obtain ⟨q2l, q2r, q2p, ⟨q2c0, q2c1, q2c2, q2c3, q2c4⟩⟩ := B1.d5
    go_enter Try.func10, Try.ntmps10
    go_wp2_with fail
    with_reducible refine (start_any n _ _ V HD.out).mono ?_
    rintro e w1 ⟨v1, rfl, hb1, h1⟩
    obtain ⟨r2, hr2⟩ : ∃ Q_, staP ⟨a, b, l, c, f, dn⟩ = Q_ := ⟨_, rfl⟩
    rw [hr2] at h1 HR
    clear hr2
    obtain ⟨a3, b3, l3, c3, f3, dn3⟩ := r2
    obtain ⟨o3, rfl, hO3, hc3⟩ := h1
    simp only at hO3 ⊢
    obtain ⟨a4, c4, rfl⟩ := hO3.len
    obtain ⟨n4, hn4⟩ : ∃ q, l3.length = q := ⟨_, rfl⟩
    rw [hn4] at hO3 hc3 ⊢
    clear hn4
    clear q1l q1r q1p q1c0 q1c1 q1c2 q1c3 q1c4 q1c5 q1f0 q1f1 q1f2 q1f3 q1f4 q1f5
    clear q2l q2r q2p q2c0 q2c1 q2c2 q2c3 q2c4
    replace B0 := B0.stays hb1
    replace B1 := B1.stays hb1
    replace B2 := B2.stays hb1
    have bw1 := nx bV hb1
    obtain ⟨q3l, q3r, q3p, ⟨q3c0, q3c1, q3c2, q3c3, q3c4, q3c5⟩, ⟨q3f0, q3f1, q3f2, q3f3, q3f4, q3f5⟩⟩ := B2.d6
    obtain ⟨X, hX⟩ : ∃ Q_ : World, w1.setRow (w.heap.size + 2) #[.string a3, .string b3, .slice a4 n4 c4, .int .i64 c3, .int .i64 f3, .bool dn3] = Q_ := ⟨_, rfl⟩
    have bX : Below w.heap.size w X := hX ▸ (bw1).trans (low_setRow _ (by omega))
    replace hO3 : OL n l3 (.slice a4 n4 c4) X := hX ▸ hO3.keep (keeps_setRow _ B2 (by decide) (by show n ≤ _; omega))
    replace B0 : Bx X (w.heap.size) #[.string a, .string b, .slice a1 n1 c1, .int .i64 c, .int .i64 f, .bool dn] 28 := hX ▸ B0.put' (by omega) _
    replace B1 : Bx X (w.heap.size + 1) #[.int .i64 4, .int .i64 z, .int .i64 p, .int .i64 q, .string x] 31 := hX ▸ B1.put' (by omega) _
    replace B2 : Bx X (w.heap.size + 2) #[.string a3, .string b3, .slice a4 n4 c4, .int .i64 c3, .int .i64 f3, .bool dn3] 28 := hX ▸ B2.put _
    obtain ⟨q4l, q4r, q4p, ⟨q4c0, q4c1, q4c2, q4c3, q4c4, q4c5⟩, ⟨q4f0, q4f1, q4f2, q4f3, q4f4, q4f5⟩⟩ := B2.d6
    go_wp2
    refine bodyPost_ret (v := .tuple #[.agg (cD a3 b3 (.slice a4 n4 c4) c3 f3 dn3), .int .i64 0]) (ret_D2 Try.results10 _ _ rfl ?_) rfl (Post2.intro HR bX (DV.mk hO3 hc3))
    simp [go_sem, *]
  by_cases h5 : k = 5
  · subst h5
    have HR : Hid (r = (armP ⟨a, b, l, c, f, dn⟩ p, 0)) := Lib.hid (by rw [← hr]; rfl)
    clear hr h0 h1 h2 h3 h4
    obtain ⟨q1l, q1r, q1p, ⟨q1c0, q1c1, q1c2, q1c3, q1c4, q1c5⟩, ⟨q1f0, q1f1, q1f2, q1f3, q1f4, q1f5⟩⟩ := B0.d6
    obtain ⟨q2l, q2r, q2p, ⟨q2c0, q2c1, q2c2, q2c3, q2c4⟩⟩ := B1.d5
    go_enter Try.func10, Try.ntmps10
    go_wp2_with fail
    with_reducible refine (arm_any n _ _ p V HD.out).mono ?_
    rintro e w1 ⟨v1, rfl, hb1, h1⟩
    obtain ⟨r2, hr2⟩ : ∃ Q_, armP ⟨a, b, l, c, f, dn⟩ p = Q_ := ⟨_, rfl⟩
    rw [hr2] at h1 HR
    clear hr2
    obtain ⟨a3, b3, l3, c3, f3, dn3⟩ := r2
    obtain ⟨o3, rfl, hO3, hc3⟩ := h1
    simp only at hO3 ⊢
    obtain ⟨a4, c4, rfl⟩ := hO3.len
    obtain ⟨n4, hn4⟩ : ∃ q, l3.length = q := ⟨_, rfl⟩
    rw [hn4] at hO3 hc3 ⊢
    clear hn4
    clear q1l q1r q1p q1c0 q1c1 q1c2 q1c3 q1c4 q1c5 q1f0 q1f1 q1f2 q1f3 q1f4 q1f5
    clear q2l q2r q2p q2c0 q2c1 q2c2 q2c3 q2c4
    replace B0 := B0.stays hb1
    replace B1 := B1.stays hb1
    replace B2 := B2.stays hb1
    have bw1 := nx bV hb1
    obtain ⟨q3l, q3r, q3p, ⟨q3c0, q3c1, q3c2, q3c3, q3c4, q3c5⟩, ⟨q3f0, q3f1, q3f2, q3f3, q3f4, q3f5⟩⟩ := B2.d6
    obtain ⟨X, hX⟩ : ∃ Q_ : World, w1.setRow (w.heap.size + 2) #[.string a3, .string b3, .slice a4 n4 c4, .int .i64 c3, .int .i64 f3, .bool dn3] = Q_ := ⟨_, rfl⟩
    have bX : Below w.heap.size w X := hX ▸ (bw1).trans (low_setRow _ (by omega))
    replace hO3 : OL n l3 (.slice a4 n4 c4) X := hX ▸ hO3.keep (keeps_setRow _ B2 (by decide) (by show n ≤ _; omega))
    replace B0 : Bx X (w.heap.size) #[.string a, .string b, .slice a1 n1 c1, .int .i64 c, .int .i64 f, .bool dn] 28 := hX ▸ B0.put' (by omega) _
    replace B1 : Bx X (w.heap.size + 1) #[.int .i64 5, .int .i64 z, .int .i64 p, .int .i64 q, .string x] 31 := hX ▸ B1.put' (by omega) _
    replace B2 : Bx X (w.heap.size + 2) #[.string a3, .string b3, .slice a4 n4 c4, .int .i64 c3, .int .i64 f3, .bool dn3] 28 := hX ▸ B2.put _
    obtain ⟨q4l, q4r, q4p, ⟨q4c0, q4c1, q4c2, q4c3, q4c4, q4c5⟩, ⟨q4f0, q4f1, q4f2, q4f3, q4f4, q4f5⟩⟩ := B2.d6
    go_wp2
    refine bodyPost_ret (v := .tuple #[.agg (cD a3 b3 (.slice a4 n4 c4) c3 f3 dn3), .int .i64 0]) (ret_D2 Try.results10 _ _ rfl ?_) rfl (Post2.intro HR bX (DV.mk hO3 hc3))
    simp [go_sem, *]
  have HR : Hid (r = (rooP ⟨a, b, l, c, f, dn⟩ p, 0)) := Lib.hid (by rw [← hr]; simp only [stepP]; rw [if_neg h0, if_neg h1, if_neg h2, if_neg h3, if_neg h4, if_neg h5])
  replace h0 : (k == 0) = false := by simpa using h0
  replace h1 : (k == 1) = false := by simpa using h1
  replace h2 : (k == 2) = false := by simpa using h2
  replace h3 : (k == 3) = false := by simpa using h3
  replace h4 : (k == 4) = false := by simpa using h4
  replace h5 : (k == 5) = false := by simpa using h5
  clear hr 
  obtain ⟨q1l, q1r, q1p, ⟨q1c0, q1c1, q1c2, q1c3, q1c4, q1c5⟩, ⟨q1f0, q1f1, q1f2, q1f3, q1f4, q1f5⟩⟩ := B0.d6
  obtain ⟨q2l, q2r, q2p, ⟨q2c0, q2c1, q2c2, q2c3, q2c4⟩⟩ := B1.d5
  go_enter Try.func10, Try.ntmps10
  go_wp2_with fail
  with_reducible refine (room_any n _ _ p V HD.out).mono ?_
  rintro e w1 ⟨v1, rfl, hb1, h1⟩
  obtain ⟨r2, hr2⟩ : ∃ Q_, rooP ⟨a, b, l, c, f, dn⟩ p = Q_ := ⟨_, rfl⟩
  rw [hr2] at h1 HR
  clear hr2
  obtain ⟨a3, b3, l3, c3, f3, dn3⟩ := r2
  obtain ⟨o3, rfl, hO3, hc3⟩ := h1
  simp only at hO3 ⊢
  obtain ⟨a4, c4, rfl⟩ := hO3.len
  obtain ⟨n4, hn4⟩ : ∃ q, l3.length = q := ⟨_, rfl⟩
  rw [hn4] at hO3 hc3 ⊢
  clear hn4
  clear q1l q1r q1p q1c0 q1c1 q1c2 q1c3 q1c4 q1c5 q1f0 q1f1 q1f2 q1f3 q1f4 q1f5
  clear q2l q2r q2p q2c0 q2c1 q2c2 q2c3 q2c4
  replace B0 := B0.stays hb1
  replace B1 := B1.stays hb1
  replace B2 := B2.stays hb1
  have bw1 := nx bV hb1
  obtain ⟨q3l, q3r, q3p, ⟨q3c0, q3c1, q3c2, q3c3, q3c4, q3c5⟩, ⟨q3f0, q3f1, q3f2, q3f3, q3f4, q3f5⟩⟩ := B2.d6
  obtain ⟨X, hX⟩ : ∃ Q_ : World, w1.setRow (w.heap.size + 2) #[.string a3, .string b3, .slice a4 n4 c4, .int .i64 c3, .int .i64 f3, .bool dn3] = Q_ := ⟨_, rfl⟩
  have bX : Below w.heap.size w X := hX ▸ (bw1).trans (low_setRow _ (by omega))
  replace hO3 : OL n l3 (.slice a4 n4 c4) X := hX ▸ hO3.keep (keeps_setRow _ B2 (by decide) (by show n ≤ _; omega))
  replace B0 : Bx X (w.heap.size) #[.string a, .string b, .slice a1 n1 c1, .int .i64 c, .int .i64 f, .bool dn] 28 := hX ▸ B0.put' (by omega) _
  replace B1 : Bx X (w.heap.size + 1) #[.int .i64 k, .int .i64 z, .int .i64 p, .int .i64 q, .string x] 31 := hX ▸ B1.put' (by omega) _
  replace B2 : Bx X (w.heap.size + 2) #[.string a3, .string b3, .slice a4 n4 c4, .int .i64 c3, .int .i64 f3, .bool dn3] 28 := hX ▸ B2.put _
  obtain ⟨q4l, q4r, q4p, ⟨q4c0, q4c1, q4c2, q4c3, q4c4, q4c5⟩, ⟨q4f0, q4f1, q4f2, q4f3, q4f4, q4f5⟩⟩ := B2.d6
  go_wp2
  refine bodyPost_ret (v := .tuple #[.agg (cD a3 b3 (.slice a4 n4 c4) c3 f3 dn3), .int .i64 0]) (ret_D2 Try.results10 _ _ rfl ?_) rfl (Post2.intro HR bX (DV.mk hO3 hc3))
  simp [go_sem, *]
end Go.Proofs.Ytegepbifbhamnaa.Dk
