/- Package disk as it landed: Erase, Sync. -/
import Derived.Test.YtegepbifbhamnaaDkJ
namespace Go.Proofs.Ytegepbifbhamnaa.Dk
open Go.RowKit
set_option linter.unusedVariables false
open Go.Proofs.Ytegepbifbhamnaa.Rw
open Go.Proofs.Ytegepbifbhamnaa.Da
set_option maxRecDepth 8000 in
set_option maxHeartbeats 4000000 in
theorem erase_any (n : Nat) (d : Ds) (v : Value) (z : Int) (w : World) (h : DV n d v w) (hn : n ≤ w.heap.size) (hk : Ok 1000000 1000 d) :
    Calls Try.prog 26 #[v, .int .i64 z] w (Post2 n (eraP d z) w) := by
  obtain ⟨o, rfl, hO, hc⟩ := h
  obtain ⟨a, b, l, c, f, dn⟩ := d
  simp only at hO ⊢
  obtain ⟨a1, c1, rfl⟩ := hO.len
  obtain ⟨n1, hn1⟩ : ∃ q, l.length = q := ⟨_, rfl⟩
  rw [hn1] at hO hc ⊢
  have HN := Lib.hid hn1
  obtain ⟨V, hV⟩ : ∃ Q_ : World, (w.alloc (.cells #[.string a, .string b, .slice a1 n1 c1, .int .i64 c, .int .i64 f, .bool dn] 28)).alloc (.cells #[.string ⟨#[]⟩, .string ⟨#[]⟩, .slice none 0 0, .int .i64 0, .int .i64 0, .bool false] 28) = Q_ := ⟨_, rfl⟩
  have bV : Below w.heap.size w V := hV ▸ below2 _ _ _
  obtain ⟨B0, B1⟩ : Bx V w.heap.size #[.string a, .string b, .slice a1 n1 c1, .int .i64 c, .int .i64 f, .bool dn] 28 ∧ Bx V (w.heap.size + 1) #[.string ⟨#[]⟩, .string ⟨#[]⟩, .slice none 0 0, .int .i64 0, .int .i64 0, .bool false] 28 := hV ▸ bx2 w _ _ _ _
  replace hO := hO.stays bV
  have HD : Hid (DV n ⟨a, b, l, c, f, dn⟩ (.agg (cD a b (.slice a1 n1 c1) c f dn)) V) := Lib.hid (DV.mk hO hc)
  have hnV : n ≤ V.heap.size := by have := bV.size; omega
  clear hn1
  obtain ⟨e0, he0⟩ : ∃ q, readE ⟨a, b, l, c, f, dn⟩ z = q := ⟨_, rfl⟩
  have HE := Lib.hid he0
  have hl1 : l.length ≤ 1000 := hk.len
  have hf1 : -1 ≤ f ∧ f ≤ 9223372036854775807 := hk.f
  clear hk
  by_cases h0 : e0 = 0
  · subst h0
    obtain ⟨-, hz⟩ := readE_ok he0
    obtain ⟨p, hp⟩ : ∃ q, doP ⟨a, b, l, c, f, dn⟩ (z == 1, ⟨#[]⟩, true) = q := ⟨_, rfl⟩
    have HQ := Lib.hid hp
    have HP : Hid (eraP ⟨a, b, l, c, f, dn⟩ z = p) := Lib.hid (by unfold eraP; rw [if_neg (by rw [he0]; simp)]; exact hp)
    have hzz : zi (z == 1) = z := by rcases hz with rfl | rfl <;> rfl
    obtain ⟨⟨a3, b3, l3, c3, f3, dn3⟩, k3⟩ := p
    clear he0 hz hp
    obtain ⟨q1l, q1r, q1p, ⟨q1c0, q1c1, q1c2, q1c3, q1c4, q1c5⟩, ⟨q1f0, q1f1, q1f2, q1f3, q1f4, q1f5⟩⟩ := B0.d6
    go_enter Try.func26, Try.ntmps26
    go_wp2_with fail
    with_reducible refine (check_is (d := ⟨a, b, l, c, f, dn⟩) HE _ _).mono ?_
    rintro e w1 ⟨rfl, hb1⟩
    clear q1l q1r q1p q1c0 q1c1 q1c2 q1c3 q1c4 q1c5 q1f0 q1f1 q1f2 q1f3 q1f4 q1f5
    replace B0 := B0.stays hb1
    replace B1 := B1.stays hb1
    replace hO := hO.stays hb1
    have bw1 := nx bV hb1
    obtain ⟨q2l, q2r, q2p, ⟨q2c0, q2c1, q2c2, q2c3, q2c4, q2c5⟩, ⟨q2f0, q2f1, q2f2, q2f3, q2f4, q2f5⟩⟩ := B0.d6
    go_wp2_with fail
    with_reducible refine (do_is HQ hzz (DV.mk hO hc) (by have := bw1.size; omega) hf1 (by show l.length ≤ _; omega)).mono ?_
    rintro e w2 ⟨v2, rfl, hb2, o2, rfl, hO2, hc2⟩
    simp only at hO2 ⊢
    obtain ⟨a4, c4, rfl⟩ := hO2.len
    obtain ⟨n4, hn4⟩ : ∃ q, l3.length = q := ⟨_, rfl⟩
    rw [hn4] at hO2 hc2 ⊢
    clear hn4
    clear q2l q2r q2p q2c0 q2c1 q2c2 q2c3 q2c4 q2c5 q2f0 q2f1 q2f2 q2f3 q2f4 q2f5
    replace B0 := B0.stays hb2
    replace B1 := B1.stays hb2
    replace hO := hO.stays hb2
    have bw2 := nx bw1 hb2
    obtain ⟨q3l, q3r, q3p, ⟨q3c0, q3c1, q3c2, q3c3, q3c4, q3c5⟩, ⟨q3f0, q3f1, q3f2, q3f3, q3f4, q3f5⟩⟩ := B1.d6
    obtain ⟨X, hX⟩ : ∃ Q_ : World, w2.setRow (w.heap.size + 1) #[.string a3, .string b3, .slice a4 n4 c4, .int .i64 c3, .int .i64 f3, .bool dn3] = Q_ := ⟨_, rfl⟩
    have bX : Below w.heap.size w X := hX ▸ (bw2).trans (low_setRow _ (by omega))
    replace hO2 : OL n l3 (.slice a4 n4 c4) X := hX ▸ hO2.keep (keeps_setRow _ B1 (by decide) (by show n ≤ _; omega))
    replace B0 : Bx X (w.heap.size) #[.string a, .string b, .slice a1 n1 c1, .int .i64 c, .int .i64 f, .bool dn] 28 := hX ▸ B0.put' (by omega) _
    replace B1 : Bx X (w.heap.size + 1) #[.string a3, .string b3, .slice a4 n4 c4, .int .i64 c3, .int .i64 f3, .bool dn3] 28 := hX ▸ B1.put _
    obtain ⟨q4l, q4r, q4p, ⟨q4c0, q4c1, q4c2, q4c3, q4c4, q4c5⟩, ⟨q4f0, q4f1, q4f2, q4f3, q4f4, q4f5⟩⟩ := B1.d6
    go_wp2
    refine bodyPost_ret (v := .tuple #[.agg (cD a3 b3 (.slice a4 n4 c4) c3 f3 dn3), .int .i64 k3]) (ret_D2 Try.results26 _ _ rfl ?_) rfl (Post2.intro HP bX (DV.mk hO2 hc2))
    simp [go_sem, *]
  · have HP : Hid (eraP ⟨a, b, l, c, f, dn⟩ z = (⟨a, b, l, c, f, dn⟩, e0)) := Lib.hid (by unfold eraP; rw [if_pos (by rw [he0]; exact h0), he0])
    have hne : (e0 != 0) = true := by simpa using h0
    clear he0 h0
    obtain ⟨q1l, q1r, q1p, ⟨q1c0, q1c1, q1c2, q1c3, q1c4, q1c5⟩, ⟨q1f0, q1f1, q1f2, q1f3, q1f4, q1f5⟩⟩ := B0.d6
    go_enter Try.func26, Try.ntmps26
    go_wp2_with fail
    with_reducible refine (check_is (d := ⟨a, b, l, c, f, dn⟩) HE _ _).mono ?_
    rintro e w1 ⟨rfl, hb1⟩
    clear q1l q1r q1p q1c0 q1c1 q1c2 q1c3 q1c4 q1c5 q1f0 q1f1 q1f2 q1f3 q1f4 q1f5
    replace B0 := B0.stays hb1
    replace B1 := B1.stays hb1
    replace hO := hO.stays hb1
    have bw1 := nx bV hb1
    obtain ⟨q2l, q2r, q2p, ⟨q2c0, q2c1, q2c2, q2c3, q2c4, q2c5⟩, ⟨q2f0, q2f1, q2f2, q2f3, q2f4, q2f5⟩⟩ := B0.d6
    obtain ⟨q3l, q3r, q3p, ⟨q3c0, q3c1, q3c2, q3c3, q3c4, q3c5⟩, ⟨q3f0, q3f1, q3f2, q3f3, q3f4, q3f5⟩⟩ := B1.d6
    obtain ⟨X, hX⟩ : ∃ Q_ : World, w1.setRow (w.heap.size + 1) #[.string a, .string b, .slice a1 n1 c1, .int .i64 c, .int .i64 f, .bool dn] = Q_ := ⟨_, rfl⟩
    have bX : Below w.heap.size w X := hX ▸ (bw1).trans (low_setRow _ (by omega))
    replace hO : OL n l (.slice a1 n1 c1) X := hX ▸ hO.keep (keeps_setRow _ B1 (by decide) (by show n ≤ _; omega))
    replace B0 : Bx X (w.heap.size) #[.string a, .string b, .slice a1 n1 c1, .int .i64 c, .int .i64 f, .bool dn] 28 := hX ▸ B0.put' (by omega) _
    replace B1 : Bx X (w.heap.size + 1) #[.string a, .string b, .slice a1 n1 c1, .int .i64 c, .int .i64 f, .bool dn] 28 := hX ▸ B1.put _
    obtain ⟨q4l, q4r, q4p, ⟨q4c0, q4c1, q4c2, q4c3, q4c4, q4c5⟩, ⟨q4f0, q4f1, q4f2, q4f3, q4f4, q4f5⟩⟩ := B1.d6
    go_wp2
    refine bodyPost_ret (v := .tuple #[.agg (cD a b (.slice a1 n1 c1) c f dn), .int .i64 e0]) (ret_D2 Try.results26 _ _ rfl ?_) rfl (Post2.intro HP bX (DV.mk hO hc))
    simp [go_sem, *]
theorem burn_is {n : Nat} {d : Ds} {p : Ds × Int} (H : Hid (burnP d = p)) {v : Value} {w : World} (h : DV n d v w) (hf : -1 ≤ d.f ∧ d.f ≤ 9223372036854775807) : Calls Try.prog 36 #[v] w (Post2 n p w) := by
  rw [← H.out]; exact burn_any n d v w h hf
theorem after_is {a b : ByteArray} {l : List Do} {s : ByteArray × ByteArray} (H : Hid (fin (a, b) l = s)) {n : Nat} {o : Value} {w : World} (hO : OL n l o w) (hn : n ≤ w.heap.size) (hw : a.size + b.size + wl l ≤ 1000000) (hl : l.length ≤ 1000000) :
    Calls Try.prog 33 #[.agg #[.string a, .string b], o] w fun e w' => e = .returned (.agg #[.string s.1, .string s.2]) ∧ Below w.heap.size w w' := by
  rw [← H.out]; exact after_any n a b l o w hO hn hw hl
set_option maxRecDepth 8000 in
set_option maxHeartbeats 4000000 in
theorem sync_any (n : Nat) (d : Ds) (v : Value) (w : World) (h : DV n d v w) (hn : n ≤ w.heap.size) (hk : Ok 1000000 1000 d) :
    Calls Try.prog 24 #[v] w (Post2 n (synP d) w) := by
  obtain ⟨o, rfl, hO, hc⟩ := h
  obtain ⟨a, b, l, c, f, dn⟩ := d
  simp only at hO ⊢
  obtain ⟨a1, c1, rfl⟩ := hO.len
  obtain ⟨n1, hn1⟩ : ∃ q, l.length = q := ⟨_, rfl⟩
  rw [hn1] at hO hc ⊢
  have HN := Lib.hid hn1
  obtain ⟨V, hV⟩ : ∃ Q_ : World, (w.alloc (.cells #[.string a, .string b, .slice a1 n1 c1, .int .i64 c, .int .i64 f, .bool dn] 28)).alloc (.cells #[.string ⟨#[]⟩, .string ⟨#[]⟩, .slice none 0 0, .int .i64 0, .int .i64 0, .bool false] 28) = Q_ := ⟨_, rfl⟩
  have bV : Below w.heap.size w V := hV ▸ below2 _ _ _
  obtain ⟨B0, B1⟩ : Bx V w.heap.size #[.string a, .string b, .slice a1 n1 c1, .int .i64 c, .int .i64 f, .bool dn] 28 ∧ Bx V (w.heap.size + 1) #[.string ⟨#[]⟩, .string ⟨#[]⟩, .slice none 0 0, .int .i64 0, .int .i64 0, .bool false] 28 := hV ▸ bx2 w _ _ _ _
  replace hO := hO.stays bV
  have HD : Hid (DV n ⟨a, b, l, c, f, dn⟩ (.agg (cD a b (.slice a1 n1 c1) c f dn)) V) := Lib.hid (DV.mk hO hc)
  have hnV : n ≤ V.heap.size := by have := bV.size; omega
  clear hn1
  have hl1 : l.length ≤ 1000 := hk.len
  have hf1 : -1 ≤ f ∧ f ≤ 9223372036854775807 := hk.f
  have hw1 : a.size + b.size + wl l ≤ 1000000 := hk.wt
  clear hk
  cases dn
  · by_cases h0 : f = 0
    · subst h0
      have HP : Hid (synP ⟨a, b, l, c, 0, false⟩ = (⟨a, b, l, c, 0, true⟩, 15)) := Lib.hid (by simp [synP])
      have HQ : Hid (burnP ⟨a, b, l, c, 0, false⟩ = (⟨a, b, l, c, 0, true⟩, 15)) := Lib.hid (by simp [burnP])
      obtain ⟨q1l, q1r, q1p, ⟨q1c0, q1c1, q1c2, q1c3, q1c4, q1c5⟩, ⟨q1f0, q1f1, q1f2, q1f3, q1f4, q1f5⟩⟩ := B0.d6
      go_enter Try.func24, Try.ntmps24
      go_wp2_with fail
      with_reducible refine (burn_is HQ HD.out hf1).mono ?_
      rintro e w1 ⟨v1, rfl, hb1, o1, rfl, hO1, hc1⟩
      simp only at hO1 ⊢
      obtain ⟨a2, c2, rfl⟩ := hO1.len
      rw [HN.out] at hO1 hc1 ⊢
      clear q1l q1r q1p q1c0 q1c1 q1c2 q1c3 q1c4 q1c5 q1f0 q1f1 q1f2 q1f3 q1f4 q1f5
      replace B0 := B0.stays hb1
      replace B1 := B1.stays hb1
      replace hO := hO.stays hb1
      have bw1 := nx bV hb1
      obtain ⟨q2l, q2r, q2p, ⟨q2c0, q2c1, q2c2, q2c3, q2c4, q2c5⟩, ⟨q2f0, q2f1, q2f2, q2f3, q2f4, q2f5⟩⟩ := B0.d6
      obtain ⟨X, hX⟩ : ∃ Q_ : World, w1.setRow (w.heap.size) #[.string a, .string b, .slice a2 n1 c2, .int .i64 c, .int .i64 0, .bool true] = Q_ := ⟨_, rfl⟩
      have bX : Below w.heap.size w X := hX ▸ (bw1).trans (low_setRow _ (by omega))
      replace hO1 : OL n l (.slice a2 n1 c2) X := hX ▸ hO1.keep (keeps_setRow _ B0 (by decide) (by show n ≤ _; omega))
      replace B1 : Bx X (w.heap.size + 1) #[.string ⟨#[]⟩, .string ⟨#[]⟩, .slice none 0 0, .int .i64 0, .int .i64 0, .bool false] 28 := hX ▸ B1.put' (by omega) _
      replace B0 : Bx X (w.heap.size) #[.string a, .string b, .slice a2 n1 c2, .int .i64 c, .int .i64 0, .bool true] 28 := hX ▸ B0.put _
      obtain ⟨q3l, q3r, q3p, ⟨q3c0, q3c1, q3c2, q3c3, q3c4, q3c5⟩, ⟨q3f0, q3f1, q3f2, q3f3, q3f4, q3f5⟩⟩ := B0.d6
      obtain ⟨q4l, q4r, q4p, ⟨q4c0, q4c1, q4c2, q4c3, q4c4, q4c5⟩, ⟨q4f0, q4f1, q4f2, q4f3, q4f4, q4f5⟩⟩ := B1.d6
      obtain ⟨Y, hY⟩ : ∃ Q_ : World, X.setRow (w.heap.size + 1) #[.string a, .string b, .slice a2 n1 c2, .int .i64 c, .int .i64 0, .bool true] = Q_ := ⟨_, rfl⟩
      have bY : Below w.heap.size w Y := hY ▸ (bX).trans (low_setRow _ (by omega))
      replace hO1 : OL n l (.slice a2 n1 c2) Y := hY ▸ hO1.keep (keeps_setRow _ B1 (by decide) (by show n ≤ _; omega))
      replace B0 : Bx Y (w.heap.size) #[.string a, .string b, .slice a2 n1 c2, .int .i64 c, .int .i64 0, .bool true] 28 := hY ▸ B0.put' (by omega) _
      replace B1 : Bx Y (w.heap.size + 1) #[.string a, .string b, .slice a2 n1 c2, .int .i64 c, .int .i64 0, .bool true] 28 := hY ▸ B1.put _
      obtain ⟨q5l, q5r, q5p, ⟨q5c0, q5c1, q5c2, q5c3, q5c4, q5c5⟩, ⟨q5f0, q5f1, q5f2, q5f3, q5f4, q5f5⟩⟩ := B1.d6
      go_wp2
      refine bodyPost_ret (v := .tuple #[.agg (cD a b (.slice a2 n1 c2) c 0 true), .int .i64 15]) (ret_D2 Try.results24 _ _ rfl ?_) rfl (Post2.intro HP bY (DV.mk hO1 hc1))
      simp [go_sem, *]
    · have h1 : (f == 0) = false := by simpa using h0
      obtain ⟨f2, hf2⟩ : ∃ q, max f 0 - 1 = q := ⟨_, rfl⟩
      obtain ⟨⟨s1, s2⟩, hs⟩ : ∃ q, fin (a, b) l = q := ⟨_, rfl⟩
      have HF := Lib.hid hs
      have HP : Hid (synP ⟨a, b, l, c, f, false⟩ = (⟨s1, s2, [], c, f2, false⟩, 0)) := Lib.hid (by simp only [synP, Ds.now]; rw [if_neg (by simp), if_neg h0, hf2, hs])
      have HQ : Hid (burnP ⟨a, b, l, c, f, false⟩ = (⟨a, b, l, c, f2, false⟩, 0)) := Lib.hid (by simp only [burnP]; rw [if_neg h0, hf2])
      clear hf2 hs h0
      obtain ⟨q1l, q1r, q1p, ⟨q1c0, q1c1, q1c2, q1c3, q1c4, q1c5⟩, ⟨q1f0, q1f1, q1f2, q1f3, q1f4, q1f5⟩⟩ := B0.d6
      go_enter Try.func24, Try.ntmps24
      go_wp2_with fail
      with_reducible refine (burn_is HQ HD.out hf1).mono ?_
      rintro e w1 ⟨v1, rfl, hb1, o1, rfl, hO1, hc1⟩
      simp only at hO1 ⊢
      obtain ⟨a2, c2, rfl⟩ := hO1.len
      rw [HN.out] at hO1 hc1 ⊢
      clear q1l q1r q1p q1c0 q1c1 q1c2 q1c3 q1c4 q1c5 q1f0 q1f1 q1f2 q1f3 q1f4 q1f5
      replace B0 := B0.stays hb1
      replace B1 := B1.stays hb1
      replace hO := hO.stays hb1
      have bw1 := nx bV hb1
      obtain ⟨q2l, q2r, q2p, ⟨q2c0, q2c1, q2c2, q2c3, q2c4, q2c5⟩, ⟨q2f0, q2f1, q2f2, q2f3, q2f4, q2f5⟩⟩ := B0.d6
      obtain ⟨X, hX⟩ : ∃ Q_ : World, w1.setRow (w.heap.size) #[.string a, .string b, .slice a2 n1 c2, .int .i64 c, .int .i64 f2, .bool false] = Q_ := ⟨_, rfl⟩
      have bX : Below w.heap.size w X := hX ▸ (bw1).trans (low_setRow _ (by omega))
      replace hO1 : OL n l (.slice a2 n1 c2) X := hX ▸ hO1.keep (keeps_setRow _ B0 (by decide) (by show n ≤ _; omega))
      replace B1 : Bx X (w.heap.size + 1) #[.string ⟨#[]⟩, .string ⟨#[]⟩, .slice none 0 0, .int .i64 0, .int .i64 0, .bool false] 28 := hX ▸ B1.put' (by omega) _
      replace B0 : Bx X (w.heap.size) #[.string a, .string b, .slice a2 n1 c2, .int .i64 c, .int .i64 f2, .bool false] 28 := hX ▸ B0.put _
      obtain ⟨q3l, q3r, q3p, ⟨q3c0, q3c1, q3c2, q3c3, q3c4, q3c5⟩, ⟨q3f0, q3f1, q3f2, q3f3, q3f4, q3f5⟩⟩ := B0.d6
      go_wp2_with fail
      with_reducible refine (after_is HF hO1 (by have := bX.size; omega) hw1 (by omega)).mono ?_
      rintro e w2 ⟨rfl, hb2⟩
      simp only
      clear q2l q2r q2p q2c0 q2c1 q2c2 q2c3 q2c4 q2c5 q2f0 q2f1 q2f2 q2f3 q2f4 q2f5
      clear q3l q3r q3p q3c0 q3c1 q3c2 q3c3 q3c4 q3c5 q3f0 q3f1 q3f2 q3f3 q3f4 q3f5
      replace B0 := B0.stays hb2
      replace B1 := B1.stays hb2
      replace hO1 := hO1.stays hb2
      have bw2 := nx bX hb2
      obtain ⟨q4l, q4r, q4p, ⟨q4c0, q4c1, q4c2, q4c3, q4c4, q4c5⟩, ⟨q4f0, q4f1, q4f2, q4f3, q4f4, q4f5⟩⟩ := B0.d6
      obtain ⟨Y1, hY1⟩ : ∃ Q_ : World, w2.setCell ⟨w.heap.size, 0, none⟩ (.string s1) = Q_ := ⟨_, rfl⟩
      have bY1 : Below w.heap.size w Y1 := hY1 ▸ (bw2).trans (low_setCell _ _ (by omega))
      replace hO1 : OL n l (.slice a2 n1 c2) Y1 := hY1 ▸ hO1.keep (keeps_setCell _ _ B0 (by decide) (by show n ≤ _; omega))
      replace B1 : Bx Y1 (w.heap.size + 1) #[.string ⟨#[]⟩, .string ⟨#[]⟩, .slice none 0 0, .int .i64 0, .int .i64 0, .bool false] 28 := hY1 ▸ B1.set' (by omega) _ _
      replace B0 : Bx Y1 (w.heap.size) #[.string s1, .string b, .slice a2 n1 c2, .int .i64 c, .int .i64 f2, .bool false] 28 := hY1 ▸ (show Bx (w2.setCell ⟨w.heap.size, 0, none⟩ (.string s1)) (w.heap.size) #[.string s1, .string b, .slice a2 n1 c2, .int .i64 c, .int .i64 f2, .bool false] 28 from B0.set 0 (.string s1))
      obtain ⟨q5l, q5r, q5p, ⟨q5c0, q5c1, q5c2, q5c3, q5c4, q5c5⟩, ⟨q5f0, q5f1, q5f2, q5f3, q5f4, q5f5⟩⟩ := B0.d6
      obtain ⟨Y2, hY2⟩ : ∃ Q_ : World, Y1.setCell ⟨w.heap.size, 1, none⟩ (.string s2) = Q_ := ⟨_, rfl⟩
      have bY2 : Below w.heap.size w Y2 := hY2 ▸ (bY1).trans (low_setCell _ _ (by omega))
      replace hO1 : OL n l (.slice a2 n1 c2) Y2 := hY2 ▸ hO1.keep (keeps_setCell _ _ B0 (by decide) (by show n ≤ _; omega))
      replace B1 : Bx Y2 (w.heap.size + 1) #[.string ⟨#[]⟩, .string ⟨#[]⟩, .slice none 0 0, .int .i64 0, .int .i64 0, .bool false] 28 := hY2 ▸ B1.set' (by omega) _ _
      replace B0 : Bx Y2 (w.heap.size) #[.string s1, .string s2, .slice a2 n1 c2, .int .i64 c, .int .i64 f2, .bool false] 28 := hY2 ▸ (show Bx (Y1.setCell ⟨w.heap.size, 1, none⟩ (.string s2)) (w.heap.size) #[.string s1, .string s2, .slice a2 n1 c2, .int .i64 c, .int .i64 f2, .bool false] 28 from B0.set 1 (.string s2))
      obtain ⟨q6l, q6r, q6p, ⟨q6c0, q6c1, q6c2, q6c3, q6c4, q6c5⟩, ⟨q6f0, q6f1, q6f2, q6f3, q6f4, q6f5⟩⟩ := B0.d6
      obtain ⟨Y3, hY3⟩ : ∃ Q_ : World, Y2.setCell ⟨w.heap.size, 2, none⟩ (.slice none 0 0) = Q_ := ⟨_, rfl⟩
      have bY3 : Below w.heap.size w Y3 := hY3 ▸ (bY2).trans (low_setCell _ _ (by omega))
      replace hO1 : OL n l (.slice a2 n1 c2) Y3 := hY3 ▸ hO1.keep (keeps_setCell _ _ B0 (by decide) (by show n ≤ _; omega))
      replace B1 : Bx Y3 (w.heap.size + 1) #[.string ⟨#[]⟩, .string ⟨#[]⟩, .slice none 0 0, .int .i64 0, .int .i64 0, .bool false] 28 := hY3 ▸ B1.set' (by omega) _ _
      replace B0 : Bx Y3 (w.heap.size) #[.string s1, .string s2, .slice none 0 0, .int .i64 c, .int .i64 f2, .bool false] 28 := hY3 ▸ (show Bx (Y2.setCell ⟨w.heap.size, 2, none⟩ (.slice none 0 0)) (w.heap.size) #[.string s1, .string s2, .slice none 0 0, .int .i64 c, .int .i64 f2, .bool false] 28 from B0.set 2 (.slice none 0 0))
      obtain ⟨q7l, q7r, q7p, ⟨q7c0, q7c1, q7c2, q7c3, q7c4, q7c5⟩, ⟨q7f0, q7f1, q7f2, q7f3, q7f4, q7f5⟩⟩ := B0.d6
      obtain ⟨q8l, q8r, q8p, ⟨q8c0, q8c1, q8c2, q8c3, q8c4, q8c5⟩, ⟨q8f0, q8f1, q8f2, q8f3, q8f4, q8f5⟩⟩ := B1.d6
      obtain ⟨Y4, hY4⟩ : ∃ Q_ : World, Y3.setRow (w.heap.size + 1) #[.string s1, .string s2, .slice none 0 0, .int .i64 c, .int .i64 f2, .bool false] = Q_ := ⟨_, rfl⟩
      have bY4 : Below w.heap.size w Y4 := hY4 ▸ (bY3).trans (low_setRow _ (by omega))
      replace hO1 : OL n l (.slice a2 n1 c2) Y4 := hY4 ▸ hO1.keep (keeps_setRow _ B1 (by decide) (by show n ≤ _; omega))
      replace B0 : Bx Y4 (w.heap.size) #[.string s1, .string s2, .slice none 0 0, .int .i64 c, .int .i64 f2, .bool false] 28 := hY4 ▸ B0.put' (by omega) _
      replace B1 : Bx Y4 (w.heap.size + 1) #[.string s1, .string s2, .slice none 0 0, .int .i64 c, .int .i64 f2, .bool false] 28 := hY4 ▸ B1.put _
      obtain ⟨q9l, q9r, q9p, ⟨q9c0, q9c1, q9c2, q9c3, q9c4, q9c5⟩, ⟨q9f0, q9f1, q9f2, q9f3, q9f4, q9f5⟩⟩ := B1.d6
      go_wp2
      refine bodyPost_ret (v := .tuple #[.agg (cD s1 s2 (.slice none 0 0) c f2 false), .int .i64 0]) (ret_D2 Try.results24 _ _ rfl ?_) rfl (Post2.intro HP bY4 (DV.mk (Is.nil _ _ _ _) (Nat.le_refl 0)))
      simp [go_sem, *]
  · have HP : Hid (synP ⟨a, b, l, c, f, true⟩ = (⟨a, b, l, c, f, true⟩, 15)) := Lib.hid rfl
    obtain ⟨q1l, q1r, q1p, ⟨q1c0, q1c1, q1c2, q1c3, q1c4, q1c5⟩, ⟨q1f0, q1f1, q1f2, q1f3, q1f4, q1f5⟩⟩ := B0.d6
    obtain ⟨q2l, q2r, q2p, ⟨q2c0, q2c1, q2c2, q2c3, q2c4, q2c5⟩, ⟨q2f0, q2f1, q2f2, q2f3, q2f4, q2f5⟩⟩ := B1.d6
    obtain ⟨X, hX⟩ : ∃ Q_ : World, V.setRow (w.heap.size + 1) #[.string a, .string b, .slice a1 n1 c1, .int .i64 c, .int .i64 f, .bool true] = Q_ := ⟨_, rfl⟩
    have bX : Below w.heap.size w X := hX ▸ (bV).trans (low_setRow _ (by omega))
    replace hO : OL n l (.slice a1 n1 c1) X := hX ▸ hO.keep (keeps_setRow _ B1 (by decide) (by show n ≤ _; omega))
    replace B0 : Bx X (w.heap.size) #[.string a, .string b, .slice a1 n1 c1, .int .i64 c, .int .i64 f, .bool true] 28 := hX ▸ B0.put' (by omega) _
    replace B1 : Bx X (w.heap.size + 1) #[.string a, .string b, .slice a1 n1 c1, .int .i64 c, .int .i64 f, .bool true] 28 := hX ▸ B1.put _
    obtain ⟨q3l, q3r, q3p, ⟨q3c0, q3c1, q3c2, q3c3, q3c4, q3c5⟩, ⟨q3f0, q3f1, q3f2, q3f3, q3f4, q3f5⟩⟩ := B1.d6
    go_enter Try.func24, Try.ntmps24
    go_wp2
    refine bodyPost_ret (v := .tuple #[.agg (cD a b (.slice a1 n1 c1) c f true), .int .i64 15]) (ret_D2 Try.results24 _ _ rfl ?_) rfl (Post2.intro HP bX (DV.mk hO hc))
    simp [go_sem, *]
end Go.Proofs.Ytegepbifbhamnaa.Dk
