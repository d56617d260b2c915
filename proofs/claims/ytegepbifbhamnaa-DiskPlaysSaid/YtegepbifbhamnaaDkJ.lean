/- Package disk as it landed: Append, Erase, Sync. -/
import Derived.Test.YtegepbifbhamnaaDkI
namespace Go.Proofs.Ytegepbifbhamnaa.Dk
open Go.RowKit
set_option linter.unusedVariables false
open Go.Proofs.Ytegepbifbhamnaa.Rw
open Go.Proofs.Ytegepbifbhamnaa.Da
theorem do_is {n : Nat} {d : Ds} {z : Bool} {k : Int} {x : ByteArray} {er : Bool} {p : Ds × Int} (H : Hid (doP d (z, x, er) = p)) (hz : zi z = k) {v : Value} {w : World} (h : DV n d v w) (hn : n ≤ w.heap.size) (hf : -1 ≤ d.f ∧ d.f ≤ 9223372036854775807) (hl : d.l.length ≤ 100000) :
    Calls Try.prog 35 #[v, .agg #[.int .i64 k, .string x, .bool er]] w (Post2 n p w) := by
  rw [← H.out, ← hz]; exact do_any n d z x er v w h hn hf hl
theorem toList_some {x : ByteArray} (h : ¬ x.size = 0) : x.toList.isEmpty = false := by
  rw [List.isEmpty_eq_false_iff, ByteArray.toList_eq]
  intro e
  exact h (by have := congrArg List.length e; simpa using this)
theorem size_nul {x : ByteArray} (h : x.size = 0) : x = ⟨#[]⟩ := by
  obtain ⟨a⟩ := x
  have : a = #[] := Array.eq_empty_of_size_eq_zero h
  rw [this]
set_option maxRecDepth 8000 in
set_option maxHeartbeats 4000000 in
theorem append_any (n : Nat) (d : Ds) (v : Value) (z : Int) (x : ByteArray) (w : World) (h : DV n d v w) (hn : n ≤ w.heap.size) (hk : Ok 1000000 1000 d) (hx : x.size ≤ 1000000) :
    Calls Try.prog 23 #[v, .int .i64 z, .string x] w (Post2 n (appP d z x) w) := by
  obtain ⟨o, rfl, hO, hc⟩ := h
  obtain ⟨a, b, l, c, f, dn⟩ := d
  simp only at hO  ⊢
  obtain ⟨a1, c1, rfl⟩ := hO.len
  obtain ⟨n1, hn1⟩ : ∃ q, l.length = q := ⟨_, rfl⟩
  rw [hn1] at hO hc ⊢
  have HN := Lib.hid hn1
  obtain ⟨V, hV⟩ : ∃ Q_ : World, (w.alloc (.cells #[.string a, .string b, .slice a1 n1 c1, .int .i64 c, .int .i64 f, .bool dn] 28)).alloc (.cells #[.string ⟨#[]⟩, .string ⟨#[]⟩, .slice none 0 0, .int .i64 0, .int .i64 0, .bool false] 28) = Q_ := ⟨_, rfl⟩
  have bV : Below w.heap.size w V := hV ▸ below2 _ _ _
  obtain ⟨B0, B1⟩ : Bx V w.heap.size #[.string a, .string b, .slice a1 n1 c1, .int .i64 c, .int .i64 f, .bool dn] 28 ∧ Bx V (w.heap.size + 1) #[.string ⟨#[]⟩, .string ⟨#[]⟩, .slice none 0 0, .int .i64 0, .int .i64 0, .bool false] 28 := hV ▸ bx2 w _ _ _ _
  replace hO := hO.stays bV
  have HD : Hid (DV n ⟨a, b, l, c, f, dn⟩ (.agg (cD a b (.slice a1 n1 c1) c f dn)) V) := Lib.hid (DV.mk hO hc)
  have hnV : n ≤ V.heap.size := by have := bV.size; omega
  clear hn1
  obtain ⟨e0, he0⟩ : ∃ q, readE ⟨a, b, l, c, f, dn⟩ z = q := ⟨_, rfl⟩
  obtain ⟨s0, hs0⟩ : ∃ q, readS ⟨a, b, l, c, f, dn⟩ z = q := ⟨_, rfl⟩
  have HE := Lib.hid he0
  have HS := Lib.hid hs0
  have hw1 : (⟨a, b, l, c, f, dn⟩ : Ds).wt ≤ 1000000 := hk.wt
  have hl1 : l.length ≤ 1000 := hk.len
  have hl2 : (⟨a, b, l, c, f, dn⟩ : Ds).l.length ≤ 1000000 := by show l.length ≤ _; omega
  have hf1 : -1 ≤ f ∧ f ≤ 9223372036854775807 := hk.f
  have hc1 : 0 ≤ c ∧ c ≤ 60000 := hk.c
  clear hk
  by_cases h0 : e0 = 0
  · subst h0
    obtain ⟨hdn, hz⟩ := readE_ok he0
    have hS : s0 = at2 (fin (a, b) l) z := by rw [← hs0]; unfold readS; rw [if_pos he0]; rfl
    have hb0 : (at2 (Ds.now ⟨a, b, l, c, f, dn⟩) z) = s0 := hS.symm
    have hsz : s0.size ≤ 1000000 := by
      have h1 := now_wt ⟨a, b, l, c, f, dn⟩
      rw [hS]; unfold at2
      split
      · exact Nat.le_trans (Nat.le_trans (Nat.le_add_right _ _) h1) hw1
      · exact Nat.le_trans (Nat.le_trans (Nat.le_add_left _ _) h1) hw1
    by_cases h1 : x.size = 0
    · have HP : Hid (appP ⟨a, b, l, c, f, dn⟩ z x = (⟨a, b, l, c, f, dn⟩, 1)) := Lib.hid (by unfold appP; rw [if_neg (by rw [he0]; simp), if_pos h1])
      obtain rfl := size_nul h1
      clear hS hb0 he0 hs0 hdn hz h1 hsz
      obtain ⟨q1l, q1r, q1p, ⟨q1c0, q1c1, q1c2, q1c3, q1c4, q1c5⟩, ⟨q1f0, q1f1, q1f2, q1f3, q1f4, q1f5⟩⟩ := B0.d6
      go_enter Try.func23, Try.ntmps23
      go_wp2_with fail
      refine (read_is HS HE HD.out hnV hw1 hl2).mono ?_
      rintro e w1 ⟨rfl, hb1⟩
      clear q1l q1r q1p q1c0 q1c1 q1c2 q1c3 q1c4 q1c5 q1f0 q1f1 q1f2 q1f3 q1f4 q1f5
      replace B0 := B0.stays hb1
      replace B1 := B1.stays hb1
      replace hO := hO.stays hb1
      have bw1 := nx bV hb1
      obtain ⟨q2l, q2r, q2p, ⟨q2c0, q2c1, q2c2, q2c3, q2c4, q2c5⟩, ⟨q2f0, q2f1, q2f2, q2f3, q2f4, q2f5⟩⟩ := B0.d6
      obtain ⟨q3l, q3r, q3p, ⟨q3c0, q3c1, q3c2, q3c3, q3c4, q3c5⟩, ⟨q3f0, q3f1, q3f2, q3f3, q3f4, q3f5⟩⟩ := B1.d6
      obtain ⟨X, hX⟩ : ∃ Q_ : World, w1.setRow (w.heap.size + 1) #[.string a, .string b, .slice a1 n1 c1, .int .i64 c, .int .i64 f, .bool dn] = Q_ := ⟨_, rfl⟩
      have bX : Below w.heap.size w X := hX ▸ (bw1).trans (low_setRow _ (by omega))
      replace hO : OL n l (.slice a1 n1 c1) X := hX ▸ hO.keep (keeps_setRow _ B1 (by decide) (by show n ≤ _; omega))
      replace B0 : Bx X (w.heap.size) #[.string a, .string b, .slice a1 n1 c1, .int .i64 c, .int .i64 f, .bool dn] 28 := hX ▸ B0.put' (by omega) _
      replace B1 : Bx X (w.heap.size + 1) #[.string a, .string b, .slice a1 n1 c1, .int .i64 c, .int .i64 f, .bool dn] 28 := hX ▸ B1.put _
      obtain ⟨q4l, q4r, q4p, ⟨q4c0, q4c1, q4c2, q4c3, q4c4, q4c5⟩, ⟨q4f0, q4f1, q4f2, q4f3, q4f4, q4f5⟩⟩ := B1.d6
      go_wp2
      refine bodyPost_ret (v := .tuple #[.agg (cD a b (.slice a1 n1 c1) c f dn), .int .i64 1]) (ret_D2 Try.results23 _ _ rfl ?_) rfl (Post2.intro HP bX (DV.mk hO hc))
      simp [go_sem, *]
    · have hne : x.toList.isEmpty = false := toList_some h1
      by_cases h2 : c < s0.size + x.size
      · have HP : Hid (appP ⟨a, b, l, c, f, dn⟩ z x = (⟨a, b, l, c, f, dn⟩, 10)) := Lib.hid (by unfold appP; rw [if_neg (by rw [he0]; simp), if_neg h1, hb0, if_pos h2])
        clear hS hb0 he0 hs0 hdn hz h1
        obtain ⟨q1l, q1r, q1p, ⟨q1c0, q1c1, q1c2, q1c3, q1c4, q1c5⟩, ⟨q1f0, q1f1, q1f2, q1f3, q1f4, q1f5⟩⟩ := B0.d6
        go_enter Try.func23, Try.ntmps23
        go_wp2_with fail
        refine (read_is HS HE HD.out hnV hw1 hl2).mono ?_
        rintro e w1 ⟨rfl, hb1⟩
        clear q1l q1r q1p q1c0 q1c1 q1c2 q1c3 q1c4 q1c5 q1f0 q1f1 q1f2 q1f3 q1f4 q1f5
        replace B0 := B0.stays hb1
        replace B1 := B1.stays hb1
        replace hO := hO.stays hb1
        have bw1 := nx bV hb1
        obtain ⟨q2l, q2r, q2p, ⟨q2c0, q2c1, q2c2, q2c3, q2c4, q2c5⟩, ⟨q2f0, q2f1, q2f2, q2f3, q2f4, q2f5⟩⟩ := B0.d6
        obtain ⟨q3l, q3r, q3p, ⟨q3c0, q3c1, q3c2, q3c3, q3c4, q3c5⟩, ⟨q3f0, q3f1, q3f2, q3f3, q3f4, q3f5⟩⟩ := B1.d6
        obtain ⟨X, hX⟩ : ∃ Q_ : World, w1.setRow (w.heap.size + 1) #[.string a, .string b, .slice a1 n1 c1, .int .i64 c, .int .i64 f, .bool dn] = Q_ := ⟨_, rfl⟩
        have bX : Below w.heap.size w X := hX ▸ (bw1).trans (low_setRow _ (by omega))
        replace hO : OL n l (.slice a1 n1 c1) X := hX ▸ hO.keep (keeps_setRow _ B1 (by decide) (by show n ≤ _; omega))
        replace B0 : Bx X (w.heap.size) #[.string a, .string b, .slice a1 n1 c1, .int .i64 c, .int .i64 f, .bool dn] 28 := hX ▸ B0.put' (by omega) _
        replace B1 : Bx X (w.heap.size + 1) #[.string a, .string b, .slice a1 n1 c1, .int .i64 c, .int .i64 f, .bool dn] 28 := hX ▸ B1.put _
        obtain ⟨q4l, q4r, q4p, ⟨q4c0, q4c1, q4c2, q4c3, q4c4, q4c5⟩, ⟨q4f0, q4f1, q4f2, q4f3, q4f4, q4f5⟩⟩ := B1.d6
        go_wp2
        refine bodyPost_ret (v := .tuple #[.agg (cD a b (.slice a1 n1 c1) c f dn), .int .i64 10]) (ret_D2 Try.results23 _ _ rfl ?_) rfl (Post2.intro HP bX (DV.mk hO hc))
        simp [go_sem, *]
      · obtain ⟨p, hp⟩ : ∃ q, doP ⟨a, b, l, c, f, dn⟩ (z == 1, x, false) = q := ⟨_, rfl⟩
        have HQ := Lib.hid hp
        have HP : Hid (appP ⟨a, b, l, c, f, dn⟩ z x = p) := Lib.hid (by unfold appP; rw [if_neg (by rw [he0]; simp), if_neg h1, hb0, if_neg h2, hp])
        have hzz : zi (z == 1) = z := by rcases hz with rfl | rfl <;> rfl
        obtain ⟨⟨a3, b3, l3, c3, f3, dn3⟩, k3⟩ := p
        clear hS hb0 he0 hs0 hdn hz h1 hp
        obtain ⟨q1l, q1r, q1p, ⟨q1c0, q1c1, q1c2, q1c3, q1c4, q1c5⟩, ⟨q1f0, q1f1, q1f2, q1f3, q1f4, q1f5⟩⟩ := B0.d6
        go_enter Try.func23, Try.ntmps23
        go_wp2_with fail
        refine (read_is HS HE HD.out hnV hw1 hl2).mono ?_
        rintro e w1 ⟨rfl, hb1⟩
        clear q1l q1r q1p q1c0 q1c1 q1c2 q1c3 q1c4 q1c5 q1f0 q1f1 q1f2 q1f3 q1f4 q1f5
        replace B0 := B0.stays hb1
        replace B1 := B1.stays hb1
        replace hO := hO.stays hb1
        have bw1 := nx bV hb1
        obtain ⟨q2l, q2r, q2p, ⟨q2c0, q2c1, q2c2, q2c3, q2c4, q2c5⟩, ⟨q2f0, q2f1, q2f2, q2f3, q2f4, q2f5⟩⟩ := B0.d6
        go_wp2_with fail
        refine (do_is HQ hzz (DV.mk hO hc) (by have := bw1.size; omega) hf1 (by show l.length ≤ _; omega)).mono ?_
        rintro e w2 ⟨v2, rfl, hb2, o2, rfl, hO2, hc2⟩
        simp only at hO2 ⊢
        obtain ⟨a4, c4, rfl⟩ := hO2.len
        obtain ⟨n4, hn4⟩ : ∃ q, l3.length = q := ⟨_, rfl⟩
        rw [hn4] at hO2 hc2 ⊢
        clear hn4
        clear q2l q2r q2p q2c0 q2c1 q2c2 q2c3 q2c4 q2c5 q2f0 q2f1 q2f2 q2f3 q2f4 q2f5
        replace B0 := B0.stays hb2
        replace B1 := B1.stays hb2
        replace hO := hO.stays hb2
        have bw2 := nx bw1 hb2
        obtain ⟨q3l, q3r, q3p, ⟨q3c0, q3c1, q3c2, q3c3, q3c4, q3c5⟩, ⟨q3f0, q3f1, q3f2, q3f3, q3f4, q3f5⟩⟩ := B1.d6
        obtain ⟨X, hX⟩ : ∃ Q_ : World, w2.setRow (w.heap.size + 1) #[.string a3, .string b3, .slice a4 n4 c4, .int .i64 c3, .int .i64 f3, .bool dn3] = Q_ := ⟨_, rfl⟩
        have bX : Below w.heap.size w X := hX ▸ (bw2).trans (low_setRow _ (by omega))
        replace hO2 : OL n l3 (.slice a4 n4 c4) X := hX ▸ hO2.keep (keeps_setRow _ B1 (by decide) (by show n ≤ _; omega))
        replace B0 : Bx X (w.heap.size) #[.string a, .string b, .slice a1 n1 c1, .int .i64 c, .int .i64 f, .bool dn] 28 := hX ▸ B0.put' (by omega) _
        replace B1 : Bx X (w.heap.size + 1) #[.string a3, .string b3, .slice a4 n4 c4, .int .i64 c3, .int .i64 f3, .bool dn3] 28 := hX ▸ B1.put _
        obtain ⟨q4l, q4r, q4p, ⟨q4c0, q4c1, q4c2, q4c3, q4c4, q4c5⟩, ⟨q4f0, q4f1, q4f2, q4f3, q4f4, q4f5⟩⟩ := B1.d6
        go_wp2
        refine bodyPost_ret (v := .tuple #[.agg (cD a3 b3 (.slice a4 n4 c4) c3 f3 dn3), .int .i64 k3]) (ret_D2 Try.results23 _ _ rfl ?_) rfl (Post2.intro HP bX (DV.mk hO2 hc2))
        simp [go_sem, *]
  · have HP : Hid (appP ⟨a, b, l, c, f, dn⟩ z x = (⟨a, b, l, c, f, dn⟩, e0)) := Lib.hid (by unfold appP; rw [if_pos (by rw [he0]; exact h0), he0])
    have hne : (e0 != 0) = true := by simpa using h0
    clear he0 hs0 h0
    obtain ⟨q1l, q1r, q1p, ⟨q1c0, q1c1, q1c2, q1c3, q1c4, q1c5⟩, ⟨q1f0, q1f1, q1f2, q1f3, q1f4, q1f5⟩⟩ := B0.d6
    go_enter Try.func23, Try.ntmps23
    go_wp2_with fail
    refine (read_is HS HE HD.out hnV hw1 hl2).mono ?_
    rintro e w1 ⟨rfl, hb1⟩
    clear q1l q1r q1p q1c0 q1c1 q1c2 q1c3 q1c4 q1c5 q1f0 q1f1 q1f2 q1f3 q1f4 q1f5
    replace B0 := B0.stays hb1
    replace B1 := B1.stays hb1
    replace hO := hO.stays hb1
    have bw1 := nx bV hb1
    obtain ⟨q2l, q2r, q2p, ⟨q2c0, q2c1, q2c2, q2c3, q2c4, q2c5⟩, ⟨q2f0, q2f1, q2f2, q2f3, q2f4, q2f5⟩⟩ := B0.d6
    obtain ⟨q3l, q3r, q3p, ⟨q3c0, q3c1, q3c2, q3c3, q3c4, q3c5⟩, ⟨q3f0, q3f1, q3f2, q3f3, q3f4, q3f5⟩⟩ := B1.d6
    obtain ⟨X, hX⟩ : ∃ Q_ : World, w1.setRow (w.heap.size + 1) #[.string a, .string b, .slice a1 n1 c1, .int .i64 c, .int .i64 f, .bool dn] = Q_ := ⟨_, rfl⟩
    have bX : Below w.heap.size w X := hX ▸ (bw1).trans (low_setRow _ (by omega))
    replace hO : OL n l (.slice a1 n1 c1) X := hX ▸ hO.keep (keeps_setRow _ B1 (by decide) (by show n ≤ _; omega))
    replace B0 : Bx X (w.heap.size) #[.string a, .string b, .slice a1 n1 c1, .int .i64 c, .int .i64 f, .bool dn] 28 := hX ▸ B0.put' (by omega) _
    replace B1 : Bx X (w.heap.size + 1) #[.string a, .string b, .slice a1 n1 c1, .int .i64 c, .int .i64 f, .bool dn] 28 := hX ▸ B1.put _
    obtain ⟨q4l, q4r, q4p, ⟨q4c0, q4c1, q4c2, q4c3, q4c4, q4c5⟩, ⟨q4f0, q4f1, q4f2, q4f3, q4f4, q4f5⟩⟩ := B1.d6
    go_wp2
    refine bodyPost_ret (v := .tuple #[.agg (cD a b (.slice a1 n1 c1) c f dn), .int .i64 e0]) (ret_D2 Try.results23 _ _ rfl ?_) rfl (Post2.intro HP bX (DV.mk hO hc))
    simp [go_sem, *]
end Go.Proofs.Ytegepbifbhamnaa.Dk
