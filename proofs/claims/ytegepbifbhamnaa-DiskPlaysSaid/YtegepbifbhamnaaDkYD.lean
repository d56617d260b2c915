/- The document's own of layer 14: Start, Arm, Room. -/
import Derived.Test.YtegepbifbhamnaaDkYC
namespace Go.Proofs.Ytegepbifbhamnaa.Dk
open Go.RowKit
set_option linter.unusedVariables false
open Go.Proofs.Ytegepbifbhamnaa.Rw
open Go.Proofs.Ytegepbifbhamnaa.Da
set_option maxRecDepth 8000
set_option maxHeartbeats 4000000
theorem rStart_any (n : Nat) (d : Ds) (v : Value) (w : World) (h : DV n d v w) (hn : n ≤ w.heap.size) (hl : d.l.length ≤ 100000) : Calls Try.prog 15 #[v] w (PostD n (staP d) w) := by
  obtain ⟨o, rfl, hO, hc⟩ := h
  obtain ⟨a, b, l, c, f, dn⟩ := d
  simp only at hO hl ⊢
  obtain ⟨a1, c1, rfl⟩ := hO.len
  obtain ⟨n1, hn1⟩ : ∃ q, l.length = q := ⟨_, rfl⟩
  rw [hn1] at hO hc ⊢
  have HN := Lib.hid hn1
  have hBo : (Bs.of n).le w.heap.size := ⟨hn, fun _ h => h.elim⟩
  obtain ⟨V, hV⟩ : ∃ Q_ : World, (w.alloc (.cells #[.string a, .string b, .slice a1 n1 c1, .int .i64 c, .int .i64 f, .bool dn] 28)).alloc (.cells #[.string ⟨#[]⟩, .string ⟨#[]⟩, .slice none 0 0, .int .i64 0, .int .i64 0, .bool false] 28) = Q_ := ⟨_, rfl⟩
  have bV : Below w.heap.size w V := hV ▸ below2 _ _ _
  obtain ⟨B0, B1⟩ : Bx V w.heap.size #[.string a, .string b, .slice a1 n1 c1, .int .i64 c, .int .i64 f, .bool dn] 28 ∧ Bx V (w.heap.size + 1) #[.string ⟨#[]⟩, .string ⟨#[]⟩, .slice none 0 0, .int .i64 0, .int .i64 0, .bool false] 28 := hV ▸ bx2 w _ _ _ _
  have HP : Hid (staP ⟨a, b, l, c, f, dn⟩ = ⟨a, b, l, c, f, false⟩) := Lib.hid rfl
  obtain ⟨q1l, q1r, q1p, ⟨q1c0, q1c1, q1c2, q1c3, q1c4, q1c5⟩, ⟨q1f0, q1f1, q1f2, q1f3, q1f4, q1f5⟩⟩ := B0.d6
  go_enter Try.func15, Try.ntmps15
  go_wp2_with fail
  with_reducible refine (rOwn_any n ⟨a, b, l, c, f, dn⟩ _ V (DV.mk (hO.stays bV) hc) (by have := bV.size; omega) hl).mono ?_
  rintro e w1 ⟨o1, rfl, hb1, hS⟩
  replace hS := own_lower hS bV.size
  simp only at hS ⊢
  obtain ⟨a2, c2, rfl⟩ := (Own.is (by decide) hBo hS).len
  rw [hn1] at hS ⊢
  clear q1l q1r q1p q1c0 q1c1 q1c2 q1c3 q1c4 q1c5 q1f0 q1f1 q1f2 q1f3 q1f4 q1f5
  replace B0 := B0.stays hb1
  replace B1 := B1.stays hb1
  have bw1 := nx bV hb1
  obtain ⟨q2l, q2r, q2p, ⟨q2c0, q2c1, q2c2, q2c3, q2c4, q2c5⟩, ⟨q2f0, q2f1, q2f2, q2f3, q2f4, q2f5⟩⟩ := B0.d6
  have hS9 := Own.keep hBo hS (keeps_setRow #[.string a, .string b, .slice a2 n1 c2, .int .i64 c, .int .i64 f, .bool dn] B0 (by decide) (by show n ≤ _; omega))
  obtain ⟨X, hX⟩ : ∃ Q_ : World, w1.setRow (w.heap.size) #[.string a, .string b, .slice a2 n1 c2, .int .i64 c, .int .i64 f, .bool dn] = Q_ := ⟨_, rfl⟩
  have bX : Below w.heap.size w X := hX ▸ (bw1).trans (low_setRow _ (by omega))
  replace B1 : Bx X (w.heap.size + 1) #[.string ⟨#[]⟩, .string ⟨#[]⟩, .slice none 0 0, .int .i64 0, .int .i64 0, .bool false] 28 := hX ▸ B1.put' (by omega) _
  replace B0 : Bx X (w.heap.size) #[.string a, .string b, .slice a2 n1 c2, .int .i64 c, .int .i64 f, .bool dn] 28 := hX ▸ B0.put _
  replace hS : OwnO n w.heap.size l (.slice a2 n1 c2) X := hX ▸ hS9
  clear hS9
  obtain ⟨q3l, q3r, q3p, ⟨q3c0, q3c1, q3c2, q3c3, q3c4, q3c5⟩, ⟨q3f0, q3f1, q3f2, q3f3, q3f4, q3f5⟩⟩ := B0.d6
  have hS9 := Own.keep hBo hS (keeps_setCell 5 (.bool false) B0 (by decide) (by show n ≤ _; omega))
  obtain ⟨Y, hY⟩ : ∃ Q_ : World, X.setCell ⟨w.heap.size, 5, none⟩ (.bool false) = Q_ := ⟨_, rfl⟩
  have bY : Below w.heap.size w Y := hY ▸ (bX).trans (low_setCell _ _ (by omega))
  replace B1 : Bx Y (w.heap.size + 1) #[.string ⟨#[]⟩, .string ⟨#[]⟩, .slice none 0 0, .int .i64 0, .int .i64 0, .bool false] 28 := hY ▸ B1.set' (by omega) _ _
  replace B0 : Bx Y (w.heap.size) #[.string a, .string b, .slice a2 n1 c2, .int .i64 c, .int .i64 f, .bool false] 28 := hY ▸ (show Bx (X.setCell ⟨w.heap.size, 5, none⟩ (.bool false)) (w.heap.size) #[.string a, .string b, .slice a2 n1 c2, .int .i64 c, .int .i64 f, .bool false] 28 from B0.set 5 (.bool false))
  replace hS : OwnO n w.heap.size l (.slice a2 n1 c2) Y := hY ▸ hS9
  clear hS9
  obtain ⟨q4l, q4r, q4p, ⟨q4c0, q4c1, q4c2, q4c3, q4c4, q4c5⟩, ⟨q4f0, q4f1, q4f2, q4f3, q4f4, q4f5⟩⟩ := B0.d6
  obtain ⟨q5l, q5r, q5p, ⟨q5c0, q5c1, q5c2, q5c3, q5c4, q5c5⟩, ⟨q5f0, q5f1, q5f2, q5f3, q5f4, q5f5⟩⟩ := B1.d6
  have hS9 := Own.keep hBo hS (keeps_setRow #[.string a, .string b, .slice a2 n1 c2, .int .i64 c, .int .i64 f, .bool false] B1 (by decide) (by show n ≤ _; omega))
  obtain ⟨U, hU⟩ : ∃ Q_ : World, Y.setRow (w.heap.size + 1) #[.string a, .string b, .slice a2 n1 c2, .int .i64 c, .int .i64 f, .bool false] = Q_ := ⟨_, rfl⟩
  have bU : Below w.heap.size w U := hU ▸ (bY).trans (low_setRow _ (by omega))
  replace B0 : Bx U (w.heap.size) #[.string a, .string b, .slice a2 n1 c2, .int .i64 c, .int .i64 f, .bool false] 28 := hU ▸ B0.put' (by omega) _
  replace B1 : Bx U (w.heap.size + 1) #[.string a, .string b, .slice a2 n1 c2, .int .i64 c, .int .i64 f, .bool false] 28 := hU ▸ B1.put _
  replace hS : OwnO n w.heap.size l (.slice a2 n1 c2) U := hU ▸ hS9
  clear hS9
  obtain ⟨q6l, q6r, q6p, ⟨q6c0, q6c1, q6c2, q6c3, q6c4, q6c5⟩, ⟨q6f0, q6f1, q6f2, q6f3, q6f4, q6f5⟩⟩ := B1.d6
  clear hn1
  go_wp2
  refine bodyPost_ret (v := .agg #[.string a, .string b, .slice a2 n1 c2, .int .i64 c, .int .i64 f, .bool false]) (ret_D1 Try.results15 _ _ rfl ?_) rfl (PostD.intro HP bU (DV.mk (Own.is (by decide) hBo hS) (Own.cap hS)))
  simp [go_sem, *]
theorem rArm_any (n : Nat) (d : Ds) (v : Value) (k : Int) (w : World) (h : DV n d v w) (hn : n ≤ w.heap.size) (hl : d.l.length ≤ 100000) : Calls Try.prog 16 #[v, .int .i64 k] w (PostD n (armP d k) w) := by
  obtain ⟨o, rfl, hO, hc⟩ := h
  obtain ⟨a, b, l, c, f, dn⟩ := d
  simp only at hO hl ⊢
  obtain ⟨a1, c1, rfl⟩ := hO.len
  obtain ⟨n1, hn1⟩ : ∃ q, l.length = q := ⟨_, rfl⟩
  rw [hn1] at hO hc ⊢
  have HN := Lib.hid hn1
  have hBo : (Bs.of n).le w.heap.size := ⟨hn, fun _ h => h.elim⟩
  obtain ⟨V, hV⟩ : ∃ Q_ : World, (w.alloc (.cells #[.string a, .string b, .slice a1 n1 c1, .int .i64 c, .int .i64 f, .bool dn] 28)).alloc (.cells #[.string ⟨#[]⟩, .string ⟨#[]⟩, .slice none 0 0, .int .i64 0, .int .i64 0, .bool false] 28) = Q_ := ⟨_, rfl⟩
  have bV : Below w.heap.size w V := hV ▸ below2 _ _ _
  obtain ⟨B0, B1⟩ : Bx V w.heap.size #[.string a, .string b, .slice a1 n1 c1, .int .i64 c, .int .i64 f, .bool dn] 28 ∧ Bx V (w.heap.size + 1) #[.string ⟨#[]⟩, .string ⟨#[]⟩, .slice none 0 0, .int .i64 0, .int .i64 0, .bool false] 28 := hV ▸ bx2 w _ _ _ _
  obtain ⟨m, hm⟩ : ∃ q, (if (-1 : Int) < k then k else -1) = q := ⟨_, rfl⟩
  have HP : Hid (armP ⟨a, b, l, c, f, dn⟩ k = ⟨a, b, l, c, m, dn⟩) := Lib.hid (by unfold armP; rw [show max k (-1) = m by rw [← hm]; split <;> omega])
  obtain ⟨q1l, q1r, q1p, ⟨q1c0, q1c1, q1c2, q1c3, q1c4, q1c5⟩, ⟨q1f0, q1f1, q1f2, q1f3, q1f4, q1f5⟩⟩ := B0.d6
  go_enter Try.func16, Try.ntmps16
  go_wp2_with fail
  with_reducible refine (rOwn_any n ⟨a, b, l, c, f, dn⟩ _ V (DV.mk (hO.stays bV) hc) (by have := bV.size; omega) hl).mono ?_
  rintro e w1 ⟨o1, rfl, hb1, hS⟩
  replace hS := own_lower hS bV.size
  simp only at hS ⊢
  obtain ⟨a2, c2, rfl⟩ := (Own.is (by decide) hBo hS).len
  rw [hn1] at hS ⊢
  clear q1l q1r q1p q1c0 q1c1 q1c2 q1c3 q1c4 q1c5 q1f0 q1f1 q1f2 q1f3 q1f4 q1f5
  replace B0 := B0.stays hb1
  replace B1 := B1.stays hb1
  have bw1 := nx bV hb1
  obtain ⟨q2l, q2r, q2p, ⟨q2c0, q2c1, q2c2, q2c3, q2c4, q2c5⟩, ⟨q2f0, q2f1, q2f2, q2f3, q2f4, q2f5⟩⟩ := B0.d6
  have hS9 := Own.keep hBo hS (keeps_setRow #[.string a, .string b, .slice a2 n1 c2, .int .i64 c, .int .i64 f, .bool dn] B0 (by decide) (by show n ≤ _; omega))
  obtain ⟨X, hX⟩ : ∃ Q_ : World, w1.setRow (w.heap.size) #[.string a, .string b, .slice a2 n1 c2, .int .i64 c, .int .i64 f, .bool dn] = Q_ := ⟨_, rfl⟩
  have bX : Below w.heap.size w X := hX ▸ (bw1).trans (low_setRow _ (by omega))
  replace B1 : Bx X (w.heap.size + 1) #[.string ⟨#[]⟩, .string ⟨#[]⟩, .slice none 0 0, .int .i64 0, .int .i64 0, .bool false] 28 := hX ▸ B1.put' (by omega) _
  replace B0 : Bx X (w.heap.size) #[.string a, .string b, .slice a2 n1 c2, .int .i64 c, .int .i64 f, .bool dn] 28 := hX ▸ B0.put _
  replace hS : OwnO n w.heap.size l (.slice a2 n1 c2) X := hX ▸ hS9
  clear hS9
  obtain ⟨q3l, q3r, q3p, ⟨q3c0, q3c1, q3c2, q3c3, q3c4, q3c5⟩, ⟨q3f0, q3f1, q3f2, q3f3, q3f4, q3f5⟩⟩ := B0.d6
  have hS9 := Own.keep hBo hS (keeps_setCell 4 (.int .i64 m) B0 (by decide) (by show n ≤ _; omega))
  obtain ⟨Y, hY⟩ : ∃ Q_ : World, X.setCell ⟨w.heap.size, 4, none⟩ (.int .i64 m) = Q_ := ⟨_, rfl⟩
  have bY : Below w.heap.size w Y := hY ▸ (bX).trans (low_setCell _ _ (by omega))
  replace B1 : Bx Y (w.heap.size + 1) #[.string ⟨#[]⟩, .string ⟨#[]⟩, .slice none 0 0, .int .i64 0, .int .i64 0, .bool false] 28 := hY ▸ B1.set' (by omega) _ _
  replace B0 : Bx Y (w.heap.size) #[.string a, .string b, .slice a2 n1 c2, .int .i64 c, .int .i64 m, .bool dn] 28 := hY ▸ (show Bx (X.setCell ⟨w.heap.size, 4, none⟩ (.int .i64 m)) (w.heap.size) #[.string a, .string b, .slice a2 n1 c2, .int .i64 c, .int .i64 m, .bool dn] 28 from B0.set 4 (.int .i64 m))
  replace hS : OwnO n w.heap.size l (.slice a2 n1 c2) Y := hY ▸ hS9
  clear hS9
  obtain ⟨q4l, q4r, q4p, ⟨q4c0, q4c1, q4c2, q4c3, q4c4, q4c5⟩, ⟨q4f0, q4f1, q4f2, q4f3, q4f4, q4f5⟩⟩ := B0.d6
  obtain ⟨q5l, q5r, q5p, ⟨q5c0, q5c1, q5c2, q5c3, q5c4, q5c5⟩, ⟨q5f0, q5f1, q5f2, q5f3, q5f4, q5f5⟩⟩ := B1.d6
  have hS9 := Own.keep hBo hS (keeps_setRow #[.string a, .string b, .slice a2 n1 c2, .int .i64 c, .int .i64 m, .bool dn] B1 (by decide) (by show n ≤ _; omega))
  obtain ⟨U, hU⟩ : ∃ Q_ : World, Y.setRow (w.heap.size + 1) #[.string a, .string b, .slice a2 n1 c2, .int .i64 c, .int .i64 m, .bool dn] = Q_ := ⟨_, rfl⟩
  have bU : Below w.heap.size w U := hU ▸ (bY).trans (low_setRow _ (by omega))
  replace B0 : Bx U (w.heap.size) #[.string a, .string b, .slice a2 n1 c2, .int .i64 c, .int .i64 m, .bool dn] 28 := hU ▸ B0.put' (by omega) _
  replace B1 : Bx U (w.heap.size + 1) #[.string a, .string b, .slice a2 n1 c2, .int .i64 c, .int .i64 m, .bool dn] 28 := hU ▸ B1.put _
  replace hS : OwnO n w.heap.size l (.slice a2 n1 c2) U := hU ▸ hS9
  clear hS9
  obtain ⟨q6l, q6r, q6p, ⟨q6c0, q6c1, q6c2, q6c3, q6c4, q6c5⟩, ⟨q6f0, q6f1, q6f2, q6f3, q6f4, q6f5⟩⟩ := B1.d6
  clear hn1
  go_wp2
  refine bodyPost_ret (v := .agg #[.string a, .string b, .slice a2 n1 c2, .int .i64 c, .int .i64 m, .bool dn]) (ret_D1 Try.results16 _ _ rfl ?_) rfl (PostD.intro HP bU (DV.mk (Own.is (by decide) hBo hS) (Own.cap hS)))
  simp [go_sem, *]
theorem rRoom_any (n : Nat) (d : Ds) (v : Value) (k : Int) (w : World) (h : DV n d v w) (hn : n ≤ w.heap.size) (hl : d.l.length ≤ 100000) : Calls Try.prog 17 #[v, .int .i64 k] w (PostD n (rooP d k) w) := by
  obtain ⟨o, rfl, hO, hc⟩ := h
  obtain ⟨a, b, l, c, f, dn⟩ := d
  simp only at hO hl ⊢
  obtain ⟨a1, c1, rfl⟩ := hO.len
  obtain ⟨n1, hn1⟩ : ∃ q, l.length = q := ⟨_, rfl⟩
  rw [hn1] at hO hc ⊢
  have HN := Lib.hid hn1
  have hBo : (Bs.of n).le w.heap.size := ⟨hn, fun _ h => h.elim⟩
  obtain ⟨V, hV⟩ : ∃ Q_ : World, (w.alloc (.cells #[.string a, .string b, .slice a1 n1 c1, .int .i64 c, .int .i64 f, .bool dn] 28)).alloc (.cells #[.string ⟨#[]⟩, .string ⟨#[]⟩, .slice none 0 0, .int .i64 0, .int .i64 0, .bool false] 28) = Q_ := ⟨_, rfl⟩
  have bV : Below w.heap.size w V := hV ▸ below2 _ _ _
  obtain ⟨B0, B1⟩ : Bx V w.heap.size #[.string a, .string b, .slice a1 n1 c1, .int .i64 c, .int .i64 f, .bool dn] 28 ∧ Bx V (w.heap.size + 1) #[.string ⟨#[]⟩, .string ⟨#[]⟩, .slice none 0 0, .int .i64 0, .int .i64 0, .bool false] 28 := hV ▸ bx2 w _ _ _ _
  obtain ⟨y, hy⟩ : ∃ q, (if (60000 : Int) < k then 60000 else k) = q := ⟨_, rfl⟩
  obtain ⟨m, hm⟩ : ∃ q, (if (0 : Int) < y then y else 0) = q := ⟨_, rfl⟩
  have HP : Hid (rooP ⟨a, b, l, c, f, dn⟩ k = ⟨a, b, l, m, f, dn⟩) := Lib.hid (by unfold rooP; rw [show lim k 60000 = m by rw [← hm, ← hy]; unfold lim; split <;> split <;> omega])
  obtain ⟨q1l, q1r, q1p, ⟨q1c0, q1c1, q1c2, q1c3, q1c4, q1c5⟩, ⟨q1f0, q1f1, q1f2, q1f3, q1f4, q1f5⟩⟩ := B0.d6
  go_enter Try.func17, Try.ntmps17
  go_wp2_with fail
  with_reducible refine (rOwn_any n ⟨a, b, l, c, f, dn⟩ _ V (DV.mk (hO.stays bV) hc) (by have := bV.size; omega) hl).mono ?_
  rintro e w1 ⟨o1, rfl, hb1, hS⟩
  replace hS := own_lower hS bV.size
  simp only at hS ⊢
  obtain ⟨a2, c2, rfl⟩ := (Own.is (by decide) hBo hS).len
  rw [hn1] at hS ⊢
  clear q1l q1r q1p q1c0 q1c1 q1c2 q1c3 q1c4 q1c5 q1f0 q1f1 q1f2 q1f3 q1f4 q1f5
  replace B0 := B0.stays hb1
  replace B1 := B1.stays hb1
  have bw1 := nx bV hb1
  obtain ⟨q2l, q2r, q2p, ⟨q2c0, q2c1, q2c2, q2c3, q2c4, q2c5⟩, ⟨q2f0, q2f1, q2f2, q2f3, q2f4, q2f5⟩⟩ := B0.d6
  have hS9 := Own.keep hBo hS (keeps_setRow #[.string a, .string b, .slice a2 n1 c2, .int .i64 c, .int .i64 f, .bool dn] B0 (by decide) (by show n ≤ _; omega))
  obtain ⟨X, hX⟩ : ∃ Q_ : World, w1.setRow (w.heap.size) #[.string a, .string b, .slice a2 n1 c2, .int .i64 c, .int .i64 f, .bool dn] = Q_ := ⟨_, rfl⟩
  have bX : Below w.heap.size w X := hX ▸ (bw1).trans (low_setRow _ (by omega))
  replace B1 : Bx X (w.heap.size + 1) #[.string ⟨#[]⟩, .string ⟨#[]⟩, .slice none 0 0, .int .i64 0, .int .i64 0, .bool false] 28 := hX ▸ B1.put' (by omega) _
  replace B0 : Bx X (w.heap.size) #[.string a, .string b, .slice a2 n1 c2, .int .i64 c, .int .i64 f, .bool dn] 28 := hX ▸ B0.put _
  replace hS : OwnO n w.heap.size l (.slice a2 n1 c2) X := hX ▸ hS9
  clear hS9
  obtain ⟨q3l, q3r, q3p, ⟨q3c0, q3c1, q3c2, q3c3, q3c4, q3c5⟩, ⟨q3f0, q3f1, q3f2, q3f3, q3f4, q3f5⟩⟩ := B0.d6
  have hS9 := Own.keep hBo hS (keeps_setCell 3 (.int .i64 m) B0 (by decide) (by show n ≤ _; omega))
  obtain ⟨Y, hY⟩ : ∃ Q_ : World, X.setCell ⟨w.heap.size, 3, none⟩ (.int .i64 m) = Q_ := ⟨_, rfl⟩
  have bY : Below w.heap.size w Y := hY ▸ (bX).trans (low_setCell _ _ (by omega))
  replace B1 : Bx Y (w.heap.size + 1) #[.string ⟨#[]⟩, .string ⟨#[]⟩, .slice none 0 0, .int .i64 0, .int .i64 0, .bool false] 28 := hY ▸ B1.set' (by omega) _ _
  replace B0 : Bx Y (w.heap.size) #[.string a, .string b, .slice a2 n1 c2, .int .i64 m, .int .i64 f, .bool dn] 28 := hY ▸ (show Bx (X.setCell ⟨w.heap.size, 3, none⟩ (.int .i64 m)) (w.heap.size) #[.string a, .string b, .slice a2 n1 c2, .int .i64 m, .int .i64 f, .bool dn] 28 from B0.set 3 (.int .i64 m))
  replace hS : OwnO n w.heap.size l (.slice a2 n1 c2) Y := hY ▸ hS9
  clear hS9
  obtain ⟨q4l, q4r, q4p, ⟨q4c0, q4c1, q4c2, q4c3, q4c4, q4c5⟩, ⟨q4f0, q4f1, q4f2, q4f3, q4f4, q4f5⟩⟩ := B0.d6
  obtain ⟨q5l, q5r, q5p, ⟨q5c0, q5c1, q5c2, q5c3, q5c4, q5c5⟩, ⟨q5f0, q5f1, q5f2, q5f3, q5f4, q5f5⟩⟩ := B1.d6
  have hS9 := Own.keep hBo hS (keeps_setRow #[.string a, .string b, .slice a2 n1 c2, .int .i64 m, .int .i64 f, .bool dn] B1 (by decide) (by show n ≤ _; omega))
  obtain ⟨U, hU⟩ : ∃ Q_ : World, Y.setRow (w.heap.size + 1) #[.string a, .string b, .slice a2 n1 c2, .int .i64 m, .int .i64 f, .bool dn] = Q_ := ⟨_, rfl⟩
  have bU : Below w.heap.size w U := hU ▸ (bY).trans (low_setRow _ (by omega))
  replace B0 : Bx U (w.heap.size) #[.string a, .string b, .slice a2 n1 c2, .int .i64 m, .int .i64 f, .bool dn] 28 := hU ▸ B0.put' (by omega) _
  replace B1 : Bx U (w.heap.size + 1) #[.string a, .string b, .slice a2 n1 c2, .int .i64 m, .int .i64 f, .bool dn] 28 := hU ▸ B1.put _
  replace hS : OwnO n w.heap.size l (.slice a2 n1 c2) U := hU ▸ hS9
  clear hS9
  obtain ⟨q6l, q6r, q6p, ⟨q6c0, q6c1, q6c2, q6c3, q6c4, q6c5⟩, ⟨q6f0, q6f1, q6f2, q6f3, q6f4, q6f5⟩⟩ := B1.d6
  clear hn1
  go_wp2
  refine bodyPost_ret (v := .agg #[.string a, .string b, .slice a2 n1 c2, .int .i64 m, .int .i64 f, .bool dn]) (ret_D1 Try.results17 _ _ rfl ?_) rfl (PostD.intro HP bU (DV.mk (Own.is (by decide) hBo hS) (Own.cap hS)))
  simp [go_sem, *]
end Go.Proofs.Ytegepbifbhamnaa.Dk
