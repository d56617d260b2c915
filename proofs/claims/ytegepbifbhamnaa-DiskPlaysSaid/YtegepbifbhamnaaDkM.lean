/- Package disk as it landed: Crash. -/
import Derived.Test.YtegepbifbhamnaaDkL
namespace Go.Proofs.Ytegepbifbhamnaa.Dk
open Go.RowKit
set_option linter.unusedVariables false
open Go.Proofs.Ytegepbifbhamnaa.Rw
open Go.Proofs.Ytegepbifbhamnaa.Da
/-- Two may come now, the others have to wait. -/
theorem steps_two {P : Program} {ops : Array Oper} {Q : Exit → Act → World → Prop} {md : Region.Mode} {S G : World → Prop} {i j : Nat} {ord ord' : List Nat} {listed : Array Bool} {a : Act}
    (hr : Region.ready md ops listed = [i, j]) (hl : ord'.length = ord.length) (h : Rh.One P md ops Q S i ord listed a G) (k : Rh.One P md ops Q S j ord' listed a G) : Rh.Steps P md ops Q S (i :: ord) listed a G := fun hs hQ sS st =>
  ⟨fun e => absurd hr (by rw [e]; exact fun x => by cases x), fun x hx => by
    rw [hr] at hx
    simp at hx
    rcases hx with rfl | rfl
    · exact h hs hQ sS st
    · have := k hs hQ sS st
      rw [hl] at this
      exact this⟩
theorem setCell_bx {w : World} {b : Nat} {cs : Array Value} {t : TypeId} (h : Bx w b cs t) {n b' : Nat} (hb : b ≠ b') {k : Nat} {v : Value} : Bx (w.setCell ⟨b', k, none⟩ v) b cs t := h.set' hb k v
theorem PostD.intro {n : Nat} {p q : Ds} {v : Value} {w w' : World} (H : Hid (p = q)) (hb : Below w.heap.size w w') (h : DV n q v w') : PostD n p w (.returned v) w' := by
  rw [H.out]; exact ⟨v, rfl, hb, h⟩
set_option maxRecDepth 8000 in
set_option maxHeartbeats 8000000 in
theorem crash_any (n : Nat) (d : Ds) (v : Value) (keep torn : Int) (w : World) (h : DV n d v w) (hn : n ≤ w.heap.size) (hk : Ok 1000000 1000 d) :
    Calls Try.prog 22 #[v, .int .i64 keep, .int .i64 torn] w (PostD n (craP d keep torn) w) := by
  obtain ⟨o, rfl, hO, hc⟩ := h
  obtain ⟨a, b, l, c, f, dn⟩ := d
  simp only at hO ⊢
  obtain ⟨a1, c1, rfl⟩ := hO.len
  obtain ⟨n1, hn1⟩ : ∃ q, l.length = q := ⟨_, rfl⟩
  rw [hn1] at hO hc ⊢
  have HN := Lib.hid hn1
  obtain ⟨V, hV⟩ : ∃ Q_ : World, (w.alloc (.cells #[.string a, .string b, .slice a1 n1 c1, .int .i64 c, .int .i64 f, .bool dn] 28)).alloc (.cells #[.string ⟨#[]⟩, .string ⟨#[]⟩, .slice none 0 0, .int .i64 0, .int .i64 0, .bool false] 28) = Q_ := ⟨_, rfl⟩
  have bV : Below w.heap.size w V := hV ▸ below2 _ _ _
  obtain ⟨B0, B1⟩ : Bx V w.heap.size #[.string a, .string b, .slice a1 n1 c1, .int .i64 c, .int .i64 f, .bool dn] 28 ∧ Bx V (w.heap.size + 1) #[.string ⟨#[]⟩, .string ⟨#[]⟩, .slice none 0 0, .int .i64 0, .int .i64 0, .bool false] 28 := hV ▸ bx2 w _ _ _ _
  replace hO := hO.stays bV
  have HD : Hid (DV n ⟨a, b, l, c, f, dn⟩ (.agg (cD a b (.slice a1 n1 c1) c f dn)) V) := Lib.hid (DV.mk hO hc)
  have hnV : n ≤ V.heap.size := by have := bV.size; omega
  clear hn1
  have hl1 : l.length ≤ 1000 := hk.len
  have hw1 : a.size + b.size + wl l ≤ 1000000 := hk.wt
  obtain ⟨r, hr⟩ : ∃ q, reach l keep torn = q := ⟨_, rfl⟩
  have hrw : wl r ≤ wl l := hr ▸ reach_wt l keep torn
  have hrl : r.length ≤ l.length := hr ▸ reach_len l keep torn
  obtain ⟨⟨s1, s2⟩, hs⟩ : ∃ q, fin (a, b) r = q := ⟨_, rfl⟩
  have HR := Lib.hid hr
  have HSS := Lib.hid hs
  have HP : Hid (craP ⟨a, b, l, c, f, dn⟩ keep torn = ⟨s1, s2, [], c, -1, true⟩) := Lib.hid (by simp only [craP]; rw [hr, hs])
  have HB0 := Lib.hid B0
  have HB1 := Lib.hid B1
  have HO := Lib.hid hO
  have HC := Lib.hid hc
  clear hk hr hs hO HD hc
  go_enter Try.func22, Try.ntmps22
  go_wp2
  refine Rh.region (fun u => Below w.heap.size w u) (fun u => Below V.heap.size V u) (fun _ _ h k => nx h k) (fun _ _ h k => nx h k) (bV.drew) ((Below.refl _ _).drew) [0, 2, 4, 5, 1, 3, 6, 7, 8, 9, 10, 11] (by kernel_rfl) (by kernel_rfl) (by kernel_rfl) (fun _ _ d _ _ h => by cases d <;> exact h) ?_
  repeat (first | (refine Rh.Steps.skip (by rfl) (by kernel_rfl) (by rfl) ?_; simp only [Act.put, List.setIfInBounds_toArray, List.set_cons_zero, List.set_cons_succ]) | (refine Rh.Steps.pure (v := ?_) (by rfl) (by kernel_rfl) (by rfl) ?_ ?_; rotate_left; (intro w_ hS_; skip; go_simp <;> with_reducible rfl); simp only [Act.put, List.setIfInBounds_toArray, List.set_cons_zero, List.set_cons_succ]))
  refine steps_two (i := 1) (j := 3) (ord' := [1, 6, 7, 8, 9, 10, 11]) (by kernel_rfl) rfl ?_ ?_
  · refine Rh.One.val (fun v _ => v = .agg #[.string a, .string b]) (fun _ _ _ h _ => h) (by rfl) (by rfl) ?_ ?_
    · intro w_ hS_ hG_
      obtain ⟨_, _, _, ⟨q0, q1, q2, _⟩, _⟩ := (HB0.out.stays hG_).d6
      refine ⟨_, _, ?_, Below.refl _ _, rfl⟩
      go_simp
    intro v8 u8 hv8
    simp only [Act.put, List.setIfInBounds_toArray, List.set_cons_zero, List.set_cons_succ]
    obtain rfl : v8 = .agg #[.string a, .string b] := hv8
    refine Rh.Steps.forced (i := 3) (by kernel_rfl) ?_
    refine Rh.One.val (fun v _ => v = .slice a1 n1 c1) (fun _ _ _ h _ => h) (by rfl) (by rfl) ?_ ?_
    · intro w_ hS_ hG_
      obtain ⟨_, _, _, ⟨q0, q1, q2, _⟩, _⟩ := (HB0.out.stays hG_.1).d6
      refine ⟨_, _, ?_, Below.refl _ _, rfl⟩
      go_simp
    intro v10 u10 hv10
    simp only [Act.put, List.setIfInBounds_toArray, List.set_cons_zero, List.set_cons_succ]
    obtain rfl : v10 = .slice a1 n1 c1 := hv10
    refine Rh.Steps.forced (i := 6) (by kernel_rfl) ?_
    refine Rh.One.call (fun v u => OL n r v u) (fun v _ _ h k => h.stays k) (f := ?_) (args := ?_) (by rfl) (by rfl) ?_ ?_ ?_
    rotate_left 2
    · intro w_ hS_ hG_; go_simp <;> first | with_reducible rfl | (constructor <;> with_reducible rfl)
    · intro w_ hS_ hG_; (go_at_call 34; refine (reached_any n l _ keep torn w_ (HO.out.stays hG_.1.1) HC.out (by have := hS_.size; omega) (by omega)).mono ?_; rintro e w' ⟨v, rfl, hb9, ho⟩; rw [HR.out] at ho; exact ⟨v, rfl, hb9, ho⟩)
    intro v13 u_ hv13
    simp only [Act.put, List.setIfInBounds_toArray, List.set_cons_zero, List.set_cons_succ]
    refine Rh.Steps.forced (i := 7) (by kernel_rfl) ?_
    refine Rh.One.call (fun v _ => v = .agg #[.string s1, .string s2]) (fun _ _ _ h _ => h) (f := ?_) (args := ?_) (by rfl) (by rfl) ?_ ?_ ?_
    rotate_left 2
    · intro w_ hS_ hG_; go_simp <;> first | with_reducible rfl | (constructor <;> with_reducible rfl)
    · intro w_ hS_ hG_; (go_at_call 33; refine (after_any n a b r _ w_ hG_.2 (by have := hS_.size; omega) (by omega) (by omega)).mono ?_; rintro e w' ⟨rfl, hb9⟩; rw [HSS.out]; exact ⟨_, rfl, hb9, rfl⟩)
    intro v14 u_ hv14
    simp only [Act.put, List.setIfInBounds_toArray, List.set_cons_zero, List.set_cons_succ]
    obtain rfl : v14 = .agg #[.string s1, .string s2] := hv14
    repeat (first | (refine Rh.Steps.skip (by rfl) (by kernel_rfl) (by rfl) ?_; simp only [Act.put, List.setIfInBounds_toArray, List.set_cons_zero, List.set_cons_succ]) | (refine Rh.Steps.pure (v := ?_) (by rfl) (by kernel_rfl) (by rfl) ?_ ?_; rotate_left; (intro w_ hS_; skip; go_simp <;> with_reducible rfl); simp only [Act.put, List.setIfInBounds_toArray, List.set_cons_zero, List.set_cons_succ]))
    refine Rh.Steps.forced (i := 9) (by kernel_rfl) ?_
    refine Rh.One.store (fun u => Below w.heap.size w u ∧ Bx u w.heap.size #[.string s1, .string s2, .slice a1 n1 c1, .int .i64 c, .int .i64 f, .bool dn] 28 ∧ Bx u (w.heap.size + 1) #[.string ⟨#[]⟩, .string ⟨#[]⟩, .slice none 0 0, .int .i64 0, .int .i64 0, .bool false] 28) (fun _ _ h k => ⟨nx h.1 k, h.2.1.stays k, h.2.2.stays k⟩) (by rfl) (by rfl) ?_ ?_
    · intro w_ hS_ hG_
      have C0 := HB0.out.stays hG_.1.1.1.1
      have C1 := HB1.out.stays hG_.1.1.1.1
      have D0 : Bx (w_.setCell ⟨w.heap.size, 0, none⟩ (.string s1)) w.heap.size #[.string s1, .string b, .slice a1 n1 c1, .int .i64 c, .int .i64 f, .bool dn] 28 := C0.set 0 _
      have D1 := C1.set' (b' := w.heap.size) (by omega) 0 (.string s1)
      obtain ⟨_, _, _, ⟨q0, q1, _⟩, f0, f1, _⟩ := C0.d6
      obtain ⟨_, _, _, ⟨p0, p1, _⟩, g0, g1, _⟩ := D0.d6
      have hlow := (hS_.trans (low_setCell 0 (.string s1) (Nat.le_refl w.heap.size))).trans (low_setCell 1 (.string s2) (Nat.le_refl w.heap.size))
      refine ⟨_, ?_, hlow, hlow, D0.set 1 _, D1.set' (by omega) 1 _⟩
      go_simp
    repeat (first | (refine Rh.Steps.skip (by rfl) (by kernel_rfl) (by rfl) ?_; simp only [Act.put, List.setIfInBounds_toArray, List.set_cons_zero, List.set_cons_succ]) | (refine Rh.Steps.pure (v := ?_) (by rfl) (by kernel_rfl) (by rfl) ?_ ?_; rotate_left; (intro w_ hS_; skip; go_simp <;> with_reducible rfl); simp only [Act.put, List.setIfInBounds_toArray, List.set_cons_zero, List.set_cons_succ]))
    refine Rh.Steps.forced (i := 11) (by kernel_rfl) ?_
    refine Rh.One.store (fun u => Below w.heap.size w u ∧ Bx u w.heap.size #[.string s1, .string s2, .slice none 0 0, .int .i64 c, .int .i64 f, .bool dn] 28 ∧ Bx u (w.heap.size + 1) #[.string ⟨#[]⟩, .string ⟨#[]⟩, .slice none 0 0, .int .i64 0, .int .i64 0, .bool false] 28) (fun _ _ h k => ⟨nx h.1 k, h.2.1.stays k, h.2.2.stays k⟩) (by rfl) (by rfl) ?_ ?_
    · intro w_ hS_ hG_
      obtain ⟨_, _, _, ⟨_, _, q2, _⟩, _, _, f2, _⟩ := hG_.2.1.d6
      have hlow := hG_.1.trans (low_setCell 2 (.slice none 0 0) (Nat.le_refl w.heap.size))
      refine ⟨_, ?_, hlow, hlow, hG_.2.1.set 2 _, hG_.2.2.set' (by omega) 2 _⟩
      go_simp
    refine Rh.Steps.nil (by kernel_rfl) ?_
    intro u hS hG
    obtain ⟨bu, E0, E1⟩ := hG
    obtain ⟨q1l, q1r, q1p, ⟨q1c0, q1c1, q1c2, q1c3, q1c4, q1c5⟩, ⟨q1f0, q1f1, q1f2, q1f3, q1f4, q1f5⟩⟩ := E0.d6
    obtain ⟨X1, hX1⟩ : ∃ Q_ : World, u.setCell ⟨w.heap.size, 4, none⟩ (.int .i64 (-1)) = Q_ := ⟨_, rfl⟩
    have bX1 : Below w.heap.size w X1 := hX1 ▸ (bu).trans (low_setCell _ _ (by omega))
    replace E1 : Bx X1 (w.heap.size + 1) #[.string ⟨#[]⟩, .string ⟨#[]⟩, .slice none 0 0, .int .i64 0, .int .i64 0, .bool false] 28 := hX1 ▸ E1.set' (by omega) _ _
    replace E0 : Bx X1 (w.heap.size) #[.string s1, .string s2, .slice none 0 0, .int .i64 c, .int .i64 (-1), .bool dn] 28 := hX1 ▸ (show Bx (u.setCell ⟨w.heap.size, 4, none⟩ (.int .i64 (-1))) (w.heap.size) #[.string s1, .string s2, .slice none 0 0, .int .i64 c, .int .i64 (-1), .bool dn] 28 from E0.set 4 (.int .i64 (-1)))
    obtain ⟨q2l, q2r, q2p, ⟨q2c0, q2c1, q2c2, q2c3, q2c4, q2c5⟩, ⟨q2f0, q2f1, q2f2, q2f3, q2f4, q2f5⟩⟩ := E0.d6
    obtain ⟨X2, hX2⟩ : ∃ Q_ : World, X1.setCell ⟨w.heap.size, 5, none⟩ (.bool true) = Q_ := ⟨_, rfl⟩
    have bX2 : Below w.heap.size w X2 := hX2 ▸ (bX1).trans (low_setCell _ _ (by omega))
    replace E1 : Bx X2 (w.heap.size + 1) #[.string ⟨#[]⟩, .string ⟨#[]⟩, .slice none 0 0, .int .i64 0, .int .i64 0, .bool false] 28 := hX2 ▸ E1.set' (by omega) _ _
    replace E0 : Bx X2 (w.heap.size) #[.string s1, .string s2, .slice none 0 0, .int .i64 c, .int .i64 (-1), .bool true] 28 := hX2 ▸ (show Bx (X1.setCell ⟨w.heap.size, 5, none⟩ (.bool true)) (w.heap.size) #[.string s1, .string s2, .slice none 0 0, .int .i64 c, .int .i64 (-1), .bool true] 28 from E0.set 5 (.bool true))
    obtain ⟨q3l, q3r, q3p, ⟨q3c0, q3c1, q3c2, q3c3, q3c4, q3c5⟩, ⟨q3f0, q3f1, q3f2, q3f3, q3f4, q3f5⟩⟩ := E0.d6
    obtain ⟨q4l, q4r, q4p, ⟨q4c0, q4c1, q4c2, q4c3, q4c4, q4c5⟩, ⟨q4f0, q4f1, q4f2, q4f3, q4f4, q4f5⟩⟩ := E1.d6
    obtain ⟨X3, hX3⟩ : ∃ Q_ : World, X2.setRow (w.heap.size + 1) #[.string s1, .string s2, .slice none 0 0, .int .i64 c, .int .i64 (-1), .bool true] = Q_ := ⟨_, rfl⟩
    have bX3 : Below w.heap.size w X3 := hX3 ▸ (bX2).trans (low_setRow _ (by omega))
    replace E0 : Bx X3 (w.heap.size) #[.string s1, .string s2, .slice none 0 0, .int .i64 c, .int .i64 (-1), .bool true] 28 := hX3 ▸ E0.put' (by omega) _
    replace E1 : Bx X3 (w.heap.size + 1) #[.string s1, .string s2, .slice none 0 0, .int .i64 c, .int .i64 (-1), .bool true] 28 := hX3 ▸ E1.put _
    obtain ⟨q5l, q5r, q5p, ⟨q5c0, q5c1, q5c2, q5c3, q5c4, q5c5⟩, ⟨q5f0, q5f1, q5f2, q5f3, q5f4, q5f5⟩⟩ := E1.d6
    go_wp2
    refine bodyPost_ret (v := .agg (cD s1 s2 (.slice none 0 0) c (-1) true)) (ret_D1 Try.results22 _ _ rfl ?_) rfl (PostD.intro HP bX3 (DV.mk (Is.nil _ _ _ _) (Nat.le_refl 0)))
    simp [go_sem, *]
  · refine Rh.One.val (fun v _ => v = .slice a1 n1 c1) (fun _ _ _ h _ => h) (by rfl) (by rfl) ?_ ?_
    · intro w_ hS_ hG_
      obtain ⟨_, _, _, ⟨q0, q1, q2, _⟩, _⟩ := (HB0.out.stays hG_).d6
      refine ⟨_, _, ?_, Below.refl _ _, rfl⟩
      go_simp
    intro v10 u10 hv10
    simp only [Act.put, List.setIfInBounds_toArray, List.set_cons_zero, List.set_cons_succ]
    obtain rfl : v10 = .slice a1 n1 c1 := hv10
    refine steps_two (i := 1) (j := 6) (ord' := [1, 7, 8, 9, 10, 11]) (by kernel_rfl) rfl ?_ ?_
    · refine Rh.One.val (fun v _ => v = .agg #[.string a, .string b]) (fun _ _ _ h _ => h) (by rfl) (by rfl) ?_ ?_
      · intro w_ hS_ hG_
        obtain ⟨_, _, _, ⟨q0, q1, q2, _⟩, _⟩ := (HB0.out.stays hG_.1).d6
        refine ⟨_, _, ?_, Below.refl _ _, rfl⟩
        go_simp
      intro v8 u8 hv8
      simp only [Act.put, List.setIfInBounds_toArray, List.set_cons_zero, List.set_cons_succ]
      obtain rfl : v8 = .agg #[.string a, .string b] := hv8
      refine Rh.Steps.forced (i := 6) (by kernel_rfl) ?_
      refine Rh.One.call (fun v u => OL n r v u) (fun v _ _ h k => h.stays k) (f := ?_) (args := ?_) (by rfl) (by rfl) ?_ ?_ ?_
      rotate_left 2
      · intro w_ hS_ hG_; go_simp <;> first | with_reducible rfl | (constructor <;> with_reducible rfl)
      · intro w_ hS_ hG_; (go_at_call 34; refine (reached_any n l _ keep torn w_ (HO.out.stays hG_.1.1) HC.out (by have := hS_.size; omega) (by omega)).mono ?_; rintro e w' ⟨v, rfl, hb9, ho⟩; rw [HR.out] at ho; exact ⟨v, rfl, hb9, ho⟩)
      intro v13 u_ hv13
      simp only [Act.put, List.setIfInBounds_toArray, List.set_cons_zero, List.set_cons_succ]
      refine Rh.Steps.forced (i := 7) (by kernel_rfl) ?_
      refine Rh.One.call (fun v _ => v = .agg #[.string s1, .string s2]) (fun _ _ _ h _ => h) (f := ?_) (args := ?_) (by rfl) (by rfl) ?_ ?_ ?_
      rotate_left 2
      · intro w_ hS_ hG_; go_simp <;> first | with_reducible rfl | (constructor <;> with_reducible rfl)
      · intro w_ hS_ hG_; (go_at_call 33; refine (after_any n a b r _ w_ hG_.2 (by have := hS_.size; omega) (by omega) (by omega)).mono ?_; rintro e w' ⟨rfl, hb9⟩; rw [HSS.out]; exact ⟨_, rfl, hb9, rfl⟩)
      intro v14 u_ hv14
      simp only [Act.put, List.setIfInBounds_toArray, List.set_cons_zero, List.set_cons_succ]
      obtain rfl : v14 = .agg #[.string s1, .string s2] := hv14
      repeat (first | (refine Rh.Steps.skip (by rfl) (by kernel_rfl) (by rfl) ?_; simp only [Act.put, List.setIfInBounds_toArray, List.set_cons_zero, List.set_cons_succ]) | (refine Rh.Steps.pure (v := ?_) (by rfl) (by kernel_rfl) (by rfl) ?_ ?_; rotate_left; (intro w_ hS_; skip; go_simp <;> with_reducible rfl); simp only [Act.put, List.setIfInBounds_toArray, List.set_cons_zero, List.set_cons_succ]))
      refine Rh.Steps.forced (i := 9) (by kernel_rfl) ?_
      refine Rh.One.store (fun u => Below w.heap.size w u ∧ Bx u w.heap.size #[.string s1, .string s2, .slice a1 n1 c1, .int .i64 c, .int .i64 f, .bool dn] 28 ∧ Bx u (w.heap.size + 1) #[.string ⟨#[]⟩, .string ⟨#[]⟩, .slice none 0 0, .int .i64 0, .int .i64 0, .bool false] 28) (fun _ _ h k => ⟨nx h.1 k, h.2.1.stays k, h.2.2.stays k⟩) (by rfl) (by rfl) ?_ ?_
      · intro w_ hS_ hG_
        have C0 := HB0.out.stays hG_.1.1.1.1
        have C1 := HB1.out.stays hG_.1.1.1.1
        have D0 : Bx (w_.setCell ⟨w.heap.size, 0, none⟩ (.string s1)) w.heap.size #[.string s1, .string b, .slice a1 n1 c1, .int .i64 c, .int .i64 f, .bool dn] 28 := C0.set 0 _
        have D1 := C1.set' (b' := w.heap.size) (by omega) 0 (.string s1)
        obtain ⟨_, _, _, ⟨q0, q1, _⟩, f0, f1, _⟩ := C0.d6
        obtain ⟨_, _, _, ⟨p0, p1, _⟩, g0, g1, _⟩ := D0.d6
        have hlow := (hS_.trans (low_setCell 0 (.string s1) (Nat.le_refl w.heap.size))).trans (low_setCell 1 (.string s2) (Nat.le_refl w.heap.size))
        refine ⟨_, ?_, hlow, hlow, D0.set 1 _, D1.set' (by omega) 1 _⟩
        go_simp
      repeat (first | (refine Rh.Steps.skip (by rfl) (by kernel_rfl) (by rfl) ?_; simp only [Act.put, List.setIfInBounds_toArray, List.set_cons_zero, List.set_cons_succ]) | (refine Rh.Steps.pure (v := ?_) (by rfl) (by kernel_rfl) (by rfl) ?_ ?_; rotate_left; (intro w_ hS_; skip; go_simp <;> with_reducible rfl); simp only [Act.put, List.setIfInBounds_toArray, List.set_cons_zero, List.set_cons_succ]))
      refine Rh.Steps.forced (i := 11) (by kernel_rfl) ?_
      refine Rh.One.store (fun u => Below w.heap.size w u ∧ Bx u w.heap.size #[.string s1, .string s2, .slice none 0 0, .int .i64 c, .int .i64 f, .bool dn] 28 ∧ Bx u (w.heap.size + 1) #[.string ⟨#[]⟩, .string ⟨#[]⟩, .slice none 0 0, .int .i64 0, .int .i64 0, .bool false] 28) (fun _ _ h k => ⟨nx h.1 k, h.2.1.stays k, h.2.2.stays k⟩) (by rfl) (by rfl) ?_ ?_
      · intro w_ hS_ hG_
        obtain ⟨_, _, _, ⟨_, _, q2, _⟩, _, _, f2, _⟩ := hG_.2.1.d6
        have hlow := hG_.1.trans (low_setCell 2 (.slice none 0 0) (Nat.le_refl w.heap.size))
        refine ⟨_, ?_, hlow, hlow, hG_.2.1.set 2 _, hG_.2.2.set' (by omega) 2 _⟩
        go_simp
      refine Rh.Steps.nil (by kernel_rfl) ?_
      intro u hS hG
      obtain ⟨bu, E0, E1⟩ := hG
      obtain ⟨q1l, q1r, q1p, ⟨q1c0, q1c1, q1c2, q1c3, q1c4, q1c5⟩, ⟨q1f0, q1f1, q1f2, q1f3, q1f4, q1f5⟩⟩ := E0.d6
      obtain ⟨X1, hX1⟩ : ∃ Q_ : World, u.setCell ⟨w.heap.size, 4, none⟩ (.int .i64 (-1)) = Q_ := ⟨_, rfl⟩
      have bX1 : Below w.heap.size w X1 := hX1 ▸ (bu).trans (low_setCell _ _ (by omega))
      replace E1 : Bx X1 (w.heap.size + 1) #[.string ⟨#[]⟩, .string ⟨#[]⟩, .slice none 0 0, .int .i64 0, .int .i64 0, .bool false] 28 := hX1 ▸ E1.set' (by omega) _ _
      replace E0 : Bx X1 (w.heap.size) #[.string s1, .string s2, .slice none 0 0, .int .i64 c, .int .i64 (-1), .bool dn] 28 := hX1 ▸ (show Bx (u.setCell ⟨w.heap.size, 4, none⟩ (.int .i64 (-1))) (w.heap.size) #[.string s1, .string s2, .slice none 0 0, .int .i64 c, .int .i64 (-1), .bool dn] 28 from E0.set 4 (.int .i64 (-1)))
      obtain ⟨q2l, q2r, q2p, ⟨q2c0, q2c1, q2c2, q2c3, q2c4, q2c5⟩, ⟨q2f0, q2f1, q2f2, q2f3, q2f4, q2f5⟩⟩ := E0.d6
      obtain ⟨X2, hX2⟩ : ∃ Q_ : World, X1.setCell ⟨w.heap.size, 5, none⟩ (.bool true) = Q_ := ⟨_, rfl⟩
      have bX2 : Below w.heap.size w X2 := hX2 ▸ (bX1).trans (low_setCell _ _ (by omega))
      replace E1 : Bx X2 (w.heap.size + 1) #[.string ⟨#[]⟩, .string ⟨#[]⟩, .slice none 0 0, .int .i64 0, .int .i64 0, .bool false] 28 := hX2 ▸ E1.set' (by omega) _ _
      replace E0 : Bx X2 (w.heap.size) #[.string s1, .string s2, .slice none 0 0, .int .i64 c, .int .i64 (-1), .bool true] 28 := hX2 ▸ (show Bx (X1.setCell ⟨w.heap.size, 5, none⟩ (.bool true)) (w.heap.size) #[.string s1, .string s2, .slice none 0 0, .int .i64 c, .int .i64 (-1), .bool true] 28 from E0.set 5 (.bool true))
      obtain ⟨q3l, q3r, q3p, ⟨q3c0, q3c1, q3c2, q3c3, q3c4, q3c5⟩, ⟨q3f0, q3f1, q3f2, q3f3, q3f4, q3f5⟩⟩ := E0.d6
      obtain ⟨q4l, q4r, q4p, ⟨q4c0, q4c1, q4c2, q4c3, q4c4, q4c5⟩, ⟨q4f0, q4f1, q4f2, q4f3, q4f4, q4f5⟩⟩ := E1.d6
      obtain ⟨X3, hX3⟩ : ∃ Q_ : World, X2.setRow (w.heap.size + 1) #[.string s1, .string s2, .slice none 0 0, .int .i64 c, .int .i64 (-1), .bool true] = Q_ := ⟨_, rfl⟩
      have bX3 : Below w.heap.size w X3 := hX3 ▸ (bX2).trans (low_setRow _ (by omega))
      replace E0 : Bx X3 (w.heap.size) #[.string s1, .string s2, .slice none 0 0, .int .i64 c, .int .i64 (-1), .bool true] 28 := hX3 ▸ E0.put' (by omega) _
      replace E1 : Bx X3 (w.heap.size + 1) #[.string s1, .string s2, .slice none 0 0, .int .i64 c, .int .i64 (-1), .bool true] 28 := hX3 ▸ E1.put _
      obtain ⟨q5l, q5r, q5p, ⟨q5c0, q5c1, q5c2, q5c3, q5c4, q5c5⟩, ⟨q5f0, q5f1, q5f2, q5f3, q5f4, q5f5⟩⟩ := E1.d6
      go_wp2
      refine bodyPost_ret (v := .agg (cD s1 s2 (.slice none 0 0) c (-1) true)) (ret_D1 Try.results22 _ _ rfl ?_) rfl (PostD.intro HP bX3 (DV.mk (Is.nil _ _ _ _) (Nat.le_refl 0)))
      simp [go_sem, *]
    · refine Rh.One.call (fun v u => OL n r v u) (fun v _ _ h k => h.stays k) (f := ?_) (args := ?_) (by rfl) (by rfl) ?_ ?_ ?_
      rotate_left 2
      · intro w_ hS_ hG_; go_simp <;> first | with_reducible rfl | (constructor <;> with_reducible rfl)
      · intro w_ hS_ hG_; (go_at_call 34; refine (reached_any n l _ keep torn w_ (HO.out.stays hG_.1) HC.out (by have := hS_.size; omega) (by omega)).mono ?_; rintro e w' ⟨v, rfl, hb9, ho⟩; rw [HR.out] at ho; exact ⟨v, rfl, hb9, ho⟩)
      intro v13 u_ hv13
      simp only [Act.put, List.setIfInBounds_toArray, List.set_cons_zero, List.set_cons_succ]
      refine Rh.Steps.forced (i := 1) (by kernel_rfl) ?_
      refine Rh.One.val (fun v _ => v = .agg #[.string a, .string b]) (fun _ _ _ h _ => h) (by rfl) (by rfl) ?_ ?_
      · intro w_ hS_ hG_
        obtain ⟨_, _, _, ⟨q0, q1, q2, _⟩, _⟩ := (HB0.out.stays hG_.1.1).d6
        refine ⟨_, _, ?_, Below.refl _ _, rfl⟩
        go_simp
      intro v8 u8 hv8
      simp only [Act.put, List.setIfInBounds_toArray, List.set_cons_zero, List.set_cons_succ]
      obtain rfl : v8 = .agg #[.string a, .string b] := hv8
      refine Rh.Steps.forced (i := 7) (by kernel_rfl) ?_
      refine Rh.One.call (fun v _ => v = .agg #[.string s1, .string s2]) (fun _ _ _ h _ => h) (f := ?_) (args := ?_) (by rfl) (by rfl) ?_ ?_ ?_
      rotate_left 2
      · intro w_ hS_ hG_; go_simp <;> first | with_reducible rfl | (constructor <;> with_reducible rfl)
      · intro w_ hS_ hG_; (go_at_call 33; refine (after_any n a b r _ w_ hG_.1.2 (by have := hS_.size; omega) (by omega) (by omega)).mono ?_; rintro e w' ⟨rfl, hb9⟩; rw [HSS.out]; exact ⟨_, rfl, hb9, rfl⟩)
      intro v14 u_ hv14
      simp only [Act.put, List.setIfInBounds_toArray, List.set_cons_zero, List.set_cons_succ]
      obtain rfl : v14 = .agg #[.string s1, .string s2] := hv14
      repeat (first | (refine Rh.Steps.skip (by rfl) (by kernel_rfl) (by rfl) ?_; simp only [Act.put, List.setIfInBounds_toArray, List.set_cons_zero, List.set_cons_succ]) | (refine Rh.Steps.pure (v := ?_) (by rfl) (by kernel_rfl) (by rfl) ?_ ?_; rotate_left; (intro w_ hS_; skip; go_simp <;> with_reducible rfl); simp only [Act.put, List.setIfInBounds_toArray, List.set_cons_zero, List.set_cons_succ]))
      refine Rh.Steps.forced (i := 9) (by kernel_rfl) ?_
      refine Rh.One.store (fun u => Below w.heap.size w u ∧ Bx u w.heap.size #[.string s1, .string s2, .slice a1 n1 c1, .int .i64 c, .int .i64 f, .bool dn] 28 ∧ Bx u (w.heap.size + 1) #[.string ⟨#[]⟩, .string ⟨#[]⟩, .slice none 0 0, .int .i64 0, .int .i64 0, .bool false] 28) (fun _ _ h k => ⟨nx h.1 k, h.2.1.stays k, h.2.2.stays k⟩) (by rfl) (by rfl) ?_ ?_
      · intro w_ hS_ hG_
        have C0 := HB0.out.stays hG_.1.1.1.1
        have C1 := HB1.out.stays hG_.1.1.1.1
        have D0 : Bx (w_.setCell ⟨w.heap.size, 0, none⟩ (.string s1)) w.heap.size #[.string s1, .string b, .slice a1 n1 c1, .int .i64 c, .int .i64 f, .bool dn] 28 := C0.set 0 _
        have D1 := C1.set' (b' := w.heap.size) (by omega) 0 (.string s1)
        obtain ⟨_, _, _, ⟨q0, q1, _⟩, f0, f1, _⟩ := C0.d6
        obtain ⟨_, _, _, ⟨p0, p1, _⟩, g0, g1, _⟩ := D0.d6
        have hlow := (hS_.trans (low_setCell 0 (.string s1) (Nat.le_refl w.heap.size))).trans (low_setCell 1 (.string s2) (Nat.le_refl w.heap.size))
        refine ⟨_, ?_, hlow, hlow, D0.set 1 _, D1.set' (by omega) 1 _⟩
        go_simp
      repeat (first | (refine Rh.Steps.skip (by rfl) (by kernel_rfl) (by rfl) ?_; simp only [Act.put, List.setIfInBounds_toArray, List.set_cons_zero, List.set_cons_succ]) | (refine Rh.Steps.pure (v := ?_) (by rfl) (by kernel_rfl) (by rfl) ?_ ?_; rotate_left; (intro w_ hS_; skip; go_simp <;> with_reducible rfl); simp only [Act.put, List.setIfInBounds_toArray, List.set_cons_zero, List.set_cons_succ]))
      refine Rh.Steps.forced (i := 11) (by kernel_rfl) ?_
      refine Rh.One.store (fun u => Below w.heap.size w u ∧ Bx u w.heap.size #[.string s1, .string s2, .slice none 0 0, .int .i64 c, .int .i64 f, .bool dn] 28 ∧ Bx u (w.heap.size + 1) #[.string ⟨#[]⟩, .string ⟨#[]⟩, .slice none 0 0, .int .i64 0, .int .i64 0, .bool false] 28) (fun _ _ h k => ⟨nx h.1 k, h.2.1.stays k, h.2.2.stays k⟩) (by rfl) (by rfl) ?_ ?_
      · intro w_ hS_ hG_
        obtain ⟨_, _, _, ⟨_, _, q2, _⟩, _, _, f2, _⟩ := hG_.2.1.d6
        have hlow := hG_.1.trans (low_setCell 2 (.slice none 0 0) (Nat.le_refl w.heap.size))
        refine ⟨_, ?_, hlow, hlow, hG_.2.1.set 2 _, hG_.2.2.set' (by omega) 2 _⟩
        go_simp
      refine Rh.Steps.nil (by kernel_rfl) ?_
      intro u hS hG
      obtain ⟨bu, E0, E1⟩ := hG
      obtain ⟨q1l, q1r, q1p, ⟨q1c0, q1c1, q1c2, q1c3, q1c4, q1c5⟩, ⟨q1f0, q1f1, q1f2, q1f3, q1f4, q1f5⟩⟩ := E0.d6
      obtain ⟨X1, hX1⟩ : ∃ Q_ : World, u.setCell ⟨w.heap.size, 4, none⟩ (.int .i64 (-1)) = Q_ := ⟨_, rfl⟩
      have bX1 : Below w.heap.size w X1 := hX1 ▸ (bu).trans (low_setCell _ _ (by omega))
      replace E1 : Bx X1 (w.heap.size + 1) #[.string ⟨#[]⟩, .string ⟨#[]⟩, .slice none 0 0, .int .i64 0, .int .i64 0, .bool false] 28 := hX1 ▸ E1.set' (by omega) _ _
      replace E0 : Bx X1 (w.heap.size) #[.string s1, .string s2, .slice none 0 0, .int .i64 c, .int .i64 (-1), .bool dn] 28 := hX1 ▸ (show Bx (u.setCell ⟨w.heap.size, 4, none⟩ (.int .i64 (-1))) (w.heap.size) #[.string s1, .string s2, .slice none 0 0, .int .i64 c, .int .i64 (-1), .bool dn] 28 from E0.set 4 (.int .i64 (-1)))
      obtain ⟨q2l, q2r, q2p, ⟨q2c0, q2c1, q2c2, q2c3, q2c4, q2c5⟩, ⟨q2f0, q2f1, q2f2, q2f3, q2f4, q2f5⟩⟩ := E0.d6
      obtain ⟨X2, hX2⟩ : ∃ Q_ : World, X1.setCell ⟨w.heap.size, 5, none⟩ (.bool true) = Q_ := ⟨_, rfl⟩
      have bX2 : Below w.heap.size w X2 := hX2 ▸ (bX1).trans (low_setCell _ _ (by omega))
      replace E1 : Bx X2 (w.heap.size + 1) #[.string ⟨#[]⟩, .string ⟨#[]⟩, .slice none 0 0, .int .i64 0, .int .i64 0, .bool false] 28 := hX2 ▸ E1.set' (by omega) _ _
      replace E0 : Bx X2 (w.heap.size) #[.string s1, .string s2, .slice none 0 0, .int .i64 c, .int .i64 (-1), .bool true] 28 := hX2 ▸ (show Bx (X1.setCell ⟨w.heap.size, 5, none⟩ (.bool true)) (w.heap.size) #[.string s1, .string s2, .slice none 0 0, .int .i64 c, .int .i64 (-1), .bool true] 28 from E0.set 5 (.bool true))
      obtain ⟨q3l, q3r, q3p, ⟨q3c0, q3c1, q3c2, q3c3, q3c4, q3c5⟩, ⟨q3f0, q3f1, q3f2, q3f3, q3f4, q3f5⟩⟩ := E0.d6
      obtain ⟨q4l, q4r, q4p, ⟨q4c0, q4c1, q4c2, q4c3, q4c4, q4c5⟩, ⟨q4f0, q4f1, q4f2, q4f3, q4f4, q4f5⟩⟩ := E1.d6
      obtain ⟨X3, hX3⟩ : ∃ Q_ : World, X2.setRow (w.heap.size + 1) #[.string s1, .string s2, .slice none 0 0, .int .i64 c, .int .i64 (-1), .bool true] = Q_ := ⟨_, rfl⟩
      have bX3 : Below w.heap.size w X3 := hX3 ▸ (bX2).trans (low_setRow _ (by omega))
      replace E0 : Bx X3 (w.heap.size) #[.string s1, .string s2, .slice none 0 0, .int .i64 c, .int .i64 (-1), .bool true] 28 := hX3 ▸ E0.put' (by omega) _
      replace E1 : Bx X3 (w.heap.size + 1) #[.string s1, .string s2, .slice none 0 0, .int .i64 c, .int .i64 (-1), .bool true] 28 := hX3 ▸ E1.put _
      obtain ⟨q5l, q5r, q5p, ⟨q5c0, q5c1, q5c2, q5c3, q5c4, q5c5⟩, ⟨q5f0, q5f1, q5f2, q5f3, q5f4, q5f5⟩⟩ := E1.d6
      go_wp2
      refine bodyPost_ret (v := .agg (cD s1 s2 (.slice none 0 0) c (-1) true)) (ret_D1 Try.results22 _ _ rfl ?_) rfl (PostD.intro HP bX3 (DV.mk (Is.nil _ _ _ _) (Nat.le_refl 0)))
      simp [go_sem, *]
end Go.Proofs.Ytegepbifbhamnaa.Dk
