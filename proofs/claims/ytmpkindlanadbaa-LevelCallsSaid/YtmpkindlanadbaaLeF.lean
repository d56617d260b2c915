/- Of the statements of layer 8: orders, same, far, order. -/
import Derived.Test.YtmpkindlanadbaaLeE
namespace Go.Proofs.Ytmpkindlanadbaa.Le
open Go.RowKit
set_option linter.unusedVariables false
open Go.Proofs.Ytmpkindlanadbaa.Rw
open Go.Proofs.Ytmpkindlanadbaa.Da
theorem take_eq {α : Type} {l m : List α} {k : Nat} (h1 : k < l.length) (h2 : k < m.length) (h : l.take k = m.take k) (e : l[k] = m[k]) : l.take (k + 1) = m.take (k + 1) := by
  rw [Da.take_snoc h1, Da.take_snoc h2, h, e]
theorem ne_at {α : Type} {l m : List α} {k : Nat} (h1 : k < l.length) (h2 : k < m.length) (e : l[k] ≠ m[k]) : l ≠ m := fun h => by subst h; exact e rfl
set_option maxHeartbeats 1600000 in
theorem orders_any (B B' : Bs) (l m : List Od) (v x : Value) (w : World) (h : OL B l v w) (k : OL B' m x w) (hm : l.length ≤ 1000000) :
    Calls Try.prog 21 #[v, x] w fun e w' => e = .returned (.bool (sameB l m)) ∧ Below w.heap.size w w' := by
  obtain ⟨a1, c1, rfl, h1⟩ := h
  obtain ⟨a2, c2, rfl, h2⟩ := k
  have HA := Lib.hid h1
  have HB := Lib.hid h2
  clear h1 h2
  by_cases hlen : l.length = m.length
  · obtain ⟨n, hn⟩ : ∃ n, n = l.length := ⟨_, rfl⟩
    rw [← hlen, ← hn]
    rw [← hn] at hm
    have HN := Lib.hid hn
    have HN2 := Lib.hid (hn.trans hlen)
    clear hn hlen
    go_enter Try.func21, Try.ntmps21
    go_wp2
    go_loopw [13] (fun i wr => ∃ k : Nat, k ≤ n ∧ i = .int .i64 k ∧ Below w.heap.size w wr ∧ l.take k = m.take k) (fun i _ => n - (intOf i).toNat)
    case atStart => exact ⟨0, Nat.zero_le _, rfl, Below.refl _ _, rfl⟩
    case round =>
      obtain ⟨k, hk, rfl, hb, hsame⟩ := hrel
      have HS := Lib.hid hsame
      clear hsame
      by_cases hlt : k < n
      · have hlt2 : (k : Int) < n := by omega
        have hkl : k < l.length := by rw [← HN.out]; exact hlt
        have hkm : k < m.length := by rw [← HN2.out]; exact hlt
        rcases HA.out with ⟨e, _⟩ | ⟨b, off, rfl, hat⟩
        · rw [e] at hkl; cases hkl
        rcases HB.out with ⟨e, _⟩ | ⟨b2, off2, rfl, hat2⟩
        · rw [e] at hkm; cases hkm
        have hbb := hat.1
        have hbb2 := hat2.1
        obtain ⟨⟨x1, x2, x3, x4, x5⟩, hx⟩ : ∃ x, l[k] = x := ⟨_, rfl⟩
        obtain ⟨⟨y1, y2, y3, y4, y5⟩, hy⟩ : ∃ x, m[k] = x := ⟨_, rfl⟩
        have hc := at5 hat k hkl
        have hd := at5 hat2 k hkm
        rw [hx] at hc
        rw [hy] at hd
        simp only at hc hd
        obtain ⟨p0, p1, p2, p3, p4⟩ := hc
        obtain ⟨s0, s1, s2, s3, s4⟩ := hd
        have hF : ∀ u, Below wr.heap.size wr u → u.cell? ⟨b, off + k * 5, none⟩ = some (.int .i64 x1) ∧ u.cell? ⟨b, off + k * 5 + 1, none⟩ = some (.int .i64 x2) ∧ u.cell? ⟨b, off + k * 5 + 2, none⟩ = some (.int .i64 x3) ∧ u.cell? ⟨b, off + k * 5 + 3, none⟩ = some (.int .i64 x4) ∧ u.cell? ⟨b, off + k * 5 + 4, none⟩ = some (.int .i64 x5) ∧
            u.cell? ⟨b2, off2 + k * 5, none⟩ = some (.int .i64 y1) ∧ u.cell? ⟨b2, off2 + k * 5 + 1, none⟩ = some (.int .i64 y2) ∧ u.cell? ⟨b2, off2 + k * 5 + 2, none⟩ = some (.int .i64 y3) ∧ u.cell? ⟨b2, off2 + k * 5 + 3, none⟩ = some (.int .i64 y4) ∧ u.cell? ⟨b2, off2 + k * 5 + 4, none⟩ = some (.int .i64 y5) := fun u hu => by
          have hbu := nx hb hu
          obtain ⟨c1, _⟩ := bcell hbu
          simp only [c1 _ _ hbb, c1 _ _ hbb2]
          exact ⟨p0, p1, p2, p3, p4, s0, s1, s2, s3, s4⟩
        clear p0 p1 p2 p3 p4 s0 s1 s2 s3 s4 hat hat2
        have HX := Lib.hid hx
        have HY := Lib.hid hy
        clear hx hy
        by_cases he : ((x1, x2, x3, x4, x5) : Od) = (y1, y2, y3, y4, y5)
        · have hq : eqO (x1, x2, x3, x4, x5) (y1, y2, y3, y4, y5) = true := eqO_iff.2 he
          have HS2 : Hid (l.take (k + 1) = m.take (k + 1)) := Lib.hid (take_eq hkl hkm HS.out (by rw [HX.out, HY.out]; exact he))
          clear he
          go_wp2
          refine Rf.region [0, 1, 2, 3, 4, 5, 6, 7, 8] (by kernel_rfl) (by kernel_rfl) (by kernel_rfl) (fun _ _ d _ _ h => by cases d <;> exact h) ?_
          repeat (first | (refine Rf.Steps.skip (by rfl) (by kernel_rfl) (by rfl) ?_; simp only [Act.put, List.setIfInBounds_toArray, List.set_cons_zero, List.set_cons_succ]) | (refine Rf.Steps.pure (v := ?_) (by rfl) (by kernel_rfl) (by rfl) ?_ ?_; rotate_left; (intro w_ hS_; have hk_ := hF w_ hS_; go_simp <;> with_reducible rfl); simp only [Act.put, List.setIfInBounds_toArray, List.set_cons_zero, List.set_cons_succ]))
          refine Rf.Steps.nil (by kernel_rfl) ?_
          intro w4 hb6
          go_wp2
          go_roundw
          case rel => exact ⟨k + 1, by omega, by go_num, nx hb hb6, HS2.out⟩
          case measure => simp [intOf]; omega
        · have hq : eqO (x1, x2, x3, x4, x5) (y1, y2, y3, y4, y5) = false := by
            cases e : eqO (x1, x2, x3, x4, x5) (y1, y2, y3, y4, y5)
            · rfl
            · exact absurd (eqO_iff.1 e) he
          have HZ : Hid (sameB l m = false) := Lib.hid (sameB_no (ne_at hkl hkm (by rw [HX.out, HY.out]; exact he)))
          clear he
          go_wp2
          refine Rf.region [0, 1, 2, 3, 4, 5, 6, 7, 8] (by kernel_rfl) (by kernel_rfl) (by kernel_rfl) (fun _ _ d _ _ h => by cases d <;> exact h) ?_
          repeat (first | (refine Rf.Steps.skip (by rfl) (by kernel_rfl) (by rfl) ?_; simp only [Act.put, List.setIfInBounds_toArray, List.set_cons_zero, List.set_cons_succ]) | (refine Rf.Steps.pure (v := ?_) (by rfl) (by kernel_rfl) (by rfl) ?_ ?_; rotate_left; (intro w_ hS_; have hk_ := hF w_ hS_; go_simp <;> with_reducible rfl); simp only [Act.put, List.setIfInBounds_toArray, List.set_cons_zero, List.set_cons_succ]))
          refine Rf.Steps.nil (by kernel_rfl) ?_
          intro w4 hb6
          go_wp2
          go_ret
          exact ⟨ret_bool HZ.out.symm, nx hb hb6⟩
      · obtain rfl : k = n := by omega
        have HZ : Hid (sameB l m = true) := Lib.hid (sameB_yes (by have := HS.out; rwa [HN.out, List.take_length, ← HN.out, HN2.out, List.take_length] at this))
        go_wp2
        go_ret
        exact ⟨ret_bool HZ.out.symm, hb⟩
  · have HZ : Hid (sameB l m = false) := Lib.hid (sameB_no (fun e => hlen (by rw [e])))
    have hd : ((l.length : Int) != m.length) = true := by simp; omega
    clear hlen
    go_enter Try.func21, Try.ntmps21
    go_wp2
    go_ret
    exact ⟨ret_bool HZ.out.symm, Below.refl _ _⟩
theorem orders_is {l m : List Od} {r : Bool} (h : Hid (sameB l m = r)) (B B' : Bs) (v x : Value) (w : World) (h1 : OL B l v w) (h2 : OL B' m x w) (hm : l.length ≤ 1000000) :
    Calls Try.prog 21 #[v, x] w fun e w' => e = .returned (.bool r) ∧ Below w.heap.size w w' := by
  rw [← h.out]; exact orders_any B B' l m v x w h1 h2 hm
theorem eq_lv {a b : Lv} : a = b ↔ a.1 = b.1 ∧ a.2 = b.2 := Prod.ext_iff
set_option maxHeartbeats 1600000 in
theorem same_any (B B' : Bs) (l m : List Lv) (v x : Value) (w : World) (h : LL B l v w) (k : LL B' m x w) (hm : l.length ≤ 1000000) (hf : (flat l).length ≤ 1000000) :
    Calls Try.prog 16 #[v, x] w fun e w' => e = .returned (.bool (sameB l m)) ∧ Below w.heap.size w w' := by
  obtain ⟨a1, c1, rfl, h1⟩ := h
  obtain ⟨a2, c2, rfl, h2⟩ := k
  have HA := Lib.hid h1
  have HB := Lib.hid h2
  have HFl := Lib.hid hf
  clear h1 h2 hf
  by_cases hlen : l.length = m.length
  · obtain ⟨n, hn⟩ : ∃ n, n = l.length := ⟨_, rfl⟩
    rw [← hlen, ← hn]
    rw [← hn] at hm
    have HN := Lib.hid hn
    have HN2 := Lib.hid (hn.trans hlen)
    clear hn hlen
    go_enter Try.func16, Try.ntmps16
    go_wp2
    go_loopw [13] (fun i wr => ∃ k : Nat, k ≤ n ∧ i = .int .i64 k ∧ Below w.heap.size w wr ∧ l.take k = m.take k) (fun i _ => n - (intOf i).toNat)
    case atStart => exact ⟨0, Nat.zero_le _, rfl, Below.refl _ _, rfl⟩
    case round =>
      obtain ⟨k, hk, rfl, hb, hsame⟩ := hrel
      have HS := Lib.hid hsame
      clear hsame
      by_cases hlt : k < n
      · have hlt2 : (k : Int) < n := by omega
        have hkl : k < l.length := by rw [← HN.out]; exact hlt
        have hkm : k < m.length := by rw [← HN2.out]; exact hlt
        rcases HA.out with ⟨e, _⟩ | ⟨b, off, rfl, hat⟩
        · rw [e] at hkl; cases hkl
        rcases HB.out with ⟨e, _⟩ | ⟨b2, off2, rfl, hat2⟩
        · rw [e] at hkm; cases hkm
        have hbb := hat.1
        have hbb2 := hat2.1
        obtain ⟨⟨x1, x2⟩, hx⟩ : ∃ x, l[k] = x := ⟨_, rfl⟩
        obtain ⟨⟨y1, y2⟩, hy⟩ : ∃ x, m[k] = x := ⟨_, rfl⟩
        obtain ⟨v1, p0, p1, hv1⟩ := atL hat k hkl
        obtain ⟨v2, s0, s1, hv2⟩ := atL hat2 k hkm
        have hle := flat_take_le l (k + 1)
        rw [flat_take_snoc hkl, List.length_append] at hle
        rw [hx] at p0 hv1 hle
        rw [hy] at s0 hv2
        simp only at p0 s0 hv1 hv2 hle
        have HS1 : Hid (x2.length ≤ 1000000) := Lib.hid (by have := HFl.out; omega)
        have hF : ∀ u, Below wr.heap.size wr u → u.cell? ⟨b, off + k * 2, none⟩ = some (.int .i64 x1) ∧ u.cell? ⟨b, off + k * 2 + 1, none⟩ = some v1 ∧ u.cell? ⟨b2, off2 + k * 2, none⟩ = some (.int .i64 y1) ∧ u.cell? ⟨b2, off2 + k * 2 + 1, none⟩ = some v2 ∧ OL B x2 v1 u ∧ OL B' y2 v2 u := fun u hu => by
          have hbu := nx hb hu
          obtain ⟨c1, _⟩ := bcell hbu
          refine ⟨?_, ?_, ?_, ?_, Is.stays eO 24 hv1 hbu, Is.stays eO 24 hv2 hbu⟩
          · rw [c1 _ _ hbb]; exact p0
          · rw [c1 _ _ hbb]; exact p1
          · rw [c1 _ _ hbb2]; exact s0
          · rw [c1 _ _ hbb2]; exact s1
        clear p0 p1 s0 s1 hat hat2 hv1 hv2 hle
        have HX := Lib.hid hx
        have HY := Lib.hid hy
        clear hx hy
        by_cases he : x1 = y1
        · have hd : (x1 != y1) = false := by simpa using he
          cases hq : sameB x2 y2
          · have HQ := Lib.hid hq
            have HZ : Hid (sameB l m = false) := Lib.hid (sameB_no (ne_at hkl hkm (by rw [HX.out, HY.out]; intro e; exact (sameB_ne hq) (Prod.mk.inj e).2)))
            clear he hq
            go_wp2
            refine Rf.region [0, 1, 2, 3, 4, 5, 6, 7, 8, 9, 10, 11, 12, 13, 14, 15, 16, 17, 18, 19, 20, 21, 22, 23, 24] (by kernel_rfl) (by kernel_rfl) (by kernel_rfl) (fun _ _ d _ _ h => by cases d <;> exact h) ?_
            repeat (first | (refine Rf.Steps.skip (by rfl) (by kernel_rfl) (by rfl) ?_; simp only [Act.put, List.setIfInBounds_toArray, List.set_cons_zero, List.set_cons_succ]) | (refine Rf.Steps.pure (v := ?_) (by rfl) (by kernel_rfl) (by rfl) ?_ ?_; rotate_left; (intro w_ hS_; have hk_ := hF w_ hS_; go_simp <;> with_reducible rfl); simp only [Act.put, List.setIfInBounds_toArray, List.set_cons_zero, List.set_cons_succ]) | (refine Rf.Steps.call (v := ?_) (f := ?_) (args := ?_) (by rfl) (by kernel_rfl) (by rfl) ?_ ?_ ?_; rotate_left 3; (intro w_ hS_; have hk_ := hF w_ hS_; go_simp <;> first | with_reducible rfl | (constructor <;> with_reducible rfl)); (intro w_ hS_; have hk_ := hF w_ hS_; first | (go_at_call 21; refine (orders_is HQ B B' v1 v2 _ hk_.2.2.2.2.1 hk_.2.2.2.2.2 HS1.out).mono ?_; first | (rintro e w_ ⟨rfl, rfl⟩; refine ⟨?_, Below.refl _ _⟩; with_reducible rfl) | (rintro e w_ ⟨rfl, hb_⟩; refine ⟨?_, hb_⟩; with_reducible rfl))); simp only [Act.put, List.setIfInBounds_toArray, List.set_cons_zero, List.set_cons_succ]))
            refine Rf.Steps.nil (by kernel_rfl) ?_
            intro w4 hb6
            go_wp2
            go_ret
            exact ⟨ret_bool HZ.out.symm, nx hb hb6⟩
          · have HQ := Lib.hid hq
            have HS2 : Hid (l.take (k + 1) = m.take (k + 1)) := Lib.hid (take_eq hkl hkm HS.out (by rw [HX.out, HY.out, he, sameB_eq hq]))
            clear he hq
            go_wp2
            refine Rf.region [0, 1, 2, 3, 4, 5, 6, 7, 8, 9, 10, 11, 12, 13, 14, 15, 16, 17, 18, 19, 20, 21, 22, 23, 24] (by kernel_rfl) (by kernel_rfl) (by kernel_rfl) (fun _ _ d _ _ h => by cases d <;> exact h) ?_
            repeat (first | (refine Rf.Steps.skip (by rfl) (by kernel_rfl) (by rfl) ?_; simp only [Act.put, List.setIfInBounds_toArray, List.set_cons_zero, List.set_cons_succ]) | (refine Rf.Steps.pure (v := ?_) (by rfl) (by kernel_rfl) (by rfl) ?_ ?_; rotate_left; (intro w_ hS_; have hk_ := hF w_ hS_; go_simp <;> with_reducible rfl); simp only [Act.put, List.setIfInBounds_toArray, List.set_cons_zero, List.set_cons_succ]) | (refine Rf.Steps.call (v := ?_) (f := ?_) (args := ?_) (by rfl) (by kernel_rfl) (by rfl) ?_ ?_ ?_; rotate_left 3; (intro w_ hS_; have hk_ := hF w_ hS_; go_simp <;> first | with_reducible rfl | (constructor <;> with_reducible rfl)); (intro w_ hS_; have hk_ := hF w_ hS_; first | (go_at_call 21; refine (orders_is HQ B B' v1 v2 _ hk_.2.2.2.2.1 hk_.2.2.2.2.2 HS1.out).mono ?_; first | (rintro e w_ ⟨rfl, rfl⟩; refine ⟨?_, Below.refl _ _⟩; with_reducible rfl) | (rintro e w_ ⟨rfl, hb_⟩; refine ⟨?_, hb_⟩; with_reducible rfl))); simp only [Act.put, List.setIfInBounds_toArray, List.set_cons_zero, List.set_cons_succ]))
            refine Rf.Steps.nil (by kernel_rfl) ?_
            intro w4 hb6
            go_wp2
            go_roundw
            case rel => exact ⟨k + 1, by omega, by go_num, nx hb hb6, HS2.out⟩
            case measure => simp [intOf]; omega
        · have hd : (x1 != y1) = true := by simpa using he
          have HZ : Hid (sameB l m = false) := Lib.hid (sameB_no (ne_at hkl hkm (by rw [HX.out, HY.out]; intro e; exact he (Prod.mk.inj e).1)))
          clear he
          go_wp2
          refine Rf.region [0, 1, 2, 3, 4, 5, 6, 7, 8, 9, 10, 11, 12, 13, 14, 15, 16, 17, 18, 19, 20, 21, 22, 23, 24] (by kernel_rfl) (by kernel_rfl) (by kernel_rfl) (fun _ _ d _ _ h => by cases d <;> exact h) ?_
          repeat (first | (refine Rf.Steps.skip (by rfl) (by kernel_rfl) (by rfl) ?_; simp only [Act.put, List.setIfInBounds_toArray, List.set_cons_zero, List.set_cons_succ]) | (refine Rf.Steps.pure (v := ?_) (by rfl) (by kernel_rfl) (by rfl) ?_ ?_; rotate_left; (intro w_ hS_; have hk_ := hF w_ hS_; go_simp <;> with_reducible rfl); simp only [Act.put, List.setIfInBounds_toArray, List.set_cons_zero, List.set_cons_succ]))
          refine Rf.Steps.nil (by kernel_rfl) ?_
          intro w4 hb6
          go_wp2
          go_ret
          exact ⟨ret_bool HZ.out.symm, nx hb hb6⟩
      · obtain rfl : k = n := by omega
        have HZ : Hid (sameB l m = true) := Lib.hid (sameB_yes (by have := HS.out; rwa [HN.out, List.take_length, ← HN.out, HN2.out, List.take_length] at this))
        go_wp2
        go_ret
        exact ⟨ret_bool HZ.out.symm, hb⟩
  · have HZ : Hid (sameB l m = false) := Lib.hid (sameB_no (fun e => hlen (by rw [e])))
    have hd : ((l.length : Int) != m.length) = true := by simp; omega
    clear hlen
    go_enter Try.func16, Try.ntmps16
    go_wp2
    go_ret
    exact ⟨ret_bool HZ.out.symm, Below.refl _ _⟩
theorem same_is {l m : List Lv} {r : Bool} (h : Hid (sameB l m = r)) (B B' : Bs) (v x : Value) (w : World) (h1 : LL B l v w) (h2 : LL B' m x w) (hm : l.length ≤ 1000000) (hf : (flat l).length ≤ 1000000) :
    Calls Try.prog 16 #[v, x] w fun e w' => e = .returned (.bool r) ∧ Below w.heap.size w w' := by
  rw [← h.out]; exact same_any B B' l m v x w h1 h2 hm hf
/-- Too many for the statements: the count stops there. -/
def farTo : List Lv → Int → Bool
  | [], _ => false
  | v :: r, n => if 200 < n + min (v.2.length : Int) 1000 then true else farTo r (n + min (v.2.length : Int) 1000)
def far (l : List Lv) : Bool := farTo l 0 || decide (100 < (l.length : Int))
theorem farTo_le : ∀ {l : List Lv} {n : Int}, farTo l n = false → 0 ≤ n → n ≤ 200 → n + (flat l).length ≤ 200
  | [], n, _, h0, h2 => by simp [flat]; omega
  | v :: r, n, h, h0, h2 => by
    rw [farTo] at h
    split at h
    · cases h
    · rename_i hc
      have := farTo_le h (by omega) (by omega)
      rw [flat_cons, List.length_append]
      have hmin : min (v.2.length : Int) 1000 = v.2.length := by omega
      rw [hmin] at this
      omega
theorem far_no {l : List Lv} (h : far l = false) : l.length ≤ 100 ∧ (flat l).length ≤ 200 := by
  unfold far at h
  rw [Bool.or_eq_false_iff] at h
  have h1 := farTo_le h.1 (by omega) (by omega)
  have h2 := of_decide_eq_false h.2
  omega
theorem far_drop {l : List Lv} {k : Nat} (h : k < l.length) (n : Int) : farTo (l.drop k) n = if 200 < n + min (l[k].2.length : Int) 1000 then true else farTo (l.drop (k + 1)) (n + min (l[k].2.length : Int) 1000) := by
  rw [drop_cons h, farTo]
set_option maxRecDepth 100000 in
set_option maxHeartbeats 800000 in
theorem far_any (B : Bs) (l : List Lv) (v : Value) (w : World) (h : LL B l v w) (hm : l.length ≤ maxLen) :
    Calls Try.prog 6 #[v] w fun e w' => e = .returned (.bool (far l)) ∧ Below w.heap.size w w' := by
  unfold maxLen at hm
  obtain ⟨a1, c1, rfl, h1⟩ := h
  have HA := Lib.hid h1
  obtain ⟨n, hn⟩ : ∃ n, n = l.length := ⟨_, rfl⟩
  rw [← hn] at hm ⊢
  have HN := Lib.hid hn
  clear h1 hn
  go_enter Try.func6, Try.ntmps6
  go_wp2
  go_loopw [3, 8] (fun t i wr => ∃ (k : Nat) (s : Int), k ≤ n ∧ i = .int .i64 k ∧ t = .int .i64 s ∧ 0 ≤ s ∧ s ≤ 200 ∧ Below w.heap.size w wr ∧ farTo (l.drop k) s = farTo l 0) (fun _ i _ => n - (intOf i).toNat)
  case atStart => exact ⟨0, 0, Nat.zero_le _, rfl, rfl, by omega, by omega, Below.refl _ _, rfl⟩
  case round =>
    obtain ⟨k, s, hk, rfl, rfl, hs0, hs1, hb, hfr⟩ := hrel
    have HT := Lib.hid hfr
    clear hfr
    by_cases hlt : k < n
    · have hlt2 : (k : Int) < n := by omega
      have hkl : k < l.length := by rw [← HN.out]; exact hlt
      rcases HA.out with ⟨e, _⟩ | ⟨b, off, rfl, hat⟩
      · rw [e] at hkl; cases hkl
      have hbb := hat.1
      obtain ⟨x, q0, q1, hx⟩ := atL hat k hkl
      have hd := far_drop hkl s
      obtain ⟨⟨pr, os⟩, hlk⟩ : ∃ y, l[k] = y := ⟨_, rfl⟩
      rw [hlk] at q0 hx hd
      simp only at q0 hx hd
      obtain ⟨a2, c2, rfl⟩ := hx.len
      obtain ⟨m, hmm⟩ : ∃ m : Nat, m = os.length := ⟨_, rfl⟩
      rw [← hmm] at q1 hd
      obtain ⟨c1, f1, r1, p1⟩ := bcell hb
      clear hlk hx hmm hat
      by_cases h1 : (m : Int) < 1000
      · have hmin : min (m : Int) 1000 = m := by omega
        rw [hmin] at hd
        by_cases h2 : 200 < s + (m : Int)
        · rw [if_pos h2] at hd
          have HZ : Hid (far l = true) := Lib.hid (by unfold far; rw [← HT.out, hd]; rfl)
          clear hd
          go_wp2
          go_ret
          exact ⟨ret_bool HZ.out.symm, nx hb (below1 _ _)⟩
        · rw [if_neg h2] at hd
          have HZ : Hid (farTo (l.drop (k + 1)) (s + m) = farTo l 0) := Lib.hid (by rw [← HT.out, hd])
          clear hd
          go_wp2
          go_roundw
          case rel => exact ⟨k + 1, s + m, by omega, by go_num, by go_num, by omega, by omega, nx hb (below1 _ _), HZ.out⟩
          case measure => simp [intOf]; omega
      · have hmin : min (m : Int) 1000 = 1000 := by omega
        rw [hmin, if_pos (by omega)] at hd
        have HZ : Hid (far l = true) := Lib.hid (by unfold far; rw [← HT.out, hd]; rfl)
        clear hd hmin
        have h3 : (1000 : Int) ≤ m := by omega
        go_wp2
        all_goals (go_ret; exact ⟨ret_bool HZ.out.symm, nx hb (below1 _ _)⟩)
    · obtain rfl : k = n := by omega
      have HZ : Hid (far l = decide (100 < (k : Int))) := Lib.hid (by unfold far; rw [← HT.out, HN.out, List.drop_length]; rfl)
      go_wp2
      go_ret
      exact ⟨ret_bool HZ.out.symm, hb⟩
end Go.Proofs.Ytmpkindlanadbaa.Le
