/- Package session as it landed: compare, slices.BinarySearchFunc over it. -/
import Derived.Test.YtigoemecphilkaaSfA
import Derived.Test.YtigoemecphilkaaRg
import Derived.Deep.LoopGhost
namespace Go.Proofs.Ytigoemecphilkaa.Se
open Go.RowKit
set_option linter.unusedVariables false
open Go.Proofs.Ytigoemecphilkaa.Rw
open Go.Proofs.Ytigoemecphilkaa.Da
def cmpI (a b : Int) : Int := if a < b then -1 else if b < a then 1 else 0
theorem cmpI_lt {a b : Int} : cmpI a b < 0 ↔ a < b := by
  unfold cmpI
  split
  · omega
  · split <;> omega
theorem cmpI_eq {a b : Int} : cmpI a b = 0 ↔ a = b := by
  unfold cmpI
  split
  · omega
  · split <;> omega
theorem isNaN_any (a : Int) (w : World) : Calls Try.prog 23 #[.int .i64 a] w fun e w' => e = .returned (.bool false) ∧ w = w' := by
  go_enter Try.func23, Try.ntmps23
  go_wp2
  go_ret
  exact ⟨rfl, rfl⟩
set_option maxHeartbeats 1000000 in
theorem cmp_any (a b : Int) (w : World) : Calls Try.prog 21 #[.int .i64 a, .int .i64 b] w fun e w' => e = .returned (.int .i64 (cmpI a b)) ∧ w = w' := by
  rcases Int.lt_trichotomy a b with h | h | h
  · have h1 : decide (a < b) = true := decide_eq_true h
    have H : Hid (cmpI a b = -1) := Lib.hid (by unfold cmpI; rw [if_pos h])
    clear h
    go_enter Try.func21, Try.ntmps21
    go_wp2_with fail
    refine (isNaN_any a _).mono ?_
    rintro e w' ⟨rfl, rfl⟩
    go_wp2_with fail
    refine (isNaN_any b _).mono ?_
    rintro e w' ⟨rfl, rfl⟩
    go_wp2
    go_ret
    exact ⟨ret_int H.out.symm, rfl⟩
  · have h1 : decide (a < b) = false := decide_eq_false (by omega)
    have h2 : decide (b < a) = false := decide_eq_false (by omega)
    have H : Hid (cmpI a b = 0) := Lib.hid (by unfold cmpI; rw [if_neg (by omega), if_neg (by omega)])
    clear h
    go_enter Try.func21, Try.ntmps21
    go_wp2_with fail
    refine (isNaN_any a _).mono ?_
    rintro e w' ⟨rfl, rfl⟩
    go_wp2_with fail
    refine (isNaN_any b _).mono ?_
    rintro e w' ⟨rfl, rfl⟩
    go_wp2
    go_ret
    exact ⟨ret_int H.out.symm, rfl⟩
  · have h1 : decide (a < b) = false := decide_eq_false (by omega)
    have h2 : decide (b < a) = true := decide_eq_true h
    have H : Hid (cmpI a b = 1) := Lib.hid (by unfold cmpI; rw [if_neg (by omega), if_pos h])
    clear h
    go_enter Try.func21, Try.ntmps21
    go_wp2_with fail
    refine (isNaN_any a _).mono ?_
    rintro e w' ⟨rfl, rfl⟩
    go_wp2_with fail
    refine (isNaN_any b _).mono ?_
    rintro e w' ⟨rfl, rfl⟩
    go_wp2
    go_ret
    exact ⟨ret_int H.out.symm, rfl⟩
set_option maxHeartbeats 1000000 in
theorem compare_any (a b c d e f g a' b' c' d' e' f' g' : Int) (w : World) : Calls Try.prog 17 #[.agg #[.int .i64 a, .int .i64 b, .int .i64 c, .int .i64 d, .int .i64 e, .int .i64 f, .int .i64 g], .agg #[.int .i64 a', .int .i64 b', .int .i64 c', .int .i64 d', .int .i64 e', .int .i64 f', .int .i64 g']] w fun r w' => r = .returned (.int .i64 (cmpI a a')) ∧ Below w.heap.size w w' := by
  obtain ⟨q, hq⟩ : ∃ q, cmpI a a' = q := ⟨_, rfl⟩
  have HQ := Lib.hid hq
  rw [hq]
  clear hq
  go_enter Try.func17, Try.ntmps17
  go_wp2_with fail
  refine (cmp_any a a' _).mono ?_
  rintro e w' ⟨rfl, rfl⟩
  rw [HQ.out]
  go_wp2
  go_ret
  exact ⟨rfl, below2 _ _ _⟩
theorem compare_is {x b c d e f g y b' c' d' e' f' g' q : Int} (H : Hid (cmpI x y = q)) (w : World) : Calls Try.prog 17 #[.agg #[.int .i64 x, .int .i64 b, .int .i64 c, .int .i64 d, .int .i64 e, .int .i64 f, .int .i64 g], .agg #[.int .i64 y, .int .i64 b', .int .i64 c', .int .i64 d', .int .i64 e', .int .i64 f', .int .i64 g']] w fun r w' => r = .returned (.int .i64 q) ∧ Below w.heap.size w w' := by
  rw [← H.out]; exact compare_any x b c d e f g y b' c' d' e' f' g' w
/-- How many of the first sessions stand ahead of a client. -/
def cntS (c : Int) (l : List Sn) : Nat := (l.takeWhile (fun x => decide (x.1 < c))).length
def atS (c : Int) (l : List Sn) : Bool := match l[cntS c l]? with | some x => decide (x.1 = c) | none => false
theorem cntS_of {c : Int} : ∀ {l : List Sn} {k : Nat}, k ≤ l.length → (∀ t (h : t < l.length), t < k → l[t].1 < c) → (∀ t (h : t < l.length), k ≤ t → ¬ l[t].1 < c) → cntS c l = k
  | [], k, hk, _, _ => by simp at hk; subst hk; rfl
  | v :: r, 0, _, _, h2 => by
    have := h2 0 (by simp) (Nat.le_refl _)
    simp only [List.getElem_cons_zero] at this
    unfold cntS
    rw [List.takeWhile_cons, decide_eq_false this]; rfl
  | v :: r, k + 1, hk, h1, h2 => by
    have h0 := h1 0 (by simp) (by omega)
    simp only [List.getElem_cons_zero] at h0
    have := cntS_of (c := c) (l := r) (k := k) (by simpa using hk) (fun t h ht => by have := h1 (t + 1) (by simpa using h) (by omega); simpa using this) (fun t h ht => by have := h2 (t + 1) (by simpa using h) (by omega); simpa using this)
    unfold cntS at this ⊢
    rw [List.takeWhile_cons, decide_eq_true h0]
    simp [this]
theorem cntS_le (c : Int) (l : List Sn) : cntS c l ≤ l.length := by
  unfold cntS
  exact (List.takeWhile_sublist (l := l) (fun x => decide (x.1 < c))).length_le
structure SrI (c : Int) (l : List Sn) (lo hi : Nat) : Prop where
  a : ∀ t (h : t < l.length), t < lo → l[t].1 < c
  b : ∀ t (h : t < l.length), hi ≤ t → ¬ l[t].1 < c
theorem ord_le {l : List Sn} (hr : Right l) {i j : Nat} (hij : i ≤ j) (hj : j < l.length) : (l[i]'(by omega)).1 ≤ l[j].1 := by
  by_cases e : i = j
  · subst e; exact Int.le_refl _
  · exact Int.le_of_lt (List.pairwise_iff_getElem.1 hr.2 i j (by omega) hj (by omega))
theorem SrI.lo {c : Int} {l : List Sn} {lo hi m : Nat} (hr : Right l) (h : SrI c l lo hi) (hm : m < l.length) (ha : l[m].1 < c) : SrI c l (m + 1) hi :=
  ⟨fun t ht htm => Int.lt_of_le_of_lt (ord_le hr (show t ≤ m by omega) hm) ha, h.b⟩
theorem SrI.hi {c : Int} {l : List Sn} {lo hi m : Nat} (hr : Right l) (h : SrI c l lo hi) (hm : m < l.length) (ha : ¬ l[m].1 < c) : SrI c l lo m :=
  ⟨h.a, fun t ht htm hlt => ha (Int.lt_of_le_of_lt (ord_le hr htm ht) hlt)⟩
/-- What putting comes to, by what a search finds. -/
theorem put_search (s : Sn) : ∀ {l : List Sn}, Right l → put s l = l.take (cntS s.1 l) ++ ([s] ++ l.drop (cntS s.1 l + if atS s.1 l = true then 1 else 0))
  | [], _ => rfl
  | x :: r, h => by
    rw [put_cons h]
    by_cases c1 : s.1 < x.1
    · have e : cntS s.1 (x :: r) = 0 := by unfold cntS; rw [List.takeWhile_cons, decide_eq_false (by omega)]; rfl
      have f : atS s.1 (x :: r) = false := by unfold atS; rw [e]; simp; omega
      rw [if_pos c1, e, f]; rfl
    · by_cases c2 : s.1 = x.1
      · have e : cntS s.1 (x :: r) = 0 := by unfold cntS; rw [List.takeWhile_cons, decide_eq_false (by omega)]; rfl
        have f : atS s.1 (x :: r) = true := by unfold atS; rw [e]; simp [c2]
        rw [if_neg c1, if_pos c2, e, f]; rfl
      · have e : cntS s.1 (x :: r) = cntS s.1 r + 1 := by unfold cntS; rw [List.takeWhile_cons, decide_eq_true (by omega)]; rfl
        have f : atS s.1 (x :: r) = atS s.1 r := by unfold atS; rw [e]; rfl
        rw [if_neg c1, if_neg c2, e, f, put_search s (Right.cons.1 h).2.2, Nat.add_right_comm]
        rfl
set_option maxHeartbeats 2000000 in
theorem search_any (B : Bs) (l : List Sn) (v : Value) (t1 t2 t3 t4 t5 t6 t7 : Int) (w : World) (h : NL B l v w) (hm : l.length ≤ 1000000) (hr : Right l) :
    Calls Try.prog 16 #[v, .agg #[.int .i64 t1, .int .i64 t2, .int .i64 t3, .int .i64 t4, .int .i64 t5, .int .i64 t6, .int .i64 t7], .func (.func 17) #[] #[]] w fun e w' => e = .returned (.tuple #[.int .i64 (cntS t1 l : Nat), .bool (atS t1 l)]) ∧ Below w.heap.size w w' := by
  obtain ⟨a, cp, rfl, hel⟩ := h
  obtain ⟨n, hn⟩ : ∃ n, n = l.length := ⟨_, rfl⟩
  obtain ⟨r, hrr⟩ : ∃ r, atS t1 l = r := ⟨_, rfl⟩
  obtain ⟨cnt, hcn⟩ : ∃ r, cntS t1 l = r := ⟨_, rfl⟩
  rw [← hn] at hm ⊢
  rw [hrr, hcn]
  have HN := Lib.hid hn
  have HR := Lib.hid hrr
  have HC := Lib.hid hcn
  have HE := Lib.hid hel
  have HO := Lib.hid hr
  clear hn hr hel hrr hcn
  go_enter Try.func16, Try.ntmps16
  go_wp2
  obtain ⟨W, hW⟩ : ∃ W, W = w.alloc (.cells #[.int .i64 t1, .int .i64 t2, .int .i64 t3, .int .i64 t4, .int .i64 t5, .int .i64 t6, .int .i64 t7] 42) := ⟨_, rfl⟩
  have hbW : Below w.heap.size w W := hW ▸ below1 w _
  have hz : w.heap.size < W.heap.size := by rw [hW]; simp
  have hrow : row W w.heap.size = #[.int .i64 t1, .int .i64 t2, .int .i64 t3, .int .i64 t4, .int .i64 t5, .int .i64 t6, .int .i64 t7] := by rw [hW]; simp [go_sem]
  have HW := Lib.hid hrow
  rw [← hW]
  clear hW hrow
  go_loopg [9, 10] n (fun kx s9 s10 wr => ∃ (lo hi : Nat), s9 = .int .i64 lo ∧ s10 = .int .i64 hi ∧ lo ≤ hi ∧ hi ≤ n ∧ hi - lo ≤ kx ∧ Below W.heap.size W wr ∧ SrI t1 l lo hi)
  case atStart => exact ⟨0, n, rfl, rfl, Nat.zero_le _, Nat.le_refl _, by omega, Below.refl _ _, ⟨fun t _ ht => absurd ht (Nat.not_lt_zero _), fun t h1 h2 => by have := HN.out; omega⟩⟩
  case round =>
    obtain ⟨lo, hi, rfl, rfl, hlh, hin, hg, hb, hI⟩ := hrel
    have I := Lib.hid hI
    clear hI
    by_cases hlt : lo < hi
    · have hmid : (lo + hi) / 2 < l.length := by rw [← HN.out]; omega
      rcases HE.out with ⟨e, _⟩ | ⟨b, off, rfl, hat⟩
      · rw [e] at hmid; cases hmid
      · obtain ⟨⟨s1, s2, s3, s4, s5, s6, s7⟩, hs⟩ : ∃ s, l[(lo + hi) / 2]'hmid = s := ⟨_, rfl⟩
        have HK := Lib.hid hs
        obtain ⟨md, hmd⟩ : ∃ md, (lo + hi) / 2 = md := ⟨_, rfl⟩
        have hK : ∀ u, Below W.heap.size W u → row u w.heap.size = #[.int .i64 t1, .int .i64 t2, .int .i64 t3, .int .i64 t4, .int .i64 t5, .int .i64 t6, .int .i64 t7] ∧ u.cell? ⟨b, off + md * 7, none⟩ = some (.int .i64 s1) ∧ u.cell? ⟨b, off + md * 7 + 1, none⟩ = some (.int .i64 s2) ∧ u.cell? ⟨b, off + md * 7 + 2, none⟩ = some (.int .i64 s3) ∧ u.cell? ⟨b, off + md * 7 + 3, none⟩ = some (.int .i64 s4) ∧ u.cell? ⟨b, off + md * 7 + 4, none⟩ = some (.int .i64 s5) ∧ u.cell? ⟨b, off + md * 7 + 5, none⟩ = some (.int .i64 s6) ∧ u.cell? ⟨b, off + md * 7 + 6, none⟩ = some (.int .i64 s7) := by
          intro u hu
          refine ⟨by rw [(bcell hu).2.2.1 _ hz]; exact HW.out, ?_⟩
          have := at7 (Lies.keep eS 42 hat (Keeps.of_below (nx hbW hu))) _ hmid
          rw [hs, hmd] at this
          exact this
        replace hK := fun u h => hK u (nx hb h)
        clear hs hat
        have hm2 : (((lo : Int) + (hi : Int)) / 2) = (md : Int) := by omega
        have hml : (md : Int) < n := by omega
        by_cases hp : s1 < t1
        · have I2 := Lib.hid (I.out.lo HO.out hmid (by rw [HK.out]; exact hp))
          obtain ⟨q, hq⟩ : ∃ q, cmpI s1 t1 = q := ⟨_, rfl⟩
          have hq0 : q < 0 := by rw [← hq]; exact cmpI_lt.2 hp
          have HQ := Lib.hid hq
          clear hq hp
          go_wp2
          refine Rg.region (by kernel_rfl) (by kernel_rfl) (by kernel_rfl) (fun _ _ d _ _ h => by cases d <;> exact h) _ rfl ?_
          repeat (first | (refine Rg.Seq.skip (by rfl) ?_; simp only [Act.put, List.setIfInBounds_toArray, List.set_cons_zero, List.set_cons_succ]) | (refine Rg.Seq.pure (v := ?_) (by rfl) ?_ ?_; rotate_left; (intro w_ hS_; have hk_ := hK w_ hS_; go_simp <;> with_reducible rfl); simp only [Act.put, List.setIfInBounds_toArray, List.set_cons_zero, List.set_cons_succ]) | (refine Rg.Seq.call (v := ?_) (f := ?_) (args := ?_) (by rfl) ?_ ?_ ?_; rotate_left 3; (intro w_ hS_; have hk_ := hK w_ hS_; go_simp <;> first | with_reducible rfl | (constructor <;> with_reducible rfl)); (intro w_ hS_; first | (go_at_call 17; refine (compare_is HQ _).mono ?_; rintro e w_ ⟨rfl, hb_⟩; refine ⟨?_, nx hS_ hb_⟩; with_reducible rfl)); simp only [Act.put, List.setIfInBounds_toArray, List.set_cons_zero, List.set_cons_succ]))
          intro w1 hb1
          go_wp2
          go_roundg (hi - ((lo + hi) / 2 + 1))
          case measure => omega
          case rel => exact ⟨(lo + hi) / 2 + 1, hi, by go_num, rfl, by omega, hin, Nat.le_refl _, nx hb hb1, I2.out⟩
        · have I2 := Lib.hid (I.out.hi HO.out hmid (by rw [HK.out]; exact hp))
          obtain ⟨q, hq⟩ : ∃ q, cmpI s1 t1 = q := ⟨_, rfl⟩
          have hq0 : ¬ (q < 0) := by rw [← hq, cmpI_lt]; exact hp
          have HQ := Lib.hid hq
          clear hq hp
          go_wp2
          refine Rg.region (by kernel_rfl) (by kernel_rfl) (by kernel_rfl) (fun _ _ d _ _ h => by cases d <;> exact h) _ rfl ?_
          repeat (first | (refine Rg.Seq.skip (by rfl) ?_; simp only [Act.put, List.setIfInBounds_toArray, List.set_cons_zero, List.set_cons_succ]) | (refine Rg.Seq.pure (v := ?_) (by rfl) ?_ ?_; rotate_left; (intro w_ hS_; have hk_ := hK w_ hS_; go_simp <;> with_reducible rfl); simp only [Act.put, List.setIfInBounds_toArray, List.set_cons_zero, List.set_cons_succ]) | (refine Rg.Seq.call (v := ?_) (f := ?_) (args := ?_) (by rfl) ?_ ?_ ?_; rotate_left 3; (intro w_ hS_; have hk_ := hK w_ hS_; go_simp <;> first | with_reducible rfl | (constructor <;> with_reducible rfl)); (intro w_ hS_; first | (go_at_call 17; refine (compare_is HQ _).mono ?_; rintro e w_ ⟨rfl, hb_⟩; refine ⟨?_, nx hS_ hb_⟩; with_reducible rfl)); simp only [Act.put, List.setIfInBounds_toArray, List.set_cons_zero, List.set_cons_succ]))
          intro w1 hb1
          go_wp2
          go_roundg ((lo + hi) / 2 - lo)
          case measure => omega
          case rel => exact ⟨lo, (lo + hi) / 2, rfl, by rw [hmd], by omega, by omega, Nat.le_refl _, nx hb hb1, I2.out⟩
    · obtain rfl : hi = lo := by omega
      have hz9 : cnt = hi := by rw [← HC.out]; exact cntS_of (by rw [← HN.out]; exact hin) I.out.a I.out.b
      have HZ := Lib.hid hz9
      by_cases hh : hi < n
      · have hhn : (hi : Int) < n := by omega
        have hmid : hi < l.length := by rw [← HN.out]; exact hh
        rcases HE.out with ⟨e, _⟩ | ⟨b, off, rfl, hat⟩
        · rw [e] at hmid; cases hmid
        · obtain ⟨⟨s1, s2, s3, s4, s5, s6, s7⟩, hs⟩ : ∃ s, l[hi]'hmid = s := ⟨_, rfl⟩
          have hK : ∀ u, Below W.heap.size W u → row u w.heap.size = #[.int .i64 t1, .int .i64 t2, .int .i64 t3, .int .i64 t4, .int .i64 t5, .int .i64 t6, .int .i64 t7] ∧ u.cell? ⟨b, off + hi * 7, none⟩ = some (.int .i64 s1) ∧ u.cell? ⟨b, off + hi * 7 + 1, none⟩ = some (.int .i64 s2) ∧ u.cell? ⟨b, off + hi * 7 + 2, none⟩ = some (.int .i64 s3) ∧ u.cell? ⟨b, off + hi * 7 + 3, none⟩ = some (.int .i64 s4) ∧ u.cell? ⟨b, off + hi * 7 + 4, none⟩ = some (.int .i64 s5) ∧ u.cell? ⟨b, off + hi * 7 + 5, none⟩ = some (.int .i64 s6) ∧ u.cell? ⟨b, off + hi * 7 + 6, none⟩ = some (.int .i64 s7) := by
            intro u hu
            refine ⟨by rw [(bcell hu).2.2.1 _ hz]; exact HW.out, ?_⟩
            have := at7 (Lies.keep eS 42 hat (Keeps.of_below (nx hbW hu))) _ hmid
            rw [hs] at this
            exact this
          replace hK := fun u h => hK u (nx hb h)
          obtain ⟨q, hq⟩ : ∃ q, cmpI s1 t1 = q := ⟨_, rfl⟩
          obtain ⟨f, hf⟩ : ∃ f, (q == 0) = f := ⟨_, rfl⟩
          have HF : Hid (r = f) := Lib.hid (by
            rw [← HR.out, ← hf]
            unfold atS
            rw [HC.out, hz9, List.getElem?_eq_getElem hmid, hs]
            have := @cmpI_eq s1 t1
            rw [hq] at this
            rw [Bool.eq_iff_iff]; simp [this])
          have HQ := Lib.hid hq
          clear hq hat hs hz9
          go_wp2
          refine Rg.region (by kernel_rfl) (by kernel_rfl) (by kernel_rfl) (fun _ _ d _ _ h => by cases d <;> exact h) _ rfl ?_
          repeat (first | (refine Rg.Seq.skip (by rfl) ?_; simp only [Act.put, List.setIfInBounds_toArray, List.set_cons_zero, List.set_cons_succ]) | (refine Rg.Seq.pure (v := ?_) (by rfl) ?_ ?_; rotate_left; (intro w_ hS_; have hk_ := hK w_ hS_; go_simp <;> with_reducible rfl); simp only [Act.put, List.setIfInBounds_toArray, List.set_cons_zero, List.set_cons_succ]) | (refine Rg.Seq.call (v := ?_) (f := ?_) (args := ?_) (by rfl) ?_ ?_ ?_; rotate_left 3; (intro w_ hS_; have hk_ := hK w_ hS_; go_simp <;> first | with_reducible rfl | (constructor <;> with_reducible rfl)); (intro w_ hS_; first | (go_at_call 17; refine (compare_is HQ _).mono ?_; rintro e w_ ⟨rfl, hb_⟩; refine ⟨?_, nx hS_ hb_⟩; with_reducible rfl)); simp only [Act.put, List.setIfInBounds_toArray, List.set_cons_zero, List.set_cons_succ]))
          intro w1 hb1
          go_wp2
          go_ret2
          exact ⟨by (rw [HZ.out, HF.out]) <;> rfl, nx hbW (nx hb hb1)⟩
      · have hhn : ¬ ((hi : Int) < n) := by omega
        have HF : Hid (r = false) := Lib.hid (by
          rw [← HR.out]; unfold atS; rw [HC.out, hz9, List.getElem?_eq_none (by rw [← HN.out]; omega)])
        clear hz9
        go_wp2
        refine Rg.region (by kernel_rfl) (by kernel_rfl) (by kernel_rfl) (fun _ _ d _ _ h => by cases d <;> exact h) _ rfl ?_
        repeat (first | (refine Rg.Seq.skip (by rfl) ?_; simp only [Act.put, List.setIfInBounds_toArray, List.set_cons_zero, List.set_cons_succ]) | (refine Rg.Seq.pure (v := ?_) (by rfl) ?_ ?_; rotate_left; (intro w_ hS_; obtain ⟨hc_, hf_⟩ := bcell hS_; go_simp <;> with_reducible rfl); simp only [Act.put, List.setIfInBounds_toArray, List.set_cons_zero, List.set_cons_succ]))
        intro w1 hb1
        go_wp2
        go_ret2
        exact ⟨by (rw [HZ.out, HF.out]) <;> rfl, nx hbW (nx hb hb1)⟩
end Go.Proofs.Ytigoemecphilkaa.Se
