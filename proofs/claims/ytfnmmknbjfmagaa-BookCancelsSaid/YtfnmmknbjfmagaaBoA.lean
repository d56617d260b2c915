/- Package book as it landed: New, meets, sides, count, Top, isCrossed. -/
import Derived.Test.YtfnmmknbjfmagaaBkJ
import Derived.Test.YtfnmmknbjfmagaaLvD
namespace Go.Proofs.Ytfnmmknbjfmagaa.Bk
open Go.RowKit
set_option linter.unusedVariables false
open Go.Proofs.Ytfnmmknbjfmagaa.Rw
open Go.Proofs.Ytfnmmknbjfmagaa.Da
open Go.Proofs.Ytfnmmknbjfmagaa.Le
set_option maxHeartbeats 400000 in
theorem new_any (w : World) : Calls Try.prog 9 #[] w fun e w' => e = .returned (.agg #[.slice none 0 0, .slice none 0 0, .int .i64 1]) ∧ Below w.heap.size w w' := by
  go_enter Try.func9, Try.ntmps9
  go_wp2
  refine bodyPost_ret (v := .agg #[.slice none 0 0, .slice none 0 0, .int .i64 1]) (ret_B1 Try.results9 _ _ rfl ?c1) rfl ⟨rfl, below1 _ _⟩
  case c1 => simp [go_sem]
set_option maxHeartbeats 400000 in
theorem meets_any (o1 o2 o3 o4 o5 r1 r2 r3 r4 r5 : Int) (w : World) : Calls Try.prog 58 #[.agg #[.int .i64 o1, .int .i64 o2, .int .i64 o3, .int .i64 o4, .int .i64 o5], .agg #[.int .i64 r1, .int .i64 r2, .int .i64 r3, .int .i64 r4, .int .i64 r5]] w fun e w' => e = .returned (.bool (meets o3 o4 r4)) ∧ Below w.heap.size w w' := by
  by_cases h : o3 = 1
  · have hd : (o3 == 1) = true := by simpa using h
    have H : Hid (meets o3 o4 r4 = decide (r4 ≤ o4)) := Lib.hid (if_pos h)
    clear h
    go_enter Try.func58, Try.ntmps58
    go_wp2
    go_ret
    exact ⟨ret_bool H.out.symm, below2 _ _ _⟩
  · have hd : (o3 == 1) = false := by simpa using h
    have H : Hid (meets o3 o4 r4 = decide (o4 ≤ r4)) := Lib.hid (if_neg h)
    clear h
    go_enter Try.func58, Try.ntmps58
    go_wp2
    go_ret
    exact ⟨ret_bool H.out.symm, below2 _ _ _⟩
set_option maxHeartbeats 400000 in
theorem sides_any (p : Nat) (s : Int) (w : World) : Calls Try.prog 26 #[.pointer (some ⟨p, 0, none⟩), .int .i64 s] w fun e w' => e = .returned (if s = 1 then .tuple #[.pointer (some ⟨p, 0, none⟩), .pointer (some ⟨p, 1, none⟩)] else .tuple #[.pointer (some ⟨p, 1, none⟩), .pointer (some ⟨p, 0, none⟩)]) ∧ Below w.heap.size w w' := by
  by_cases h : s = 1
  · have hd : (s == 1) = true := by simpa using h
    rw [if_pos h]; clear h
    go_enter Try.func26, Try.ntmps26
    go_wp2
    go_region
    go_wp2
    go_ret2
    exact ⟨rfl, (Below.refl _ _).drew⟩
  · have hd : (s == 1) = false := by simpa using h
    rw [if_neg h]; clear h
    go_enter Try.func26, Try.ntmps26
    go_wp2
    go_region
    go_wp2
    go_ret2
    exact ⟨rfl, (Below.refl _ _).drew⟩
theorem CF.made {B : Bs} {b : Bk} {x y : Value} {n : Int} {w : World} (hB : B.le w.heap.size) (hx : LL B b.1 x w) (hy : LL B b.2.1 y w) (hn : b.2.2 = n) : CF B b x y w.heap.size w (w.alloc (.cells #[x, y, .int .i64 n] 26)) := by
  subst hn
  exact ⟨heap_alloc_new w _, hB.1, Is.stays eL 48 hx (below1 w _), Is.stays eL 48 hy (below1 w _), below1 w _⟩
theorem CF.facts {A : Bs} {b : Bk} {x y : Value} {s : Nat} {n : Int} {w V : World} (h : CF A b x y s w V) (hn : b.2.2 = n) : ∀ u, Below V.heap.size V u → u.cell? ⟨s, 0, none⟩ = some x ∧ u.cell? ⟨s, 1, none⟩ = some y ∧ u.cell? ⟨s, 2, none⟩ = some (.int .i64 n) ∧ s < u.heap.size ∧ Rw.row u s = #[x, y, .int .i64 n] := fun u hu => by
  subst hn
  have k := h.stays hu
  exact ⟨k.cells.1, k.cells.2.1, k.cells.2.2.1, k.lt, k.row⟩
set_option maxHeartbeats 1000000 in
theorem cnt_any (B : Bs) (b : Bk) (v : Value) (w : World) (h : BL B b v w) (hB : B.le w.heap.size) (h1 : b.1.length ≤ 1000000) (h2 : (flat b.1).length ≤ 1000000) (h3 : b.2.1.length ≤ 1000000) (h4 : (flat b.2.1).length ≤ 1000000) :
    Calls Try.prog 35 #[v] w fun e w' => e = .returned (.int .i64 (cntB b : Nat)) ∧ Below w.heap.size w w' := by
  obtain ⟨x, y, rfl, hx, hy⟩ := h
  obtain ⟨n, hn⟩ : ∃ n, b.2.2 = n := ⟨_, rfl⟩
  rw [hn]
  obtain ⟨V, hV⟩ : ∃ V, V = w.alloc (.cells #[x, y, .int .i64 n] 26) := ⟨_, rfl⟩
  have hcf : CF B b x y w.heap.size w V := hV ▸ CF.made hB hx hy hn
  have hbV : Below w.heap.size w V := hcf.bel
  have HC := Lib.hid (hcf.facts hn)
  obtain ⟨k1, hk1⟩ : ∃ k, (flat b.1).length = k := ⟨_, rfl⟩
  obtain ⟨k2, hk2⟩ : ∃ k, (flat b.2.1).length = k := ⟨_, rfl⟩
  have hK1 : ∀ u, Below V.heap.size V u → Calls Try.prog 59 #[x] u fun e w' => e = .returned (.int .i64 (k1 : Nat)) ∧ Below u.heap.size u w' := fun u hu => by
    rw [← hk1]; exact count_big B b.1 _ u (hcf.stays hu).l1 h1 h2
  have hK2 : ∀ u, Below V.heap.size V u → Calls Try.prog 59 #[y] u fun e w' => e = .returned (.int .i64 (k2 : Nat)) ∧ Below u.heap.size u w' := fun u hu => by
    rw [← hk2]; exact count_big B b.2.1 _ u (hcf.stays hu).l2 h3 h4
  have HK1 := Lib.hid hK1
  have HK2 := Lib.hid hK2
  have HV := Lib.hid hV
  have HZ : Hid ((cntB b : Nat) = k1 + k2) := Lib.hid (by unfold cntB; rw [hk1, hk2])
  have hk1' : k1 ≤ 1000000 := by omega
  have hk2' : k2 ≤ 1000000 := by omega
  obtain ⟨a1, c1, rfl⟩ := hx.len
  obtain ⟨a2, c2, rfl⟩ := hy.len
  clear hx hy hV hn hk1 hk2 hK1 hK2 hcf
  go_enter Try.func35, Try.ntmps35
  go_wp2
  rw [← HV.out]
  refine Rf.region [0, 1, 2, 3, 4, 5, 6, 7] (by kernel_rfl) (by kernel_rfl) (by kernel_rfl) (fun _ _ d _ _ h => by cases d <;> exact h) ?_
  repeat (first | (refine Rf.Steps.skip (by rfl) (by kernel_rfl) (by rfl) ?_; simp only [Act.put, List.setIfInBounds_toArray, List.set_cons_zero, List.set_cons_succ]) | (refine Rf.Steps.pure (v := ?_) (by rfl) (by kernel_rfl) (by rfl) ?_ ?_; rotate_left; (intro w_ hS_; have hk_ := HC.out w_ hS_; go_simp <;> with_reducible rfl); simp only [Act.put, List.setIfInBounds_toArray, List.set_cons_zero, List.set_cons_succ]) | (refine Rf.Steps.call (v := ?_) (f := ?_) (args := ?_) (by rfl) (by kernel_rfl) (by rfl) ?_ ?_ ?_; rotate_left 3; (intro w_ hS_; have hk_ := HC.out w_ hS_; go_simp <;> first | with_reducible rfl | (constructor <;> with_reducible rfl)); (intro w_ hS_; have hk_ := HC.out w_ hS_; first | (go_at_call 59; (first | with_reducible refine (HK1.out w_ hS_).mono ?_ | with_reducible refine (HK2.out w_ hS_).mono ?_); first | (rintro e w_ ⟨rfl, rfl⟩; refine ⟨?_, Below.refl _ _⟩; with_reducible rfl) | (rintro e w_ ⟨rfl, hb_⟩; refine ⟨?_, hb_⟩; with_reducible rfl))); simp only [Act.put, List.setIfInBounds_toArray, List.set_cons_zero, List.set_cons_succ]))
  refine Rf.Steps.nil (by kernel_rfl) ?_
  intro w4 hb6
  go_wp2
  go_ret
  exact ⟨ret_int (by rw [HZ.out, IntKind.wrap_i64]; omega), nx hbV hb6⟩
set_option maxHeartbeats 1000000 in
theorem top_any (B : Bs) (b : Bk) (v : Value) (w : World) (h : BL B b v w) (h1 : b.1.length ≤ 1000000) (h2 : (flat b.1).length ≤ 1000000) (h3 : b.2.1.length ≤ 1000000) (h4 : (flat b.2.1).length ≤ 1000000) :
    Calls Try.prog 17 #[v] w fun e w' => e = .returned (.tuple #[.int .i64 (bestP b.1), .int .i64 (bestP b.2.1)]) ∧ Below w.heap.size w w' := by
  obtain ⟨x, y, rfl, hx, hy⟩ := h
  rw [bestP_is, bestP_is]
  obtain ⟨q1, hq1⟩ : ∃ q, (flat b.1).head? = q := ⟨_, rfl⟩
  obtain ⟨q2, hq2⟩ : ∃ q, (flat b.2.1).head? = q := ⟨_, rfl⟩
  rw [hq1, hq2]
  have HQ1 := Lib.hid hq1
  have HQ2 := Lib.hid hq2
  obtain ⟨n, hn⟩ : ∃ n, b.2.2 = n := ⟨_, rfl⟩
  rw [hn]
  obtain ⟨V, hV⟩ : ∃ V, V = w.alloc (.cells #[x, y, .int .i64 n] 26) := ⟨_, rfl⟩
  have hbV : Below w.heap.size w V := hV ▸ below1 w _
  have hzV : w.heap.size < V.heap.size := by rw [hV]; simp
  obtain ⟨a1, c1, rfl⟩ := hx.len
  obtain ⟨a2, c2, rfl⟩ := hy.len
  have HX := Lib.hid (show ∀ u, Below V.heap.size V u → LL B b.1 (.slice a1 b.1.length c1) u ∧ LL B b.2.1 (.slice a2 b.2.1.length c2) u from fun u hu => ⟨Is.stays eL 48 hx (nx hbV hu), Is.stays eL 48 hy (nx hbV hu)⟩)
  have HC := Lib.hid (show ∀ u, Below V.heap.size V u → u.cell? ⟨w.heap.size, 0, none⟩ = some (.slice a1 b.1.length c1) ∧ u.cell? ⟨w.heap.size, 1, none⟩ = some (.slice a2 b.2.1.length c2) ∧ w.heap.size < u.heap.size from fun u hu => by
    refine ⟨?_, ?_, Nat.lt_of_lt_of_le hzV hu.size⟩
    · rw [hu.cell (p := ⟨w.heap.size, 0, none⟩) hzV, hV]; simp [go_sem]
    · rw [hu.cell (p := ⟨w.heap.size, 1, none⟩) hzV, hV]; simp [go_sem])
  have HV := Lib.hid hV
  have hcs1 := cO_size q1
  have h1c1 : oneAll (.agg (cO q1)) = true := by cases q1 <;> exact one5 _ _ _ _ _
  have hcs2 := cO_size q2
  have h1c2 : oneAll (.agg (cO q2)) = true := by cases q2 <;> exact one5 _ _ _ _ _
  have ho1 := cO_3 q1
  have ho2 := cO_3 q2
  have ho2' : ∀ h, (cO q2)[3]'h = .int .i64 (prO q2) := fun h => by cases q2 <;> rfl
  have HB1 := Lib.hid h1
  have HB2 := Lib.hid h2
  have HB3 := Lib.hid h3
  have HB4 := Lib.hid h4
  clear hx hy hV hq1 hq2 hn h1 h2 h3 h4
  obtain ⟨m0, m1, mz⟩ := HC.out V (Below.refl _ _)
  go_enter Try.func17, Try.ntmps17
  go_wp2_with fail
  rw [← HV.out]
  refine (best_big B b.1 _ V (HX.out V (Below.refl _ _)).1 HB1.out HB2.out).mono ?_
  rintro e w1 ⟨rfl, hb1⟩
  rw [HQ1.out, fV_is]
  clear m0 m1 mz
  have hbx := below1 w1 (.cells (cO q1) 31)
  obtain ⟨X, hX⟩ : ∃ X, X = w1.alloc (.cells (cO q1) 31) := ⟨_, rfl⟩
  have hzX : w1.heap.size < X.heap.size := by rw [hX]; simp
  have hcX : X.cell? ⟨w1.heap.size, 3, none⟩ = some (.int .i64 (prO q1)) := by rw [hX]; simp [go_sem, ho1]
  have hc1 := Lib.hid (show ∀ u, Below X.heap.size X u → u.cell? ⟨w1.heap.size, 3, none⟩ = some (.int .i64 (prO q1)) ∧ w1.heap.size < u.heap.size from fun u hu => ⟨(hu.cell (p := ⟨w1.heap.size, 3, none⟩) hzX).trans hcX, Nat.lt_of_lt_of_le hzX hu.size⟩)
  rw [← hX] at hbx
  have HX1 := Lib.hid hX
  have hb2 := nx hb1 hbx
  obtain ⟨m0, m1, mz⟩ := HC.out w1 hb1
  clear hX hcX
  go_wp2_with fail
  rw [← HX1.out]
  clear m0 m1 mz
  refine (best_big B b.2.1 _ X (HX.out X hb2).2 HB3.out HB4.out).mono ?_
  rintro e w2 ⟨rfl, hb3⟩
  rw [HQ2.out, fV_is]
  obtain ⟨k0, k1⟩ := hc1.out w2 hb3
  go_wp2
  go_region
  go_wp2
  go_ret2
  exact ⟨rfl, (nx hbV (nx hb2 (nx hb3 (below1 _ _)))).drew⟩
set_option maxHeartbeats 1000000 in
theorem crossed_any (B : Bs) (b : Bk) (v : Value) (w : World) (h : BL B b v w) (hB : B.le w.heap.size) (h1 : b.1.length ≤ 1000000) (h2 : (flat b.1).length ≤ 1000000) (h3 : b.2.1.length ≤ 1000000) (h4 : (flat b.2.1).length ≤ 1000000) :
    Calls Try.prog 47 #[v] w fun e w' => e = .returned (.bool (!decide (bestP b.2.1 = 0) && decide (bestP b.2.1 ≤ bestP b.1))) ∧ Below w.heap.size w w' := by
  obtain ⟨x, y, rfl, hx, hy⟩ := h
  obtain ⟨n, hn⟩ : ∃ n, b.2.2 = n := ⟨_, rfl⟩
  rw [hn]
  obtain ⟨V, hV⟩ : ∃ V, V = w.alloc (.cells #[x, y, .int .i64 n] 26) := ⟨_, rfl⟩
  have hcf : CF B b x y w.heap.size w V := hV ▸ CF.made hB hx hy hn
  have hbV : Below w.heap.size w V := hcf.bel
  obtain ⟨m0, m1, m2, mz, mr⟩ := hcf.facts hn V (Below.refl _ _)
  have hbl := hcf.bl
  rw [hn] at hbl
  obtain ⟨p, hp⟩ : ∃ p, bestP b.1 = p := ⟨_, rfl⟩
  obtain ⟨q, hq⟩ : ∃ q, bestP b.2.1 = q := ⟨_, rfl⟩
  have hT := top_any B b _ V hbl h1 h2 h3 h4
  rw [hp, hq] at hT ⊢
  have HT := Lib.hid hT
  have HV := Lib.hid hV
  obtain ⟨a1, c1, rfl⟩ := hx.len
  obtain ⟨a2, c2, rfl⟩ := hy.len
  clear hx hy hV hn hp hq hT hbl hcf m0 m1 m2
  by_cases hq0 : q = 0
  · subst hq0
    go_enter Try.func47, Try.ntmps47
    go_wp2_with fail
    rw [← HV.out]
    refine HT.out.mono ?_
    rintro e w1 ⟨rfl, hb1⟩
    go_wp2
    go_ret
    exact ⟨ret_bool (by simp), nx hbV hb1⟩
  · go_enter Try.func47, Try.ntmps47
    go_wp2_with fail
    rw [← HV.out]
    refine HT.out.mono ?_
    rintro e w1 ⟨rfl, hb1⟩
    go_wp2
    go_ret
    exact ⟨ret_bool (by simp [hq0]), nx hbV hb1⟩
end Go.Proofs.Ytfnmmknbjfmagaa.Bk
