/- Package book as it landed: Right, mayCome. -/
import Derived.Test.YtfnmmknbjfmagaaBoD
import Derived.Test.YtfnmmknbjfmagaaLvP
namespace Go.Proofs.Ytfnmmknbjfmagaa.Bk
open Go.RowKit
set_option linter.unusedVariables false
open Go.Proofs.Ytfnmmknbjfmagaa.Rw
open Go.Proofs.Ytfnmmknbjfmagaa.Da
open Go.Proofs.Ytfnmmknbjfmagaa.Le
theorem bestP_nn {s : Int} {l : List Lv} (h : RightL s l) : 0 ≤ bestP l := by
  cases e : (flat l).head? with
  | none => rw [(best_none e).1]; exact Int.le_refl _
  | some x => obtain ⟨p1, p2, _⟩ := best_some h e; rw [p1]; omega
theorem rightB_code {b : Bk} (n1 : 1 ≤ b.2.2) (n2 : b.2.2 ≤ 1073741824) (hc : cntB b ≤ 40) (h1 : RightL 1 b.1) (h2 : RightL 2 b.2.1) :
    rightB b = (idsB (flat b.1 ++ flat b.2.1) b.2.2 && !(!decide (bestP b.2.1 = 0) && decide (bestP b.2.1 ≤ bestP b.1))) := by
  cases e : idsB (flat b.1 ++ flat b.2.1) b.2.2
  · rw [Bool.false_and]
    refine rightB_no fun h => ?_
    have : idsB (flat b.1 ++ flat b.2.1) b.2.2 = true := by
      unfold idsB
      rw [decide_eq_true_iff, List.map_append]
      refine ⟨List.nodup_append.2 ⟨h1.2.2.2, h2.2.2.2, ?_⟩, fun i hi => ?_⟩
      · rintro i hi j hj rfl
        obtain ⟨o, ho, e1⟩ := List.mem_map.1 hi
        obtain ⟨x, hx, e2⟩ := List.mem_map.1 hj
        exact h.apart o ho x hx (e1.trans e2.symm)
      · rcases List.mem_append.1 hi with hi | hi
        · obtain ⟨o, ho, rfl⟩ := List.mem_map.1 hi; exact h.ltB o ho
        · obtain ⟨o, ho, rfl⟩ := List.mem_map.1 hi; exact h.ltS o ho
    rw [e] at this; cases this
  · unfold idsB at e
    rw [decide_eq_true_iff, List.map_append] at e
    obtain ⟨e1, e2⟩ := e
    have e3 := (List.nodup_append.1 e1).2.2
    rw [rightB_make n1 n2 h1 h2 hc (fun o ho => ⟨fnd_none.2 fun x hx e4 => e3 o.1 (List.mem_map.2 ⟨o, ho, rfl⟩) x.1 (List.mem_map.2 ⟨x, hx, rfl⟩) e4.symm, e2 _ (List.mem_append_left _ (List.mem_map.2 ⟨o, ho, rfl⟩))⟩) (fun o ho => e2 _ (List.mem_append_right _ (List.mem_map.2 ⟨o, ho, rfl⟩)))]
    have k1 := bestP_nn h1
    have k2 := bestP_nn h2
    rw [Bool.eq_iff_iff]
    simp only [Bool.or_eq_true, Bool.and_eq_true, Bool.not_eq_true', Bool.and_eq_false_iff, Bool.not_eq_false', decide_eq_true_eq, decide_eq_false_iff_not, true_and]
    omega
theorem putE_nil {n ow s p q : Int} (h1 : 1 ≤ n) (h2 : n ≤ 1073741824) : putE [] (n, ow, s, p, q) = if argOk ow s p q = true then 0 else 1 := by
  unfold putE
  have e : ((rightL s [] && omay (n, ow, s, p, q) s && (fnd (flat []) n).isNone) = true) ↔ argOk ow s p q = true := by
    rw [Bool.and_eq_true, Bool.and_eq_true, rightL_iff, omay_iff, argOk_iff]
    simp only
    constructor
    · rintro ⟨⟨a, b⟩, _⟩; exact ⟨by omega, by omega, a.1, by omega, by omega, by omega, by omega⟩
    · intro h
      refine ⟨⟨right_nil h.2.2.1, ?_⟩, rfl⟩
      refine ⟨by omega, by omega, by omega, by omega, ?_, by omega, by omega, by omega, by omega⟩
      first | rfl | trivial
  by_cases c : argOk ow s p q = true
  · rw [if_pos c, if_pos (e.2 c)]
  · rw [if_neg c, if_neg (fun x => c (e.1 x))]
set_option maxRecDepth 8000 in
set_option maxHeartbeats 1000000 in
theorem mayCome_any (n ow s p q : Int) (h1 : 1 ≤ n) (h2 : n ≤ 1073741824) (w : World) :
    Calls Try.prog 32 #[.agg #[.int .i64 n, .int .i64 ow, .int .i64 s, .int .i64 p, .int .i64 q]] w fun e w' => e = .returned (.bool (argOk ow s p q)) ∧ Below w.heap.size w w' := by
  have hpe := putE_nil (ow := ow) (s := s) (p := p) (q := q) h1 h2
  obtain ⟨E, hE⟩ : ∃ E, putE [] (n, ow, s, p, q) = E := ⟨_, rfl⟩
  have hr : argOk ow s p q = (E == 0) := by
    rw [← hE, hpe]; cases argOk ow s p q <;> rfl
  rw [hr]
  have HE := Lib.hid hE
  obtain ⟨V, hV⟩ : ∃ V, V = w.alloc (.cells #[.int .i64 n, .int .i64 ow, .int .i64 s, .int .i64 p, .int .i64 q] 31) := ⟨_, rfl⟩
  have hbV : Below w.heap.size w V := hV ▸ below1 w _
  have HV := Lib.hid hV
  clear hpe hE hr hV h1 h2
  go_enter Try.func32, Try.ntmps32
  go_wp2_with fail
  rw [← HV.out]
  refine (put_any (Bs.of V.heap.size) [] _ n ow s p q V (Is.nil _ _ _ _) (Bs.of_le _) (by decide) (by decide)).mono ?_
  rintro e w1 ⟨t, rfl, hb1, hl1⟩
  obtain ⟨a1, c1, rfl⟩ := hl1.len
  obtain ⟨k, hk⟩ : ∃ k, (put [] (n, ow, s, p, q)).length = k := ⟨_, rfl⟩
  rw [hk]
  rw [show (putE [] (n, ow, s, p, q)) = E from HE.out]
  clear hl1 hk
  go_wp2
  go_ret
  exact ⟨rfl, nx hbV hb1⟩
set_option maxRecDepth 8000 in
set_option maxHeartbeats 4000000 in
theorem right_anyB (B : Bs) (b : Bk) (v : Value) (w : World) (h : BL B b v w) (hB : B.le w.heap.size) (h1 : b.1.length ≤ 1000) (h2 : (flat b.1).length ≤ 1000) (h3 : b.2.1.length ≤ 1000) (h4 : (flat b.2.1).length ≤ 1000) :
    Calls Try.prog 20 #[v] w fun e w' => e = .returned (.bool (rightB b)) ∧ Below w.heap.size w w' := by
  obtain ⟨x, y, rfl, hx, hy⟩ := h
  obtain ⟨n, hn⟩ : ∃ n, b.2.2 = n := ⟨_, rfl⟩
  rw [hn]
  obtain ⟨V, hV⟩ : ∃ V, V = w.alloc (.cells #[x, y, .int .i64 n] 26) := ⟨_, rfl⟩
  have hcf : CF B b x y w.heap.size w V := hV ▸ CF.made hB hx hy hn
  have hbV : Below w.heap.size w V := hcf.bel
  have HC := Lib.hid (hcf.facts hn)
  have hBu : ∀ u, Below V.heap.size V u → B.le u.heap.size := fun u hu => hB.mono (nx hbV hu).size
  obtain ⟨R, hR⟩ : ∃ R, rightB b = R := ⟨_, rfl⟩
  rw [hR]
  obtain ⟨k, hk⟩ : ∃ k, cntB b = k := ⟨_, rfl⟩
  obtain ⟨r1, hr1⟩ : ∃ r, rightL 1 b.1 = r := ⟨_, rfl⟩
  obtain ⟨r2, hr2⟩ : ∃ r, rightL 2 b.2.1 = r := ⟨_, rfl⟩
  obtain ⟨r3, hr3⟩ : ∃ r, idsB (flat b.1 ++ flat b.2.1) n = r := ⟨_, rfl⟩
  obtain ⟨r4, hr4⟩ : ∃ r, (!decide (bestP b.2.1 = 0) && decide (bestP b.2.1 ≤ bestP b.1)) = r := ⟨_, rfl⟩
  have hbl : ∀ u, Below V.heap.size V u → BL B b (.agg #[x, y, .int .i64 n]) u := fun u hu => by rw [← hn]; exact (hcf.stays hu).bl
  have HK := Lib.hid (show ∀ u, Below V.heap.size V u → Calls Try.prog 35 #[.agg #[x, y, .int .i64 n]] u fun e w' => e = .returned (.int .i64 (k : Nat)) ∧ Below u.heap.size u w' from fun u hu => by
    rw [← hk]; exact cnt_any B b _ u (hbl u hu) (hBu u hu) (by omega) (by omega) (by omega) (by omega))
  have HR1 := Lib.hid (show ∀ u, Below V.heap.size V u → Calls Try.prog 45 #[x, .int .i64 1] u fun e w' => e = .returned (.bool r1) ∧ Below u.heap.size u w' from fun u hu => by
    rw [← hr1]; exact right_any B b.1 _ 1 u (hcf.stays hu).l1 (hBu u hu) h1 h2)
  have HR2 := Lib.hid (show ∀ u, Below V.heap.size V u → Calls Try.prog 45 #[y, .int .i64 2] u fun e w' => e = .returned (.bool r2) ∧ Below u.heap.size u w' from fun u hu => by
    rw [← hr2]; exact right_any B b.2.1 _ 2 u (hcf.stays hu).l2 (hBu u hu) h3 h4)
  have HR3 := Lib.hid (show ∀ u, Below V.heap.size V u → Calls Try.prog 46 #[.agg #[x, y, .int .i64 n]] u fun e w' => e = .returned (.bool r3) ∧ Below u.heap.size u w' from fun u hu => by
    rw [← hr3, ← hn]; exact ids_any B b _ u (by rw [hn]; exact hbl u hu) (hBu u hu) (by omega) (by omega) (by omega) (by omega) (by rw [List.length_append]; omega))
  have HR4 := Lib.hid (show ∀ u, Below V.heap.size V u → Calls Try.prog 47 #[.agg #[x, y, .int .i64 n]] u fun e w' => e = .returned (.bool r4) ∧ Below u.heap.size u w' from fun u hu => by
    rw [← hr4]; exact crossed_any B b _ u (hbl u hu) (hBu u hu) (by omega) (by omega) (by omega) (by omega))
  have HV := Lib.hid hV
  have HRR := Lib.hid hR
  have HN := Lib.hid hn
  have Hr1 := Lib.hid hr1
  have Hr2 := Lib.hid hr2
  have Hr3 := Lib.hid hr3
  have Hr4 := Lib.hid hr4
  have Hk := Lib.hid hk
  have HRc : Hid (1 ≤ n → n ≤ 1073741824 → k ≤ 40 → r1 = true → r2 = true → R = (r3 && !r4)) := Lib.hid fun a1 a2 a3 a4 a5 => by
    rw [← hR, ← hr3, ← hr4, ← hn]
    exact rightB_code (by rw [hn]; exact a1) (by rw [hn]; exact a2) (by rw [hk]; exact a3) (rightL_iff.1 (hr1.trans a4)) (rightL_iff.1 (hr2.trans a5))
  have hkz : k ≤ 1000000 := by rw [← hk]; unfold cntB; omega
  obtain ⟨a1, c1, rfl⟩ := hx.len
  obtain ⟨a2, c2, rfl⟩ := hy.len
  clear hx hy hV hn hr1 hr2 hr3 hr4 hR hk hbl hBu hcf
  obtain ⟨m0, m1, m2, mz, mr⟩ := HC.out V (Below.refl _ _)
  by_cases dA : n < 1
  · have hA : ¬ 1 ≤ n := by omega
    have HZ : Hid (R = false) := Lib.hid (by rw [← HRR.out]; exact rightB_no fun h => by have := h.n1; rw [HN.out] at this; omega)
    go_enter Try.func20, Try.ntmps20
    go_wp2
    go_ret
    exact ⟨ret_bool HZ.out.symm, below1 w _⟩
  have hA : 1 ≤ n := by omega
  by_cases dB : 1073741824 < n
  · have hB2 : ¬ n ≤ 1073741824 := by omega
    have HZ : Hid (R = false) := Lib.hid (by rw [← HRR.out]; exact rightB_no fun h => by have := h.n2; rw [HN.out] at this; omega)
    go_enter Try.func20, Try.ntmps20
    go_wp2
    go_ret
    exact ⟨ret_bool HZ.out.symm, below1 w _⟩
  have hB2 : n ≤ 1073741824 := by omega
  by_cases dC : 40 < k
  · have hC2 : ¬ (k : Int) ≤ 40 := by omega
    have HZ : Hid (R = false) := Lib.hid (by rw [← HRR.out]; exact rightB_no fun h => by have := h.cnt; rw [Hk.out] at this; omega)
    go_enter Try.func20, Try.ntmps20
    go_wp2_with fail
    rw [← HV.out]
    refine (HK.out _ (Below.refl _ _)).mono ?_
    rintro e w1 ⟨rfl, hc1⟩
    have hb1 := hc1
    clear m0 m1 m2 mz mr
    obtain ⟨m0, m1, m2, mz, mr⟩ := HC.out w1 hb1
    clear m0 m1 m2 mr
    go_wp2
    go_ret
    exact ⟨ret_bool HZ.out.symm, nx hbV hb1⟩
  have hC2 : (k : Int) ≤ 40 := by omega
  have hC3 : k ≤ 40 := by omega
  cases r1
  · have HZ : Hid (R = false) := Lib.hid (by rw [← HRR.out]; exact rightB_no fun h => by have := Hr1.out; rw [rightL_iff.2 h.buys] at this; cases this)
    go_enter Try.func20, Try.ntmps20
    go_wp2_with fail
    rw [← HV.out]
    refine (HK.out _ (Below.refl _ _)).mono ?_
    rintro e w1 ⟨rfl, hc1⟩
    have hb1 := hc1
    clear m0 m1 m2 mz mr
    obtain ⟨m0, m1, m2, mz, mr⟩ := HC.out w1 hb1
    go_wp2_with fail
    refine (HR1.out _ hb1).mono ?_
    rintro e w2 ⟨rfl, hc2⟩
    have hb2 := nx hb1 hc2
    clear m0 m1 m2 mz mr
    obtain ⟨m0, m1, m2, mz, mr⟩ := HC.out w2 hb2
    clear m0 m1 m2 mr
    go_wp2
    go_ret
    exact ⟨ret_bool HZ.out.symm, nx hbV hb2⟩
  cases r2
  · have HZ : Hid (R = false) := Lib.hid (by rw [← HRR.out]; exact rightB_no fun h => by have := Hr2.out; rw [rightL_iff.2 h.sells] at this; cases this)
    go_enter Try.func20, Try.ntmps20
    go_wp2_with fail
    rw [← HV.out]
    refine (HK.out _ (Below.refl _ _)).mono ?_
    rintro e w1 ⟨rfl, hc1⟩
    have hb1 := hc1
    clear m0 m1 m2 mz mr
    obtain ⟨m0, m1, m2, mz, mr⟩ := HC.out w1 hb1
    go_wp2_with fail
    refine (HR1.out _ hb1).mono ?_
    rintro e w2 ⟨rfl, hc2⟩
    have hb2 := nx hb1 hc2
    clear m0 m1 m2 mz mr
    obtain ⟨m0, m1, m2, mz, mr⟩ := HC.out w2 hb2
    go_wp2_with fail
    refine (HR2.out _ hb2).mono ?_
    rintro e w3 ⟨rfl, hc3⟩
    have hb3 := nx hb2 hc3
    clear m0 m1 m2 mz mr
    obtain ⟨m0, m1, m2, mz, mr⟩ := HC.out w3 hb3
    clear m0 m1 m2 mr
    go_wp2
    go_ret
    exact ⟨ret_bool HZ.out.symm, nx hbV hb3⟩
  have HZ := Lib.hid (HRc.out hA hB2 hC3 rfl rfl)
  cases r3
  · have HZ2 : Hid (R = false) := Lib.hid HZ.out
    go_enter Try.func20, Try.ntmps20
    go_wp2_with fail
    rw [← HV.out]
    refine (HK.out _ (Below.refl _ _)).mono ?_
    rintro e w1 ⟨rfl, hc1⟩
    have hb1 := hc1
    clear m0 m1 m2 mz mr
    obtain ⟨m0, m1, m2, mz, mr⟩ := HC.out w1 hb1
    go_wp2_with fail
    refine (HR1.out _ hb1).mono ?_
    rintro e w2 ⟨rfl, hc2⟩
    have hb2 := nx hb1 hc2
    clear m0 m1 m2 mz mr
    obtain ⟨m0, m1, m2, mz, mr⟩ := HC.out w2 hb2
    go_wp2_with fail
    refine (HR2.out _ hb2).mono ?_
    rintro e w3 ⟨rfl, hc3⟩
    have hb3 := nx hb2 hc3
    clear m0 m1 m2 mz mr
    obtain ⟨m0, m1, m2, mz, mr⟩ := HC.out w3 hb3
    go_wp2_with fail
    refine (HR3.out _ hb3).mono ?_
    rintro e w4 ⟨rfl, hc4⟩
    have hb4 := nx hb3 hc4
    clear m0 m1 m2 mz mr
    obtain ⟨m0, m1, m2, mz, mr⟩ := HC.out w4 hb4
    clear m0 m1 m2 mr
    go_wp2
    go_ret
    exact ⟨ret_bool HZ2.out.symm, nx hbV hb4⟩
  · cases r4
    · have HZ2 : Hid (R = true) := Lib.hid HZ.out
      go_enter Try.func20, Try.ntmps20
      go_wp2_with fail
      rw [← HV.out]
      refine (HK.out _ (Below.refl _ _)).mono ?_
      rintro e w1 ⟨rfl, hc1⟩
      have hb1 := hc1
      clear m0 m1 m2 mz mr
      obtain ⟨m0, m1, m2, mz, mr⟩ := HC.out w1 hb1
      go_wp2_with fail
      refine (HR1.out _ hb1).mono ?_
      rintro e w2 ⟨rfl, hc2⟩
      have hb2 := nx hb1 hc2
      clear m0 m1 m2 mz mr
      obtain ⟨m0, m1, m2, mz, mr⟩ := HC.out w2 hb2
      go_wp2_with fail
      refine (HR2.out _ hb2).mono ?_
      rintro e w3 ⟨rfl, hc3⟩
      have hb3 := nx hb2 hc3
      clear m0 m1 m2 mz mr
      obtain ⟨m0, m1, m2, mz, mr⟩ := HC.out w3 hb3
      go_wp2_with fail
      refine (HR3.out _ hb3).mono ?_
      rintro e w4 ⟨rfl, hc4⟩
      have hb4 := nx hb3 hc4
      clear m0 m1 m2 mz mr
      obtain ⟨m0, m1, m2, mz, mr⟩ := HC.out w4 hb4
      go_wp2_with fail
      refine (HR4.out _ hb4).mono ?_
      rintro e w5 ⟨rfl, hc5⟩
      have hb5 := nx hb4 hc5
      clear m0 m1 m2 mz mr
      obtain ⟨m0, m1, m2, mz, mr⟩ := HC.out w5 hb5
      clear m0 m1 m2 mr
      go_wp2
      go_ret
      exact ⟨ret_bool HZ2.out.symm, nx hbV hb5⟩
    · have HZ2 : Hid (R = false) := Lib.hid HZ.out
      go_enter Try.func20, Try.ntmps20
      go_wp2_with fail
      rw [← HV.out]
      refine (HK.out _ (Below.refl _ _)).mono ?_
      rintro e w1 ⟨rfl, hc1⟩
      have hb1 := hc1
      clear m0 m1 m2 mz mr
      obtain ⟨m0, m1, m2, mz, mr⟩ := HC.out w1 hb1
      go_wp2_with fail
      refine (HR1.out _ hb1).mono ?_
      rintro e w2 ⟨rfl, hc2⟩
      have hb2 := nx hb1 hc2
      clear m0 m1 m2 mz mr
      obtain ⟨m0, m1, m2, mz, mr⟩ := HC.out w2 hb2
      go_wp2_with fail
      refine (HR2.out _ hb2).mono ?_
      rintro e w3 ⟨rfl, hc3⟩
      have hb3 := nx hb2 hc3
      clear m0 m1 m2 mz mr
      obtain ⟨m0, m1, m2, mz, mr⟩ := HC.out w3 hb3
      go_wp2_with fail
      refine (HR3.out _ hb3).mono ?_
      rintro e w4 ⟨rfl, hc4⟩
      have hb4 := nx hb3 hc4
      clear m0 m1 m2 mz mr
      obtain ⟨m0, m1, m2, mz, mr⟩ := HC.out w4 hb4
      go_wp2_with fail
      refine (HR4.out _ hb4).mono ?_
      rintro e w5 ⟨rfl, hc5⟩
      have hb5 := nx hb4 hc5
      clear m0 m1 m2 mz mr
      obtain ⟨m0, m1, m2, mz, mr⟩ := HC.out w5 hb5
      clear m0 m1 m2 mr
      go_wp2
      go_ret
      exact ⟨ret_bool HZ2.out.symm, nx hbV hb5⟩
end Go.Proofs.Ytfnmmknbjfmagaa.Bk
