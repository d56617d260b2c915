/- Package book as it landed: Cancel. -/
import Derived.Test.YthecinmekoaphaaGreatQaBM
import Derived.Test.YthecinmekoaphaaGreatQaBB
import Derived.Test.YthecinmekoaphaaGreatQaBL
import Derived.Test.YthecinmekoaphaaGreatQaBP
set_option linter.unusedVariables false
namespace Go.Proofs.YthecinmekoaphaaGreat.Bk
open Go.RowKit
open Go.Proofs.YthecinmekoaphaaGreat.Rw
open Go.Proofs.YthecinmekoaphaaGreat.Da
open Go.Proofs.YthecinmekoaphaaGreat.Le
/-- What is answered lies in the two boxes of the results. -/
theorem fin2 {A : Bs} {b : Bk} {x y : Value} {s : Nat} {w W : World} (lo : A.lo ≤ s) (hb : Below s w W) (h1 : LL A b.1 x W) (h2 : LL A b.2.1 y W) (g1 : W.heap[s + 1]? = some (.cells zB 25 (0, 0))) (g2 : W.heap[s + 2]? = some (.cells (cO none) 70 (0, 0))) (hx : A.ex (s + 2)) (r : Option Od) : Fin A b x y s w W r := by
  have g2' : (W.setRow (s + 1) #[x, y, .int .i64 b.2.2]).heap[s + 2]? = some (.cells (cO none) 70 (0, 0)) := (setRow_other W (s + 1) (s + 2) _ (by omega)).trans g2
  have hk1 : Keeps A (98 :: eL.ts) W (W.setRow (s + 1) #[x, y, .int .i64 b.2.2]) := keeps_setRow _ g1 (by decide) (by omega)
  have ha := alt_setRow (Alt.refl (fun b => b = s + 2) (W.setRow (s + 1) #[x, y, .int .i64 b.2.2])) (b := s + 2) rfl (cO r)
  have hk2 : Keeps A (98 :: eL.ts) (W.setRow (s + 1) #[x, y, .int .i64 b.2.2]) ((W.setRow (s + 1) #[x, y, .int .i64 b.2.2]).setRow (s + 2) (cO r)) := Keeps.of_alt ha (fun b hb _ => by subst hb; exact ⟨hx, by omega⟩)
  have hk := hk1.trans hk2
  refine ⟨by unfold Rw.plain; rw [g1]; rfl, by unfold Rw.plain; rw [g2']; rfl, ?_, ?_, below_setRow (below_setRow hb (by omega) _) (by omega) _, ⟨x, y, rfl, Is.keep eL 98 h1 hk, Is.keep eL 98 h2 hk⟩⟩
  · unfold Rw.row
    rw [setRow_other _ (s + 2) (s + 1) _ (by omega), setRow_heap W (s + 1) _ _ _ _ g1]
  · unfold Rw.row
    rw [setRow_heap _ (s + 2) _ _ _ _ g2']
/-- The last region's facts, the book being in box m. -/
structure FinM (x y : Value) (n : Int) (o : Option Od) (s k m : Nat) (W : World) : Prop where
  a1 : row W m = #[x, y, .int .i64 n]
  a2 : row W k = cO o
  a3 : row (W.setRow (s + 1) #[x, y, .int .i64 n]) k = cO o
  a4 : row (W.setRow (s + 1 + 1) (cO o)) m = #[x, y, .int .i64 n]
  a5 : plain 3 W (s + 1) = true
  a6 : plain 5 W (s + 1 + 1) = true
  a7 : plain 3 (W.setRow (s + 1 + 1) (cO o)) (s + 1) = true
  a8 : plain 5 (W.setRow (s + 1) #[x, y, .int .i64 n]) (s + 1 + 1) = true
  a9 : (W.setRow (s + 1 + 1) (cO o)).setRow (s + 1) #[x, y, .int .i64 n] = (W.setRow (s + 1) #[x, y, .int .i64 n]).setRow (s + 1 + 1) (cO o)
theorem finM {x y : Value} {n : Int} {s k m : Nat} {W : World} {o : Option Od} (g0 : W.heap[m]? = some (.cells #[x, y, .int .i64 n] 25 (0, 0))) (g1 : W.heap[s + 1]? = some (.cells zB 25 (0, 0))) (g2 : W.heap[s + 2]? = some (.cells (cO none) 70 (0, 0))) (hk : W.heap[k]? = some (.cells (cO o) 70 (0, 0))) (hks : s + 2 < k) (hms : s + 2 < m) : FinM x y n o s k m W := by
  refine ⟨by unfold Rw.row; rw [g0], by unfold Rw.row; rw [hk], ?_, ?_, by unfold Rw.plain; rw [g1]; rfl, by unfold Rw.plain; rw [g2]; rfl, ?_, ?_, setRow_comm _ _ _ (by omega)⟩
  · unfold Rw.row; rw [setRow_other W (s + 1) k _ (by omega), hk]
  · unfold Rw.row; rw [setRow_other W (s + 1 + 1) m _ (by omega), g0]
  · unfold Rw.plain; rw [setRow_other W (s + 1 + 1) (s + 1) _ (by omega), g1]; rfl
  · unfold Rw.plain; rw [setRow_other W (s + 1) (s + 1 + 1) _ (by omega), g2]; rfl
theorem fndB_app (b : Bk) (id : Int) : fnd (flat (b.1 ++ b.2.1)) id = fndB b id := by
  rw [flat_app, fnd_app]; rfl
/-- Whose side an order is on. -/
theorem side_of {b : Bk} {id : Int} {o : Od} (h : RightB b) (hf : fndB b id = some o) : o.2.2.1 = 1 ∨ o.2.2.1 = 2 := by
  unfold fndB at hf
  cases e : fnd (flat b.1) id with
  | some x =>
    rw [e] at hf
    obtain rfl := Option.some.inj hf
    exact .inl (omay_iff.1 (mem_may h.buys (fnd_some e).1)).2.2.2.2.1
  | none =>
    rw [e] at hf
    exact .inr (omay_iff.1 (mem_may h.sells (fnd_some hf).1)).2.2.2.2.1
set_option maxRecDepth 8000 in
set_option maxHeartbeats 8000000 in
theorem cancel_any (B : Bs) (b : Bk) (v : Value) (ow id : Int) (w : World) (h : BL B b v w) (hB : B.le w.heap.size) (h1 : b.1.length ≤ 1000) (h2 : (flat b.1).length ≤ 1000) (h3 : b.2.1.length ≤ 1000) (h4 : (flat b.2.1).length ≤ 1000) :
    Calls Tryz.prog 36 #[v, .int .i64 ow, .int .i64 id] w (PostC B (cancel b ow id) w) := by
  obtain ⟨x, y, rfl, hx, hy⟩ := h
  obtain ⟨C, hC⟩ : ∃ C, cancel b ow id = C := ⟨_, rfl⟩
  rw [hC]
  obtain ⟨s, hs⟩ : ∃ s, w.heap.size = s := ⟨_, rfl⟩
  obtain ⟨V, hV⟩ : ∃ V, V = ((w.alloc (.cells #[x, y, .int .i64 b.2.2] 25)).alloc (.cells #[.slice none 0 0, .slice none 0 0, .int .i64 0] 25)).alloc (.cells #[.int .i64 0, .int .i64 0, .int .i64 0, .int .i64 0, .int .i64 0] 70) := ⟨_, rfl⟩
  have hbV : Below w.heap.size w V := hV ▸ below3 w _ _ _
  have hzV : V.heap.size = s + 3 := by rw [hV, ← hs]; simp
  obtain ⟨A, hA⟩ : ∃ A, A = B.but (fun b => b = s + 2) := ⟨_, rfl⟩
  have hAB : A.sub B := by rw [hA]; exact Bs.sub_but _ _
  have hAx : A.ex (s + 2) := by rw [hA]; exact .inr rfl
  have hAl : A.le (s + 3) := by rw [hA]; exact Bs.but_le (hB.mono (by omega)) (fun b hb => by omega)
  have hAlo : A.lo ≤ s := by have := hB.1; rw [hA, ← hs]; exact this
  have hxV : LL A b.1 x V := by rw [hA]; exact Is.stays eL 98 (Is.now eL 98 hx (fun b hb => by omega)) hbV
  have hyV : LL A b.2.1 y V := by rw [hA]; exact Is.stays eL 98 (Is.now eL 98 hy (fun b hb => by omega)) hbV
  have k0 : V.heap[s]? = some (.cells #[x, y, .int .i64 b.2.2] 25 (0, 0)) := by
    rw [hV, ← hs]; exact ((below2 _ _ _).block _ (by simp)).trans (heap_alloc_new w _)
  have k1 : V.heap[s + 1]? = some (.cells zB 25 (0, 0)) := by
    have := ((below1 ((w.alloc (.cells #[x, y, .int .i64 b.2.2] 25)).alloc (.cells #[.slice none 0 0, .slice none 0 0, .int .i64 0] 25)) (.cells #[.int .i64 0, .int .i64 0, .int .i64 0, .int .i64 0, .int .i64 0] 70)).block _ (by simp)).trans (heap_alloc_new (w.alloc (.cells #[x, y, .int .i64 b.2.2] 25)) (.cells #[.slice none 0 0, .slice none 0 0, .int .i64 0] 25))
    rw [World.size_alloc, hs] at this
    rw [hV]; exact this
  have k2 : V.heap[s + 2]? = some (.cells (cO none) 70 (0, 0)) := by
    have := heap_alloc_new ((w.alloc (.cells #[x, y, .int .i64 b.2.2] 25)).alloc (.cells #[.slice none 0 0, .slice none 0 0, .int .i64 0] 25)) (.cells #[.int .i64 0, .int .i64 0, .int .i64 0, .int .i64 0, .int .i64 0] 70)
    rw [World.size_alloc, World.size_alloc, hs] at this
    rw [hV]; exact this
  have hcf : CF A b x y s w V := ⟨k0, hAlo, hxV, hyV, by rw [← hs]; exact hbV⟩
  obtain ⟨a1, c1, rfl⟩ := hx.len
  obtain ⟨a2, c2, rfl⟩ := hy.len
  obtain ⟨n, hn⟩ : ∃ n, b.2.2 = n := ⟨_, rfl⟩
  obtain ⟨n1, hn1⟩ : ∃ n, b.1.length = n := ⟨_, rfl⟩
  obtain ⟨n2, hn2⟩ : ∃ n, b.2.1.length = n := ⟨_, rfl⟩
  have hfin : ∀ u, Below V.heap.size V u → Fin A b (.slice a1 n1 c1) (.slice a2 n2 c2) s w u none := fun u hu => by
    rw [← hn1, ← hn2]
    exact (hcf.stays hu).fin ((hu.block _ (by omega)).trans k1) ((hu.block _ (by omega)).trans k2) hAx none
  have hfa : ∀ u, Below V.heap.size V u → Rw.row u s = #[.slice a1 n1 c1, .slice a2 n2 c2, .int .i64 n] ∧ u.cell? ⟨s, 0, none⟩ = some (.slice a1 n1 c1) ∧ u.cell? ⟨s, 1, none⟩ = some (.slice a2 n2 c2) ∧ s < u.heap.size ∧ s + 1 < u.heap.size ∧ s + 1 + 1 < u.heap.size := fun u hu => by
    have k := hcf.stays hu
    have := hu.size
    rw [← hn1, ← hn2, ← hn]
    exact ⟨k.row, k.cells.1, k.cells.2.1, by omega, by omega, by omega⟩
  have HFin := Lib.hid hfin
  have HFa := Lib.hid hfa
  have HCF := Lib.hid hcf
  rw [hn1, hn2, hn] at hV
  have HV := Lib.hid hV
  have HK1 := Lib.hid k1
  have HK2 := Lib.hid k2
  have HC := Lib.hid hC
  have HS := Lib.hid hs
  have HN := Lib.hid hn
  have HN1 := Lib.hid hn1
  have HN2 := Lib.hid hn2
  have HBL := Lib.hid (show ∀ u, Below V.heap.size V u → BL A b (.agg #[.slice a1 n1 c1, .slice a2 n2 c2, .int .i64 n]) u from fun u hu => by
    have := (hcf.stays hu).bl
    rw [hn1, hn2, hn] at this; exact this)
  rw [hn1, hn2, hn]
  rw [hs] at hbV
  clear hV hxV hyV k0 k1 k2 hC hx hy hfin hfa hcf hA
  go_enter Tryz.func36, Tryz.ntmps36
  go_wp2_with fail
  rw [← HV.out]
  refine (right_anyB A b _ V (HBL.out V (Below.refl _ _)) (by rw [hzV]; exact hAl) h1 h2 h3 h4).mono ?_
  rintro e w1 ⟨rfl, hb1⟩
  obtain ⟨r0, q0, q1, z0, z1, z2⟩ := HFa.out w1 hb1
  obtain ⟨p1, p2, e1, e2, e3, e4⟩ := HFin.out w1 hb1
  rw [HN.out] at p2 e1 e2 e3 e4
  cases hright : rightB b
  · have HC3 : Hid (C = (b, none, 1)) := Lib.hid (by rw [← HC.out]; unfold cancel; rw [hright]; rfl)
    have HZ := Lib.hid (show _ ∧ _ ∧ _ ∧ _ from ⟨e1, e2, e3, e4⟩)
    clear e1 e2 e3 e4 hright q0 q1
    go_wp2
    refine bodyPost_ret (v := .tuple #[.agg #[.slice a1 n1 c1, .slice a2 n2 c2, .int .i64 n], .agg (cO none), .int .i64 1]) (ret_BOE Tryz.results36 _ _ rfl ?c1 (cO_size none) ?c2) rfl ?c3
    case c1 => first | exact HZ.out.1 | (simp only [go_sem]; exact HZ.out.1)
    case c2 => first | exact HZ.out.2.1 | (simp only [go_sem]; exact HZ.out.2.1)
    case c3 => rw [HC3.out]; exact ⟨_, rfl, by rw [HS.out]; exact HZ.out.2.2.1, HZ.out.2.2.2.up hAB⟩
  have HRt := Lib.hid (rightB_iff.1 hright)
  have hz1 := hb1.size
  clear hright p1 p2 e1 e2 e3 e4
  obtain ⟨P, hP⟩ : ∃ P, P = w1.alloc (.cells #[.slice a1 n1 c1, .slice a2 n2 c2] 23) := ⟨_, rfl⟩
  have hbP : Below w1.heap.size w1 P := hP ▸ below1 w1 _
  have hzP : P.heap.size = w1.heap.size + 1 := by rw [hP]; simp
  have hbVP := nx hb1 hbP
  have P0 : P.cell? ⟨w1.heap.size, 0, none⟩ = some (.slice a1 n1 c1) := by rw [hP]; simp [go_sem]
  have P1 : P.cell? ⟨w1.heap.size, 1, none⟩ = some (.slice a2 n2 c2) := by rw [hP]; simp [go_sem]
  have HP0 := Lib.hid P0
  have HP1 := Lib.hid P1
  have HP := Lib.hid hP
  have HLl := Lib.hid (show ∀ u, Below V.heap.size V u → LL A b.1 (.slice a1 n1 c1) u ∧ LL A b.2.1 (.slice a2 n2 c2) u ∧ A.le u.heap.size from fun u hu => by
    obtain ⟨x1, y1, e1, l1, l2⟩ := HBL.out u hu
    simp only [Value.agg.injEq, Array.mk.injEq, List.cons.injEq] at e1
    obtain ⟨rfl, rfl, _⟩ := e1
    exact ⟨l1, l2, hAl.mono (by have := hu.size; omega)⟩)
  obtain ⟨q, hq⟩ : ∃ q, fndB b id = q := ⟨_, rfl⟩
  have HQ := Lib.hid hq
  have hcs := cO_size q
  have h1c : oneAll (.agg (cO q)) = true := by cases q <;> exact one5 _ _ _ _ _
  clear hP hq P0 P1
  go_wp2_with fail
  rw [← HP.out]
  clear r0 q0 q1 z0 z1 z2
  refine (concat_any A b.1 b.2.1 _ _ w1.heap.size P (HLl.out P hbVP).1 (HLl.out P hbVP).2.1 (by omega) HP0.out HP1.out (HLl.out P hbVP).2.2 (by omega) (by omega)).mono ?_
  rintro e w2 ⟨v2, rfl, hb2, hl2⟩
  have HL2 := Lib.hid hl2
  obtain ⟨a3, c3, rfl⟩ := hl2.len
  obtain ⟨n3, hn3⟩ : ∃ n, (b.1 ++ b.2.1).length = n := ⟨_, rfl⟩
  have hn3l : n3 ≤ 2000 := by rw [← hn3, List.length_append]; omega
  rw [hn3] at HL2 ⊢
  have hb2V := nx hbVP hb2
  clear hl2 hn3
  go_wp2_with fail
  refine (find_big A (b.1 ++ b.2.1) _ id w2 HL2.out (by rw [List.length_append]; omega) (by rw [flat_app, List.length_append]; omega)).mono ?_
  rintro e w3 ⟨rfl, hb3⟩
  rw [fndB_app, HQ.out, fV_is]
  have hb3V := nx hb2V hb3
  have hz3 := hb3V.size
  obtain ⟨k, hk⟩ : ∃ k, k = w3.heap.size := ⟨_, rfl⟩
  obtain ⟨K, hK⟩ : ∃ K, K = w3.alloc (.cells (cO q) 70) := ⟨_, rfl⟩
  have hbK : Below w3.heap.size w3 K := hK ▸ below1 w3 _
  have hzK : K.heap.size = k + 1 := by rw [hK, hk]; simp
  have hKk : K.heap[k]? = some (.cells (cO q) 70 (0, 0)) := by rw [hK, hk]; exact heap_alloc_new w3 _
  have hbKV := nx hb3V hbK
  have HKk := Lib.hid hKk
  have HK := Lib.hid hK
  have HKs := Lib.hid hk
  obtain ⟨r0, q0, q1, z0, z1, z2⟩ := HFa.out w3 hb3V
  obtain ⟨p1, p2, e1, e2, e3, e4⟩ := HFin.out w3 hb3V
  rw [HN.out] at p2 e1 e2 e3 e4
  have hz9 : ((w3.setRow (s + 1) #[.slice a1 n1 c1, .slice a2 n2 c2, .int .i64 n]).setRow (s + 1 + 1) (cO none)).heap.size = w3.heap.size := by rw [setRow_size, setRow_size]
  have HZ := Lib.hid (show _ ∧ _ ∧ _ ∧ _ from ⟨(row_alloc _ (.cells (cO q) 70) (by rw [hz9]; omega)).trans e1, (row_alloc _ (.cells (cO q) 70) (by rw [hz9]; omega)).trans e2, e3.trans ((below1 _ (.cells (cO q) 70)).mono (by rw [hz9]; omega)), e4.stays (below1 _ (.cells (cO q) 70))⟩)
  clear e1 e2 e3 e4 hK hKk hz9
  cases hsm : q.isSome
  · have hn9 : q = none := Option.not_isSome_iff_eq_none.1 (by rw [hsm]; decide)
    have HC3 : Hid (C = (b, none, 8)) := Lib.hid (by rw [← HC.out]; unfold cancel; rw [rightB_iff.2 HRt.out, HQ.out, hn9]; rfl)
    clear hn9 q0 q1
    go_wp2
    refine bodyPost_ret (v := .tuple #[.agg #[.slice a1 n1 c1, .slice a2 n2 c2, .int .i64 n], .agg (cO none), .int .i64 8]) (ret_BOE Tryz.results36 _ _ rfl ?c1 (cO_size none) ?c2) rfl ?c3
    case c1 => first | exact HZ.out.1 | (simp only [go_sem]; exact HZ.out.1)
    case c2 => first | exact HZ.out.2.1 | (simp only [go_sem]; exact HZ.out.2.1)
    case c3 => rw [HC3.out]; exact ⟨_, rfl, by rw [HS.out]; exact HZ.out.2.2.1, HZ.out.2.2.2.up hAB⟩
  obtain ⟨⟨o1, o2, o3, o4, o5⟩, ho⟩ := Option.isSome_iff_exists.1 hsm
  have hfb := HQ.out.trans ho
  have e1 : (cO q)[1]? = some (.int .i64 o2) := by rw [ho]; rfl
  have e2 : (cO q)[2]? = some (.int .i64 o3) := by rw [ho]; rfl
  have e1' : ∀ h, (cO q)[1]'h = .int .i64 o2 := by rw [ho]; exact fun _ => rfl
  have e2' : ∀ h, (cO q)[2]'h = .int .i64 o3 := by rw [ho]; exact fun _ => rfl
  have hcc := cancel_cases (b := b) (ow := ow) (id := id) HRt.out
  have hcc2 : (o2 ≠ ow → C = (b, none, 9)) ∧ (o2 = ow → o1 = id ∧ C = (remB b (o1, o2, o3, o4, o5), q, 0)) := by
    rw [hfb, HC.out] at hcc
    rcases hcc with ⟨h, _⟩ | ⟨o, h, k, h2⟩ | ⟨o, h, k, k2, h2, _⟩
    · cases h
    · obtain rfl := Option.some.inj h
      exact ⟨fun _ => h2, fun e => absurd e k⟩
    · obtain rfl := Option.some.inj h
      exact ⟨fun e => absurd k e, fun _ => ⟨k2, by rw [h2, ho]⟩⟩
  have hsd := side_of HRt.out hfb
  have HCc := Lib.hid hcc2
  have HSd := Lib.hid hsd
  clear hcc hcc2 hfb hsd ho hsm
  by_cases how : o2 = ow
  · have hd2 : (o2 == ow) = true := by simpa using how
    obtain ⟨hid1, hC2⟩ := HCc.out.2 how
    have HC2 := Lib.hid hC2
    clear hC2 how q0 q1
    go_wp2_with fail
    rw [← HK.out]
    refine (clonedB_any A b _ K (HBL.out K hbKV) (hAl.mono (by omega)) (by omega) (by omega) (by omega) (by omega)).mono ?_
    rintro e w4 ⟨x', y', hs1, hs2, rfl, hb4, hmy⟩
    rw [HN.out]
    obtain ⟨x1, y1, e9, hx4, hy4⟩ := hmy.bl
    simp only [Value.agg.injEq, Array.mk.injEq, List.cons.injEq, and_true] at e9
    obtain ⟨rfl, rfl⟩ := e9
    obtain ⟨a4, c4, rfl⟩ := hx4.len
    obtain ⟨a5, c5, rfl⟩ := hy4.len
    obtain ⟨n4, hn4⟩ : ∃ n, b.1.length = n := ⟨_, rfl⟩
    obtain ⟨n5, hn5⟩ : ∃ n, b.2.1.length = n := ⟨_, rfl⟩
    rw [hn4] at hx4 ⊢
    rw [hn5] at hy4 ⊢
    have hz4 := hb4.size
    have hb4V := nx hbKV hb4
    have hk4 := (hb4.block _ (by omega)).trans HKk.out
    rw [hk] at hk4
    have m2 : w4.cell? ⟨w3.heap.size, 2, none⟩ = some (.int .i64 o3) := by simp [World.cell?, hk4, e2]
    have hl34 : w3.heap.size < w4.heap.size := by omega
    obtain ⟨M, hM⟩ : ∃ M, M = w4.alloc (.cells #[.slice a4 n4 c4, .slice a5 n5 c5, .int .i64 n] 25) := ⟨_, rfl⟩
    have hbM : Below w4.heap.size w4 M := hM ▸ below1 w4 _
    have hzM : M.heap.size = w4.heap.size + 1 := by rw [hM]; simp
    have hMm : M.heap[w4.heap.size]? = some (.cells #[.slice a4 n4 c4, .slice a5 n5 c5, .int .i64 n] 25 (0, 0)) := by rw [hM]; exact heap_alloc_new w4 _
    have HMm := Lib.hid hMm
    have HK4 := Lib.hid hk4
    have HX4 := Lib.hid hx4
    have HY4 := Lib.hid hy4
    have HM := Lib.hid hM
    clear hM hMm hk4 hx4 hy4 hmy hn4 hn5 p1 p2 r0
    rcases HSd.out with h3' | h3'
    · obtain rfl : o3 = 1 := h3'
      go_wp2_with fail
      rw [← HM.out]
      refine (sides_any w4.heap.size (1 : Int) M).mono ?_
      rintro e w5 ⟨rfl, hb5⟩
      first | rw [if_pos rfl] | rw [if_neg (by decide)]
      have hz5 := hb5.size
      have g5 := (hb5.block _ (by omega)).trans HMm.out
      have i0 : w5.cell? ⟨w4.heap.size, 0, none⟩ = some (.slice a4 n4 c4) := by simp [World.cell?, g5]
      have hb45 := nx hbM hb5
      clear m2
      go_wp2_with fail
      refine (remove_big A b.1 _ id w5 (Is.stays eL 98 HX4.out hb45) (hAl.mono (by omega)) (by omega) (by omega)).mono ?_
      rintro e w6 ⟨t, rfl, hb6, hlt⟩
      obtain ⟨a6, c6, rfl⟩ := hlt.len
      obtain ⟨n6, hn6⟩ : ∃ n, (rem b.1 id).length = n := ⟨_, rfl⟩
      rw [hn6] at hlt ⊢
      have hb46 := nx hb45 hb6
      have hz6 := hb6.size
      have g6 := (hb6.block _ (by omega)).trans g5
      have j0 : w6.cell? ⟨w4.heap.size, 0, none⟩ = some (.slice a4 n4 c4) := by simp [World.cell?, g6]
      have j1 : w6.frozen? ⟨w4.heap.size, 0, none⟩ = false := by simp [World.frozen?, g6]
      have hl46 : w4.heap.size < w6.heap.size := by omega
      clear i0 g5
      obtain ⟨F, hF⟩ : ∃ F, F = w6.setCell ⟨w4.heap.size, 0, none⟩ (.slice a6 n6 c6) := ⟨_, rfl⟩
      have hzF : F.heap.size = w6.heap.size := by rw [hF]; simp
      have hne : ∀ q, q ≠ w4.heap.size → F.heap[q]? = w6.heap[q]? := fun q hq => by rw [hF]; exact Below.heap_setCell w6 ⟨w4.heap.size, 0, none⟩ _ q hq
      have g0F : F.heap[w4.heap.size]? = some (.cells #[.slice a6 n6 c6, .slice a5 n5 c5, .int .i64 n] 25 (0, 0)) := by rw [hF]; exact set3 g6
      have hb6V := nx hb4V hb46
      have g1F := (hne (s + 1) (by omega)).trans ((hb6V.block _ (by omega)).trans HK1.out)
      have g2F := (hne (s + 2) (by omega)).trans ((hb6V.block _ (by omega)).trans HK2.out)
      have gkF := (hne w3.heap.size (by omega)).trans ((hb46.block _ (by omega)).trans HK4.out)
      have hkF : ∀ ts, 25 ∉ ts → Keeps A ts w6 F := fun ts ht => by rw [hF]; exact keeps_setCell 0 _ g6 ht (by omega)
      have hlF : LL A (rem b.1 id) (.slice a6 n6 c6) F := Is.keep eL 98 hlt (hkF _ (by decide))
      have hoF : LL A b.2.1 (.slice a5 n5 c5) F := Is.keep eL 98 (Is.stays eL 98 HY4.out hb46) (hkF _ (by decide))
      have hbF : Below s w F := by
        rw [hF]
        exact (hbV.trans (hb6V.mono (by omega))).setCell (by show s ≤ w4.heap.size; omega) _
      obtain ⟨b1, b2, b3, b4, b5, b6, b7, b8, b9⟩ := finM g0F g1F g2F gkF (by omega) (by omega)
      obtain ⟨_, _, e5, e6, e7, e8⟩ := fin2 (b := (rem b.1 id, b.2.1, b.2.2)) hAlo hbF hlF hoF g1F g2F hAx q
      simp only [HN.out] at e5 e6 e7 e8
      have HZ2 := Lib.hid (show _ ∧ _ ∧ _ ∧ _ from ⟨e5, e6, e7.drew, e8.stays (Below.refl _ _).drew⟩)
      have HC3 : Hid (C = ((rem b.1 id, b.2.1, b.2.2), q, 0)) := Lib.hid (by rw [HC2.out]; unfold remB; rw [if_pos (show (o1, o2, (1 : Int), o4, o5).2.2.1 = 1 from rfl), show (o1, o2, (1 : Int), o4, o5).1 = id from hid1])
      have HF := Lib.hid hF
      clear e5 e6 e7 e8 hF hne g0F g1F g2F gkF hkF hlF hoF hbF g6 hlt hn6 HZ
      go_wp2
      rw [← HF.out]
      go_region
      go_wp2
      refine bodyPost_ret (v := .tuple #[.agg #[.slice a6 n6 c6, .slice a5 n5 c5, .int .i64 n], .agg (cO q), .int .i64 0]) (ret_BOE Tryz.results36 _ _ rfl ?c1 (cO_size q) ?c2) rfl ?c3
      case c1 => first | exact HZ2.out.1 | (simp only [go_sem]; exact HZ2.out.1)
      case c2 => first | exact HZ2.out.2.1 | (simp only [go_sem]; exact HZ2.out.2.1)
      case c3 => rw [HC3.out, HN.out]; exact ⟨_, rfl, by rw [HS.out]; exact HZ2.out.2.2.1, HZ2.out.2.2.2.up hAB⟩
    · obtain rfl : o3 = 2 := h3'
      go_wp2_with fail
      rw [← HM.out]
      refine (sides_any w4.heap.size (2 : Int) M).mono ?_
      rintro e w5 ⟨rfl, hb5⟩
      first | rw [if_pos rfl] | rw [if_neg (by decide)]
      have hz5 := hb5.size
      have g5 := (hb5.block _ (by omega)).trans HMm.out
      have i0 : w5.cell? ⟨w4.heap.size, 1, none⟩ = some (.slice a5 n5 c5) := by simp [World.cell?, g5]
      have hb45 := nx hbM hb5
      clear m2
      go_wp2_with fail
      refine (remove_big A b.2.1 _ id w5 (Is.stays eL 98 HY4.out hb45) (hAl.mono (by omega)) (by omega) (by omega)).mono ?_
      rintro e w6 ⟨t, rfl, hb6, hlt⟩
      obtain ⟨a6, c6, rfl⟩ := hlt.len
      obtain ⟨n6, hn6⟩ : ∃ n, (rem b.2.1 id).length = n := ⟨_, rfl⟩
      rw [hn6] at hlt ⊢
      have hb46 := nx hb45 hb6
      have hz6 := hb6.size
      have g6 := (hb6.block _ (by omega)).trans g5
      have j0 : w6.cell? ⟨w4.heap.size, 1, none⟩ = some (.slice a5 n5 c5) := by simp [World.cell?, g6]
      have j1 : w6.frozen? ⟨w4.heap.size, 1, none⟩ = false := by simp [World.frozen?, g6]
      have hl46 : w4.heap.size < w6.heap.size := by omega
      clear i0 g5
      obtain ⟨F, hF⟩ : ∃ F, F = w6.setCell ⟨w4.heap.size, 1, none⟩ (.slice a6 n6 c6) := ⟨_, rfl⟩
      have hzF : F.heap.size = w6.heap.size := by rw [hF]; simp
      have hne : ∀ q, q ≠ w4.heap.size → F.heap[q]? = w6.heap[q]? := fun q hq => by rw [hF]; exact Below.heap_setCell w6 ⟨w4.heap.size, 1, none⟩ _ q hq
      have g0F : F.heap[w4.heap.size]? = some (.cells #[.slice a4 n4 c4, .slice a6 n6 c6, .int .i64 n] 25 (0, 0)) := by rw [hF]; exact set3 g6
      have hb6V := nx hb4V hb46
      have g1F := (hne (s + 1) (by omega)).trans ((hb6V.block _ (by omega)).trans HK1.out)
      have g2F := (hne (s + 2) (by omega)).trans ((hb6V.block _ (by omega)).trans HK2.out)
      have gkF := (hne w3.heap.size (by omega)).trans ((hb46.block _ (by omega)).trans HK4.out)
      have hkF : ∀ ts, 25 ∉ ts → Keeps A ts w6 F := fun ts ht => by rw [hF]; exact keeps_setCell 1 _ g6 ht (by omega)
      have hlF : LL A (rem b.2.1 id) (.slice a6 n6 c6) F := Is.keep eL 98 hlt (hkF _ (by decide))
      have hoF : LL A b.1 (.slice a4 n4 c4) F := Is.keep eL 98 (Is.stays eL 98 HX4.out hb46) (hkF _ (by decide))
      have hbF : Below s w F := by
        rw [hF]
        exact (hbV.trans (hb6V.mono (by omega))).setCell (by show s ≤ w4.heap.size; omega) _
      obtain ⟨b1, b2, b3, b4, b5, b6, b7, b8, b9⟩ := finM g0F g1F g2F gkF (by omega) (by omega)
      obtain ⟨_, _, e5, e6, e7, e8⟩ := fin2 (b := (b.1, rem b.2.1 id, b.2.2)) hAlo hbF hoF hlF g1F g2F hAx q
      simp only [HN.out] at e5 e6 e7 e8
      have HZ2 := Lib.hid (show _ ∧ _ ∧ _ ∧ _ from ⟨e5, e6, e7.drew, e8.stays (Below.refl _ _).drew⟩)
      have HC3 : Hid (C = ((b.1, rem b.2.1 id, b.2.2), q, 0)) := Lib.hid (by rw [HC2.out]; unfold remB; rw [if_neg (show ¬ (o1, o2, (2 : Int), o4, o5).2.2.1 = 1 by show ¬ (2 : Int) = 1; decide), show (o1, o2, (2 : Int), o4, o5).1 = id from hid1])
      have HF := Lib.hid hF
      clear e5 e6 e7 e8 hF hne g0F g1F g2F gkF hkF hlF hoF hbF g6 hlt hn6 HZ
      go_wp2
      rw [← HF.out]
      go_region
      go_wp2
      refine bodyPost_ret (v := .tuple #[.agg #[.slice a4 n4 c4, .slice a6 n6 c6, .int .i64 n], .agg (cO q), .int .i64 0]) (ret_BOE Tryz.results36 _ _ rfl ?c1 (cO_size q) ?c2) rfl ?c3
      case c1 => first | exact HZ2.out.1 | (simp only [go_sem]; exact HZ2.out.1)
      case c2 => first | exact HZ2.out.2.1 | (simp only [go_sem]; exact HZ2.out.2.1)
      case c3 => rw [HC3.out, HN.out]; exact ⟨_, rfl, by rw [HS.out]; exact HZ2.out.2.2.1, HZ2.out.2.2.2.up hAB⟩
  · have hd2 : (o2 == ow) = false := by simpa using how
    have HC3 := Lib.hid (HCc.out.1 how)
    clear how q0 q1
    go_wp2
    refine bodyPost_ret (v := .tuple #[.agg #[.slice a1 n1 c1, .slice a2 n2 c2, .int .i64 n], .agg (cO none), .int .i64 9]) (ret_BOE Tryz.results36 _ _ rfl ?c1 (cO_size none) ?c2) rfl ?c3
    case c1 => first | exact HZ.out.1 | (simp only [go_sem]; exact HZ.out.1)
    case c2 => first | exact HZ.out.2.1 | (simp only [go_sem]; exact HZ.out.2.1)
    case c3 => rw [HC3.out]; exact ⟨_, rfl, by rw [HS.out]; exact HZ.out.2.2.1, HZ.out.2.2.2.up hAB⟩
end Go.Proofs.YthecinmekoaphaaGreat.Bk
