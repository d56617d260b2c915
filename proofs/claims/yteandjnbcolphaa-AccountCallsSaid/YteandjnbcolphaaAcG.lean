/- set, of the document's own. -/
import Derived.Test.YteandjnbcolphaaAcF
namespace Go.Proofs.Yteandjnbcolphaa.Ac
open Go.RowKit
set_option linter.unusedVariables false
open Go.Proofs.Yteandjnbcolphaa.Rw
open Go.Proofs.Yteandjnbcolphaa.Sl
theorem Own.below {B : Nat} {l : List Hd} {v : Value} {w w' : World} (h : Own B l v w) (k : Below w.heap.size w w') : Own B l v w' :=
  World.ownsRow.kept (row := none) h ⟨k.os, k.tape, k.output, k.size, fun i hi _ => k.block i hi⟩ (by
    cases e : v.ownBlock
    · exact .inl rfl
    · exact .inr (fun x => by cases x))
theorem grown_cell {w w' : World} {v : Value} {b : Nat} (hg : w.grownBy w' v.ownBlock) (hne : v.ownBlock ≠ some b) (hb : b < w.heap.size) (o : Nat) : w'.cell? ⟨b, o, none⟩ = w.cell? ⟨b, o, none⟩ :=
  World.cell?_of_block (w := w) (hg.block b hb (fun e => hne e.symm))
theorem own_ne {B : Nat} {l : List Hd} {v : Value} {w : World} (h : Own B l v w) {b : Nat} (hb : w.heap.size ≤ b) : v.ownBlock ≠ some b := fun e => by
  have := (World.ownsRow.lt h b e).2; omega
theorem setF_step (p : Pu) (n : Int) {l : List Hd} {k : Nat} (h : k < l.length) (d : Bool) : setF p n (l.drop k) d = (if !d && !pless (key l[k]) p then [(p.1, p.2, n)] else []) ++ (if key l[k] = p then [] else [l[k]]) ++ setF p n (l.drop (k + 1)) (d || !pless (key l[k]) p) := by
  rw [List.drop_eq_getElem_cons h, setF]
set_option maxHeartbeats 4000000 in
theorem set_any (l : List Hd) (v : Value) (p q n : Int) (w : World) (h : HL l v w) (hm : l.length ≤ 1000000) :
    Calls Try.prog 26 #[v, .agg #[.int .i64 p, .int .i64 q], .int .i64 n] w (Post (HL (set l (p, q) n)) w) := by
  obtain ⟨i0, hi, hz0, hz1, hz2⟩ := info_parts infoH
  obtain ⟨a, c, rfl, hdis⟩ := h
  have HD := Lib.hid hdis
  obtain ⟨m, hmn⟩ : ∃ m, m = l.length := ⟨_, rfl⟩
  rw [← hmn] at hm ⊢
  have HN := Lib.hid hmn
  clear hdis hmn
  obtain ⟨d0, hd0⟩ : ∃ d, (n == 0) = d := ⟨_, rfl⟩
  have HS : Hid (set l (p, q) n = setF (p, q) n l d0) := Lib.hid (by unfold set; rw [hd0])
  go_enter Try.func26, Try.ntmps26
  go_wp2
  obtain ⟨W, hW⟩ : ∃ W, W = w.alloc (.cells #[.int .i64 p, .int .i64 q] 24) := ⟨_, rfl⟩
  have kp : W.cell? ⟨w.heap.size, 0, none⟩ = some (.int .i64 p) := by rw [hW]; simp [go_sem]
  have kq : W.cell? ⟨w.heap.size, 1, none⟩ = some (.int .i64 q) := by rw [hW]; simp [go_sem]
  have hb0 : Below w.heap.size w W := hW ▸ below1 w _
  have hz : w.heap.size < W.heap.size := by rw [hW]; simp
  rw [← hW]
  clear hW hd0
  go_loopw [7, 8, 15] (fun t d i wr => ∃ (k : Nat) (o : List Hd) (e : Bool), k ≤ m ∧ i = .int .i64 k ∧ d = .bool e ∧ Below W.heap.size W wr ∧ Own W.heap.size o t wr ∧ o.length ≤ 2 * k ∧ o ++ setF (p, q) n (l.drop k) e = setF (p, q) n l d0) (fun _ _ i _ => m - (intOf i).toNat)
  case atStart => exact ⟨0, [], d0, Nat.zero_le _, rfl, rfl, Below.refl _ _, Own.nil _ _, Nat.zero_le _, rfl⟩
  case round =>
    obtain ⟨k, o, e, hk, rfl, rfl, hb, hown, hol, hset⟩ := hrel
    have HO := Lib.hid hown
    have HT := Lib.hid hset
    have hsz := hb.size
    clear hown hset
    obtain ⟨c1, f1, r1, p1⟩ := bcell hb
    by_cases hlt : k < m
    · have hlt2 : (k : Int) < m := by omega
      have hkl : k < l.length := by rw [← HN.out]; exact hlt
      obtain ⟨b, off, rfl, hat⟩ : ∃ b off, a = some ⟨b, off, none⟩ ∧ At enc 3 l b off w := by
        rcases HD.out with e | h
        · rw [e] at hkl; exact absurd hkl (by simp)
        · exact h
      have hbb := hat.1
      have hcw := at3 hat k hkl
      have hst := setF_step (p, q) n hkl e
      obtain ⟨⟨x, y, z⟩, hx⟩ : ∃ x, l[k] = x := ⟨_, rfl⟩
      rw [hx] at hcw hst
      simp only at hcw
      obtain ⟨g0, g1, g2⟩ := hcw
      have hlw := (bcell hb0).1
      have q0 : W.cell? ⟨b, off + k * 3, none⟩ = some (.int .i64 x) := by rw [hlw _ _ hbb]; exact g0
      have q1 : W.cell? ⟨b, off + k * 3 + 1, none⟩ = some (.int .i64 y) := by rw [hlw _ _ hbb]; exact g1
      have q2 : W.cell? ⟨b, off + k * 3 + 2, none⟩ = some (.int .i64 z) := by rw [hlw _ _ hbb]; exact g2
      have hbW : b < W.heap.size := by omega
      have hzw : w.heap.size < wr.heap.size := by omega
      have HST : Hid (setF (p, q) n (l.drop k) e = (if !e && !pless (x, y) (p, q) then [(p, q, n)] else []) ++ (if (x, y) = (p, q) then [] else [(x, y, z)]) ++ setF (p, q) n (l.drop (k + 1)) (e || !pless (x, y) (p, q))) := Lib.hid hst
      clear hst hx hat hlw g0 g1 g2
      cases e
      · cases hl : pless (x, y) (p, q)
        · have HL := Lib.hid hl
          have HST2 : Hid (setF (p, q) n (l.drop k) false = [(p, q, n)] ++ (if (x, y) = (p, q) then [] else [(x, y, z)]) ++ setF (p, q) n (l.drop (k + 1)) true) := Lib.hid (by rw [HST.out, hl]; rfl)
          clear hl
          cases he : eqP (x, y) (p, q)
          · have hne : (x, y) ≠ (p, q) := fun k => by rw [eqP_iff.2 k] at he; cases he
            have HS2 : Hid ((o ++ [(p, q, n)] ++ [(x, y, z)]) ++ setF (p, q) n (l.drop (k + 1)) true = setF (p, q) n l d0) := Lib.hid (by rw [← HT.out, HST2.out, if_neg hne]; simp)
            clear hne
            go_wp2_with fail
            obtain ⟨V, hV⟩ : ∃ V, V = wr.alloc (.cells #[.int .i64 x, .int .i64 y, .int .i64 z] 50) := ⟨_, rfl⟩
            have hbV : Below wr.heap.size wr V := hV ▸ below1 wr _
            have hzV : wr.heap.size < V.heap.size := by rw [hV]; simp
            have v0 : V.cell? ⟨wr.heap.size, 0, none⟩ = some (.int .i64 x) := by rw [hV]; simp [go_sem]
            have v1 : V.cell? ⟨wr.heap.size, 1, none⟩ = some (.int .i64 y) := by rw [hV]; simp [go_sem]
            have v2 : V.cell? ⟨wr.heap.size, 2, none⟩ = some (.int .i64 z) := by rw [hV]; simp [go_sem]
            rw [← hV]
            clear hV
            refine (less_is HL _).mono ?_
            rintro e w3 ⟨rfl, hb3⟩
            have cl := (bcell hb3).1
            have s0 : w3.cell? ⟨wr.heap.size, 0, none⟩ = some (.int .i64 x) := by rw [cl _ _ hzV]; exact v0
            have s1 : w3.cell? ⟨wr.heap.size, 1, none⟩ = some (.int .i64 y) := by rw [cl _ _ hzV]; exact v1
            have s2 : w3.cell? ⟨wr.heap.size, 2, none⟩ = some (.int .i64 z) := by rw [cl _ _ hzV]; exact v2
            have hbw3 : Below W.heap.size W w3 := nx hb (nx hbV hb3)
            have t0 : w3.cell? ⟨w.heap.size, 0, none⟩ = some (.int .i64 p) := by rw [hbw3.cell (p := ⟨w.heap.size, 0, none⟩) hz]; exact kp
            have t1 : w3.cell? ⟨w.heap.size, 1, none⟩ = some (.int .i64 q) := by rw [hbw3.cell (p := ⟨w.heap.size, 1, none⟩) hz]; exact kq
            have hs3 : wr.heap.size < w3.heap.size := by have := hb3.size; omega
            have hsW : W.heap.size ≤ w3.heap.size := hbw3.size
            have HO3 := Lib.hid (Own.below HO.out (nx hbV hb3))
            have hne3 : u7.ownBlock ≠ some wr.heap.size := own_ne HO.out (Nat.le_refl _)
            have HNE := Lib.hid hne3
            clear c1 f1 r1 p1 v0 v1 v2 hbV hb3 cl q0 q1 q2 hne3
            have hbA := hbw3.alloc hsW (.cells #[.int .i64 p, .int .i64 q, .int .i64 n] 50)
            go_wp2_with (at_builtin; refine wpList_append_own _ rfl _ _ 22 rfl (W.heap.size) 50 i0 (.agg #[.int .i64 0, .int .i64 0, .int .i64 0]) 3 24 Try.underlying22 hi hz0 hz1 hz2 rfl (by decide) _ _ _ rfl (HO3.out.alloc _) (⟨w3.heap.size, 0, none⟩) 1 1 (enc (p, q, n)) rfl rfl ?c1 ?c2 ?c3 ?c4 ?c5 ?_)
            case c1 => intro j u hj; rcases j with _ | _ | _ | _ | _ | _ <;> simp [enc] at hj <;> subst hj <;> simp [Addr.add, go_sem]
            case c2 => intro u hu; simp [enc] at hu; rcases hu with rfl | rfl | rfl <;> rfl
            case c3 => unfold maxLen; omega
            case c4 => omega
            case c5 => have := (hbA).size; simp at this ⊢; omega
            intro v4 w4 hown4 hg_ _
            have hb4 := (hbA).grown hg_ (by have := (hbA).size; simp at this ⊢; omega) (fun k_ hk_ => ((HO3.out).lt k_ hk_).1)
            have hg4 := hg_
            have ho2 : (o ++ [(p, q, n)]).length ≤ 2 * k + 1 := by rw [List.length_append]; simp; omega
            obtain ⟨o2, hoe⟩ : ∃ o2, o ++ [(p, q, n)] = o2 := ⟨_, rfl⟩
            have HO4 : Hid (Own W.heap.size o2 v4 w4) := Lib.hid (hoe ▸ Own.snoc hown4)
            rw [hoe] at HS2 ho2
            clear hoe
            have hz4 : wr.heap.size < (w3.alloc (.cells #[.int .i64 p, .int .i64 q, .int .i64 n] 50)).heap.size := by simp; omega
            have r0 : w4.cell? ⟨wr.heap.size, 0, none⟩ = some (.int .i64 x) := by rw [grown_cell hg4 HNE.out hz4]; simp [go_sem, hs3, s0]
            have r1 : w4.cell? ⟨wr.heap.size, 1, none⟩ = some (.int .i64 y) := by rw [grown_cell hg4 HNE.out hz4]; simp [go_sem, hs3, s1]
            have r2 : w4.cell? ⟨wr.heap.size, 2, none⟩ = some (.int .i64 z) := by rw [grown_cell hg4 HNE.out hz4]; simp [go_sem, hs3, s2]
            have t4 : w4.cell? ⟨w.heap.size, 0, none⟩ = some (.int .i64 p) := by rw [hb4.cell (p := ⟨w.heap.size, 0, none⟩) hz]; exact kp
            have t5 : w4.cell? ⟨w.heap.size, 1, none⟩ = some (.int .i64 q) := by rw [hb4.cell (p := ⟨w.heap.size, 1, none⟩) hz]; exact kq
            have hs4 := hb4.size
            clear hown4 hg_ hg4 hbA hz4 s0 s1 s2 t0 t1
            have hbA2 := hb4.alloc hs4 (.cells #[.int .i64 x, .int .i64 y, .int .i64 z] 50)
            go_wp2_with (at_builtin; refine wpList_append_own _ rfl _ _ 22 rfl (W.heap.size) 50 i0 (.agg #[.int .i64 0, .int .i64 0, .int .i64 0]) 3 24 Try.underlying22 hi hz0 hz1 hz2 rfl (by decide) _ _ _ rfl (HO4.out.alloc _) (⟨w4.heap.size, 0, none⟩) 1 1 (enc (x, y, z)) rfl rfl ?c1 ?c2 ?c3 ?c4 ?c5 ?_)
            case c1 => intro j u hj; rcases j with _ | _ | _ | _ | _ | _ <;> simp [enc] at hj <;> subst hj <;> simp [Addr.add, go_sem]
            case c2 => intro u hu; simp [enc] at hu; rcases hu with rfl | rfl | rfl <;> rfl
            case c3 => unfold maxLen; omega
            case c4 => omega
            case c5 => have := (hbA2).size; simp at this ⊢; omega
            intro v5 w5 hown5 hg_ _
            have hb5 := (hbA2).grown hg_ (by have := (hbA2).size; simp at this ⊢; omega) (fun k_ hk_ => ((HO4.out).lt k_ hk_).1)
            clear hg_
            have HO5 : Hid (Own W.heap.size (o2 ++ [(x, y, z)]) v5 w5) := Lib.hid (Own.snoc hown5)
            clear hown5 hbA2
            go_wp2
            go_roundw
            case rel => exact ⟨k + 1, o2 ++ [(x, y, z)], true, by omega, by go_num, rfl, hb5, HO5.out, by rw [List.length_append]; simp; omega, HS2.out⟩
            case measure => simp [intOf]; omega
          · have HS2 : Hid ((o ++ [(p, q, n)]) ++ setF (p, q) n (l.drop (k + 1)) true = setF (p, q) n l d0) := Lib.hid (by rw [← HT.out, HST2.out, if_pos (eqP_iff.1 he)]; simp)
            go_wp2_with fail
            obtain ⟨V, hV⟩ : ∃ V, V = wr.alloc (.cells #[.int .i64 x, .int .i64 y, .int .i64 z] 50) := ⟨_, rfl⟩
            have hbV : Below wr.heap.size wr V := hV ▸ below1 wr _
            have hzV : wr.heap.size < V.heap.size := by rw [hV]; simp
            have v0 : V.cell? ⟨wr.heap.size, 0, none⟩ = some (.int .i64 x) := by rw [hV]; simp [go_sem]
            have v1 : V.cell? ⟨wr.heap.size, 1, none⟩ = some (.int .i64 y) := by rw [hV]; simp [go_sem]
            have v2 : V.cell? ⟨wr.heap.size, 2, none⟩ = some (.int .i64 z) := by rw [hV]; simp [go_sem]
            rw [← hV]
            clear hV
            refine (less_is HL _).mono ?_
            rintro e w3 ⟨rfl, hb3⟩
            have cl := (bcell hb3).1
            have s0 : w3.cell? ⟨wr.heap.size, 0, none⟩ = some (.int .i64 x) := by rw [cl _ _ hzV]; exact v0
            have s1 : w3.cell? ⟨wr.heap.size, 1, none⟩ = some (.int .i64 y) := by rw [cl _ _ hzV]; exact v1
            have s2 : w3.cell? ⟨wr.heap.size, 2, none⟩ = some (.int .i64 z) := by rw [cl _ _ hzV]; exact v2
            have hbw3 : Below W.heap.size W w3 := nx hb (nx hbV hb3)
            have t0 : w3.cell? ⟨w.heap.size, 0, none⟩ = some (.int .i64 p) := by rw [hbw3.cell (p := ⟨w.heap.size, 0, none⟩) hz]; exact kp
            have t1 : w3.cell? ⟨w.heap.size, 1, none⟩ = some (.int .i64 q) := by rw [hbw3.cell (p := ⟨w.heap.size, 1, none⟩) hz]; exact kq
            have hs3 : wr.heap.size < w3.heap.size := by have := hb3.size; omega
            have hsW : W.heap.size ≤ w3.heap.size := hbw3.size
            have HO3 := Lib.hid (Own.below HO.out (nx hbV hb3))
            have hne3 : u7.ownBlock ≠ some wr.heap.size := own_ne HO.out (Nat.le_refl _)
            have HNE := Lib.hid hne3
            clear c1 f1 r1 p1 v0 v1 v2 hbV hb3 cl q0 q1 q2 hne3
            have hbA := hbw3.alloc hsW (.cells #[.int .i64 p, .int .i64 q, .int .i64 n] 50)
            go_wp2_with (at_builtin; refine wpList_append_own _ rfl _ _ 22 rfl (W.heap.size) 50 i0 (.agg #[.int .i64 0, .int .i64 0, .int .i64 0]) 3 24 Try.underlying22 hi hz0 hz1 hz2 rfl (by decide) _ _ _ rfl (HO3.out.alloc _) (⟨w3.heap.size, 0, none⟩) 1 1 (enc (p, q, n)) rfl rfl ?c1 ?c2 ?c3 ?c4 ?c5 ?_)
            case c1 => intro j u hj; rcases j with _ | _ | _ | _ | _ | _ <;> simp [enc] at hj <;> subst hj <;> simp [Addr.add, go_sem]
            case c2 => intro u hu; simp [enc] at hu; rcases hu with rfl | rfl | rfl <;> rfl
            case c3 => unfold maxLen; omega
            case c4 => omega
            case c5 => have := (hbA).size; simp at this ⊢; omega
            intro v4 w4 hown4 hg_ _
            have hb4 := (hbA).grown hg_ (by have := (hbA).size; simp at this ⊢; omega) (fun k_ hk_ => ((HO3.out).lt k_ hk_).1)
            have hg4 := hg_
            have HO4 : Hid (Own W.heap.size (o ++ [(p, q, n)]) v4 w4) := Lib.hid (Own.snoc hown4)
            have hz4 : wr.heap.size < (w3.alloc (.cells #[.int .i64 p, .int .i64 q, .int .i64 n] 50)).heap.size := by simp; omega
            have r0 : w4.cell? ⟨wr.heap.size, 0, none⟩ = some (.int .i64 x) := by rw [grown_cell hg4 HNE.out hz4]; simp [go_sem, hs3, s0]
            have r1 : w4.cell? ⟨wr.heap.size, 1, none⟩ = some (.int .i64 y) := by rw [grown_cell hg4 HNE.out hz4]; simp [go_sem, hs3, s1]
            have t4 : w4.cell? ⟨w.heap.size, 0, none⟩ = some (.int .i64 p) := by rw [hb4.cell (p := ⟨w.heap.size, 0, none⟩) hz]; exact kp
            have t5 : w4.cell? ⟨w.heap.size, 1, none⟩ = some (.int .i64 q) := by rw [hb4.cell (p := ⟨w.heap.size, 1, none⟩) hz]; exact kq
            have hs4 := hb4.size
            clear hown4 hg_ hg4 hbA hz4 s0 s1 s2 t0 t1
            go_wp2
            go_roundw
            case rel => exact ⟨k + 1, o ++ [(p, q, n)], true, by omega, by go_num, rfl, hb4, HO4.out, by rw [List.length_append]; simp; omega, HS2.out⟩
            case measure => simp [intOf]; omega
        · have HL := Lib.hid hl
          have hne : (x, y) ≠ (p, q) := fun k => by rw [k, pless_irrefl] at hl; cases hl
          have he : eqP (x, y) (p, q) = false := by
            cases e : eqP (x, y) (p, q)
            · rfl
            · exact absurd (eqP_iff.1 e) hne
          have HS2 : Hid ((o ++ [(x, y, z)]) ++ setF (p, q) n (l.drop (k + 1)) false = setF (p, q) n l d0) := Lib.hid (by rw [← HT.out, HST.out, hl, if_neg hne]; simp)
          clear hne hl
          go_wp2_with fail
          obtain ⟨V, hV⟩ : ∃ V, V = wr.alloc (.cells #[.int .i64 x, .int .i64 y, .int .i64 z] 50) := ⟨_, rfl⟩
          have hbV : Below wr.heap.size wr V := hV ▸ below1 wr _
          have hzV : wr.heap.size < V.heap.size := by rw [hV]; simp
          have v0 : V.cell? ⟨wr.heap.size, 0, none⟩ = some (.int .i64 x) := by rw [hV]; simp [go_sem]
          have v1 : V.cell? ⟨wr.heap.size, 1, none⟩ = some (.int .i64 y) := by rw [hV]; simp [go_sem]
          have v2 : V.cell? ⟨wr.heap.size, 2, none⟩ = some (.int .i64 z) := by rw [hV]; simp [go_sem]
          rw [← hV]
          clear hV
          refine (less_is HL _).mono ?_
          rintro e w3 ⟨rfl, hb3⟩
          have cl := (bcell hb3).1
          have s0 : w3.cell? ⟨wr.heap.size, 0, none⟩ = some (.int .i64 x) := by rw [cl _ _ hzV]; exact v0
          have s1 : w3.cell? ⟨wr.heap.size, 1, none⟩ = some (.int .i64 y) := by rw [cl _ _ hzV]; exact v1
          have s2 : w3.cell? ⟨wr.heap.size, 2, none⟩ = some (.int .i64 z) := by rw [cl _ _ hzV]; exact v2
          have hbw3 : Below W.heap.size W w3 := nx hb (nx hbV hb3)
          have t0 : w3.cell? ⟨w.heap.size, 0, none⟩ = some (.int .i64 p) := by rw [hbw3.cell (p := ⟨w.heap.size, 0, none⟩) hz]; exact kp
          have t1 : w3.cell? ⟨w.heap.size, 1, none⟩ = some (.int .i64 q) := by rw [hbw3.cell (p := ⟨w.heap.size, 1, none⟩) hz]; exact kq
          have hs3 : wr.heap.size < w3.heap.size := by have := hb3.size; omega
          have hsW : W.heap.size ≤ w3.heap.size := hbw3.size
          have HO3 := Lib.hid (Own.below HO.out (nx hbV hb3))
          have hne3 : u7.ownBlock ≠ some wr.heap.size := own_ne HO.out (Nat.le_refl _)
          have HNE := Lib.hid hne3
          clear c1 f1 r1 p1 v0 v1 v2 hbV hb3 cl q0 q1 q2 hne3
          have hbA := hbw3.alloc hsW (.cells #[.int .i64 x, .int .i64 y, .int .i64 z] 50)
          go_wp2_with (at_builtin; refine wpList_append_own _ rfl _ _ 22 rfl (W.heap.size) 50 i0 (.agg #[.int .i64 0, .int .i64 0, .int .i64 0]) 3 24 Try.underlying22 hi hz0 hz1 hz2 rfl (by decide) _ _ _ rfl (HO3.out.alloc _) (⟨w3.heap.size, 0, none⟩) 1 1 (enc (x, y, z)) rfl rfl ?c1 ?c2 ?c3 ?c4 ?c5 ?_)
          case c1 => intro j u hj; rcases j with _ | _ | _ | _ | _ | _ <;> simp [enc] at hj <;> subst hj <;> simp [Addr.add, go_sem]
          case c2 => intro u hu; simp [enc] at hu; rcases hu with rfl | rfl | rfl <;> rfl
          case c3 => unfold maxLen; omega
          case c4 => omega
          case c5 => have := (hbA).size; simp at this ⊢; omega
          intro v4 w4 hown4 hg_ _
          have hb4 := (hbA).grown hg_ (by have := (hbA).size; simp at this ⊢; omega) (fun k_ hk_ => ((HO3.out).lt k_ hk_).1)
          clear hg_
          have HO4 : Hid (Own W.heap.size (o ++ [(x, y, z)]) v4 w4) := Lib.hid (Own.snoc hown4)
          clear hown4 hbA
          go_wp2
          go_roundw
          case rel => exact ⟨k + 1, o ++ [(x, y, z)], false, by omega, by go_num, rfl, hb4, HO4.out, by rw [List.length_append]; simp; omega, HS2.out⟩
          case measure => simp [intOf]; omega
      · cases he : eqP (x, y) (p, q)
        · have hne : (x, y) ≠ (p, q) := fun k => by rw [eqP_iff.2 k] at he; cases he
          have HS2 : Hid ((o ++ [(x, y, z)]) ++ setF (p, q) n (l.drop (k + 1)) true = setF (p, q) n l d0) := Lib.hid (by rw [← HT.out, HST.out, if_neg hne]; simp)
          clear hne
          have hbA := (hb.alloc (by omega) (.cells #[.int .i64 x, .int .i64 y, .int .i64 z] 50)).alloc (by simp; omega) (.cells #[.int .i64 x, .int .i64 y, .int .i64 z] 50)
          go_wp2_with (at_builtin; refine wpList_append_own _ rfl _ _ 22 rfl (W.heap.size) 50 i0 (.agg #[.int .i64 0, .int .i64 0, .int .i64 0]) 3 24 Try.underlying22 hi hz0 hz1 hz2 rfl (by decide) _ _ _ rfl (HO.out.alloc _ |>.alloc _) (⟨wr.heap.size + 1, 0, none⟩) 1 1 (enc (x, y, z)) rfl rfl ?c1 ?c2 ?c3 ?c4 ?c5 ?_)
          case c1 => intro j u hj; rcases j with _ | _ | _ | _ | _ | _ <;> simp [enc] at hj <;> subst hj <;> simp [Addr.add, go_sem]
          case c2 => intro u hu; simp [enc] at hu; rcases hu with rfl | rfl | rfl <;> rfl
          case c3 => unfold maxLen; omega
          case c4 => omega
          case c5 => have := (hbA).size; simp at this ⊢; omega
          intro v2 w2 hown2 hg_ _
          have hb2 := (hbA).grown hg_ (by have := (hbA).size; simp at this ⊢; omega) (fun k_ hk_ => ((HO.out).lt k_ hk_).1)
          clear hg_
          have HO2 : Hid (Own W.heap.size (o ++ [(x, y, z)]) v2 w2) := Lib.hid (Own.snoc hown2)
          clear hown2 hbA
          go_wp2
          go_roundw
          case rel => exact ⟨k + 1, o ++ [(x, y, z)], true, by omega, by go_num, rfl, hb2, HO2.out, by rw [List.length_append]; simp; omega, HS2.out⟩
          case measure => simp [intOf]; omega
        · have HS2 : Hid (o ++ setF (p, q) n (l.drop (k + 1)) true = setF (p, q) n l d0) := Lib.hid (by rw [← HT.out, HST.out, if_pos (eqP_iff.1 he)]; simp)
          have HO2 : Hid (Own W.heap.size o u7 (wr.alloc (.cells #[.int .i64 x, .int .i64 y, .int .i64 z] 50))) := Lib.hid (HO.out.alloc _)
          go_wp2
          go_roundw
          case rel => exact ⟨k + 1, o, true, by omega, by go_num, rfl, hb.alloc hsz _, HO2.out, by omega, HS2.out⟩
          case measure => simp [intOf]; omega
    · obtain rfl : k = m := by omega
      have hfin : setF (p, q) n (l.drop k) e = if e then [] else [(p, q, n)] := by rw [HN.out, List.drop_length]; rfl
      rw [hfin] at HT
      have HF := HT
      clear hfin
      cases e
      · have HS2 : Hid (o ++ [(p, q, n)] = set l (p, q) n) := Lib.hid (by rw [HS.out, ← HF.out]; rfl)
        have hbA := hb.alloc (by omega) (.cells #[.int .i64 p, .int .i64 q, .int .i64 n] 50)
        go_wp2_with (at_builtin; refine wpList_append_own _ rfl _ _ 22 rfl (W.heap.size) 50 i0 (.agg #[.int .i64 0, .int .i64 0, .int .i64 0]) 3 24 Try.underlying22 hi hz0 hz1 hz2 rfl (by decide) _ _ _ rfl (HO.out.alloc _) (⟨wr.heap.size, 0, none⟩) 1 1 (enc (p, q, n)) rfl rfl ?c1 ?c2 ?c3 ?c4 ?c5 ?_)
        case c1 => intro j u hj; rcases j with _ | _ | _ | _ | _ | _ <;> simp [enc] at hj <;> subst hj <;> simp [Addr.add, go_sem]
        case c2 => intro u hu; simp [enc] at hu; rcases hu with rfl | rfl | rfl <;> rfl
        case c3 => unfold maxLen; omega
        case c4 => omega
        case c5 => have := (hbA).size; simp at this ⊢; omega
        intro v2 w2 hown2 hg_ _
        have hb2 := (hbA).grown hg_ (by have := (hbA).size; simp at this ⊢; omega) (fun k_ hk_ => ((HO.out).lt k_ hk_).1)
        clear hg_
        have HO2 : Hid (Own W.heap.size (set l (p, q) n) v2 w2) := Lib.hid (by rw [← HS2.out]; exact Own.snoc hown2)
        clear hown2 hbA
        go_wp2
        go_ret
        exact ⟨_, rfl, nx hb0 hb2, HO2.out.hl⟩
      · have HS2 : Hid (o = set l (p, q) n) := Lib.hid (by rw [HS.out, ← HF.out]; simp)
        go_wp2
        go_ret
        exact ⟨_, rfl, nx hb0 hb, by rw [← HS2.out]; exact HO.out.hl⟩
end Go.Proofs.Yteandjnbcolphaa.Ac
