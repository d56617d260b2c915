/- Of the statements of layer 18: awake. -/
import Derived.Test.YtoncmbglmebkiaaInG
namespace Go.Proofs.Ytoncmbglmebkiaa.In
open Go.RowKit
set_option linter.unusedVariables false
open Go.Proofs.Ytoncmbglmebkiaa.Rw
open Go.Proofs.Ytoncmbglmebkiaa.Da
open Go.Proofs.Ytoncmbglmebkiaa.Bv
open Go.Proofs.Ytoncmbglmebkiaa.Rc (Ins ci cv zeroI okI fnC nI nA isI fV qV dV isI_of)
open Go.Proofs.Ytoncmbglmebkiaa.St
def awL : List Ins := [oneJ 0 1 1 2, oneJ 1 2 2 4]
def awC : Nat → Int := Cm.v9 2 3 1 0 0 0 0 0 0
theorem aw0 : putG (oneJ 1 2 2 4) [] = [oneJ 1 2 2 4] := rfl
theorem aw1 : putG (oneJ 0 1 1 2) [oneJ 1 2 2 4] = awL := by
  have h : lessI (oneJ 1 2 2 4) (oneJ 0 1 1 2) = false := by decide
  have h2 : atI (oneJ 1 2 2 4) (oneJ 0 1 1 2) = false := by decide
  unfold putG awL
  simp [List.takeWhile, List.dropWhile, h, h2]
theorem aw2 : depN awL awC 0 2 = 5 := by decide
theorem aw3 : Ve.eqV (depV awL awC 0 2) (Rc.v7 0 2 0 0 0 0 0) = true := by decide
theorem aw4 : gotI awL 1 2 = oneJ 1 2 2 4 ∧ hasI awL 1 2 = true := ⟨rfl, rfl⟩
theorem aw5 : knownI awL 1 = 2 := by decide
theorem aw6 : (openI awL 3).length = 3 := by decide
theorem aw7 : lessP 1 2 0 1 = false := by decide
theorem aw8 : rightT awL 3 = true := by decide
theorem aw9 : Nums awL := by
  intro i hi
  simp only [awL, List.mem_cons, List.not_mem_nil, or_false] at hi
  rcases hi with rfl | rfl <;> (unfold Num oneJ; decide)
set_option maxRecDepth 16000 in
set_option maxHeartbeats 8000000 in
theorem awake_any (w : World) : Calls Try.prog 6 #[] w fun e w' => e = .returned (.bool true) ∧ Below w.heap.size w w' := by
  obtain ⟨q, hq⟩ : ∃ q, q = w.heap.size := ⟨_, rfl⟩
  have hq0 : q ≤ w.heap.size := by omega
  clear hq
  go_enter Try.func6, Try.ntmps6
  go_wp2_with fail
  refine (one_any 1 2 2 4 w).mono ?_
  rintro e w1 ⟨rfl, hb1⟩
  go_wp2_with fail
  refine (put_any q [] _ (oneJ 1 2 2 4) w1 (Is.nil _ _ _ _) (Nat.le_refl 0) (by have := hb1.size; omega) (by simp)).mono ?_
  rintro e w2 ⟨v2, rfl, hb2, ho2⟩
  rw [aw0] at ho2
  have bw2 := nx hb1 hb2
  have hq1 : q ≤ w1.heap.size := by have := hb1.size; omega
  have ht2 := ho2.ti hq1
  have HC2 := Lib.hid ho2.cap
  clear ho2
  have HT2 := Lib.hid ht2
  clear ht2
  go_wp2_with fail
  refine (one_any 0 1 1 2 w2).mono ?_
  rintro e w3 ⟨rfl, hb3⟩
  have bw3 := nx bw2 hb3
  have hq3 : q ≤ w3.heap.size := by have := bw3.size; omega
  go_wp2_with fail
  refine (put_any q _ _ (oneJ 0 1 1 2) w3 (HT2.out.stays hb3) HC2.out hq3 (by simp)).mono ?_
  rintro e w4 ⟨v4, rfl, hb4, ho4⟩
  rw [aw1] at ho4
  have bw4 := nx bw3 hb4
  have HT4 := Lib.hid (ho4.ti hq3)
  clear ho4
  have hdep := depends_any q awL v4 awC 0 2 w4 HT4.out (by decide)
  rw [aw2] at hdep
  obtain ⟨d, hd⟩ : ∃ d, depV awL awC 0 2 = d := ⟨_, rfl⟩
  have hE := aw3
  rw [hd] at hdep hE
  have HDep := Lib.hid hdep
  clear hd hdep
  go_wp2_with fail
  refine HDep.out.mono ?_
  rintro e w5 ⟨rfl, hb5⟩
  obtain ⟨D, hD⟩ : ∃ Q_ : World, (w5.alloc (.cells (Ve.fc Ve.zeroV) 31)).setRow w5.heap.size (Ve.fc d) = Q_ := ⟨_, rfl⟩
  have dD : Bx D w5.heap.size (Ve.fc d) 31 := hD ▸ Bx.put (Bx.new _ _ _) _
  have bD : Below w5.heap.size w5 D := hD ▸ below_setRow (below1 _ _) (Nat.le_refl _) _
  have dp := bx_vplain (Bx.new w5 (Ve.fc Ve.zeroV) 31) (Ve.fc_size _)
  have bD4 := nx hb5 bD
  have bwD := nx bw4 bD4
  have HTD := Lib.hid (HT4.out.stays bD4)
  go_wp2_with fail
  refine (get_is (Lib.hid aw4) _ D HTD.out (by decide)).mono ?_
  rintro e w6 ⟨rfl, hb6⟩
  have d6 := dD.stays hb6
  obtain ⟨X, hX⟩ : ∃ x, oneJ 1 2 2 4 = x := ⟨_, rfl⟩
  have HXq : Hid (X.q = 4) := Lib.hid (by rw [← hX]; rfl)
  rw [hX]
  obtain ⟨G, hG⟩ : ∃ Q_ : World, (w6.alloc (.cells (ci zeroI) 35)).setRow w6.heap.size (ci X) = Q_ := ⟨_, rfl⟩
  have gG : Bx G w6.heap.size (ci X) 35 := hG ▸ Bx.put (Bx.new _ _ _) _
  have bG : Below w6.heap.size w6 G := hG ▸ below_setRow (below1 _ _) (Nat.le_refl _) _
  have gp := (Bx.new w6 (ci zeroI) 35).plain (n := 25) rfl
  have dG := d6.stays bG
  have b6 := nx hb6 bG
  have bwG := nx bwD b6
  have HTG := Lib.hid (HTD.out.stays b6)
  obtain ⟨a4, c4, e4⟩ := HTG.out.len
  rw [show awL.length = 2 from rfl] at e4
  subst e4
  obtain ⟨b0, o0, rfl, _, hK0⟩ := TI.all HTG.out (Below.refl _ _) (k := 0) (by decide)
  obtain ⟨b1, o1, e1, _, hK1⟩ := TI.all HTG.out (Below.refl _ _) (k := 1) (by decide)
  simp only [Option.some.injEq, Addr.mk.injEq] at e1
  obtain ⟨rfl, rfl, _⟩ := e1
  have k16 : ∀ u, Below G.heap.size G u → u.cell? ⟨w6.heap.size, 16, none⟩ = some (.int .i64 4) := fun u hu => by
    rw [(gG.stays hu).cell, show (4 : Int) = X.q from HXq.out.symm]; rfl
  have hK : ∀ u, Below G.heap.size G u → TI q awL (.slice (some ⟨b0, o0, none⟩) 2 c4) u ∧ Ve.row u w5.heap.size = Ve.fc d ∧ u.cell? ⟨w6.heap.size, 16, none⟩ = some (.int .i64 4) ∧ (row u b0).extract o0 (o0 + 2) = #[.int .i64 0, .int .i64 1] ∧ (row u b0).extract (o0 + 25) (o0 + 25 + 2) = #[.int .i64 1, .int .i64 2] := fun u hu => by
    refine ⟨HTG.out.stays hu, bx_vrow (dG.stays hu), k16 u hu, ?_, ?_⟩
    · have := (hK0 u hu).2
      rw [Nat.zero_mul, Nat.add_zero] at this
      exact this
    · have := (hK1 u hu).2
      rw [Nat.one_mul] at this
      exact this
  have HK5 := Lib.hid aw5
  have HK7 := Lib.hid aw7
  have HK8 := Lib.hid aw8
  clear hK0 hK1 k16
  go_wp2
  refine Rf.region [0, 1, 2, 3, 4, 5, 6, 7, 8, 9, 10, 11, 12, 13, 14, 15, 16, 17, 18, 19, 20, 21, 22, 23, 24, 25, 26, 27, 28, 29, 30, 31, 32, 33, 34, 35, 36, 37, 38, 39, 40, 41, 42, 43] (by kernel_rfl) (by kernel_rfl) (by kernel_rfl) (fun _ _ d _ _ h => by cases d <;> exact h) ?_
  repeat (first | (refine Rf.Steps.skip (by rfl) (by kernel_rfl) (by rfl) ?_; simp only [Act.put, List.setIfInBounds_toArray, List.set_cons_zero, List.set_cons_succ]) | (refine Rf.Steps.pure (v := ?_) (by rfl) (by kernel_rfl) (by rfl) ?_ ?_; rotate_left; (intro w_ hS_; have hk_ := hK w_ hS_; go_simp <;> with_reducible rfl); simp only [Act.put, List.setIfInBounds_toArray, List.set_cons_zero, List.set_cons_succ]) | (refine Rf.Steps.call (v := ?_) (f := ?_) (args := ?_) (by rfl) (by kernel_rfl) (by rfl) ?_ ?_ ?_; rotate_left 3; (intro w_ hS_; have hk_ := hK w_ hS_; go_simp <;> first | with_reducible rfl | (constructor <;> with_reducible rfl)); (intro w_ hS_; have hk_ := hK w_ hS_; first | (go_at_call 10; refine (known_is HK5 _ _ hk_.1 (by decide)).mono ?_; first | (rintro e w_ ⟨rfl, rfl⟩; refine ⟨?_, Below.refl _ _⟩; with_reducible rfl) | (rintro e w_ ⟨rfl, hb_⟩; refine ⟨?_, hb_⟩; with_reducible rfl))); simp only [Act.put, List.setIfInBounds_toArray, List.set_cons_zero, List.set_cons_succ]))
  refine Rf.Steps.forced (by kernel_rfl) ?_
  refine Rf.One.call (fun v u => ∃ a c, v = .slice a 3 c) (fun v _ _ h k => h) (f := ?_) (args := ?_) (by rfl) (by rfl) ?_ ?_ ?_
  rotate_left 2
  · intro w_ hS_; have hk_ := hK w_ hS_; go_simp <;> first | with_reducible rfl | (constructor <;> with_reducible rfl)
  · intro w_ hS_; have hk_ := hK w_ hS_; exact (open_any q awL _ 3 _ hk_.1 (by have := bwG.size; have := hS_.size; omega) (by decide) aw9).mono fun e w' ⟨v, h1, h2, h3⟩ => ⟨v, h1, h3, by obtain ⟨a, c, h4⟩ := (h2.tp (by have := bwG.size; have := hS_.size; omega)).len; rw [aw6] at h4; exact ⟨a, c, h4⟩⟩
  intro vo u_ hvo
  simp only [Act.put, List.setIfInBounds_toArray, List.set_cons_zero, List.set_cons_succ]
  obtain ⟨a5, c5, rfl⟩ := hvo
  repeat (first | (refine Rf.Steps.skip (by rfl) (by kernel_rfl) (by rfl) ?_; simp only [Act.put, List.setIfInBounds_toArray, List.set_cons_zero, List.set_cons_succ]) | (refine Rf.Steps.pure (v := ?_) (by rfl) (by kernel_rfl) (by rfl) ?_ ?_; rotate_left; (intro w_ hS_; have hk_ := (fun u (hu : Below G.heap.size G u ∧ _) => hK u hu.1) w_ hS_; go_simp <;> with_reducible rfl); simp only [Act.put, List.setIfInBounds_toArray, List.set_cons_zero, List.set_cons_succ]) | (refine Rf.Steps.call (v := ?_) (f := ?_) (args := ?_) (by rfl) (by kernel_rfl) (by rfl) ?_ ?_ ?_; rotate_left 3; (intro w_ hS_; have hk_ := (fun u (hu : Below G.heap.size G u ∧ _) => hK u hu.1) w_ hS_; go_simp <;> first | with_reducible rfl | (constructor <;> with_reducible rfl)); (intro w_ hS_; have hk_ := (fun u (hu : Below G.heap.size G u ∧ _) => hK u hu.1) w_ hS_; first | (go_at_call 9; refine (less_is HK7 _).mono ?_; first | (rintro e w_ ⟨rfl, rfl⟩; refine ⟨?_, Below.refl _ _⟩; with_reducible rfl) | (rintro e w_ ⟨rfl, hb_⟩; refine ⟨?_, hb_⟩; with_reducible rfl)) | (go_at_call 11; refine (right_is HK8 _ _ hk_.1 (by decide)).mono ?_; first | (rintro e w_ ⟨rfl, rfl⟩; refine ⟨?_, Below.refl _ _⟩; with_reducible rfl) | (rintro e w_ ⟨rfl, hb_⟩; refine ⟨?_, hb_⟩; with_reducible rfl))); simp only [Act.put, List.setIfInBounds_toArray, List.set_cons_zero, List.set_cons_succ]))
  refine Rf.Steps.nil (by kernel_rfl) ?_
  intro w7 h7
  have b7 := nx bwG h7.1
  go_wp2
  go_ret
  exact ⟨rfl, b7⟩
end Go.Proofs.Ytoncmbglmebkiaa.In
