/- Package session as it landed: Note. -/
import Derived.Test.YtigoemecphilkaaSfB
import Derived.Test.YtigoemecphilkaaSfC
import Derived.Test.YtigoemecphilkaaSfD
import Derived.Test.YtigoemecphilkaaSfE
import Derived.Test.YtigoemecphilkaaRf
namespace Go.Proofs.Ytigoemecphilkaa.Se
open Go.RowKit
set_option linter.unusedVariables false
open Go.Proofs.Ytigoemecphilkaa.Rw
open Go.Proofs.Ytigoemecphilkaa.Da
theorem right_one (s : Sn) : right [s] = okS s := by
  cases h : okS s
  · cases k : right [s]
    · rfl
    · have := (right_iff.1 k).1 s List.mem_cons_self; rw [h] at this; cases this
  · exact right_iff.2 ⟨by simp [h], by simp⟩
theorem right_is {q : Bool} {l : List Sn} (H : Hid (right l = q)) {B : Bs} {v : Value} {w : World} (h : NL B l v w) (hm : l.length ≤ 1000000) :
    Calls Try.prog 12 #[v] w fun e w' => e = .returned (.bool q) ∧ Below w.heap.size w w' := by
  rw [← H.out]; exact right_any B l v w h hm
theorem last_is {q : Int} {c : Int} {l : List Sn} (H : Hid (last c l = q)) {B : Bs} {v : Value} {w : World} (h : NL B l v w) (hm : l.length ≤ 1000000) :
    Calls Try.prog 14 #[v, .int .i64 c] w fun e w' => e = .returned (.int .i64 q) ∧ Below w.heap.size w w' := by
  rw [← H.out]; exact last_any B l v c w h hm
section
variable (ρ : Operand → Value) (dst : Option Tmp) (ty : TypeId) (pos : String) (after : Array Edge) (guard : Option (Nat × Bool)) (w : World)
theorem hiS (x y : Operand) (h : hiOk (ρ x) (ρ y) = true) : (execOp ρ { dst, op := .slice 22 x none (some y) none, type := ty, pos, after, guard }).run Try.prog w = .ok (.value (cutHi 7 (natOf (ρ y)) (ρ x))) w :=
  exec_hi ρ dst ty pos after guard w elemS x y h
theorem loS (x y : Operand) (h : loOk (ρ x) (ρ y) = true) : (execOp ρ { dst, op := .slice 22 x (some y) none none, type := ty, pos, after, guard }).run Try.prog w = .ok (.value (cutLo 7 (natOf (ρ y)) (ρ x))) w :=
  exec_lo ρ dst ty pos after guard w elemS x y h
end
attribute [local go_sem ↓] hiS loS
def PostN (B : Bs) (l : List Sn) (r : Rp) (w : World) (e : Ending) (w' : World) : Prop := ∃ v, e = .returned (.tuple #[v, .int .i64 (noteE l r)]) ∧ Below w.heap.size w w' ∧ NC B (noteL l r) v w'
theorem PostN.same {B : Bs} {l : List Sn} {r : Rp} {w w' : World} {v : Value} {k : Int} (he : noteE l r = k) (hk : k ≠ 0) (hb : Below w.heap.size w w') (h : NC B l v w') : PostN B l r w (.returned (.tuple #[v, .int .i64 k])) w' :=
  ⟨v, by rw [he], hb, by unfold noteL; rw [he, if_neg hk]; exact h⟩
set_option maxRecDepth 8000 in
set_option maxHeartbeats 4000000 in
theorem note_any (B : Bs) (l : List Sn) (v : Value) (r1 r2 r3 r4 r5 : Int) (w : World) (h : NC B l v w) (hB : B.le w.heap.size) (hm : l.length ≤ 100000) :
    Calls Try.prog 7 #[v, .agg #[.int .i64 r1, .int .i64 r2, .int .i64 r3, .int .i64 r4, .int .i64 r5]] w (PostN B l (r1, r2, r3, r4, r5) w) := by
  have hm6 : l.length ≤ 1000000 := by omega
  obtain ⟨rr, hrr⟩ : ∃ q, right l = q := ⟨_, rfl⟩
  obtain ⟨mm, hmm⟩ : ∃ q, okS (mk (r1, r2, r3, r4, r5)) = q := ⟨_, rfl⟩
  obtain ⟨la, hla⟩ : ∃ q, last r1 l = q := ⟨_, rfl⟩
  have HR := Lib.hid hrr
  have HM := Lib.hid (show right [mk (r1, r2, r3, r4, r5)] = mm by rw [right_one, hmm])
  have HL := Lib.hid hla
  have hE : noteE l (r1, r2, r3, r4, r5) = if (rr && mm) = true then (if r2 ≤ la then 13 else 0) else 1 := by unfold noteE; rw [hrr, hmm, ← hla]
  have HH := Lib.hid (show ∀ u, Below w.heap.size w u → NC B l v u ∧ B.le u.heap.size from fun u hu => ⟨NC.stays h hu, hB.mono hu.size⟩)
  obtain ⟨V, hV⟩ : ∃ V, V = (w.alloc (.cells #[.int .i64 r1, .int .i64 r2, .int .i64 r3, .int .i64 r4, .int .i64 r5] 25)).alloc (.cells #[.int .i64 r1, .int .i64 r2, .int .i64 r1, .int .i64 r2, .int .i64 r3, .int .i64 r4, .int .i64 r5] 42) := ⟨_, rfl⟩
  have hbV : Below w.heap.size w V := hV ▸ below2 w _ _
  have hz : w.heap.size + 1 < V.heap.size := by rw [hV]; simp
  have hrow : row V (w.heap.size + 1) = #[.int .i64 r1, .int .i64 r2, .int .i64 r1, .int .i64 r2, .int .i64 r3, .int .i64 r4, .int .i64 r5] := by rw [hV]; simp [go_sem]
  have HK := Lib.hid (show ∀ u, Below V.heap.size V u → row u (w.heap.size + 1) = #[.int .i64 r1, .int .i64 r2, .int .i64 r1, .int .i64 r2, .int .i64 r3, .int .i64 r4, .int .i64 r5] ∧ u.cell? ⟨w.heap.size + 1, 0, none⟩ = some (.int .i64 r1) ∧ u.cell? ⟨w.heap.size + 1, 1, none⟩ = some (.int .i64 r2) from by
    intro u hu
    have hr : row u (w.heap.size + 1) = row V (w.heap.size + 1) := (bcell hu).2.2.1 _ hz
    have hs : (row u (w.heap.size + 1)).size = 6 + 1 := by rw [hr, hrow]; rfl
    exact ⟨by rw [hr, hrow], by rw [cell_row _ _ _ hs, hr, hrow]; rfl, by rw [cell_row _ _ _ hs, hr, hrow]; rfl⟩)
  have HV := Lib.hid hV
  obtain ⟨a1, c1, rfl, hcp⟩ := capOk_len h.1 h.2
  obtain ⟨n, hn⟩ : ∃ n, n = l.length := ⟨_, rfl⟩
  rw [← hn] at HH hcp ⊢
  have HN := Lib.hid hn
  clear h hB hrr hla hV hrow hn
  cases rr
  · have HE := Lib.hid (show noteE l (r1, r2, r3, r4, r5) = 1 by rw [hE]; rfl)
    clear hE hmm
    go_enter Try.func7, Try.ntmps7
    go_wp2_with fail
    rw [← HV.out]
    refine (right_is HR (HH.out V hbV).1.1 hm6).mono ?_
    rintro e w1 ⟨rfl, hb1⟩
    go_wp2
    go_ret2
    exact PostN.same HE.out (by decide) (nx hbV hb1) (HH.out _ (nx hbV hb1)).1
  cases mm
  · have HE := Lib.hid (show noteE l (r1, r2, r3, r4, r5) = 1 by rw [hE]; rfl)
    clear hE hmm
    go_enter Try.func7, Try.ntmps7
    go_wp2_with fail
    rw [← HV.out]
    refine (right_is HR (HH.out V hbV).1.1 hm6).mono ?_
    rintro e w1 ⟨rfl, hb1⟩
    obtain ⟨k1, k2, k3⟩ := HK.out w1 hb1
    go_wp2_with fail
    refine (right_is HM (Is.one (T := 42) (HH.out w1 (nx hbV hb1)).2 (x := mk (r1, r2, r3, r4, r5)) (e := eS) rfl) (by simp)).mono ?_
    rintro e w2 ⟨rfl, hb2⟩
    have hb3 := nx hbV (nx hb1 (nx (below1 _ _) hb2))
    clear k1 k2 k3
    go_wp2
    go_ret2
    exact PostN.same HE.out (by decide) hb3 (HH.out _ hb3).1
  have hE2 : noteE l (r1, r2, r3, r4, r5) = if r2 ≤ la then 13 else 0 := hE
  clear hE
  by_cases hle : r2 ≤ la
  · have hd : decide (r2 ≤ la) = true := decide_eq_true hle
    have HE := Lib.hid (show noteE l (r1, r2, r3, r4, r5) = 13 by rw [hE2, if_pos hle])
    clear hE2 hmm
    go_enter Try.func7, Try.ntmps7
    go_wp2_with fail
    rw [← HV.out]
    refine (right_is HR (HH.out V hbV).1.1 hm6).mono ?_
    rintro e w1 ⟨rfl, hb1⟩
    obtain ⟨k1, k2, k3⟩ := HK.out w1 hb1
    go_wp2_with fail
    refine (right_is HM (Is.one (T := 42) (HH.out w1 (nx hbV hb1)).2 (x := mk (r1, r2, r3, r4, r5)) (e := eS) rfl) (by simp)).mono ?_
    rintro e w2 ⟨rfl, hb2⟩
    have hb3 := nx hb1 (nx (below1 _ _) hb2)
    clear k1 k2 k3
    have hK := fun u (hu : Below w2.heap.size w2 u) => HK.out u (nx hb3 hu)
    go_wp2
    refine Rg.region (by kernel_rfl) (by kernel_rfl) (by kernel_rfl) (fun _ _ d _ _ h => by cases d <;> exact h) _ rfl ?_
    repeat (first | (refine Rg.Seq.skip (by rfl) ?_; simp only [Act.put, List.setIfInBounds_toArray, List.set_cons_zero, List.set_cons_succ]) | (refine Rg.Seq.pure (v := ?_) (by rfl) ?_ ?_; rotate_left; (intro w_ hS_; have hk_ := hK w_ hS_; go_simp <;> with_reducible rfl); simp only [Act.put, List.setIfInBounds_toArray, List.set_cons_zero, List.set_cons_succ]) | (refine Rg.Seq.call (v := ?_) (f := ?_) (args := ?_) (by rfl) ?_ ?_ ?_; rotate_left 3; (intro w_ hS_; have hk_ := hK w_ hS_; go_simp <;> first | with_reducible rfl | (constructor <;> with_reducible rfl)); (intro w_ hS_; first | (go_at_call 14; refine (last_is HL (HH.out w_ (nx hbV (nx hb3 hS_))).1.1 hm6).mono ?_; rintro e w_ ⟨rfl, hb_⟩; refine ⟨?_, nx hS_ hb_⟩; with_reducible rfl)); simp only [Act.put, List.setIfInBounds_toArray, List.set_cons_zero, List.set_cons_succ]))
    intro w3 hb4
    have hb5 := nx hbV (nx hb3 hb4)
    go_wp2
    go_ret2
    exact PostN.same HE.out (by decide) hb5 (HH.out _ hb5).1
  · have hd : decide (r2 ≤ la) = false := decide_eq_false hle
    have HRt : Hid (Right l) := Lib.hid (right_iff.1 HR.out)
    obtain ⟨cn, hcn⟩ : ∃ q, cntS r1 l = q := ⟨_, rfl⟩
    obtain ⟨ff, hff⟩ : ∃ q, atS r1 l = q := ⟨_, rfl⟩
    obtain ⟨nn, hnn⟩ : ∃ q, q = cn + if ff = true then 1 else 0 := ⟨_, rfl⟩
    have hcl : cn ≤ n := by rw [← hcn, HN.out]; exact cntS_le _ _
    have hnl : nn ≤ n := by
      cases ff
      · simp at hnn; omega
      · have : cn < l.length := by
          rw [← hcn]
          unfold atS at hff
          split at hff
          · rename_i x hx; exact (List.getElem?_eq_some_iff.1 hx).1
          · cases hff
        simp at hnn; rw [HN.out]; omega
    have HE := Lib.hid (show noteE l (r1, r2, r3, r4, r5) = 0 ∧ noteL l (r1, r2, r3, r4, r5) = l.take cn ++ ([mk (r1, r2, r3, r4, r5)] ++ l.drop nn) from by
      have h0 : noteE l (r1, r2, r3, r4, r5) = 0 := by rw [hE2, if_neg hle]
      refine ⟨h0, ?_⟩
      unfold noteL
      rw [if_pos h0, put_search _ HRt.out]
      show l.take (cntS r1 l) ++ ([mk (r1, r2, r3, r4, r5)] ++ l.drop (cntS r1 l + if atS r1 l = true then 1 else 0)) = _
      rw [hcn, hff, ← hnn])
    have HS := Lib.hid (show cntS r1 l = cn ∧ atS r1 l = ff from ⟨hcn, hff⟩)
    have hH0 := (HH.out w (Below.refl _ _)).1
    have hi1 := hH0.1.cutHi (k := cn) (by rw [← HN.out]; exact hcl)
    have lo1 := hH0.1.cutLo hH0.2 (k := nn) (by rw [← HN.out]; exact hnl)
    obtain ⟨a2, c2, q2⟩ := hi1.len
    obtain ⟨a3, c3, q3⟩ := lo1.len
    rw [List.length_take, Nat.min_eq_left (by rw [← HN.out]; exact hcl)] at q2
    rw [List.length_drop, ← HN.out] at q3
    have HI := Lib.hid (show ∀ u, Below w.heap.size w u → NL B (l.take cn) (.slice a2 cn c2) u ∧ NL B (l.drop nn) (.slice a3 (n - nn) c3) u from fun u hu => ⟨Is.stays eS 42 (q2 ▸ hi1) hu, Is.stays eS 42 (q3 ▸ lo1) hu⟩)
    have q2 : cutHi 7 cn (.slice a1 n c1) = .slice a2 cn c2 := q2
    have q3 : cutLo 7 nn (.slice a1 n c1) = .slice a3 (n - nn) c3 := q3
    have hcc : cn ≤ c1 := by omega
    clear hE2 hmm hcn hff hi1 lo1 hH0
    go_enter Try.func7, Try.ntmps7
    go_wp2_with fail
    rw [← HV.out]
    refine (right_is HR (HH.out V hbV).1.1 hm6).mono ?_
    rintro e w1 ⟨rfl, hb1⟩
    obtain ⟨k1, k2, k3⟩ := HK.out w1 hb1
    go_wp2_with fail
    refine (right_is HM (Is.one (T := 42) (HH.out w1 (nx hbV hb1)).2 (x := mk (r1, r2, r3, r4, r5)) (e := eS) rfl) (by simp)).mono ?_
    rintro e w2 ⟨rfl, hb2⟩
    have hb3 := nx hb1 (nx (below1 _ _) hb2)
    clear k1 k2 k3
    have hK := fun u (hu : Below w2.heap.size w2 u) => HK.out u (nx hb3 hu)
    go_wp2
    refine Rg.region (by kernel_rfl) (by kernel_rfl) (by kernel_rfl) (fun _ _ d _ _ h => by cases d <;> exact h) _ rfl ?_
    repeat (first | (refine Rg.Seq.skip (by rfl) ?_; simp only [Act.put, List.setIfInBounds_toArray, List.set_cons_zero, List.set_cons_succ]) | (refine Rg.Seq.pure (v := ?_) (by rfl) ?_ ?_; rotate_left; (intro w_ hS_; have hk_ := hK w_ hS_; go_simp <;> with_reducible rfl); simp only [Act.put, List.setIfInBounds_toArray, List.set_cons_zero, List.set_cons_succ]) | (refine Rg.Seq.call (v := ?_) (f := ?_) (args := ?_) (by rfl) ?_ ?_ ?_; rotate_left 3; (intro w_ hS_; have hk_ := hK w_ hS_; go_simp <;> first | with_reducible rfl | (constructor <;> with_reducible rfl)); (intro w_ hS_; first | (go_at_call 14; refine (last_is HL (HH.out w_ (nx hbV (nx hb3 hS_))).1.1 hm6).mono ?_; rintro e w_ ⟨rfl, hb_⟩; refine ⟨?_, nx hS_ hb_⟩; with_reducible rfl)); simp only [Act.put, List.setIfInBounds_toArray, List.set_cons_zero, List.set_cons_succ]))
    intro w3 hb4
    have hb5 := nx hb3 hb4
    obtain ⟨k1, k2, k3⟩ := HK.out w3 hb5
    go_wp2_with fail
    refine (search_any B l _ r1 r2 r1 r2 r3 r4 r5 w3 (HN.out ▸ (HH.out w3 (nx hbV hb5)).1.1) hm6 HRt.out).mono ?_
    rintro e w4 ⟨rfl, hb6⟩
    rw [HS.out.1, HS.out.2]
    have hb7 := nx hb5 hb6
    clear k1 k2 k3 hb1 hb2 hb3 hb4 hb5 hb6 hK
    have hK := fun u (hu : Below w4.heap.size w4 u) => HK.out u (nx hb7 hu)
    cases ff
    · have e1 : nn = cn := by simpa using hnn
      clear hnn
      subst e1
      go_wp2
      refine Rf.region [0, 1, 2, 3, 5, 6, 7, 4, 8, 9, 10, 11] (by kernel_rfl) (by kernel_rfl) (by kernel_rfl) (fun _ _ d _ _ h => by cases d <;> exact h) ?_
      repeat (first | (refine Rf.Steps.skip (by rfl) (by kernel_rfl) (by rfl) ?_; simp only [Act.put, List.setIfInBounds_toArray, List.set_cons_zero, List.set_cons_succ]) | (refine Rf.Steps.pure (v := ?_) (by rfl) (by kernel_rfl) (by rfl) ?_ ?_; rotate_left; (intro w_ hS_; have hk_ := hK w_ hS_; go_simp <;> with_reducible rfl); simp only [Act.put, List.setIfInBounds_toArray, List.set_cons_zero, List.set_cons_succ]))
      refine Rf.Steps.forced (i := 4) (by kernel_rfl) ?_
      refine Rf.One.val (fun v u => ∃ b, v = .slice (some ⟨b, 0, none⟩) 1 1 ∧ NL B [mk (r1, r2, r3, r4, r5)] v u) (fun v _ _ h k => h.imp fun b h => ⟨h.1, Is.stays eS 42 h.2 k⟩) (by rfl) (by rfl) ?_ ?_
      · intro w_ hS_
        refine ⟨_, _, ?_, below1 w_ (.cells #[.int .i64 r1, .int .i64 r2, .int .i64 r1, .int .i64 r2, .int .i64 r3, .int .i64 r4, .int .i64 r5] 42), ⟨_, rfl, Is.one (T := 42) (HH.out w_ (nx hbV (nx hb7 hS_))).2 (x := mk (r1, r2, r3, r4, r5)) (e := eS) rfl⟩⟩
        go_simp
      intro v1 u1 hv1
      obtain ⟨b1, rfl, _⟩ := hv1
      simp only [Act.put, List.setIfInBounds_toArray, List.set_cons_zero, List.set_cons_succ]
      refine Rf.Steps.forced (i := 8) (by kernel_rfl) ?_
      refine Rf.One.val (fun v u => ∃ b, v = .slice (some ⟨b, 0, none⟩) 3 3 ∧ b < u.heap.size ∧ u.cell? ⟨b, 0, none⟩ = some (.slice a2 nn c2) ∧ u.cell? ⟨b, 1, none⟩ = some (.slice (some ⟨b1, 0, none⟩) 1 1) ∧ u.cell? ⟨b, 2, none⟩ = some (.slice a3 (n - nn) c3))
        (fun v _ _ h k => h.imp fun b h => ⟨h.1, Nat.lt_of_lt_of_le h.2.1 k.size, (k.cell (p := ⟨b, 0, none⟩) h.2.1).trans h.2.2.1, (k.cell (p := ⟨b, 1, none⟩) h.2.1).trans h.2.2.2.1, (k.cell (p := ⟨b, 2, none⟩) h.2.1).trans h.2.2.2.2⟩) (by rfl) (by rfl) ?_ ?_
      · intro w_ hS_
        refine ⟨_, _, ?_, below1 w_ (.cells #[.slice a2 nn c2, .slice (some ⟨b1, 0, none⟩) 1 1, .slice a3 (n - nn) c3] 22), ⟨w_.heap.size, rfl, by simp, by simp [go_sem], by simp [go_sem], by simp [go_sem]⟩⟩
        go_simp
      intro v2 u2 hv2
      obtain ⟨b2, rfl, _⟩ := hv2
      simp only [Act.put, List.setIfInBounds_toArray, List.set_cons_zero, List.set_cons_succ]
      refine Rf.Steps.forced (i := 9) (by kernel_rfl) ?_
      refine Rf.One.call (NC B (l.take nn ++ ([mk (r1, r2, r3, r4, r5)] ++ l.drop nn))) (fun v _ _ h k => NC.stays h k) (f := ?_) (args := ?_) (by rfl) (by rfl) ?_ ?_ ?_
      rotate_left 2
      · intro w_ hS_
        go_simp <;> first | with_reducible rfl | (constructor <;> with_reducible rfl)
      · intro w_ hS_
        obtain ⟨⟨hS1, _, _, hS2⟩, _, hS4, hS3, hS5, hS6, hS7⟩ := hS_
        cases hS4
        have hu := nx hbV (nx hb7 hS1)
        exact concat_any B _ _ _ _ _ _ b2 w_ (HI.out w_ hu).1 hS2 (HI.out w_ hu).2 hS3 hS5 hS6 hS7 (HH.out w_ hu).2 (by rw [List.length_take]; omega) (by simp) (by rw [List.length_drop]; omega)
      intro v3 u3 hv3
      simp only [Act.put, List.setIfInBounds_toArray, List.set_cons_zero, List.set_cons_succ]
      repeat (first | (refine Rf.Steps.skip (by rfl) (by kernel_rfl) (by rfl) ?_; simp only [Act.put, List.setIfInBounds_toArray, List.set_cons_zero, List.set_cons_succ]) | (refine Rf.Steps.pure (v := ?_) (by rfl) (by kernel_rfl) (by rfl) ?_ ?_; rotate_left; (intro w_ hS_; skip; go_simp <;> with_reducible rfl); simp only [Act.put, List.setIfInBounds_toArray, List.set_cons_zero, List.set_cons_succ]))
      refine Rf.Steps.nil (by kernel_rfl) ?_
      intro w9 hS9
      have HF := Lib.hid (show Below w.heap.size w w9 ∧ NC B (noteL l (r1, r2, r3, r4, r5)) v3 w9 from ⟨nx hbV (nx hb7 hS9.1.1.1), by rw [HE.out.2]; exact hS9.2⟩)
      clear hS9 hv3
      go_wp2
      go_ret2
      exact ⟨v3, by (rw [HE.out.1]) <;> rfl, HF.out.1, HF.out.2⟩
    · have e1 : (cn : Int) + 1 = nn := by simp at hnn; omega
      have e2 : wrap64 (nn : Int) = nn := IntWalk.wrap64_in _ (by have := HN.out; omega)
      clear hnn
      go_wp2
      refine Rf.region [0, 1, 2, 3, 5, 6, 7, 4, 8, 9, 10, 11] (by kernel_rfl) (by kernel_rfl) (by kernel_rfl) (fun _ _ d _ _ h => by cases d <;> exact h) ?_
      repeat (first | (refine Rf.Steps.skip (by rfl) (by kernel_rfl) (by rfl) ?_; simp only [Act.put, List.setIfInBounds_toArray, List.set_cons_zero, List.set_cons_succ]) | (refine Rf.Steps.pure (v := ?_) (by rfl) (by kernel_rfl) (by rfl) ?_ ?_; rotate_left; (intro w_ hS_; have hk_ := hK w_ hS_; go_simp <;> with_reducible rfl); simp only [Act.put, List.setIfInBounds_toArray, List.set_cons_zero, List.set_cons_succ]))
      refine Rf.Steps.forced (i := 4) (by kernel_rfl) ?_
      refine Rf.One.val (fun v u => ∃ b, v = .slice (some ⟨b, 0, none⟩) 1 1 ∧ NL B [mk (r1, r2, r3, r4, r5)] v u) (fun v _ _ h k => h.imp fun b h => ⟨h.1, Is.stays eS 42 h.2 k⟩) (by rfl) (by rfl) ?_ ?_
      · intro w_ hS_
        refine ⟨_, _, ?_, below1 w_ (.cells #[.int .i64 r1, .int .i64 r2, .int .i64 r1, .int .i64 r2, .int .i64 r3, .int .i64 r4, .int .i64 r5] 42), ⟨_, rfl, Is.one (T := 42) (HH.out w_ (nx hbV (nx hb7 hS_))).2 (x := mk (r1, r2, r3, r4, r5)) (e := eS) rfl⟩⟩
        go_simp
      intro v1 u1 hv1
      obtain ⟨b1, rfl, _⟩ := hv1
      simp only [Act.put, List.setIfInBounds_toArray, List.set_cons_zero, List.set_cons_succ]
      refine Rf.Steps.forced (i := 8) (by kernel_rfl) ?_
      refine Rf.One.val (fun v u => ∃ b, v = .slice (some ⟨b, 0, none⟩) 3 3 ∧ b < u.heap.size ∧ u.cell? ⟨b, 0, none⟩ = some (.slice a2 cn c2) ∧ u.cell? ⟨b, 1, none⟩ = some (.slice (some ⟨b1, 0, none⟩) 1 1) ∧ u.cell? ⟨b, 2, none⟩ = some (.slice a3 (n - nn) c3))
        (fun v _ _ h k => h.imp fun b h => ⟨h.1, Nat.lt_of_lt_of_le h.2.1 k.size, (k.cell (p := ⟨b, 0, none⟩) h.2.1).trans h.2.2.1, (k.cell (p := ⟨b, 1, none⟩) h.2.1).trans h.2.2.2.1, (k.cell (p := ⟨b, 2, none⟩) h.2.1).trans h.2.2.2.2⟩) (by rfl) (by rfl) ?_ ?_
      · intro w_ hS_
        refine ⟨_, _, ?_, below1 w_ (.cells #[.slice a2 cn c2, .slice (some ⟨b1, 0, none⟩) 1 1, .slice a3 (n - nn) c3] 22), ⟨w_.heap.size, rfl, by simp, by simp [go_sem], by simp [go_sem], by simp [go_sem]⟩⟩
        go_simp
      intro v2 u2 hv2
      obtain ⟨b2, rfl, _⟩ := hv2
      simp only [Act.put, List.setIfInBounds_toArray, List.set_cons_zero, List.set_cons_succ]
      refine Rf.Steps.forced (i := 9) (by kernel_rfl) ?_
      refine Rf.One.call (NC B (l.take cn ++ ([mk (r1, r2, r3, r4, r5)] ++ l.drop nn))) (fun v _ _ h k => NC.stays h k) (f := ?_) (args := ?_) (by rfl) (by rfl) ?_ ?_ ?_
      rotate_left 2
      · intro w_ hS_
        go_simp <;> first | with_reducible rfl | (constructor <;> with_reducible rfl)
      · intro w_ hS_
        obtain ⟨⟨hS1, _, _, hS2⟩, _, hS4, hS3, hS5, hS6, hS7⟩ := hS_
        cases hS4
        have hu := nx hbV (nx hb7 hS1)
        exact concat_any B _ _ _ _ _ _ b2 w_ (HI.out w_ hu).1 hS2 (HI.out w_ hu).2 hS3 hS5 hS6 hS7 (HH.out w_ hu).2 (by rw [List.length_take]; omega) (by simp) (by rw [List.length_drop]; omega)
      intro v3 u3 hv3
      simp only [Act.put, List.setIfInBounds_toArray, List.set_cons_zero, List.set_cons_succ]
      repeat (first | (refine Rf.Steps.skip (by rfl) (by kernel_rfl) (by rfl) ?_; simp only [Act.put, List.setIfInBounds_toArray, List.set_cons_zero, List.set_cons_succ]) | (refine Rf.Steps.pure (v := ?_) (by rfl) (by kernel_rfl) (by rfl) ?_ ?_; rotate_left; (intro w_ hS_; skip; go_simp <;> with_reducible rfl); simp only [Act.put, List.setIfInBounds_toArray, List.set_cons_zero, List.set_cons_succ]))
      refine Rf.Steps.nil (by kernel_rfl) ?_
      intro w9 hS9
      have HF := Lib.hid (show Below w.heap.size w w9 ∧ NC B (noteL l (r1, r2, r3, r4, r5)) v3 w9 from ⟨nx hbV (nx hb7 hS9.1.1.1), by rw [HE.out.2]; exact hS9.2⟩)
      clear hS9 hv3
      go_wp2
      go_ret2
      exact ⟨v3, by (rw [HE.out.1]) <;> rfl, HF.out.1, HF.out.2⟩
end Go.Proofs.Ytigoemecphilkaa.Se
