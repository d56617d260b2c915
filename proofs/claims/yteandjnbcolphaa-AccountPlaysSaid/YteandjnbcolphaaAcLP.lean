/- AccountPlays: the call. -/
import Derived.Test.YteandjnbcolphaaAcFo
import Derived.Test.YteandjnbcolphaaAcLC
import Derived.Carry
namespace Go.Proofs.Yteandjnbcolphaa.Ac
open Go.RowKit
set_option linter.unusedVariables false
open Go.Proofs.Yteandjnbcolphaa.Rw
open Go.Proofs.Yteandjnbcolphaa.Sl
open Go.Proofs.Yteandjnbcolphaa.Mf
set_option maxHeartbeats 8000000 in
set_option maxRecDepth 20000 in
theorem walkPlays (ops : List O4) (v : Value) (w : World) (h : SL encO 4 ops v w) (hg : ∀ o ∈ ops, (Lit.int .i64 o.2.2.2).wf = true) :
    Calls Try.prog 4 #[v] w fun e w' => e = .returned (.bool true) ∧ Below w.heap.size w w' := by
  have HG := Lib.hid hg
  obtain ⟨a, c, rfl, hdis⟩ := h
  have HD := Lib.hid hdis
  clear hdis hg
  obtain ⟨m, hmn⟩ : ∃ m, m = ops.length := ⟨_, rfl⟩
  rw [← hmn]
  have HN := Lib.hid hmn
  clear hmn
  by_cases hl : 100 < m
  · have hd : decide ((100 : Int) < m) = true := by rw [decide_eq_true_eq]; omega
    go_enter Try.func4, Try.ntmps4
    go_wp2_with fail
    refine (awake_any _).mono ?_
    rintro e w1 ⟨rfl, hb1⟩
    go_wp2
    go_ret
    exact ⟨rfl, hb1⟩
  · have hd : decide ((100 : Int) < m) = false := by rw [decide_eq_false_iff_not]; omega
    have hmm := @run_makeMap Try.prog
    go_enter Try.func4, Try.ntmps4
    go_wp2
    go_loopw [3, 22] (fun x i wr => ∃ (k : Nat) (l : List Hd), k ≤ m ∧ i = .int .i64 k ∧ Right l ∧ HL l x wr ∧ MP (get l) w.heap.size k wr ∧ MI (fun s => tot s l) (w.heap.size + 1) k wr ∧ Below w.heap.size w wr) (fun _ i _ => m - (intOf i).toNat)
    case atStart =>
      exact ⟨0, [], Nat.zero_le _, rfl, Right.nil, SL.nil enc 3 _, (maps_made w).1, (maps_made w).2, below2 _ _ _⟩
    case round =>
      obtain ⟨k, l, hk, rfl, hr, hx, hP, hI, hb⟩ := hrel
      by_cases hlt : k < m
      · have hlt2 : (k : Int) < m := by omega
        obtain ⟨b, off, rfl, hat⟩ : ∃ b off, a = some ⟨b, off, none⟩ ∧ At encO 4 ops b off w := by
          rcases HD.out with e | e
          · rw [HN.out, e] at hlt; exact absurd hlt (Nat.not_lt_zero _)
          · exact e
        obtain ⟨⟨kd, ac, ass, n⟩, ho⟩ : ∃ o, ops[k]? = some o := ⟨_, List.getElem?_eq_getElem (by rw [← HN.out]; exact hlt)⟩
        have hn := HG.out _ (List.mem_of_getElem? ho)
        have c0 : wr.cell? ⟨b, off + k * 4, none⟩ = some (.int .i64 kd) := by rw [hb.cell (p := ⟨b, off + k * 4, none⟩) hat.1]; exact hat.2 k _ ho 0 _ rfl
        have c1 : wr.cell? ⟨b, off + k * 4 + 1, none⟩ = some (.int .i64 ac) := by rw [hb.cell (p := ⟨b, off + k * 4 + 1, none⟩) hat.1]; exact hat.2 k _ ho 1 _ rfl
        have c2 : wr.cell? ⟨b, off + k * 4 + 2, none⟩ = some (.int .i64 ass) := by rw [hb.cell (p := ⟨b, off + k * 4 + 2, none⟩) hat.1]; exact hat.2 k _ ho 2 _ rfl
        have c3 : wr.cell? ⟨b, off + k * 4 + 3, none⟩ = some (.int .i64 n) := by rw [hb.cell (p := ⟨b, off + k * 4 + 3, none⟩) hat.1]; exact hat.2 k _ ho 3 _ rfl
        obtain ⟨A, hA, m1⟩ := mod64 ac 5 (by omega)
        obtain ⟨S, hS, m2⟩ := mod64 ass 3 (by omega)
        have z1 : wrap64 ((IntKind.u64.wrap ac).tmod 5) = A := by rw [show (IntKind.u64.wrap ac).tmod 5 = (A : Int) from m1]; exact IntWalk.wrap64_in _ (by omega)
        have z2 : wrap64 ((IntKind.u64.wrap ass).tmod 3) = S := by rw [show (IntKind.u64.wrap ass).tmod 3 = (S : Int) from m2]; exact IntWalk.wrap64_in _ (by omega)
        have hp : pmay ((A : Int), (S : Int)) = true := pmay_iff.2 ⟨by show (0 : Int) ≤ A; omega, by show (A : Int) < 64; omega, by show (0 : Int) ≤ S; omega, by show (S : Int) < 8; omega⟩
        have HM := Lib.hid (show l.length ≤ 1000000 by have := right_512 hr; omega)
        have RD := Lib.hid hr
        have XD := Lib.hid hx
        have PD := Lib.hid hP
        have ID := Lib.hid hI
        have Z1 := Lib.hid z1
        have Z2 := Lib.hid z2
        have PM := Lib.hid hp
        clear hr hx hP hI m1 m2 z1 z2 hp
        by_cases hkd : kd = 1
        · subst hkd
          by_cases hE : takeE l (A, S) n = 0
          · obtain ⟨t1, t2, t3⟩ := take_done RD.out PM.out hE
            obtain ⟨t4, t5⟩ := (take_plays RD.out PM.out).1 hE
            have tb := get_pos (p := ((A : Int), (S : Int))) RD.out
            have C1 : ∀ w, HL l u3 w → Calls Try.prog 9 #[u3, .agg #[.int .i64 A, .int .i64 S], .int .i64 n] w (Post2 (HL (takeL l (A, S) n)) 0 w) := fun w h => by rw [← hE]; exact take_any l u3 A S n w h HM.out
            have C1 := Lib.hid C1
            obtain ⟨G, hG⟩ : ∃ x, get l ((A : Int), (S : Int)) = x := ⟨_, rfl⟩
            obtain ⟨l2, hl2⟩ : ∃ x, takeL l ((A : Int), (S : Int)) n = x := ⟨_, rfl⟩
            rw [hl2] at t1 t2 t3 C1
            rw [hG] at t2 t5 tb
            have T1 := Lib.hid t1
            have M2 := Lib.hid (show l2.length ≤ 1000000 by have := right_512 t1; omega)
            have R2 : Hid (∀ x w, HL l2 x w → Calls Try.prog 12 #[x] w fun e w' => e = .returned (.bool true) ∧ Below w.heap.size w w') := Lib.hid fun x w h => by rw [← right_iff.2 T1.out]; exact right_any l2 x w h M2.out
            have T2 := Lib.hid t2
            have T3 := Lib.hid t3
            have GG := Lib.hid hG
            have g1 : decide (0 ≤ n) = true := by rw [decide_eq_true_eq]; exact t4
            have g2 : decide (n ≤ G) = true := by rw [decide_eq_true_eq]; exact t5
            clear t1 t2 t3 hG hl2 hE
            go_wp2_with fail
            rw [Z1.out, Z2.out]
            obtain ⟨V, hV⟩ : ∃ V, V = (wr.alloc (.cells #[.int .i64 1, .int .i64 ac, .int .i64 ass, .int .i64 n] 39)).alloc (.cells #[.int .i64 A, .int .i64 S] 24) := ⟨_, rfl⟩
            have hbV : Below wr.heap.size wr V := hV ▸ below2 wr _ _
            have hzV : V.heap.size = wr.heap.size + 2 := by rw [hV]; simp
            have p0 : V.cell? ⟨wr.heap.size, 3, none⟩ = some (.int .i64 n) ∧ V.cell? ⟨wr.heap.size + 1, 0, none⟩ = some (.int .i64 A) ∧ V.cell? ⟨wr.heap.size + 1, 1, none⟩ = some (.int .i64 S) := by rw [hV]; exact ⟨by simp [go_sem], by simp [go_sem], by simp [go_sem]⟩
            rw [← hV]
            clear hV
            have XV := SL.stays enc 3 l u3 _ _ XD.out hbV
            have PV := MF.stays PD.out hbV
            have IV := MF.stays ID.out hbV
            refine (C1.out _ XV).mono ?_
            rintro e w1 ⟨x1, rfl, hb1, hx1⟩
            have FK : ∀ u, Below w1.heap.size w1 u → (u.cell? ⟨wr.heap.size, 3, none⟩ = some (.int .i64 n) ∧ u.cell? ⟨wr.heap.size + 1, 0, none⟩ = some (.int .i64 A) ∧ u.cell? ⟨wr.heap.size + 1, 1, none⟩ = some (.int .i64 S)) ∧ (Instr.lookup 36 (.map (some w.heap.size)) (.agg #[.int .i64 A, .int .i64 S]) false).run Try.prog u = .ok (.int .i64 G) u := fun u hu => by
              have hb2 := nx hb1 hu
              have hs := hb1.size
              refine ⟨⟨?_, ?_, ?_⟩, ?_⟩
              · rw [hb2.cell (p := ⟨wr.heap.size, 3, none⟩) (by show wr.heap.size < _; omega)]; exact p0.1
              · rw [hb2.cell (p := ⟨wr.heap.size + 1, 0, none⟩) (by show wr.heap.size + 1 < _; omega)]; exact p0.2.1
              · rw [hb2.cell (p := ⟨wr.heap.size + 1, 1, none⟩) (by show wr.heap.size + 1 < _; omega)]; exact p0.2.2
              · have := MP.look (MF.stays PV hb2) A S hA hS
                rw [GG.out] at this; exact this
            have FK := Lib.hid FK
            have hF := FK.out _ (Below.refl _ _)
            obtain ⟨⟨q0, q1, q2⟩, q3⟩ := hF
            go_wp2_with fail
            clear q0 q1 q2 q3
            refine Rf.region [0, 1, 2, 3, 4, 5, 6, 7, 8, 9, 10, 11, 12, 13] (by kernel_rfl) (by kernel_rfl) (by kernel_rfl) (fun _ _ d _ _ h => by cases d <;> exact h) ?_
            repeat (first | (refine Rf.Steps.skip (by rfl) (by kernel_rfl) (by rfl) ?_; simp only [Act.put, List.setIfInBounds_toArray, List.set_cons_zero, List.set_cons_succ]) | (refine Rf.Steps.pure (v := ?_) (by rfl) (by kernel_rfl) (by rfl) ?_ ?_; rotate_left; (intro w_ hS_; have hk_ := FK.out w_ hS_; go_simp <;> with_reducible rfl); simp only [Act.put, List.setIfInBounds_toArray, List.set_cons_zero, List.set_cons_succ]))
            refine Rf.Steps.nil (by kernel_rfl) ?_
            intro w2 hb2
            obtain ⟨⟨q0, q1, q2⟩, q3⟩ := FK.out w2 hb2
            go_wp2_with fail
            have PD2 : MP (get l) w.heap.size k w2.drew := MF.same (MF.stays PV (nx hb1 hb2)) rfl
            have hwv : wrap64 (G - n) = G - n := IntWalk.wrap64_in _ (by omega)
            obtain ⟨st, v0, o1, o2, r1, r2, r3⟩ := MP.entry (g := get l2) PD2 (by unfold maxLen; omega) A S hA hS (c := G - n) (WalkArith.wf_i64 (by omega)) (by rw [T2.out, if_pos rfl]) (fun u hu => by rw [T2.out, if_neg hu])
            obtain ⟨r4, r5⟩ := r2 _ (MF.slot PD2 o1)
            have r6 := MP.look r4 A S hA hS
            rw [GG.out] at r6
            have hne1 : wr.heap.size ≠ w.heap.size := by have := MF.lt PD.out; omega
            have hne2 : wr.heap.size + 1 ≠ w.heap.size := by have := MF.lt PD.out; omega
            have s0 : (Go.ChangeMaps.setBlock w2.drew w.heap.size o1).cell? ⟨wr.heap.size, 3, none⟩ = some (.int .i64 n) := MF.cells PD2 o1 q0
            have s1 : (Go.ChangeMaps.setBlock w2.drew w.heap.size o1).cell? ⟨wr.heap.size + 1, 0, none⟩ = some (.int .i64 A) := MF.cells PD2 o1 q1
            have s2 : (Go.ChangeMaps.setBlock w2.drew w.heap.size o1).cell? ⟨wr.heap.size + 1, 1, none⟩ = some (.int .i64 S) := MF.cells PD2 o1 q2
            have q3 := (FK.out w2.drew hb2.drew).2
            have r5' : (Instr.entryStore 36 (.map (some w.heap.size)) (.int .i64 st) (.int .i64 (G - n))).run Try.prog (Go.ChangeMaps.setBlock w2.drew w.heap.size o1) = .ok () (Go.ChangeMaps.setBlock (Go.ChangeMaps.setBlock w2.drew w.heap.size o1) w.heap.size o2) := r5
            go_region
            obtain ⟨X, hX⟩ : ∃ X, X = Go.ChangeMaps.setBlock (Go.ChangeMaps.setBlock w2.drew w.heap.size o1) w.heap.size o2 := ⟨_, rfl⟩
            have hb12 := nx hb1 hb2
            have PX : Hid (MP (get l2) w.heap.size (k + 1) X) := Lib.hid (MF.same r3 (by rw [hX, MF.slot r4, MF.slot PD2]))
            have hbt : w.heap.size + 1 ≠ w.heap.size := by omega
            have IX : MI (fun s => tot s l) (w.heap.size + 1) k X := MF.same (MF.stays IV hb12) (by rw [hX, MF.apart r4 o2 hbt, MF.apart PD2 o1 hbt]; rfl)
            have kX : ∀ (p : Addr) (u : Value), w2.cell? p = some u → X.cell? p = some u := fun p u hu => by rw [hX]; exact MF.cells r4 o2 (MF.cells PD2 o1 hu)
            have sX : X.heap.size = w2.heap.size := by rw [hX, set_size, set_size]; rfl
            have HX : Hid (HL l2 x1 X) := Lib.hid (hl_cells (SL.stays enc 3 l2 x1 _ _ hx1 hb2) (by omega) kX)
            have bX : Below w.heap.size w X := by rw [hX]; exact below_set (below_set (nx hb (nx hbV hb12)).drew (Nat.le_refl _) _) (Nat.le_refl _) _
            have y0 := kX _ _ q0
            have y1 := kX _ _ q1
            have y2 := kX _ _ q2
            rw [← hX]
            clear r1 r2 r3 r4 r5 r5' r6 s0 s1 s2 q0 q1 q2 q3 hX kX hwv
            have tb2 := tot_bd RD.out S l.length
            rw [List.take_length] at tb2
            have tb3 := tot_bd T1.out S l2.length
            rw [List.take_length, T3.out, if_pos rfl] at tb3
            obtain ⟨X2, u1, u2, u3⟩ := MI.put (g := fun s => tot s l2) IX (by unfold maxLen; omega) S hS (c := tot S l - n) (WalkArith.wf_i64 (by omega)) (by rw [T3.out, if_pos rfl]) (fun s hs => by rw [T3.out, if_neg (fun e => hs e.symm)]; omega)
            have u4 := MI.look IX S hS
            have hwv : wrap64 (tot S l - n) = tot S l - n := IntWalk.wrap64_in _ (by omega)
            have PX2 : MP (get l2) w.heap.size (k + 1) X2 := MF.same PX.out (u3.block _ (MF.lt PX.out) (fun e => by have := Option.some.inj e; omega))
            have HX2 : HL l2 x1 X2 := hl_cells HX.out u3.size fun p u hu => MF.grownC IX u3 hu
            have bX2 : Below w.heap.size w X2 := bX.grown u3 bX.size (fun j hj => by cases hj; omega)
            have IX2 := Lib.hid u2
            have PX2 := Lib.hid PX2
            have HX2 := Lib.hid HX2
            clear u2 tb2 tb3 IX
            go_wp2_with fail
            refine (R2.out _ _ HX2.out).mono ?_
            rintro e X3 ⟨rfl, hb3⟩
            have FT : Hid (∀ u, Below X3.heap.size X3 u → HL l2 x1 u ∧ MP (get l2) w.heap.size (k + 1) u ∧ MI (fun s => tot s l2) (w.heap.size + 1) (k + 1) u) := Lib.hid fun u hu => by
              have hh := nx hb3 hu
              exact ⟨SL.stays enc 3 l2 x1 _ _ HX2.out hh, MF.stays PX2.out hh, MF.stays IX2.out hh⟩
            have bX3 := nx bX2 hb3
            have hbw := bX2.size
            obtain ⟨wq, rfl⟩ : ∃ wq : World, wq = wr := ⟨_, rfl⟩
            go_wp2_with fail
            go_loopw [133] (fun i wr => ∃ a2 : Nat, a2 ≤ 5 ∧ i = .int .i64 a2 ∧ Below X3.heap.size X3 wr) (fun i _ => 5 - (intOf i).toNat)
            case atStart => exact ⟨0, Nat.zero_le _, rfl, Below.refl _ _⟩
            case round =>
              obtain ⟨a2, ha2, rfl, hba⟩ := hrel
              by_cases hat2 : a2 < 5
              · have hat3 : (a2 : Int) < 5 := by omega
                obtain ⟨wo, rfl⟩ : ∃ wo : World, wo = wr := ⟨_, rfl⟩
                go_wp2_with fail
                go_loopw [136] (fun i wr => ∃ s2 : Nat, s2 ≤ 3 ∧ i = .int .i64 s2 ∧ Below X3.heap.size X3 wr) (fun i _ => 3 - (intOf i).toNat)
                case atStart => exact ⟨0, Nat.zero_le _, rfl, hba⟩
                case round =>
                  obtain ⟨s2, hs2, rfl, hbs⟩ := hrel
                  by_cases hst : s2 < 3
                  · have hst2 : (s2 : Int) < 3 := by omega
                    go_wp2_with fail
                    obtain ⟨Y, hY⟩ : ∃ Y, Y = wr.alloc (.cells #[.int .i64 a2, .int .i64 s2] 24) := ⟨_, rfl⟩
                    have hbY : Below wr.heap.size wr Y := hY ▸ below1 wr _
                    have hzY : wr.heap.size < Y.heap.size := by rw [hY]; simp
                    have i0 : Y.cell? ⟨wr.heap.size, 0, none⟩ = some (.int .i64 a2) := by rw [hY]; simp [go_sem]
                    have i1 : Y.cell? ⟨wr.heap.size, 1, none⟩ = some (.int .i64 s2) := by rw [hY]; simp [go_sem]
                    rw [← hY]
                    clear hY
                    obtain ⟨gq, hgq⟩ : ∃ x, get l2 ((a2 : Int), (s2 : Int)) = x := ⟨_, rfl⟩
                    obtain ⟨tq, htq⟩ : ∃ x, tot s2 l2 = x := ⟨_, rfl⟩
                    have D3 : Hid (∀ w, HL l2 x1 w → Calls Try.prog 14 #[x1, .agg #[.int .i64 a2, .int .i64 s2]] w fun e w' => e = .returned (.int .i64 gq) ∧ Below w.heap.size w w') := Lib.hid fun w h => by rw [← hgq]; exact get_any l2 x1 a2 s2 w h M2.out
                    have D4 : Hid (∀ w, HL l2 x1 w → Calls Try.prog 16 #[x1, .int .i64 s2] w fun e w' => e = .returned (.int .i64 tq) ∧ Below w.heap.size w w') := Lib.hid fun w h => by rw [← htq, ← total_right T1.out]; exact total_any l2 x1 s2 w h M2.out
                    have hF : ∀ u, Below Y.heap.size Y u → (u.cell? ⟨wr.heap.size, 0, none⟩ = some (.int .i64 a2) ∧ u.cell? ⟨wr.heap.size, 1, none⟩ = some (.int .i64 s2)) ∧ HL l2 x1 u ∧ (Instr.lookup 36 (.map (some w.heap.size)) (.agg #[.int .i64 a2, .int .i64 s2]) false).run Try.prog u = .ok (.int .i64 gq) u ∧ (Instr.lookup 37 (.map (some (w.heap.size + 1))) (.int .i64 s2) false).run Try.prog u = .ok (.int .i64 tq) u := fun u hu => by
                      have hf := FT.out u (nx hbs (nx hbY hu))
                      refine ⟨⟨by rw [hu.cell (p := ⟨wr.heap.size, 0, none⟩) hzY]; exact i0, by rw [hu.cell (p := ⟨wr.heap.size, 1, none⟩) hzY]; exact i1⟩, hf.1, ?_, ?_⟩
                      · rw [← hgq]; exact MP.look hf.2.1 a2 s2 hat2 hst
                      · rw [← htq]; exact MI.look hf.2.2 s2 hst
                    clear hgq htq i0 i1
                    refine Rf.region [0, 1, 2, 3, 4, 5, 6, 7, 8, 9, 10, 11, 12, 13, 14, 15] (by kernel_rfl) (by kernel_rfl) (by kernel_rfl) (fun _ _ d _ _ h => by cases d <;> exact h) ?_
                    repeat (first | (refine Rf.Steps.skip (by rfl) (by kernel_rfl) (by rfl) ?_; simp only [Act.put, List.setIfInBounds_toArray, List.set_cons_zero, List.set_cons_succ]) | (refine Rf.Steps.pure (v := ?_) (by rfl) (by kernel_rfl) (by rfl) ?_ ?_; rotate_left; (intro w_ hS_; have hk_ := hF w_ hS_; go_simp <;> with_reducible rfl); simp only [Act.put, List.setIfInBounds_toArray, List.set_cons_zero, List.set_cons_succ]) | (refine Rf.Steps.call (v := ?_) (f := ?_) (args := ?_) (by rfl) (by kernel_rfl) (by rfl) ?_ ?_ ?_; rotate_left 3; (intro w_ hS_; have hk_ := hF w_ hS_; go_simp <;> first | with_reducible rfl | (constructor <;> with_reducible rfl)); (intro w_ hS_; have hk_ := hF w_ hS_; first | (go_at_call 14; refine (D3.out _ hk_.2.1).mono ?_; first | (rintro e w_ ⟨rfl, rfl⟩; refine ⟨?_, Below.refl _ _⟩; with_reducible rfl) | (rintro e w_ ⟨rfl, hb_⟩; refine ⟨?_, hb_⟩; with_reducible rfl)) | (go_at_call 16; refine (D4.out _ hk_.2.1).mono ?_; first | (rintro e w_ ⟨rfl, rfl⟩; refine ⟨?_, Below.refl _ _⟩; with_reducible rfl) | (rintro e w_ ⟨rfl, hb_⟩; refine ⟨?_, hb_⟩; with_reducible rfl))); simp only [Act.put, List.setIfInBounds_toArray, List.set_cons_zero, List.set_cons_succ]))
                    refine Rf.Steps.nil (by kernel_rfl) ?_
                    intro w5 hb5
                    go_wp2_with fail
                    go_roundw
                    case rel => exact ⟨s2 + 1, by omega, by go_num, nx hbs (nx hbY hb5)⟩
                    case measure => simp [intOf]; omega
                  · obtain rfl : s2 = 3 := by omega
                    go_wp2_with fail
                    go_roundw
                    case rel => exact ⟨a2 + 1, by omega, by go_num, hbs⟩
                    case measure => simp [intOf]; omega
              · obtain rfl : a2 = 5 := by omega
                go_wp2_with fail
                go_roundw
                case rel => exact ⟨k + 1, l2, by omega, by go_num, T1.out, (FT.out _ hba).1, (FT.out _ hba).2.1, (FT.out _ hba).2.2, nx bX3 hba⟩
                case measure => simp [intOf]; omega
          · have hnot := fun h => hE ((take_plays RD.out PM.out).2 h)
            by_cases hneg : n < 0
            · have tb := get_pos (p := ((A : Int), (S : Int))) RD.out
              have C1 : ∀ w, HL l u3 w → Calls Try.prog 9 #[u3, .agg #[.int .i64 A, .int .i64 S], .int .i64 n] w (Post2 (HL l) (takeE l (A, S) n) w) := fun w h => by
                have k := take_any l u3 A S n w h HM.out
                rw [take_none hE] at k; exact k
              have C1 := Lib.hid C1
              obtain ⟨G, hG⟩ : ∃ x, get l ((A : Int), (S : Int)) = x := ⟨_, rfl⟩
              obtain ⟨E, hEE⟩ : ∃ x, takeE l ((A : Int), (S : Int)) n = x := ⟨_, rfl⟩
              rw [hEE] at C1 hE
              rw [hG] at tb hnot
              have GG := Lib.hid hG
              have he1 : (E == 0) = false := by simpa using hE
              have he2 : (E != 0) = true := by simpa using hE
              have R2 : Hid (∀ x w, HL l x w → Calls Try.prog 12 #[x] w fun e w' => e = .returned (.bool true) ∧ Below w.heap.size w w') := Lib.hid fun x w h => by rw [← right_iff.2 RD.out]; exact right_any l x w h HM.out
              have g1 : decide (0 ≤ n) = false := by rw [decide_eq_false_iff_not]; omega
              clear hG hEE
              go_wp2_with fail
              rw [Z1.out, Z2.out]
              obtain ⟨V, hV⟩ : ∃ V, V = (wr.alloc (.cells #[.int .i64 1, .int .i64 ac, .int .i64 ass, .int .i64 n] 39)).alloc (.cells #[.int .i64 A, .int .i64 S] 24) := ⟨_, rfl⟩
              have hbV : Below wr.heap.size wr V := hV ▸ below2 wr _ _
              have hzV : V.heap.size = wr.heap.size + 2 := by rw [hV]; simp
              have p0 : V.cell? ⟨wr.heap.size, 3, none⟩ = some (.int .i64 n) ∧ V.cell? ⟨wr.heap.size + 1, 0, none⟩ = some (.int .i64 A) ∧ V.cell? ⟨wr.heap.size + 1, 1, none⟩ = some (.int .i64 S) := by rw [hV]; exact ⟨by simp [go_sem], by simp [go_sem], by simp [go_sem]⟩
              rw [← hV]
              clear hV
              have XV := SL.stays enc 3 l u3 _ _ XD.out hbV
              have PV := MF.stays PD.out hbV
              have IV := MF.stays ID.out hbV
              refine (C1.out _ XV).mono ?_
              rintro e w1 ⟨x1, rfl, hb1, hx1⟩
              have FK : ∀ u, Below w1.heap.size w1 u → (u.cell? ⟨wr.heap.size, 3, none⟩ = some (.int .i64 n) ∧ u.cell? ⟨wr.heap.size + 1, 0, none⟩ = some (.int .i64 A) ∧ u.cell? ⟨wr.heap.size + 1, 1, none⟩ = some (.int .i64 S)) ∧ (Instr.lookup 36 (.map (some w.heap.size)) (.agg #[.int .i64 A, .int .i64 S]) false).run Try.prog u = .ok (.int .i64 G) u := fun u hu => by
                have hb2 := nx hb1 hu
                have hs := hb1.size
                refine ⟨⟨?_, ?_, ?_⟩, ?_⟩
                · rw [hb2.cell (p := ⟨wr.heap.size, 3, none⟩) (by show wr.heap.size < _; omega)]; exact p0.1
                · rw [hb2.cell (p := ⟨wr.heap.size + 1, 0, none⟩) (by show wr.heap.size + 1 < _; omega)]; exact p0.2.1
                · rw [hb2.cell (p := ⟨wr.heap.size + 1, 1, none⟩) (by show wr.heap.size + 1 < _; omega)]; exact p0.2.2
                · have := MP.look (MF.stays PV hb2) A S hA hS
                  rw [GG.out] at this; exact this
              have FK := Lib.hid FK
              have hF := FK.out _ (Below.refl _ _)
              obtain ⟨⟨q0, q1, q2⟩, q3⟩ := hF
              go_wp2_with fail
              clear q0 q1 q2 q3
              refine Rf.region [0, 1, 2, 3, 4, 5, 6, 7, 8, 9, 10, 11, 12, 13] (by kernel_rfl) (by kernel_rfl) (by kernel_rfl) (fun _ _ d _ _ h => by cases d <;> exact h) ?_
              repeat (first | (refine Rf.Steps.skip (by rfl) (by kernel_rfl) (by rfl) ?_; simp only [Act.put, List.setIfInBounds_toArray, List.set_cons_zero, List.set_cons_succ]) | (refine Rf.Steps.pure (v := ?_) (by rfl) (by kernel_rfl) (by rfl) ?_ ?_; rotate_left; (intro w_ hS_; have hk_ := FK.out w_ hS_; go_simp <;> with_reducible rfl); simp only [Act.put, List.setIfInBounds_toArray, List.set_cons_zero, List.set_cons_succ]))
              refine Rf.Steps.nil (by kernel_rfl) ?_
              intro w2 hb2
              go_wp2_with fail
              have hxa := SL.stays enc 3 l x1 _ _ hx1 hb2
              have hxb := SL.stays enc 3 l u3 _ _ XV (nx hb1 hb2)
              refine (same_is _ hxa hxb HM.out).mono ?_
              rintro e X2 ⟨rfl, hbs2⟩
              have hbb := nx hb1 (nx hb2 hbs2)
              have PX2 : Hid (MP (get l) w.heap.size (k + 1) X2) := Lib.hid ((MF.stays PV hbb).mono (Nat.le_succ k))
              have IX2 : Hid (MI (fun s => tot s l) (w.heap.size + 1) (k + 1) X2) := Lib.hid ((MF.stays IV hbb).mono (Nat.le_succ k))
              have HX2 := Lib.hid (SL.stays enc 3 l x1 _ _ hxa hbs2)
              have bX2 : Below w.heap.size w X2 := nx hb (nx hbV hbb)
              go_wp2_with fail
              refine (R2.out _ _ HX2.out).mono ?_
              rintro e X3 ⟨rfl, hb3⟩
              have FT : Hid (∀ u, Below X3.heap.size X3 u → HL l x1 u ∧ MP (get l) w.heap.size (k + 1) u ∧ MI (fun s => tot s l) (w.heap.size + 1) (k + 1) u) := Lib.hid fun u hu => by
                have hh := nx hb3 hu
                exact ⟨SL.stays enc 3 l x1 _ _ HX2.out hh, MF.stays PX2.out hh, MF.stays IX2.out hh⟩
              have bX3 := nx bX2 hb3
              have hbw := bX2.size
              obtain ⟨wq, rfl⟩ : ∃ wq : World, wq = wr := ⟨_, rfl⟩
              go_wp2_with fail
              go_loopw [133] (fun i wr => ∃ a2 : Nat, a2 ≤ 5 ∧ i = .int .i64 a2 ∧ Below X3.heap.size X3 wr) (fun i _ => 5 - (intOf i).toNat)
              case atStart => exact ⟨0, Nat.zero_le _, rfl, Below.refl _ _⟩
              case round =>
                obtain ⟨a2, ha2, rfl, hba⟩ := hrel
                by_cases hat2 : a2 < 5
                · have hat3 : (a2 : Int) < 5 := by omega
                  obtain ⟨wo, rfl⟩ : ∃ wo : World, wo = wr := ⟨_, rfl⟩
                  go_wp2_with fail
                  go_loopw [136] (fun i wr => ∃ s2 : Nat, s2 ≤ 3 ∧ i = .int .i64 s2 ∧ Below X3.heap.size X3 wr) (fun i _ => 3 - (intOf i).toNat)
                  case atStart => exact ⟨0, Nat.zero_le _, rfl, hba⟩
                  case round =>
                    obtain ⟨s2, hs2, rfl, hbs⟩ := hrel
                    by_cases hst : s2 < 3
                    · have hst2 : (s2 : Int) < 3 := by omega
                      go_wp2_with fail
                      obtain ⟨Y, hY⟩ : ∃ Y, Y = wr.alloc (.cells #[.int .i64 a2, .int .i64 s2] 24) := ⟨_, rfl⟩
                      have hbY : Below wr.heap.size wr Y := hY ▸ below1 wr _
                      have hzY : wr.heap.size < Y.heap.size := by rw [hY]; simp
                      have i0 : Y.cell? ⟨wr.heap.size, 0, none⟩ = some (.int .i64 a2) := by rw [hY]; simp [go_sem]
                      have i1 : Y.cell? ⟨wr.heap.size, 1, none⟩ = some (.int .i64 s2) := by rw [hY]; simp [go_sem]
                      rw [← hY]
                      clear hY
                      obtain ⟨gq, hgq⟩ : ∃ x, get l ((a2 : Int), (s2 : Int)) = x := ⟨_, rfl⟩
                      obtain ⟨tq, htq⟩ : ∃ x, tot s2 l = x := ⟨_, rfl⟩
                      have D3 : Hid (∀ w, HL l x1 w → Calls Try.prog 14 #[x1, .agg #[.int .i64 a2, .int .i64 s2]] w fun e w' => e = .returned (.int .i64 gq) ∧ Below w.heap.size w w') := Lib.hid fun w h => by rw [← hgq]; exact get_any l x1 a2 s2 w h HM.out
                      have D4 : Hid (∀ w, HL l x1 w → Calls Try.prog 16 #[x1, .int .i64 s2] w fun e w' => e = .returned (.int .i64 tq) ∧ Below w.heap.size w w') := Lib.hid fun w h => by rw [← htq, ← total_right RD.out]; exact total_any l x1 s2 w h HM.out
                      have hF : ∀ u, Below Y.heap.size Y u → (u.cell? ⟨wr.heap.size, 0, none⟩ = some (.int .i64 a2) ∧ u.cell? ⟨wr.heap.size, 1, none⟩ = some (.int .i64 s2)) ∧ HL l x1 u ∧ (Instr.lookup 36 (.map (some w.heap.size)) (.agg #[.int .i64 a2, .int .i64 s2]) false).run Try.prog u = .ok (.int .i64 gq) u ∧ (Instr.lookup 37 (.map (some (w.heap.size + 1))) (.int .i64 s2) false).run Try.prog u = .ok (.int .i64 tq) u := fun u hu => by
                        have hf := FT.out u (nx hbs (nx hbY hu))
                        refine ⟨⟨by rw [hu.cell (p := ⟨wr.heap.size, 0, none⟩) hzY]; exact i0, by rw [hu.cell (p := ⟨wr.heap.size, 1, none⟩) hzY]; exact i1⟩, hf.1, ?_, ?_⟩
                        · rw [← hgq]; exact MP.look hf.2.1 a2 s2 hat2 hst
                        · rw [← htq]; exact MI.look hf.2.2 s2 hst
                      clear hgq htq i0 i1
                      refine Rf.region [0, 1, 2, 3, 4, 5, 6, 7, 8, 9, 10, 11, 12, 13, 14, 15] (by kernel_rfl) (by kernel_rfl) (by kernel_rfl) (fun _ _ d _ _ h => by cases d <;> exact h) ?_
                      repeat (first | (refine Rf.Steps.skip (by rfl) (by kernel_rfl) (by rfl) ?_; simp only [Act.put, List.setIfInBounds_toArray, List.set_cons_zero, List.set_cons_succ]) | (refine Rf.Steps.pure (v := ?_) (by rfl) (by kernel_rfl) (by rfl) ?_ ?_; rotate_left; (intro w_ hS_; have hk_ := hF w_ hS_; go_simp <;> with_reducible rfl); simp only [Act.put, List.setIfInBounds_toArray, List.set_cons_zero, List.set_cons_succ]) | (refine Rf.Steps.call (v := ?_) (f := ?_) (args := ?_) (by rfl) (by kernel_rfl) (by rfl) ?_ ?_ ?_; rotate_left 3; (intro w_ hS_; have hk_ := hF w_ hS_; go_simp <;> first | with_reducible rfl | (constructor <;> with_reducible rfl)); (intro w_ hS_; have hk_ := hF w_ hS_; first | (go_at_call 14; refine (D3.out _ hk_.2.1).mono ?_; first | (rintro e w_ ⟨rfl, rfl⟩; refine ⟨?_, Below.refl _ _⟩; with_reducible rfl) | (rintro e w_ ⟨rfl, hb_⟩; refine ⟨?_, hb_⟩; with_reducible rfl)) | (go_at_call 16; refine (D4.out _ hk_.2.1).mono ?_; first | (rintro e w_ ⟨rfl, rfl⟩; refine ⟨?_, Below.refl _ _⟩; with_reducible rfl) | (rintro e w_ ⟨rfl, hb_⟩; refine ⟨?_, hb_⟩; with_reducible rfl))); simp only [Act.put, List.setIfInBounds_toArray, List.set_cons_zero, List.set_cons_succ]))
                      refine Rf.Steps.nil (by kernel_rfl) ?_
                      intro w5 hb5
                      go_wp2_with fail
                      go_roundw
                      case rel => exact ⟨s2 + 1, by omega, by go_num, nx hbs (nx hbY hb5)⟩
                      case measure => simp [intOf]; omega
                    · obtain rfl : s2 = 3 := by omega
                      go_wp2_with fail
                      go_roundw
                      case rel => exact ⟨a2 + 1, by omega, by go_num, hbs⟩
                      case measure => simp [intOf]; omega
                · obtain rfl : a2 = 5 := by omega
                  go_wp2_with fail
                  go_roundw
                  case rel => exact ⟨k + 1, l, by omega, by go_num, RD.out, (FT.out _ hba).1, (FT.out _ hba).2.1, (FT.out _ hba).2.2, nx bX3 hba⟩
                  case measure => simp [intOf]; omega
            · have tb := get_pos (p := ((A : Int), (S : Int))) RD.out
              have C1 : ∀ w, HL l u3 w → Calls Try.prog 9 #[u3, .agg #[.int .i64 A, .int .i64 S], .int .i64 n] w (Post2 (HL l) (takeE l (A, S) n) w) := fun w h => by
                have k := take_any l u3 A S n w h HM.out
                rw [take_none hE] at k; exact k
              have C1 := Lib.hid C1
              obtain ⟨G, hG⟩ : ∃ x, get l ((A : Int), (S : Int)) = x := ⟨_, rfl⟩
              obtain ⟨E, hEE⟩ : ∃ x, takeE l ((A : Int), (S : Int)) n = x := ⟨_, rfl⟩
              rw [hEE] at C1 hE
              rw [hG] at tb hnot
              have GG := Lib.hid hG
              have he1 : (E == 0) = false := by simpa using hE
              have he2 : (E != 0) = true := by simpa using hE
              have R2 : Hid (∀ x w, HL l x w → Calls Try.prog 12 #[x] w fun e w' => e = .returned (.bool true) ∧ Below w.heap.size w w') := Lib.hid fun x w h => by rw [← right_iff.2 RD.out]; exact right_any l x w h HM.out
              have g1 : decide (0 ≤ n) = true := by rw [decide_eq_true_eq]; omega
              have g2 : decide (n ≤ G) = false := by rw [decide_eq_false_iff_not]; intro hq; exact hnot ⟨by omega, hq⟩
              clear hG hEE
              go_wp2_with fail
              rw [Z1.out, Z2.out]
              obtain ⟨V, hV⟩ : ∃ V, V = (wr.alloc (.cells #[.int .i64 1, .int .i64 ac, .int .i64 ass, .int .i64 n] 39)).alloc (.cells #[.int .i64 A, .int .i64 S] 24) := ⟨_, rfl⟩
              have hbV : Below wr.heap.size wr V := hV ▸ below2 wr _ _
              have hzV : V.heap.size = wr.heap.size + 2 := by rw [hV]; simp
              have p0 : V.cell? ⟨wr.heap.size, 3, none⟩ = some (.int .i64 n) ∧ V.cell? ⟨wr.heap.size + 1, 0, none⟩ = some (.int .i64 A) ∧ V.cell? ⟨wr.heap.size + 1, 1, none⟩ = some (.int .i64 S) := by rw [hV]; exact ⟨by simp [go_sem], by simp [go_sem], by simp [go_sem]⟩
              rw [← hV]
              clear hV
              have XV := SL.stays enc 3 l u3 _ _ XD.out hbV
              have PV := MF.stays PD.out hbV
              have IV := MF.stays ID.out hbV
              refine (C1.out _ XV).mono ?_
              rintro e w1 ⟨x1, rfl, hb1, hx1⟩
              have FK : ∀ u, Below w1.heap.size w1 u → (u.cell? ⟨wr.heap.size, 3, none⟩ = some (.int .i64 n) ∧ u.cell? ⟨wr.heap.size + 1, 0, none⟩ = some (.int .i64 A) ∧ u.cell? ⟨wr.heap.size + 1, 1, none⟩ = some (.int .i64 S)) ∧ (Instr.lookup 36 (.map (some w.heap.size)) (.agg #[.int .i64 A, .int .i64 S]) false).run Try.prog u = .ok (.int .i64 G) u := fun u hu => by
                have hb2 := nx hb1 hu
                have hs := hb1.size
                refine ⟨⟨?_, ?_, ?_⟩, ?_⟩
                · rw [hb2.cell (p := ⟨wr.heap.size, 3, none⟩) (by show wr.heap.size < _; omega)]; exact p0.1
                · rw [hb2.cell (p := ⟨wr.heap.size + 1, 0, none⟩) (by show wr.heap.size + 1 < _; omega)]; exact p0.2.1
                · rw [hb2.cell (p := ⟨wr.heap.size + 1, 1, none⟩) (by show wr.heap.size + 1 < _; omega)]; exact p0.2.2
                · have := MP.look (MF.stays PV hb2) A S hA hS
                  rw [GG.out] at this; exact this
              have FK := Lib.hid FK
              have hF := FK.out _ (Below.refl _ _)
              obtain ⟨⟨q0, q1, q2⟩, q3⟩ := hF
              go_wp2_with fail
              clear q0 q1 q2 q3
              refine Rf.region [0, 1, 2, 3, 4, 5, 6, 7, 8, 9, 10, 11, 12, 13] (by kernel_rfl) (by kernel_rfl) (by kernel_rfl) (fun _ _ d _ _ h => by cases d <;> exact h) ?_
              repeat (first | (refine Rf.Steps.skip (by rfl) (by kernel_rfl) (by rfl) ?_; simp only [Act.put, List.setIfInBounds_toArray, List.set_cons_zero, List.set_cons_succ]) | (refine Rf.Steps.pure (v := ?_) (by rfl) (by kernel_rfl) (by rfl) ?_ ?_; rotate_left; (intro w_ hS_; have hk_ := FK.out w_ hS_; go_simp <;> with_reducible rfl); simp only [Act.put, List.setIfInBounds_toArray, List.set_cons_zero, List.set_cons_succ]))
              refine Rf.Steps.nil (by kernel_rfl) ?_
              intro w2 hb2
              go_wp2_with fail
              have hxa := SL.stays enc 3 l x1 _ _ hx1 hb2
              have hxb := SL.stays enc 3 l u3 _ _ XV (nx hb1 hb2)
              refine (same_is _ hxa hxb HM.out).mono ?_
              rintro e X2 ⟨rfl, hbs2⟩
              have hbb := nx hb1 (nx hb2 hbs2)
              have PX2 : Hid (MP (get l) w.heap.size (k + 1) X2) := Lib.hid ((MF.stays PV hbb).mono (Nat.le_succ k))
              have IX2 : Hid (MI (fun s => tot s l) (w.heap.size + 1) (k + 1) X2) := Lib.hid ((MF.stays IV hbb).mono (Nat.le_succ k))
              have HX2 := Lib.hid (SL.stays enc 3 l x1 _ _ hxa hbs2)
              have bX2 : Below w.heap.size w X2 := nx hb (nx hbV hbb)
              go_wp2_with fail
              refine (R2.out _ _ HX2.out).mono ?_
              rintro e X3 ⟨rfl, hb3⟩
              have FT : Hid (∀ u, Below X3.heap.size X3 u → HL l x1 u ∧ MP (get l) w.heap.size (k + 1) u ∧ MI (fun s => tot s l) (w.heap.size + 1) (k + 1) u) := Lib.hid fun u hu => by
                have hh := nx hb3 hu
                exact ⟨SL.stays enc 3 l x1 _ _ HX2.out hh, MF.stays PX2.out hh, MF.stays IX2.out hh⟩
              have bX3 := nx bX2 hb3
              have hbw := bX2.size
              obtain ⟨wq, rfl⟩ : ∃ wq : World, wq = wr := ⟨_, rfl⟩
              go_wp2_with fail
              go_loopw [133] (fun i wr => ∃ a2 : Nat, a2 ≤ 5 ∧ i = .int .i64 a2 ∧ Below X3.heap.size X3 wr) (fun i _ => 5 - (intOf i).toNat)
              case atStart => exact ⟨0, Nat.zero_le _, rfl, Below.refl _ _⟩
              case round =>
                obtain ⟨a2, ha2, rfl, hba⟩ := hrel
                by_cases hat2 : a2 < 5
                · have hat3 : (a2 : Int) < 5 := by omega
                  obtain ⟨wo, rfl⟩ : ∃ wo : World, wo = wr := ⟨_, rfl⟩
                  go_wp2_with fail
                  go_loopw [136] (fun i wr => ∃ s2 : Nat, s2 ≤ 3 ∧ i = .int .i64 s2 ∧ Below X3.heap.size X3 wr) (fun i _ => 3 - (intOf i).toNat)
                  case atStart => exact ⟨0, Nat.zero_le _, rfl, hba⟩
                  case round =>
                    obtain ⟨s2, hs2, rfl, hbs⟩ := hrel
                    by_cases hst : s2 < 3
                    · have hst2 : (s2 : Int) < 3 := by omega
                      go_wp2_with fail
                      obtain ⟨Y, hY⟩ : ∃ Y, Y = wr.alloc (.cells #[.int .i64 a2, .int .i64 s2] 24) := ⟨_, rfl⟩
                      have hbY : Below wr.heap.size wr Y := hY ▸ below1 wr _
                      have hzY : wr.heap.size < Y.heap.size := by rw [hY]; simp
                      have i0 : Y.cell? ⟨wr.heap.size, 0, none⟩ = some (.int .i64 a2) := by rw [hY]; simp [go_sem]
                      have i1 : Y.cell? ⟨wr.heap.size, 1, none⟩ = some (.int .i64 s2) := by rw [hY]; simp [go_sem]
                      rw [← hY]
                      clear hY
                      obtain ⟨gq, hgq⟩ : ∃ x, get l ((a2 : Int), (s2 : Int)) = x := ⟨_, rfl⟩
                      obtain ⟨tq, htq⟩ : ∃ x, tot s2 l = x := ⟨_, rfl⟩
                      have D3 : Hid (∀ w, HL l x1 w → Calls Try.prog 14 #[x1, .agg #[.int .i64 a2, .int .i64 s2]] w fun e w' => e = .returned (.int .i64 gq) ∧ Below w.heap.size w w') := Lib.hid fun w h => by rw [← hgq]; exact get_any l x1 a2 s2 w h HM.out
                      have D4 : Hid (∀ w, HL l x1 w → Calls Try.prog 16 #[x1, .int .i64 s2] w fun e w' => e = .returned (.int .i64 tq) ∧ Below w.heap.size w w') := Lib.hid fun w h => by rw [← htq, ← total_right RD.out]; exact total_any l x1 s2 w h HM.out
                      have hF : ∀ u, Below Y.heap.size Y u → (u.cell? ⟨wr.heap.size, 0, none⟩ = some (.int .i64 a2) ∧ u.cell? ⟨wr.heap.size, 1, none⟩ = some (.int .i64 s2)) ∧ HL l x1 u ∧ (Instr.lookup 36 (.map (some w.heap.size)) (.agg #[.int .i64 a2, .int .i64 s2]) false).run Try.prog u = .ok (.int .i64 gq) u ∧ (Instr.lookup 37 (.map (some (w.heap.size + 1))) (.int .i64 s2) false).run Try.prog u = .ok (.int .i64 tq) u := fun u hu => by
                        have hf := FT.out u (nx hbs (nx hbY hu))
                        refine ⟨⟨by rw [hu.cell (p := ⟨wr.heap.size, 0, none⟩) hzY]; exact i0, by rw [hu.cell (p := ⟨wr.heap.size, 1, none⟩) hzY]; exact i1⟩, hf.1, ?_, ?_⟩
                        · rw [← hgq]; exact MP.look hf.2.1 a2 s2 hat2 hst
                        · rw [← htq]; exact MI.look hf.2.2 s2 hst
                      clear hgq htq i0 i1
                      refine Rf.region [0, 1, 2, 3, 4, 5, 6, 7, 8, 9, 10, 11, 12, 13, 14, 15] (by kernel_rfl) (by kernel_rfl) (by kernel_rfl) (fun _ _ d _ _ h => by cases d <;> exact h) ?_
                      repeat (first | (refine Rf.Steps.skip (by rfl) (by kernel_rfl) (by rfl) ?_; simp only [Act.put, List.setIfInBounds_toArray, List.set_cons_zero, List.set_cons_succ]) | (refine Rf.Steps.pure (v := ?_) (by rfl) (by kernel_rfl) (by rfl) ?_ ?_; rotate_left; (intro w_ hS_; have hk_ := hF w_ hS_; go_simp <;> with_reducible rfl); simp only [Act.put, List.setIfInBounds_toArray, List.set_cons_zero, List.set_cons_succ]) | (refine Rf.Steps.call (v := ?_) (f := ?_) (args := ?_) (by rfl) (by kernel_rfl) (by rfl) ?_ ?_ ?_; rotate_left 3; (intro w_ hS_; have hk_ := hF w_ hS_; go_simp <;> first | with_reducible rfl | (constructor <;> with_reducible rfl)); (intro w_ hS_; have hk_ := hF w_ hS_; first | (go_at_call 14; refine (D3.out _ hk_.2.1).mono ?_; first | (rintro e w_ ⟨rfl, rfl⟩; refine ⟨?_, Below.refl _ _⟩; with_reducible rfl) | (rintro e w_ ⟨rfl, hb_⟩; refine ⟨?_, hb_⟩; with_reducible rfl)) | (go_at_call 16; refine (D4.out _ hk_.2.1).mono ?_; first | (rintro e w_ ⟨rfl, rfl⟩; refine ⟨?_, Below.refl _ _⟩; with_reducible rfl) | (rintro e w_ ⟨rfl, hb_⟩; refine ⟨?_, hb_⟩; with_reducible rfl))); simp only [Act.put, List.setIfInBounds_toArray, List.set_cons_zero, List.set_cons_succ]))
                      refine Rf.Steps.nil (by kernel_rfl) ?_
                      intro w5 hb5
                      go_wp2_with fail
                      go_roundw
                      case rel => exact ⟨s2 + 1, by omega, by go_num, nx hbs (nx hbY hb5)⟩
                      case measure => simp [intOf]; omega
                    · obtain rfl : s2 = 3 := by omega
                      go_wp2_with fail
                      go_roundw
                      case rel => exact ⟨a2 + 1, by omega, by go_num, hbs⟩
                      case measure => simp [intOf]; omega
                · obtain rfl : a2 = 5 := by omega
                  go_wp2_with fail
                  go_roundw
                  case rel => exact ⟨k + 1, l, by omega, by go_num, RD.out, (FT.out _ hba).1, (FT.out _ hba).2.1, (FT.out _ hba).2.2, nx bX3 hba⟩
                  case measure => simp [intOf]; omega
        · have hkd2 : (kd == 1) = false := by simpa using hkd
          by_cases hE : giveE l (A, S) n = 0
          · obtain ⟨t1, t2, t3⟩ := give_done hE
            obtain ⟨t4, t5⟩ := (give_plays RD.out PM.out).1 hE
            have tb := get_pos (p := ((A : Int), (S : Int))) RD.out
            have C1 : ∀ w, HL l u3 w → Calls Try.prog 7 #[u3, .agg #[.int .i64 A, .int .i64 S], .int .i64 n] w (Post2 (HL (giveL l (A, S) n)) 0 w) := fun w h => by rw [← hE]; exact give_any l u3 A S n w h HM.out
            have C1 := Lib.hid C1
            obtain ⟨G, hG⟩ : ∃ x, get l ((A : Int), (S : Int)) = x := ⟨_, rfl⟩
            obtain ⟨l2, hl2⟩ : ∃ x, giveL l ((A : Int), (S : Int)) n = x := ⟨_, rfl⟩
            rw [hl2] at t1 t2 t3 C1
            rw [hG] at t2 t5 tb
            have T1 := Lib.hid t1
            have M2 := Lib.hid (show l2.length ≤ 1000000 by have := right_512 t1; omega)
            have R2 : Hid (∀ x w, HL l2 x w → Calls Try.prog 12 #[x] w fun e w' => e = .returned (.bool true) ∧ Below w.heap.size w w') := Lib.hid fun x w h => by rw [← right_iff.2 T1.out]; exact right_any l2 x w h M2.out
            have T2 := Lib.hid t2
            have T3 := Lib.hid t3
            have GG := Lib.hid hG
            have g1 : decide (0 ≤ n) = true := by rw [decide_eq_true_eq]; exact t4
            have g2 : decide (n ≤ 1125899906842624 - G) = true := by rw [decide_eq_true_eq]; exact t5
            clear t1 t2 t3 hG hl2 hE
            have hwg : wrap64 (1125899906842624 - G) = 1125899906842624 - G := IntWalk.wrap64_in _ (by omega)
            have hwg2 : IntKind.i64.wrap (1125899906842624 - G) = 1125899906842624 - G := IntWalk.i64_in _ (by omega)
            go_wp2_with fail
            rw [Z1.out, Z2.out]
            obtain ⟨V, hV⟩ : ∃ V, V = (wr.alloc (.cells #[.int .i64 kd, .int .i64 ac, .int .i64 ass, .int .i64 n] 39)).alloc (.cells #[.int .i64 A, .int .i64 S] 24) := ⟨_, rfl⟩
            have hbV : Below wr.heap.size wr V := hV ▸ below2 wr _ _
            have hzV : V.heap.size = wr.heap.size + 2 := by rw [hV]; simp
            have p0 : V.cell? ⟨wr.heap.size, 3, none⟩ = some (.int .i64 n) ∧ V.cell? ⟨wr.heap.size + 1, 0, none⟩ = some (.int .i64 A) ∧ V.cell? ⟨wr.heap.size + 1, 1, none⟩ = some (.int .i64 S) := by rw [hV]; exact ⟨by simp [go_sem], by simp [go_sem], by simp [go_sem]⟩
            rw [← hV]
            clear hV
            have XV := SL.stays enc 3 l u3 _ _ XD.out hbV
            have PV := MF.stays PD.out hbV
            have IV := MF.stays ID.out hbV
            refine (C1.out _ XV).mono ?_
            rintro e w1 ⟨x1, rfl, hb1, hx1⟩
            have FK : ∀ u, Below w1.heap.size w1 u → (u.cell? ⟨wr.heap.size, 3, none⟩ = some (.int .i64 n) ∧ u.cell? ⟨wr.heap.size + 1, 0, none⟩ = some (.int .i64 A) ∧ u.cell? ⟨wr.heap.size + 1, 1, none⟩ = some (.int .i64 S)) ∧ (Instr.lookup 36 (.map (some w.heap.size)) (.agg #[.int .i64 A, .int .i64 S]) false).run Try.prog u = .ok (.int .i64 G) u := fun u hu => by
              have hb2 := nx hb1 hu
              have hs := hb1.size
              refine ⟨⟨?_, ?_, ?_⟩, ?_⟩
              · rw [hb2.cell (p := ⟨wr.heap.size, 3, none⟩) (by show wr.heap.size < _; omega)]; exact p0.1
              · rw [hb2.cell (p := ⟨wr.heap.size + 1, 0, none⟩) (by show wr.heap.size + 1 < _; omega)]; exact p0.2.1
              · rw [hb2.cell (p := ⟨wr.heap.size + 1, 1, none⟩) (by show wr.heap.size + 1 < _; omega)]; exact p0.2.2
              · have := MP.look (MF.stays PV hb2) A S hA hS
                rw [GG.out] at this; exact this
            have FK := Lib.hid FK
            have hF := FK.out _ (Below.refl _ _)
            obtain ⟨⟨q0, q1, q2⟩, q3⟩ := hF
            go_wp2_with fail
            clear q0 q1 q2 q3
            refine Rf.region [0, 1, 2, 3, 4, 5, 6, 7, 8, 9, 10, 11, 12, 13, 14] (by kernel_rfl) (by kernel_rfl) (by kernel_rfl) (fun _ _ d _ _ h => by cases d <;> exact h) ?_
            repeat (first | (refine Rf.Steps.skip (by rfl) (by kernel_rfl) (by rfl) ?_; simp only [Act.put, List.setIfInBounds_toArray, List.set_cons_zero, List.set_cons_succ]) | (refine Rf.Steps.pure (v := ?_) (by rfl) (by kernel_rfl) (by rfl) ?_ ?_; rotate_left; (intro w_ hS_; have hk_ := FK.out w_ hS_; go_simp <;> with_reducible rfl); simp only [Act.put, List.setIfInBounds_toArray, List.set_cons_zero, List.set_cons_succ]))
            refine Rf.Steps.nil (by kernel_rfl) ?_
            intro w2 hb2
            obtain ⟨⟨q0, q1, q2⟩, q3⟩ := FK.out w2 hb2
            go_wp2_with fail
            have PD2 : MP (get l) w.heap.size k w2.drew := MF.same (MF.stays PV (nx hb1 hb2)) rfl
            have hwv : wrap64 (G + n) = G + n := IntWalk.wrap64_in _ (by omega)
            obtain ⟨st, v0, o1, o2, r1, r2, r3⟩ := MP.entry (g := get l2) PD2 (by unfold maxLen; omega) A S hA hS (c := G + n) (WalkArith.wf_i64 (by omega)) (by rw [T2.out, if_pos rfl]) (fun u hu => by rw [T2.out, if_neg hu])
            obtain ⟨r4, r5⟩ := r2 _ (MF.slot PD2 o1)
            have r6 := MP.look r4 A S hA hS
            rw [GG.out] at r6
            have hne1 : wr.heap.size ≠ w.heap.size := by have := MF.lt PD.out; omega
            have hne2 : wr.heap.size + 1 ≠ w.heap.size := by have := MF.lt PD.out; omega
            have s0 : (Go.ChangeMaps.setBlock w2.drew w.heap.size o1).cell? ⟨wr.heap.size, 3, none⟩ = some (.int .i64 n) := MF.cells PD2 o1 q0
            have s1 : (Go.ChangeMaps.setBlock w2.drew w.heap.size o1).cell? ⟨wr.heap.size + 1, 0, none⟩ = some (.int .i64 A) := MF.cells PD2 o1 q1
            have s2 : (Go.ChangeMaps.setBlock w2.drew w.heap.size o1).cell? ⟨wr.heap.size + 1, 1, none⟩ = some (.int .i64 S) := MF.cells PD2 o1 q2
            have q3 := (FK.out w2.drew hb2.drew).2
            have r5' : (Instr.entryStore 36 (.map (some w.heap.size)) (.int .i64 st) (.int .i64 (G + n))).run Try.prog (Go.ChangeMaps.setBlock w2.drew w.heap.size o1) = .ok () (Go.ChangeMaps.setBlock (Go.ChangeMaps.setBlock w2.drew w.heap.size o1) w.heap.size o2) := r5
            go_region
            obtain ⟨X, hX⟩ : ∃ X, X = Go.ChangeMaps.setBlock (Go.ChangeMaps.setBlock w2.drew w.heap.size o1) w.heap.size o2 := ⟨_, rfl⟩
            have hb12 := nx hb1 hb2
            have PX : Hid (MP (get l2) w.heap.size (k + 1) X) := Lib.hid (MF.same r3 (by rw [hX, MF.slot r4, MF.slot PD2]))
            have hbt : w.heap.size + 1 ≠ w.heap.size := by omega
            have IX : MI (fun s => tot s l) (w.heap.size + 1) k X := MF.same (MF.stays IV hb12) (by rw [hX, MF.apart r4 o2 hbt, MF.apart PD2 o1 hbt]; rfl)
            have kX : ∀ (p : Addr) (u : Value), w2.cell? p = some u → X.cell? p = some u := fun p u hu => by rw [hX]; exact MF.cells r4 o2 (MF.cells PD2 o1 hu)
            have sX : X.heap.size = w2.heap.size := by rw [hX, set_size, set_size]; rfl
            have HX : Hid (HL l2 x1 X) := Lib.hid (hl_cells (SL.stays enc 3 l2 x1 _ _ hx1 hb2) (by omega) kX)
            have bX : Below w.heap.size w X := by rw [hX]; exact below_set (below_set (nx hb (nx hbV hb12)).drew (Nat.le_refl _) _) (Nat.le_refl _) _
            have y0 := kX _ _ q0
            have y1 := kX _ _ q1
            have y2 := kX _ _ q2
            rw [← hX]
            clear r1 r2 r3 r4 r5 r5' r6 s0 s1 s2 q0 q1 q2 q3 hX kX hwv
            have tb2 := tot_bd RD.out S l.length
            rw [List.take_length] at tb2
            have tb3 := tot_bd T1.out S l2.length
            rw [List.take_length, T3.out, if_pos rfl] at tb3
            obtain ⟨X2, u1, u2, u3⟩ := MI.put (g := fun s => tot s l2) IX (by unfold maxLen; omega) S hS (c := tot S l + n) (WalkArith.wf_i64 (by omega)) (by rw [T3.out, if_pos rfl]) (fun s hs => by rw [T3.out, if_neg (fun e => hs e.symm)]; omega)
            have u4 := MI.look IX S hS
            have hwv : wrap64 (tot S l + n) = tot S l + n := IntWalk.wrap64_in _ (by omega)
            have PX2 : MP (get l2) w.heap.size (k + 1) X2 := MF.same PX.out (u3.block _ (MF.lt PX.out) (fun e => by have := Option.some.inj e; omega))
            have HX2 : HL l2 x1 X2 := hl_cells HX.out u3.size fun p u hu => MF.grownC IX u3 hu
            have bX2 : Below w.heap.size w X2 := bX.grown u3 bX.size (fun j hj => by cases hj; omega)
            have IX2 := Lib.hid u2
            have PX2 := Lib.hid PX2
            have HX2 := Lib.hid HX2
            clear u2 tb2 tb3 IX
            go_wp2_with fail
            refine (R2.out _ _ HX2.out).mono ?_
            rintro e X3 ⟨rfl, hb3⟩
            have FT : Hid (∀ u, Below X3.heap.size X3 u → HL l2 x1 u ∧ MP (get l2) w.heap.size (k + 1) u ∧ MI (fun s => tot s l2) (w.heap.size + 1) (k + 1) u) := Lib.hid fun u hu => by
              have hh := nx hb3 hu
              exact ⟨SL.stays enc 3 l2 x1 _ _ HX2.out hh, MF.stays PX2.out hh, MF.stays IX2.out hh⟩
            have bX3 := nx bX2 hb3
            have hbw := bX2.size
            obtain ⟨wq, rfl⟩ : ∃ wq : World, wq = wr := ⟨_, rfl⟩
            go_wp2_with fail
            go_loopw [133] (fun i wr => ∃ a2 : Nat, a2 ≤ 5 ∧ i = .int .i64 a2 ∧ Below X3.heap.size X3 wr) (fun i _ => 5 - (intOf i).toNat)
            case atStart => exact ⟨0, Nat.zero_le _, rfl, Below.refl _ _⟩
            case round =>
              obtain ⟨a2, ha2, rfl, hba⟩ := hrel
              by_cases hat2 : a2 < 5
              · have hat3 : (a2 : Int) < 5 := by omega
                obtain ⟨wo, rfl⟩ : ∃ wo : World, wo = wr := ⟨_, rfl⟩
                go_wp2_with fail
                go_loopw [136] (fun i wr => ∃ s2 : Nat, s2 ≤ 3 ∧ i = .int .i64 s2 ∧ Below X3.heap.size X3 wr) (fun i _ => 3 - (intOf i).toNat)
                case atStart => exact ⟨0, Nat.zero_le _, rfl, hba⟩
                case round =>
                  obtain ⟨s2, hs2, rfl, hbs⟩ := hrel
                  by_cases hst : s2 < 3
                  · have hst2 : (s2 : Int) < 3 := by omega
                    go_wp2_with fail
                    obtain ⟨Y, hY⟩ : ∃ Y, Y = wr.alloc (.cells #[.int .i64 a2, .int .i64 s2] 24) := ⟨_, rfl⟩
                    have hbY : Below wr.heap.size wr Y := hY ▸ below1 wr _
                    have hzY : wr.heap.size < Y.heap.size := by rw [hY]; simp
                    have i0 : Y.cell? ⟨wr.heap.size, 0, none⟩ = some (.int .i64 a2) := by rw [hY]; simp [go_sem]
                    have i1 : Y.cell? ⟨wr.heap.size, 1, none⟩ = some (.int .i64 s2) := by rw [hY]; simp [go_sem]
                    rw [← hY]
                    clear hY
                    obtain ⟨gq, hgq⟩ : ∃ x, get l2 ((a2 : Int), (s2 : Int)) = x := ⟨_, rfl⟩
                    obtain ⟨tq, htq⟩ : ∃ x, tot s2 l2 = x := ⟨_, rfl⟩
                    have D3 : Hid (∀ w, HL l2 x1 w → Calls Try.prog 14 #[x1, .agg #[.int .i64 a2, .int .i64 s2]] w fun e w' => e = .returned (.int .i64 gq) ∧ Below w.heap.size w w') := Lib.hid fun w h => by rw [← hgq]; exact get_any l2 x1 a2 s2 w h M2.out
                    have D4 : Hid (∀ w, HL l2 x1 w → Calls Try.prog 16 #[x1, .int .i64 s2] w fun e w' => e = .returned (.int .i64 tq) ∧ Below w.heap.size w w') := Lib.hid fun w h => by rw [← htq, ← total_right T1.out]; exact total_any l2 x1 s2 w h M2.out
                    have hF : ∀ u, Below Y.heap.size Y u → (u.cell? ⟨wr.heap.size, 0, none⟩ = some (.int .i64 a2) ∧ u.cell? ⟨wr.heap.size, 1, none⟩ = some (.int .i64 s2)) ∧ HL l2 x1 u ∧ (Instr.lookup 36 (.map (some w.heap.size)) (.agg #[.int .i64 a2, .int .i64 s2]) false).run Try.prog u = .ok (.int .i64 gq) u ∧ (Instr.lookup 37 (.map (some (w.heap.size + 1))) (.int .i64 s2) false).run Try.prog u = .ok (.int .i64 tq) u := fun u hu => by
                      have hf := FT.out u (nx hbs (nx hbY hu))
                      refine ⟨⟨by rw [hu.cell (p := ⟨wr.heap.size, 0, none⟩) hzY]; exact i0, by rw [hu.cell (p := ⟨wr.heap.size, 1, none⟩) hzY]; exact i1⟩, hf.1, ?_, ?_⟩
                      · rw [← hgq]; exact MP.look hf.2.1 a2 s2 hat2 hst
                      · rw [← htq]; exact MI.look hf.2.2 s2 hst
                    clear hgq htq i0 i1
                    refine Rf.region [0, 1, 2, 3, 4, 5, 6, 7, 8, 9, 10, 11, 12, 13, 14, 15] (by kernel_rfl) (by kernel_rfl) (by kernel_rfl) (fun _ _ d _ _ h => by cases d <;> exact h) ?_
                    repeat (first | (refine Rf.Steps.skip (by rfl) (by kernel_rfl) (by rfl) ?_; simp only [Act.put, List.setIfInBounds_toArray, List.set_cons_zero, List.set_cons_succ]) | (refine Rf.Steps.pure (v := ?_) (by rfl) (by kernel_rfl) (by rfl) ?_ ?_; rotate_left; (intro w_ hS_; have hk_ := hF w_ hS_; go_simp <;> with_reducible rfl); simp only [Act.put, List.setIfInBounds_toArray, List.set_cons_zero, List.set_cons_succ]) | (refine Rf.Steps.call (v := ?_) (f := ?_) (args := ?_) (by rfl) (by kernel_rfl) (by rfl) ?_ ?_ ?_; rotate_left 3; (intro w_ hS_; have hk_ := hF w_ hS_; go_simp <;> first | with_reducible rfl | (constructor <;> with_reducible rfl)); (intro w_ hS_; have hk_ := hF w_ hS_; first | (go_at_call 14; refine (D3.out _ hk_.2.1).mono ?_; first | (rintro e w_ ⟨rfl, rfl⟩; refine ⟨?_, Below.refl _ _⟩; with_reducible rfl) | (rintro e w_ ⟨rfl, hb_⟩; refine ⟨?_, hb_⟩; with_reducible rfl)) | (go_at_call 16; refine (D4.out _ hk_.2.1).mono ?_; first | (rintro e w_ ⟨rfl, rfl⟩; refine ⟨?_, Below.refl _ _⟩; with_reducible rfl) | (rintro e w_ ⟨rfl, hb_⟩; refine ⟨?_, hb_⟩; with_reducible rfl))); simp only [Act.put, List.setIfInBounds_toArray, List.set_cons_zero, List.set_cons_succ]))
                    refine Rf.Steps.nil (by kernel_rfl) ?_
                    intro w5 hb5
                    go_wp2_with fail
                    go_roundw
                    case rel => exact ⟨s2 + 1, by omega, by go_num, nx hbs (nx hbY hb5)⟩
                    case measure => simp [intOf]; omega
                  · obtain rfl : s2 = 3 := by omega
                    go_wp2_with fail
                    go_roundw
                    case rel => exact ⟨a2 + 1, by omega, by go_num, hbs⟩
                    case measure => simp [intOf]; omega
              · obtain rfl : a2 = 5 := by omega
                go_wp2_with fail
                go_roundw
                case rel => exact ⟨k + 1, l2, by omega, by go_num, T1.out, (FT.out _ hba).1, (FT.out _ hba).2.1, (FT.out _ hba).2.2, nx bX3 hba⟩
                case measure => simp [intOf]; omega
          · have hnot := fun h => hE ((give_plays RD.out PM.out).2 h)
            by_cases hneg : n < 0
            · have tb := get_pos (p := ((A : Int), (S : Int))) RD.out
              have C1 : ∀ w, HL l u3 w → Calls Try.prog 7 #[u3, .agg #[.int .i64 A, .int .i64 S], .int .i64 n] w (Post2 (HL l) (giveE l (A, S) n) w) := fun w h => by
                have k := give_any l u3 A S n w h HM.out
                rw [give_none hE] at k; exact k
              have C1 := Lib.hid C1
              obtain ⟨G, hG⟩ : ∃ x, get l ((A : Int), (S : Int)) = x := ⟨_, rfl⟩
              obtain ⟨E, hEE⟩ : ∃ x, giveE l ((A : Int), (S : Int)) n = x := ⟨_, rfl⟩
              rw [hEE] at C1 hE
              rw [hG] at tb hnot
              have GG := Lib.hid hG
              have he1 : (E == 0) = false := by simpa using hE
              have he2 : (E != 0) = true := by simpa using hE
              have R2 : Hid (∀ x w, HL l x w → Calls Try.prog 12 #[x] w fun e w' => e = .returned (.bool true) ∧ Below w.heap.size w w') := Lib.hid fun x w h => by rw [← right_iff.2 RD.out]; exact right_any l x w h HM.out
              have g1 : decide (0 ≤ n) = false := by rw [decide_eq_false_iff_not]; omega
              clear hG hEE
              have hwg : wrap64 (1125899906842624 - G) = 1125899906842624 - G := IntWalk.wrap64_in _ (by omega)
              have hwg2 : IntKind.i64.wrap (1125899906842624 - G) = 1125899906842624 - G := IntWalk.i64_in _ (by omega)
              go_wp2_with fail
              rw [Z1.out, Z2.out]
              obtain ⟨V, hV⟩ : ∃ V, V = (wr.alloc (.cells #[.int .i64 kd, .int .i64 ac, .int .i64 ass, .int .i64 n] 39)).alloc (.cells #[.int .i64 A, .int .i64 S] 24) := ⟨_, rfl⟩
              have hbV : Below wr.heap.size wr V := hV ▸ below2 wr _ _
              have hzV : V.heap.size = wr.heap.size + 2 := by rw [hV]; simp
              have p0 : V.cell? ⟨wr.heap.size, 3, none⟩ = some (.int .i64 n) ∧ V.cell? ⟨wr.heap.size + 1, 0, none⟩ = some (.int .i64 A) ∧ V.cell? ⟨wr.heap.size + 1, 1, none⟩ = some (.int .i64 S) := by rw [hV]; exact ⟨by simp [go_sem], by simp [go_sem], by simp [go_sem]⟩
              rw [← hV]
              clear hV
              have XV := SL.stays enc 3 l u3 _ _ XD.out hbV
              have PV := MF.stays PD.out hbV
              have IV := MF.stays ID.out hbV
              refine (C1.out _ XV).mono ?_
              rintro e w1 ⟨x1, rfl, hb1, hx1⟩
              have FK : ∀ u, Below w1.heap.size w1 u → (u.cell? ⟨wr.heap.size, 3, none⟩ = some (.int .i64 n) ∧ u.cell? ⟨wr.heap.size + 1, 0, none⟩ = some (.int .i64 A) ∧ u.cell? ⟨wr.heap.size + 1, 1, none⟩ = some (.int .i64 S)) ∧ (Instr.lookup 36 (.map (some w.heap.size)) (.agg #[.int .i64 A, .int .i64 S]) false).run Try.prog u = .ok (.int .i64 G) u := fun u hu => by
                have hb2 := nx hb1 hu
                have hs := hb1.size
                refine ⟨⟨?_, ?_, ?_⟩, ?_⟩
                · rw [hb2.cell (p := ⟨wr.heap.size, 3, none⟩) (by show wr.heap.size < _; omega)]; exact p0.1
                · rw [hb2.cell (p := ⟨wr.heap.size + 1, 0, none⟩) (by show wr.heap.size + 1 < _; omega)]; exact p0.2.1
                · rw [hb2.cell (p := ⟨wr.heap.size + 1, 1, none⟩) (by show wr.heap.size + 1 < _; omega)]; exact p0.2.2
                · have := MP.look (MF.stays PV hb2) A S hA hS
                  rw [GG.out] at this; exact this
              have FK := Lib.hid FK
              have hF := FK.out _ (Below.refl _ _)
              obtain ⟨⟨q0, q1, q2⟩, q3⟩ := hF
              go_wp2_with fail
              clear q0 q1 q2 q3
              refine Rf.region [0, 1, 2, 3, 4, 5, 6, 7, 8, 9, 10, 11, 12, 13, 14] (by kernel_rfl) (by kernel_rfl) (by kernel_rfl) (fun _ _ d _ _ h => by cases d <;> exact h) ?_
              repeat (first | (refine Rf.Steps.skip (by rfl) (by kernel_rfl) (by rfl) ?_; simp only [Act.put, List.setIfInBounds_toArray, List.set_cons_zero, List.set_cons_succ]) | (refine Rf.Steps.pure (v := ?_) (by rfl) (by kernel_rfl) (by rfl) ?_ ?_; rotate_left; (intro w_ hS_; have hk_ := FK.out w_ hS_; go_simp <;> with_reducible rfl); simp only [Act.put, List.setIfInBounds_toArray, List.set_cons_zero, List.set_cons_succ]))
              refine Rf.Steps.nil (by kernel_rfl) ?_
              intro w2 hb2
              go_wp2_with fail
              have hxa := SL.stays enc 3 l x1 _ _ hx1 hb2
              have hxb := SL.stays enc 3 l u3 _ _ XV (nx hb1 hb2)
              refine (same_is _ hxa hxb HM.out).mono ?_
              rintro e X2 ⟨rfl, hbs2⟩
              have hbb := nx hb1 (nx hb2 hbs2)
              have PX2 : Hid (MP (get l) w.heap.size (k + 1) X2) := Lib.hid ((MF.stays PV hbb).mono (Nat.le_succ k))
              have IX2 : Hid (MI (fun s => tot s l) (w.heap.size + 1) (k + 1) X2) := Lib.hid ((MF.stays IV hbb).mono (Nat.le_succ k))
              have HX2 := Lib.hid (SL.stays enc 3 l x1 _ _ hxa hbs2)
              have bX2 : Below w.heap.size w X2 := nx hb (nx hbV hbb)
              go_wp2_with fail
              refine (R2.out _ _ HX2.out).mono ?_
              rintro e X3 ⟨rfl, hb3⟩
              have FT : Hid (∀ u, Below X3.heap.size X3 u → HL l x1 u ∧ MP (get l) w.heap.size (k + 1) u ∧ MI (fun s => tot s l) (w.heap.size + 1) (k + 1) u) := Lib.hid fun u hu => by
                have hh := nx hb3 hu
                exact ⟨SL.stays enc 3 l x1 _ _ HX2.out hh, MF.stays PX2.out hh, MF.stays IX2.out hh⟩
              have bX3 := nx bX2 hb3
              have hbw := bX2.size
              obtain ⟨wq, rfl⟩ : ∃ wq : World, wq = wr := ⟨_, rfl⟩
              go_wp2_with fail
              go_loopw [133] (fun i wr => ∃ a2 : Nat, a2 ≤ 5 ∧ i = .int .i64 a2 ∧ Below X3.heap.size X3 wr) (fun i _ => 5 - (intOf i).toNat)
              case atStart => exact ⟨0, Nat.zero_le _, rfl, Below.refl _ _⟩
              case round =>
                obtain ⟨a2, ha2, rfl, hba⟩ := hrel
                by_cases hat2 : a2 < 5
                · have hat3 : (a2 : Int) < 5 := by omega
                  obtain ⟨wo, rfl⟩ : ∃ wo : World, wo = wr := ⟨_, rfl⟩
                  go_wp2_with fail
                  go_loopw [136] (fun i wr => ∃ s2 : Nat, s2 ≤ 3 ∧ i = .int .i64 s2 ∧ Below X3.heap.size X3 wr) (fun i _ => 3 - (intOf i).toNat)
                  case atStart => exact ⟨0, Nat.zero_le _, rfl, hba⟩
                  case round =>
                    obtain ⟨s2, hs2, rfl, hbs⟩ := hrel
                    by_cases hst : s2 < 3
                    · have hst2 : (s2 : Int) < 3 := by omega
                      go_wp2_with fail
                      obtain ⟨Y, hY⟩ : ∃ Y, Y = wr.alloc (.cells #[.int .i64 a2, .int .i64 s2] 24) := ⟨_, rfl⟩
                      have hbY : Below wr.heap.size wr Y := hY ▸ below1 wr _
                      have hzY : wr.heap.size < Y.heap.size := by rw [hY]; simp
                      have i0 : Y.cell? ⟨wr.heap.size, 0, none⟩ = some (.int .i64 a2) := by rw [hY]; simp [go_sem]
                      have i1 : Y.cell? ⟨wr.heap.size, 1, none⟩ = some (.int .i64 s2) := by rw [hY]; simp [go_sem]
                      rw [← hY]
                      clear hY
                      obtain ⟨gq, hgq⟩ : ∃ x, get l ((a2 : Int), (s2 : Int)) = x := ⟨_, rfl⟩
                      obtain ⟨tq, htq⟩ : ∃ x, tot s2 l = x := ⟨_, rfl⟩
                      have D3 : Hid (∀ w, HL l x1 w → Calls Try.prog 14 #[x1, .agg #[.int .i64 a2, .int .i64 s2]] w fun e w' => e = .returned (.int .i64 gq) ∧ Below w.heap.size w w') := Lib.hid fun w h => by rw [← hgq]; exact get_any l x1 a2 s2 w h HM.out
                      have D4 : Hid (∀ w, HL l x1 w → Calls Try.prog 16 #[x1, .int .i64 s2] w fun e w' => e = .returned (.int .i64 tq) ∧ Below w.heap.size w w') := Lib.hid fun w h => by rw [← htq, ← total_right RD.out]; exact total_any l x1 s2 w h HM.out
                      have hF : ∀ u, Below Y.heap.size Y u → (u.cell? ⟨wr.heap.size, 0, none⟩ = some (.int .i64 a2) ∧ u.cell? ⟨wr.heap.size, 1, none⟩ = some (.int .i64 s2)) ∧ HL l x1 u ∧ (Instr.lookup 36 (.map (some w.heap.size)) (.agg #[.int .i64 a2, .int .i64 s2]) false).run Try.prog u = .ok (.int .i64 gq) u ∧ (Instr.lookup 37 (.map (some (w.heap.size + 1))) (.int .i64 s2) false).run Try.prog u = .ok (.int .i64 tq) u := fun u hu => by
                        have hf := FT.out u (nx hbs (nx hbY hu))
                        refine ⟨⟨by rw [hu.cell (p := ⟨wr.heap.size, 0, none⟩) hzY]; exact i0, by rw [hu.cell (p := ⟨wr.heap.size, 1, none⟩) hzY]; exact i1⟩, hf.1, ?_, ?_⟩
                        · rw [← hgq]; exact MP.look hf.2.1 a2 s2 hat2 hst
                        · rw [← htq]; exact MI.look hf.2.2 s2 hst
                      clear hgq htq i0 i1
                      refine Rf.region [0, 1, 2, 3, 4, 5, 6, 7, 8, 9, 10, 11, 12, 13, 14, 15] (by kernel_rfl) (by kernel_rfl) (by kernel_rfl) (fun _ _ d _ _ h => by cases d <;> exact h) ?_
                      repeat (first | (refine Rf.Steps.skip (by rfl) (by kernel_rfl) (by rfl) ?_; simp only [Act.put, List.setIfInBounds_toArray, List.set_cons_zero, List.set_cons_succ]) | (refine Rf.Steps.pure (v := ?_) (by rfl) (by kernel_rfl) (by rfl) ?_ ?_; rotate_left; (intro w_ hS_; have hk_ := hF w_ hS_; go_simp <;> with_reducible rfl); simp only [Act.put, List.setIfInBounds_toArray, List.set_cons_zero, List.set_cons_succ]) | (refine Rf.Steps.call (v := ?_) (f := ?_) (args := ?_) (by rfl) (by kernel_rfl) (by rfl) ?_ ?_ ?_; rotate_left 3; (intro w_ hS_; have hk_ := hF w_ hS_; go_simp <;> first | with_reducible rfl | (constructor <;> with_reducible rfl)); (intro w_ hS_; have hk_ := hF w_ hS_; first | (go_at_call 14; refine (D3.out _ hk_.2.1).mono ?_; first | (rintro e w_ ⟨rfl, rfl⟩; refine ⟨?_, Below.refl _ _⟩; with_reducible rfl) | (rintro e w_ ⟨rfl, hb_⟩; refine ⟨?_, hb_⟩; with_reducible rfl)) | (go_at_call 16; refine (D4.out _ hk_.2.1).mono ?_; first | (rintro e w_ ⟨rfl, rfl⟩; refine ⟨?_, Below.refl _ _⟩; with_reducible rfl) | (rintro e w_ ⟨rfl, hb_⟩; refine ⟨?_, hb_⟩; with_reducible rfl))); simp only [Act.put, List.setIfInBounds_toArray, List.set_cons_zero, List.set_cons_succ]))
                      refine Rf.Steps.nil (by kernel_rfl) ?_
                      intro w5 hb5
                      go_wp2_with fail
                      go_roundw
                      case rel => exact ⟨s2 + 1, by omega, by go_num, nx hbs (nx hbY hb5)⟩
                      case measure => simp [intOf]; omega
                    · obtain rfl : s2 = 3 := by omega
                      go_wp2_with fail
                      go_roundw
                      case rel => exact ⟨a2 + 1, by omega, by go_num, hbs⟩
                      case measure => simp [intOf]; omega
                · obtain rfl : a2 = 5 := by omega
                  go_wp2_with fail
                  go_roundw
                  case rel => exact ⟨k + 1, l, by omega, by go_num, RD.out, (FT.out _ hba).1, (FT.out _ hba).2.1, (FT.out _ hba).2.2, nx bX3 hba⟩
                  case measure => simp [intOf]; omega
            · have tb := get_pos (p := ((A : Int), (S : Int))) RD.out
              have C1 : ∀ w, HL l u3 w → Calls Try.prog 7 #[u3, .agg #[.int .i64 A, .int .i64 S], .int .i64 n] w (Post2 (HL l) (giveE l (A, S) n) w) := fun w h => by
                have k := give_any l u3 A S n w h HM.out
                rw [give_none hE] at k; exact k
              have C1 := Lib.hid C1
              obtain ⟨G, hG⟩ : ∃ x, get l ((A : Int), (S : Int)) = x := ⟨_, rfl⟩
              obtain ⟨E, hEE⟩ : ∃ x, giveE l ((A : Int), (S : Int)) n = x := ⟨_, rfl⟩
              rw [hEE] at C1 hE
              rw [hG] at tb hnot
              have GG := Lib.hid hG
              have he1 : (E == 0) = false := by simpa using hE
              have he2 : (E != 0) = true := by simpa using hE
              have R2 : Hid (∀ x w, HL l x w → Calls Try.prog 12 #[x] w fun e w' => e = .returned (.bool true) ∧ Below w.heap.size w w') := Lib.hid fun x w h => by rw [← right_iff.2 RD.out]; exact right_any l x w h HM.out
              have g1 : decide (0 ≤ n) = true := by rw [decide_eq_true_eq]; omega
              have g2 : decide (n ≤ 1125899906842624 - G) = false := by rw [decide_eq_false_iff_not]; intro hq; exact hnot ⟨by omega, hq⟩
              clear hG hEE
              have hwg : wrap64 (1125899906842624 - G) = 1125899906842624 - G := IntWalk.wrap64_in _ (by omega)
              have hwg2 : IntKind.i64.wrap (1125899906842624 - G) = 1125899906842624 - G := IntWalk.i64_in _ (by omega)
              go_wp2_with fail
              rw [Z1.out, Z2.out]
              obtain ⟨V, hV⟩ : ∃ V, V = (wr.alloc (.cells #[.int .i64 kd, .int .i64 ac, .int .i64 ass, .int .i64 n] 39)).alloc (.cells #[.int .i64 A, .int .i64 S] 24) := ⟨_, rfl⟩
              have hbV : Below wr.heap.size wr V := hV ▸ below2 wr _ _
              have hzV : V.heap.size = wr.heap.size + 2 := by rw [hV]; simp
              have p0 : V.cell? ⟨wr.heap.size, 3, none⟩ = some (.int .i64 n) ∧ V.cell? ⟨wr.heap.size + 1, 0, none⟩ = some (.int .i64 A) ∧ V.cell? ⟨wr.heap.size + 1, 1, none⟩ = some (.int .i64 S) := by rw [hV]; exact ⟨by simp [go_sem], by simp [go_sem], by simp [go_sem]⟩
              rw [← hV]
              clear hV
              have XV := SL.stays enc 3 l u3 _ _ XD.out hbV
              have PV := MF.stays PD.out hbV
              have IV := MF.stays ID.out hbV
              refine (C1.out _ XV).mono ?_
              rintro e w1 ⟨x1, rfl, hb1, hx1⟩
              have FK : ∀ u, Below w1.heap.size w1 u → (u.cell? ⟨wr.heap.size, 3, none⟩ = some (.int .i64 n) ∧ u.cell? ⟨wr.heap.size + 1, 0, none⟩ = some (.int .i64 A) ∧ u.cell? ⟨wr.heap.size + 1, 1, none⟩ = some (.int .i64 S)) ∧ (Instr.lookup 36 (.map (some w.heap.size)) (.agg #[.int .i64 A, .int .i64 S]) false).run Try.prog u = .ok (.int .i64 G) u := fun u hu => by
                have hb2 := nx hb1 hu
                have hs := hb1.size
                refine ⟨⟨?_, ?_, ?_⟩, ?_⟩
                · rw [hb2.cell (p := ⟨wr.heap.size, 3, none⟩) (by show wr.heap.size < _; omega)]; exact p0.1
                · rw [hb2.cell (p := ⟨wr.heap.size + 1, 0, none⟩) (by show wr.heap.size + 1 < _; omega)]; exact p0.2.1
                · rw [hb2.cell (p := ⟨wr.heap.size + 1, 1, none⟩) (by show wr.heap.size + 1 < _; omega)]; exact p0.2.2
                · have := MP.look (MF.stays PV hb2) A S hA hS
                  rw [GG.out] at this; exact this
              have FK := Lib.hid FK
              have hF := FK.out _ (Below.refl _ _)
              obtain ⟨⟨q0, q1, q2⟩, q3⟩ := hF
              go_wp2_with fail
              clear q0 q1 q2 q3
              refine Rf.region [0, 1, 2, 3, 4, 5, 6, 7, 8, 9, 10, 11, 12, 13, 14] (by kernel_rfl) (by kernel_rfl) (by kernel_rfl) (fun _ _ d _ _ h => by cases d <;> exact h) ?_
              repeat (first | (refine Rf.Steps.skip (by rfl) (by kernel_rfl) (by rfl) ?_; simp only [Act.put, List.setIfInBounds_toArray, List.set_cons_zero, List.set_cons_succ]) | (refine Rf.Steps.pure (v := ?_) (by rfl) (by kernel_rfl) (by rfl) ?_ ?_; rotate_left; (intro w_ hS_; have hk_ := FK.out w_ hS_; go_simp <;> with_reducible rfl); simp only [Act.put, List.setIfInBounds_toArray, List.set_cons_zero, List.set_cons_succ]))
              refine Rf.Steps.nil (by kernel_rfl) ?_
              intro w2 hb2
              go_wp2_with fail
              have hxa := SL.stays enc 3 l x1 _ _ hx1 hb2
              have hxb := SL.stays enc 3 l u3 _ _ XV (nx hb1 hb2)
              refine (same_is _ hxa hxb HM.out).mono ?_
              rintro e X2 ⟨rfl, hbs2⟩
              have hbb := nx hb1 (nx hb2 hbs2)
              have PX2 : Hid (MP (get l) w.heap.size (k + 1) X2) := Lib.hid ((MF.stays PV hbb).mono (Nat.le_succ k))
              have IX2 : Hid (MI (fun s => tot s l) (w.heap.size + 1) (k + 1) X2) := Lib.hid ((MF.stays IV hbb).mono (Nat.le_succ k))
              have HX2 := Lib.hid (SL.stays enc 3 l x1 _ _ hxa hbs2)
              have bX2 : Below w.heap.size w X2 := nx hb (nx hbV hbb)
              go_wp2_with fail
              refine (R2.out _ _ HX2.out).mono ?_
              rintro e X3 ⟨rfl, hb3⟩
              have FT : Hid (∀ u, Below X3.heap.size X3 u → HL l x1 u ∧ MP (get l) w.heap.size (k + 1) u ∧ MI (fun s => tot s l) (w.heap.size + 1) (k + 1) u) := Lib.hid fun u hu => by
                have hh := nx hb3 hu
                exact ⟨SL.stays enc 3 l x1 _ _ HX2.out hh, MF.stays PX2.out hh, MF.stays IX2.out hh⟩
              have bX3 := nx bX2 hb3
              have hbw := bX2.size
              obtain ⟨wq, rfl⟩ : ∃ wq : World, wq = wr := ⟨_, rfl⟩
              go_wp2_with fail
              go_loopw [133] (fun i wr => ∃ a2 : Nat, a2 ≤ 5 ∧ i = .int .i64 a2 ∧ Below X3.heap.size X3 wr) (fun i _ => 5 - (intOf i).toNat)
              case atStart => exact ⟨0, Nat.zero_le _, rfl, Below.refl _ _⟩
              case round =>
                obtain ⟨a2, ha2, rfl, hba⟩ := hrel
                by_cases hat2 : a2 < 5
                · have hat3 : (a2 : Int) < 5 := by omega
                  obtain ⟨wo, rfl⟩ : ∃ wo : World, wo = wr := ⟨_, rfl⟩
                  go_wp2_with fail
                  go_loopw [136] (fun i wr => ∃ s2 : Nat, s2 ≤ 3 ∧ i = .int .i64 s2 ∧ Below X3.heap.size X3 wr) (fun i _ => 3 - (intOf i).toNat)
                  case atStart => exact ⟨0, Nat.zero_le _, rfl, hba⟩
                  case round =>
                    obtain ⟨s2, hs2, rfl, hbs⟩ := hrel
                    by_cases hst : s2 < 3
                    · have hst2 : (s2 : Int) < 3 := by omega
                      go_wp2_with fail
                      obtain ⟨Y, hY⟩ : ∃ Y, Y = wr.alloc (.cells #[.int .i64 a2, .int .i64 s2] 24) := ⟨_, rfl⟩
                      have hbY : Below wr.heap.size wr Y := hY ▸ below1 wr _
                      have hzY : wr.heap.size < Y.heap.size := by rw [hY]; simp
                      have i0 : Y.cell? ⟨wr.heap.size, 0, none⟩ = some (.int .i64 a2) := by rw [hY]; simp [go_sem]
                      have i1 : Y.cell? ⟨wr.heap.size, 1, none⟩ = some (.int .i64 s2) := by rw [hY]; simp [go_sem]
                      rw [← hY]
                      clear hY
                      obtain ⟨gq, hgq⟩ : ∃ x, get l ((a2 : Int), (s2 : Int)) = x := ⟨_, rfl⟩
                      obtain ⟨tq, htq⟩ : ∃ x, tot s2 l = x := ⟨_, rfl⟩
                      have D3 : Hid (∀ w, HL l x1 w → Calls Try.prog 14 #[x1, .agg #[.int .i64 a2, .int .i64 s2]] w fun e w' => e = .returned (.int .i64 gq) ∧ Below w.heap.size w w') := Lib.hid fun w h => by rw [← hgq]; exact get_any l x1 a2 s2 w h HM.out
                      have D4 : Hid (∀ w, HL l x1 w → Calls Try.prog 16 #[x1, .int .i64 s2] w fun e w' => e = .returned (.int .i64 tq) ∧ Below w.heap.size w w') := Lib.hid fun w h => by rw [← htq, ← total_right RD.out]; exact total_any l x1 s2 w h HM.out
                      have hF : ∀ u, Below Y.heap.size Y u → (u.cell? ⟨wr.heap.size, 0, none⟩ = some (.int .i64 a2) ∧ u.cell? ⟨wr.heap.size, 1, none⟩ = some (.int .i64 s2)) ∧ HL l x1 u ∧ (Instr.lookup 36 (.map (some w.heap.size)) (.agg #[.int .i64 a2, .int .i64 s2]) false).run Try.prog u = .ok (.int .i64 gq) u ∧ (Instr.lookup 37 (.map (some (w.heap.size + 1))) (.int .i64 s2) false).run Try.prog u = .ok (.int .i64 tq) u := fun u hu => by
                        have hf := FT.out u (nx hbs (nx hbY hu))
                        refine ⟨⟨by rw [hu.cell (p := ⟨wr.heap.size, 0, none⟩) hzY]; exact i0, by rw [hu.cell (p := ⟨wr.heap.size, 1, none⟩) hzY]; exact i1⟩, hf.1, ?_, ?_⟩
                        · rw [← hgq]; exact MP.look hf.2.1 a2 s2 hat2 hst
                        · rw [← htq]; exact MI.look hf.2.2 s2 hst
                      clear hgq htq i0 i1
                      refine Rf.region [0, 1, 2, 3, 4, 5, 6, 7, 8, 9, 10, 11, 12, 13, 14, 15] (by kernel_rfl) (by kernel_rfl) (by kernel_rfl) (fun _ _ d _ _ h => by cases d <;> exact h) ?_
                      repeat (first | (refine Rf.Steps.skip (by rfl) (by kernel_rfl) (by rfl) ?_; simp only [Act.put, List.setIfInBounds_toArray, List.set_cons_zero, List.set_cons_succ]) | (refine Rf.Steps.pure (v := ?_) (by rfl) (by kernel_rfl) (by rfl) ?_ ?_; rotate_left; (intro w_ hS_; have hk_ := hF w_ hS_; go_simp <;> with_reducible rfl); simp only [Act.put, List.setIfInBounds_toArray, List.set_cons_zero, List.set_cons_succ]) | (refine Rf.Steps.call (v := ?_) (f := ?_) (args := ?_) (by rfl) (by kernel_rfl) (by rfl) ?_ ?_ ?_; rotate_left 3; (intro w_ hS_; have hk_ := hF w_ hS_; go_simp <;> first | with_reducible rfl | (constructor <;> with_reducible rfl)); (intro w_ hS_; have hk_ := hF w_ hS_; first | (go_at_call 14; refine (D3.out _ hk_.2.1).mono ?_; first | (rintro e w_ ⟨rfl, rfl⟩; refine ⟨?_, Below.refl _ _⟩; with_reducible rfl) | (rintro e w_ ⟨rfl, hb_⟩; refine ⟨?_, hb_⟩; with_reducible rfl)) | (go_at_call 16; refine (D4.out _ hk_.2.1).mono ?_; first | (rintro e w_ ⟨rfl, rfl⟩; refine ⟨?_, Below.refl _ _⟩; with_reducible rfl) | (rintro e w_ ⟨rfl, hb_⟩; refine ⟨?_, hb_⟩; with_reducible rfl))); simp only [Act.put, List.setIfInBounds_toArray, List.set_cons_zero, List.set_cons_succ]))
                      refine Rf.Steps.nil (by kernel_rfl) ?_
                      intro w5 hb5
                      go_wp2_with fail
                      go_roundw
                      case rel => exact ⟨s2 + 1, by omega, by go_num, nx hbs (nx hbY hb5)⟩
                      case measure => simp [intOf]; omega
                    · obtain rfl : s2 = 3 := by omega
                      go_wp2_with fail
                      go_roundw
                      case rel => exact ⟨a2 + 1, by omega, by go_num, hbs⟩
                      case measure => simp [intOf]; omega
                · obtain rfl : a2 = 5 := by omega
                  go_wp2_with fail
                  go_roundw
                  case rel => exact ⟨k + 1, l, by omega, by go_num, RD.out, (FT.out _ hba).1, (FT.out _ hba).2.1, (FT.out _ hba).2.2, nx bX3 hba⟩
                  case measure => simp [intOf]; omega
      · obtain rfl : k = m := by omega
        go_wp2_with fail
        refine (awake_any _).mono ?_
        rintro e w1 ⟨rfl, hb1⟩
        go_wp2
        go_ret
        exact ⟨rfl, nx hb hb1⟩
end Go.Proofs.Yteandjnbcolphaa.Ac
