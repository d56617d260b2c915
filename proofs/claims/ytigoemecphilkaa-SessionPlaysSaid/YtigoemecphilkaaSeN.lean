/- SessionPlays: walked. -/
import Derived.Test.YtigoemecphilkaaSeM
namespace Go.Proofs.Ytigoemecphilkaa.Se
open Go.RowKit Go.Maps
open Go.Proofs.Ytigoemecphilkaa.Rw
open Go.Proofs.Ytigoemecphilkaa.Da
open Go.Proofs.Ytigoemecphilkaa.Mv
set_option maxRecDepth 16000 in
set_option maxHeartbeats 16000000 in
theorem walkPlays (l : List Rp) (v : Value) (w : World) (h : RL (Bs.of w.heap.size) l v w) (_ : wfRs l) :
    Calls Try.prog 5 #[v] w fun e w' => e = .returned (.bool true) ∧ Below w.heap.size w w' := by
  obtain ⟨B, hB'⟩ : ∃ B, B = Bs.of w.heap.size := ⟨_, rfl⟩
  have hlo : B.lo = w.heap.size := by rw [hB']; rfl
  have hB : B.le w.heap.size := by rw [hB']; exact Bs.of_le _
  rw [← hB'] at h
  clear hB'
  obtain ⟨a, cp, rfl, hel⟩ := h
  obtain ⟨n, hn⟩ : ∃ n, n = l.length := ⟨_, rfl⟩
  rw [← hn]
  have HN := Lib.hid hn
  have HE := Lib.hid hel
  have HB := Lib.hid (show ∀ u, Below w.heap.size w u → B.le u.heap.size from fun u hu => hB.mono hu.size)
  have HLo := Lib.hid hlo
  clear hn hel hB hlo
  by_cases hlen : 100 < n
  · have hd : decide ((100 : Int) < n) = true := decide_eq_true (by omega)
    go_enter Try.func5, Try.ntmps5
    go_wp2_with fail
    refine (awake_any _).mono ?_
    rintro e w1 ⟨rfl, hb1⟩
    go_wp2
    go_ret
    exact ⟨rfl, hb1⟩
  have hd : decide ((100 : Int) < n) = false := decide_eq_false (by omega)
  have hmm := @run_makeMap Try.prog
  go_enter Try.func5, Try.ntmps5
  go_wp2
  go_loopw [3, 22] (fun x i wr => ∃ (k : Nat) (s : List Sn) (m : Int → Option Rp), k ≤ n ∧ i = .int .i64 k ∧ NC B s x wr ∧ s.length ≤ k ∧ PlI s m ∧ MR m w.heap.size k wr ∧ Below w.heap.size w wr) (fun _ i _ => n - (intOf i).toNat)
  case atStart => exact ⟨0, [], fun _ => none, Nat.zero_le _, rfl, NC.nil _ _, Nat.zero_le _, PlI.nil, MV.congr (MV.made w) (fun v ⟨c, _, e⟩ => by subst e; rfl), below1 _ _⟩
  case round =>
    obtain ⟨k, s, m, hk, rfl, hx, hsl, hP, hM, hb⟩ := hrel
    have XD := Lib.hid hx
    have PD := Lib.hid hP
    have MD := Lib.hid hM
    clear hx hP hM
    have hs5 : s.length ≤ 100000 := by omega
    have hs6 : s.length ≤ 1000000 := by omega
    by_cases hlt : k < n
    · have hlt2 : (k : Int) < n := by omega
      have hkl : k < l.length := by rw [← HN.out]; exact hlt
      rcases HE.out with ⟨e, _⟩ | ⟨b, off, rfl, hat⟩
      · rw [e] at hkl; cases hkl
      have hat3 := Lies.keep eR 25 hat (Keeps.of_below hb)
      have hc := atR hat3 k hkl
      have hb3 := hat3.1
      obtain ⟨⟨r1, r2, r3, r4, r5⟩, hs⟩ : ∃ s, l[k] = s := ⟨_, rfl⟩
      rw [hs] at hc
      simp only at hc
      obtain ⟨c0, c1, c2, c3, c4⟩ := hc
      clear hat hat3 hs
      obtain ⟨A, hA, m1⟩ := mod64 r1 5 (by omega)
      obtain ⟨S, hS, m2⟩ := mod64 r2 50 (by omega)
      have z1 : wrap64 ((IntKind.u64.wrap r1).tmod 5) = A := by rw [show (IntKind.u64.wrap r1).tmod 5 = (A : Int) from m1]; exact IntWalk.wrap64_in _ (by omega)
      have z2 : wrap64 ((IntKind.u64.wrap r2).tmod 50) = S := by rw [show (IntKind.u64.wrap r2).tmod 50 = (S : Int) from m2]; exact IntWalk.wrap64_in _ (by omega)
      have Z1 := Lib.hid z1
      have Z2 := Lib.hid z2
      have hst := PlI.step PD.out (r := ((A : Int), (S : Int), r3, r4, r5)) ⟨Int.natCast_nonneg A, (by omega : (A : Int) < 64)⟩ ⟨Int.natCast_nonneg S, (by omega : (S : Int) ≤ 1125899906842624)⟩
      have hl9 := noteL_len s ((A : Int), (S : Int), r3, r4, r5)
      obtain ⟨s2, hs2⟩ : ∃ q, noteL s ((A : Int), (S : Int), r3, r4, r5) = q := ⟨_, rfl⟩
      rw [hs2] at hst hl9
      obtain ⟨⟨g1, g2, g3, g4, g5⟩, hgu⟩ : ∃ q, gotM m A = q := ⟨_, rfl⟩
      have hwant : ∃ hd : Bool, (m A).isSome = hd ∧ (((S : Int) == 0) = true ∧ want m ((A : Int), (S : Int), r3, r4, r5) = 1 ∨ ((S : Int) == 0) = false ∧ hd = true ∧ decide ((S : Int) ≤ g2) = true ∧ want m ((A : Int), (S : Int), r3, r4, r5) = 13 ∨ ((S : Int) == 0) = false ∧ hd = true ∧ decide ((S : Int) ≤ g2) = false ∧ want m ((A : Int), (S : Int), r3, r4, r5) = 0 ∨ ((S : Int) == 0) = false ∧ hd = false ∧ want m ((A : Int), (S : Int), r3, r4, r5) = 0) := by
        unfold want
        by_cases h0 : (S : Int) = 0
        · exact ⟨_, rfl, .inl ⟨by simpa using h0, if_pos h0⟩⟩
        · have e0 : ((S : Int) == 0) = false := by simpa using h0
          cases hm : m A with
          | none => exact ⟨false, rfl, .inr (.inr (.inr ⟨e0, rfl, by rw [if_neg h0]⟩))⟩
          | some x =>
            have hx2 : x.2.1 = g2 := by unfold gotM at hgu; rw [hm] at hgu; simp only [Option.getD_some] at hgu; rw [hgu]
            by_cases hle : (S : Int) ≤ g2
            · exact ⟨true, rfl, .inr (.inl ⟨e0, rfl, decide_eq_true hle, by rw [if_neg h0]; simp only; rw [hx2]; exact if_pos hle⟩)⟩
            · exact ⟨true, rfl, .inr (.inr (.inl ⟨e0, rfl, decide_eq_false hle, by rw [if_neg h0]; simp only; rw [hx2]; exact if_neg hle⟩))⟩
      obtain ⟨had, hhad, hcs⟩ := hwant
      obtain ⟨V, hV⟩ : ∃ V, V = wr.alloc (.cells #[.int .i64 A, .int .i64 S, .int .i64 r3, .int .i64 r4, .int .i64 r5] 25) := ⟨_, rfl⟩
      have hbV : Below wr.heap.size wr V := hV ▸ below1 wr _
      have hzV : wr.heap.size < V.heap.size := by rw [hV]; simp
      have hrV : row V wr.heap.size = #[.int .i64 A, .int .i64 S, .int .i64 r3, .int .i64 r4, .int .i64 r5] := by rw [hV]; simp [go_sem]
      have hbwV := nx hb hbV
      have HV := Lib.hid hV
      clear hV
      go_wp2_with fail
      rw [← HV.out, Z1.out, Z2.out]
      refine (note_any B s _ A S r3 r4 r5 V (NC.stays XD.out hbV) (HB.out V hbwV) hs5).mono ?_
      rintro e w1 ⟨v1, rfl, hb1, hn1⟩
      rw [hs2] at hn1
      have hbw1 := nx hbwV hb1
      have hz1 : wr.heap.size < w1.heap.size := by have := hb1.size; omega
      have hq1 : row w1 wr.heap.size = #[.int .i64 A, .int .i64 S, .int .i64 r3, .int .i64 r4, .int .i64 r5] := by rw [(bcell hb1).2.2.1 _ hzV]; exact hrV
      have hq2 : (row w1 wr.heap.size).size = 4 + 1 := by rw [hq1]; rfl
      have hc1 : w1.cell? ⟨wr.heap.size, 0, none⟩ = some (.int .i64 A) := by rw [cell_row _ _ _ hq2, hq1]; rfl
      have hc2 : w1.cell? ⟨wr.heap.size, 1, none⟩ = some (.int .i64 S) := by rw [cell_row _ _ _ hq2, hq1]; rfl
      have hM1 : MR m w.heap.size k w1 := (MD.out.stays hbV).stays hb1
      have hlk := MR.look2 hM1 A hA
      rw [hgu, hhad] at hlk
      unfold vR at hlk
      simp only at hlk
      obtain ⟨Y, hY⟩ : ∃ Y, Y = w1.alloc (.cells #[.int .i64 g1, .int .i64 g2, .int .i64 g3, .int .i64 g4, .int .i64 g5] 25) := ⟨_, rfl⟩
      have hbY : Below w1.heap.size w1 Y := hY ▸ below1 w1 _
      have hbwY := nx hbw1 hbY
      have hMY : MR m w.heap.size k Y := hM1.stays hbY
      have hnY : NC B s2 v1 Y := NC.stays hn1 hbY
      have hcne : wr.heap.size ≠ w.heap.size := by have := MV.lt MD.out; omega
      have hfin : ∃ (m2 : Int → Option Rp) (X : World), (want m ((A : Int), (S : Int), r3, r4, r5) = 0 → (Instr.mapUpdate 37 (.map (some w.heap.size)) (.int .i64 A) (.agg #[.int .i64 A, .int .i64 S, .int .i64 r3, .int .i64 r4, .int .i64 r5])).run Try.prog Y = .ok () X) ∧ (want m ((A : Int), (S : Int), r3, r4, r5) ≠ 0 → X = Y) ∧ NC B s2 v1 X ∧ PlI s2 m2 ∧ MR m2 w.heap.size (k + 1) X ∧ Below w.heap.size w X := by
        by_cases hw : want m ((A : Int), (S : Int), r3, r4, r5) = 0
        · obtain ⟨X, u1, u2, u3⟩ := MR.put hMY (by unfold maxLen; omega) ((A : Int), (S : Int), r3, r4, r5) A hA rfl
          exact ⟨updM m ((A : Int), (S : Int), r3, r4, r5), X, fun _ => u1, fun h => absurd hw h, NC.keeps hnY (MR.keeps hMY u3 (Nat.le_of_eq HLo.out) _), by have := hst.2; rw [if_pos hw] at this; exact this, u2, hbwY.grown u3 hbwY.size (fun q hq => by cases hq; exact Nat.le_refl _)⟩
        · exact ⟨m, Y, fun h => absurd h hw, fun _ => rfl, hnY, by have := hst.2; rw [if_neg hw] at this; exact this, MV.mono hMY (Nat.le_succ k), hbwY⟩
      obtain ⟨m2, X, hput, hsame, hnX, hpX, hMX, hbX⟩ := hfin
      have HnX := Lib.hid hnX
      have HpX := Lib.hid hpX
      have HMX := Lib.hid hMX
      have HW := Lib.hid hst.1
      have HLn := Lib.hid (show s2.length ≤ k + 1 by omega)
      have hsz2 : w1.heap.size + 1 = Y.heap.size := by rw [hY]; simp
      rw [HW.out]
      clear hst hl9 hs2 hgu hhad hrV hn1 hM1 hMY hnY hnX hpX hMX hbY
      rw [hY] at hput hsame
      rcases hcs with ⟨d1, hw⟩ | ⟨d1, d2, d3, hw⟩ | ⟨d1, d2, d3, hw⟩ | ⟨d1, d2, hw⟩
      all_goals
        rw [hw] at hput hsame ⊢
        try subst d2
      all_goals
        first
        | have hX := hsame (by decide)
          clear hput hsame
          go_wp2_with fail
          rw [← hX]
          clear hX
        | have hX := hput rfl
          clear hput hsame
          go_wp2_with fail
          clear hX
      all_goals
        clear hc1 hc2 hq1 hq2 hlk hz1 hw d1
        go_loopw [72] (fun i wx => ∃ c : Nat, c ≤ 5 ∧ i = .int .i64 c ∧ Below X.heap.size X wx) (fun i _ => 5 - (intOf i).toNat)
        case atStart => exact ⟨0, by omega, rfl, Below.refl _ _⟩
        case round =>
          obtain ⟨c, hc, rfl, hbx⟩ := hrel
          have hs8 : s2.length ≤ 1000000 := by have := HLn.out; omega
          by_cases hlt5 : c < 5
          · have hlt6 : (c : Int) < 5 := by omega
            have FK := Lib.hid (show ∀ u, Below wr.heap.size wr u → (Instr.lookup 37 (.map (some w.heap.size)) (.int .i64 c) false).run Try.prog u = .ok (vR (gotM m2 c)) u from fun u hu => MR.look ((HMX.out.stays hbx).stays hu) c hlt5)
            obtain ⟨⟨x1, x2, x3, x4, x5⟩, hgx⟩ : ∃ q, gotM m2 c = q := ⟨_, rfl⟩
            have hlo := looks_of HpX.out c
            rw [hgx] at FK hlo
            unfold vR at FK
            simp only at FK hlo
            rcases hlo with ⟨y, -, -, hl1, hl2, hl3⟩ | ⟨-, hl0, hl1, hl3⟩
            · have HL1 := Lib.hid hl1
              have HL3 := Lib.hid hl3
              have d9 : decide (0 < x2) = true := decide_eq_true hl2
              have he : eqR (x1, x2, x3, x4, x5) (x1, x2, x3, x4, x5) = true := eqR_iff.2 rfl
              have hk0 := FK.out wr (Below.refl _ _)
              clear hl1 hl2 hl3 hgx
              go_wp2_with fail
              refine (look_is HL1 (NC.stays HnX.out hbx).1 hs8).mono ?_
              rintro e w3 ⟨rfl, hb3⟩
              unfold lkV
              simp only
              obtain ⟨Z, hZ⟩ : ∃ Z, Z = w3.alloc (.cells #[.int .i64 x1, .int .i64 x2, .int .i64 x3, .int .i64 x4, .int .i64 x5] 25) := ⟨_, rfl⟩
              have hbZ : Below w3.heap.size w3 Z := hZ ▸ below1 w3 _
              have hzZ : w3.heap.size < Z.heap.size := by rw [hZ]; simp
              have hrZ : row Z w3.heap.size = #[.int .i64 x1, .int .i64 x2, .int .i64 x3, .int .i64 x4, .int .i64 x5] := by rw [hZ]; simp [go_sem]
              have hbxZ := nx hb3 hbZ
              have hK : ∀ u, Below Z.heap.size Z u → row u w3.heap.size = #[.int .i64 x1, .int .i64 x2, .int .i64 x3, .int .i64 x4, .int .i64 x5] ∧ (Instr.lookup 37 (.map (some w.heap.size)) (.int .i64 c) false).run Try.prog u = .ok (.agg #[.int .i64 x1, .int .i64 x2, .int .i64 x3, .int .i64 x4, .int .i64 x5]) u := fun u hu => ⟨by rw [(bcell hu).2.2.1 _ hzZ]; exact hrZ, FK.out u (nx hbxZ hu)⟩
              clear hk0
              go_wp2
              rw [← hZ]
              clear hZ hrZ
              refine Rg.region (by kernel_rfl) (by kernel_rfl) (by kernel_rfl) (fun _ _ d _ _ h => by cases d <;> exact h) _ rfl ?_
              repeat (first | (refine Rg.Seq.skip (by rfl) ?_; simp only [Act.put, List.setIfInBounds_toArray, List.set_cons_zero, List.set_cons_succ]) | (refine Rg.Seq.pure (v := ?_) (by rfl) ?_ ?_; rotate_left; (intro w_ hS_; have hk_ := hK w_ hS_; go_simp <;> with_reducible rfl); simp only [Act.put, List.setIfInBounds_toArray, List.set_cons_zero, List.set_cons_succ]) | (refine Rg.Seq.call (v := ?_) (f := ?_) (args := ?_) (by rfl) ?_ ?_ ?_; rotate_left 3; (intro w_ hS_; have hk_ := hK w_ hS_; go_simp <;> first | with_reducible rfl | (constructor <;> with_reducible rfl)); (intro w_ hS_; first | (go_at_call 14; refine (last_is HL3 (NC.stays HnX.out (nx hbx (nx hbxZ hS_))).1 hs8).mono ?_; rintro e w_ ⟨rfl, hb_⟩; refine ⟨?_, nx hS_ hb_⟩; with_reducible rfl)); simp only [Act.put, List.setIfInBounds_toArray, List.set_cons_zero, List.set_cons_succ]))
              intro w5 hb5
              go_wp2
              go_roundw
              case rel => exact ⟨c + 1, by omega, by go_num, nx hbx (nx hbxZ hb5)⟩
              case measure => simp [intOf]; omega
            · have HL1 := Lib.hid hl1
              have HL3 := Lib.hid hl3
              unfold z5 at hl0
              obtain ⟨rfl, rfl, rfl, rfl, rfl⟩ : x1 = 0 ∧ x2 = 0 ∧ x3 = 0 ∧ x4 = 0 ∧ x5 = 0 := by simpa using hl0
              have hk0 := FK.out wr (Below.refl _ _)
              clear hl0 hl1 hl3 hgx
              go_wp2_with fail
              refine (look_is HL1 (NC.stays HnX.out hbx).1 hs8).mono ?_
              rintro e w3 ⟨rfl, hb3⟩
              unfold lkV z5
              simp only
              obtain ⟨Z, hZ⟩ : ∃ Z, Z = w3.alloc (.cells #[.int .i64 0, .int .i64 0, .int .i64 0, .int .i64 0, .int .i64 0] 25) := ⟨_, rfl⟩
              have hbZ : Below w3.heap.size w3 Z := hZ ▸ below1 w3 _
              have hbxZ := nx hb3 hbZ
              have hK : ∀ u, Below Z.heap.size Z u → (Instr.lookup 37 (.map (some w.heap.size)) (.int .i64 c) false).run Try.prog u = .ok (.agg #[.int .i64 0, .int .i64 0, .int .i64 0, .int .i64 0, .int .i64 0]) u := fun u hu => FK.out u (nx hbxZ hu)
              clear hk0
              go_wp2
              rw [← hZ]
              clear hZ
              refine Rg.region (by kernel_rfl) (by kernel_rfl) (by kernel_rfl) (fun _ _ d _ _ h => by cases d <;> exact h) _ rfl ?_
              repeat (first | (refine Rg.Seq.skip (by rfl) ?_; simp only [Act.put, List.setIfInBounds_toArray, List.set_cons_zero, List.set_cons_succ]) | (refine Rg.Seq.pure (v := ?_) (by rfl) ?_ ?_; rotate_left; (intro w_ hS_; have hk_ := hK w_ hS_; go_simp <;> with_reducible rfl); simp only [Act.put, List.setIfInBounds_toArray, List.set_cons_zero, List.set_cons_succ]) | (refine Rg.Seq.call (v := ?_) (f := ?_) (args := ?_) (by rfl) ?_ ?_ ?_; rotate_left 3; (intro w_ hS_; have hk_ := hK w_ hS_; go_simp <;> first | with_reducible rfl | (constructor <;> with_reducible rfl)); (intro w_ hS_; first | (go_at_call 14; refine (last_is HL3 (NC.stays HnX.out (nx hbx (nx hbxZ hS_))).1 hs8).mono ?_; rintro e w_ ⟨rfl, hb_⟩; refine ⟨?_, nx hS_ hb_⟩; with_reducible rfl)); simp only [Act.put, List.setIfInBounds_toArray, List.set_cons_zero, List.set_cons_succ]))
              intro w5 hb5
              go_wp2
              go_roundw
              case rel => exact ⟨c + 1, by omega, by go_num, nx hbx (nx hbxZ hb5)⟩
              case measure => simp [intOf]; omega
          · obtain rfl : c = 5 := by omega
            go_wp2
            go_roundw
            case rel => exact ⟨k + 1, s2, m2, by omega, by go_num, NC.stays HnX.out hbx, HLn.out, HpX.out, HMX.out.stays hbx, nx hbX hbx⟩
            case measure => simp [intOf]; omega
    · obtain rfl : k = n := by omega
      have HR : Hid (right s = true) := Lib.hid (right_iff.2 PD.out.right)
      go_wp2_with fail
      refine (right_is HR XD.out.1 hs6).mono ?_
      rintro e w1 ⟨rfl, hb1⟩
      go_wp2_with fail
      refine (awake_any _).mono ?_
      rintro e w2 ⟨rfl, hb2⟩
      go_wp2
      go_ret
      exact ⟨rfl, nx hb (nx hb1 hb2)⟩
end Go.Proofs.Ytigoemecphilkaa.Se
