/- LaneOwner: walked. -/
import Derived.Test.YthecinmekoaphaaGreatQaBY
set_option linter.unusedVariables false
namespace Go.Proofs.YthecinmekoaphaaGreat.La
open Go.RowKit
open Go.Proofs.YthecinmekoaphaaGreat.Rw
open Go.Proofs.YthecinmekoaphaaGreat.Da
open Go.Proofs.YthecinmekoaphaaGreat.Le
open Go.Proofs.YthecinmekoaphaaGreat.Bk
open Go.Proofs.YthecinmekoaphaaGreat.Ac (Hd Pu HL pmay pmay_iff tot total giveE giveL takeE takeL)
set_option maxRecDepth 16000 in
set_option maxHeartbeats 8000000 in
theorem walkOwner1 (ops : List Op5) (v : Value) (i1 i2 i3 i4 i5 : Int) (w : World) (h : PL (Bs.of w.heap.size) ops v w) (h60 : ops.length ≤ 60) :
    Calls Tryz.prog 6 #[v, .agg #[.int .i64 i1, .int .i64 i2, .int .i64 i3, .int .i64 i4, .int .i64 i5]] w fun e w' => e = .returned (.bool true) ∧ Below w.heap.size w w' := by
  obtain ⟨a0, c0, rfl, hel⟩ := h
  obtain ⟨B, hB'⟩ : ∃ B, B = Bs.of w.heap.size := ⟨_, rfl⟩
  have hB : B.le w.heap.size := by rw [hB']; exact Bs.of_le _
  obtain ⟨N, hn⟩ : ∃ N, N = ops.length := ⟨_, rfl⟩
  rw [← hn] at h60 ⊢
  have HE := Lib.hid hel
  have HN := Lib.hid hn
  have hd : decide ((60 : Int) < N) = false := decide_eq_false (by omega)
  have hd' : decide (60 < N) = false := decide_eq_false (by omega)
  obtain ⟨U, hU⟩ : ∃ U, U = w.alloc (.cells #[.int .i64 i1, .int .i64 i2, .int .i64 i3, .int .i64 i4, .int .i64 i5] 36) := ⟨_, rfl⟩
  have hbU : Below w.heap.size w U := hU ▸ below1 w _
  have hOp : U.heap[w.heap.size]? = some (.cells #[.int .i64 i1, .int .i64 i2, .int .i64 i3, .int .i64 i4, .int .i64 i5] 36 (0, 0)) := by rw [hU]; exact heap_alloc_new w _
  have hzU : U.heap.size = w.heap.size + 1 := by rw [hU]; simp
  have HB := Lib.hid (show ∀ u, Below U.heap.size U u → B.le u.heap.size from fun u hu => (hB.mono hbU.size).mono hu.size)
  have HU := Lib.hid hU
  have HbU := Lib.hid hbU
  have HOp := Lib.hid hOp
  have HzU := Lib.hid hzU
  have HNw := Lib.hid (lnew_any 1 2 U)
  clear hel hn hB hB' hU hbU hOp hzU
  go_enter Tryz.func6, Tryz.ntmps6
  go_wp2_with fail
  rw [← HU.out]
  refine HNw.out.mono ?_
  rintro e w1 ⟨v1, rfl, hb1, hln⟩
  have hln1 : LN B ln0 v1 w1 := hln B (HB.out U (Below.refl _ _))
  obtain ⟨a1, n1, c1, a2, n2, c2, a3, n3, c3, rfl, -, -, -, hk1, hk2, hk3⟩ := hln1.open'
  rw [show newE 1 2 = 0 from rfl]
  obtain ⟨M1, hM1⟩ : ∃ M, M = w1.alloc (.cells (cN 1 2 (.slice a1 n1 c1) (.slice a2 n2 c2) 1 (.slice a3 n3 c3)) 28) := ⟨_, rfl⟩
  have hbM1 : Below U.heap.size U M1 := nx hb1 (hM1 ▸ below1 w1 _)
  have HX1 := Lib.hid (show LB B ln0 (.slice a1 n1 c1) (.slice a2 n2 c2) (.slice a3 n3 c3) w1.heap.size M1 from by rw [hM1]; exact LB.made (l := ln0) hk1 hk2 hk3 (HB.out w1 hb1).1)
  have HM1 := Lib.hid hM1
  obtain ⟨s, hs⟩ : ∃ s, w1.heap.size = s := ⟨_, rfl⟩
  rw [hs] at HX1
  have hsz : U.heap.size ≤ s := by have := hb1.size; omega
  clear hln hln1 hk1 hk2 hk3 hM1
  go_wp2_with fail
  rw [← HM1.out]
  refine (rich_any (lo := B.lo) 60 M1).mono ?_
  rintro e w2 ⟨v2, rfl, hb2, hrich⟩
  obtain ⟨a4, c4, rfl⟩ := hl_slice hrich
  have hbw2 := nx hbM1 hb2
  have HX2 := Lib.hid (HX1.out.stays hb2)
  have HF2 := Lib.hid hrich
  clear hrich hb2
  go_wp2
  go_loopw [7, 27] (fun f i wr => ∃ k : Nat, k ≤ N ∧ i = .int .i64 k ∧ Below U.heap.size U wr ∧ ∃ a1 n1 c1 a2 n2 c2 a3 n3 c3 a4 n4 c4, LB B (ru 60 (ops.take k)).1 (.slice a1 n1 c1) (.slice a2 n2 c2) (.slice a3 n3 c3) s wr ∧ f = .slice a4 n4 c4 ∧ HL B.lo (ru 60 (ops.take k)).2 (.slice a4 n4 c4) wr) (fun _ i _ => N - (intOf i).toNat)
  case atStart => exact ⟨0, Nat.zero_le _, rfl, hbw2, _, _, _, _, _, _, _, _, _, _, _, _, HX2.out, rfl, HF2.out⟩
  case round =>
    obtain ⟨k, hk, rfl, hb, a1, n1, c1, a2, n2, c2, a3, n3, c3, a4, n4, c4, hbx, rfl, hfl⟩ := hrel
    obtain ⟨⟨l, fr⟩, hlf⟩ : ∃ L, ru 60 (ops.take k) = L := ⟨_, rfl⟩
    obtain ⟨hR, hRf⟩ := ru_right 60 (ops.take k)
    rw [hlf] at hbx hfl hR hRf
    obtain ⟨lb, lq, ⟨bu, se, nn⟩, od⟩ := l
    simp only at hbx hfl hR hRf
    have HR := Lib.hid hR
    have HRf := Lib.hid hRf
    have HX := Lib.hid hbx
    have HF := Lib.hid hfl
    have HLf := Lib.hid hlf
    have r0 := hbx.row
    have z0 := hbx.lt
    simp only at r0
    clear hbx hfl hlf hR hRf
    by_cases hlt : k < N
    · have hlt2 : (k : Int) < N := by omega
      have hko : k < ops.length := by rw [← HN.out]; exact hlt
      rcases HE.out with ⟨e, _⟩ | ⟨bo, off, rfl, hat⟩
      · rw [e] at hko; cases hko
      have hbw := nx HbU.out hb
      obtain ⟨q0, q1, q2, q3, q4⟩ := atP (Lies.keep eP 36 hat (Keeps.of_below hbw)) k hko
      have hbb : bo < wr.heap.size := Nat.lt_of_lt_of_le hat.1 hbw.size
      obtain ⟨⟨o1, o2, o3, o4, o5⟩, ho⟩ : ∃ x, ops[k]'hko = x := ⟨_, rfl⟩
      rw [ho] at q0 q1 q2 q3 q4
      simp only at q0 q1 q2 q3 q4
      have HSt := Lib.hid (show ru 60 (ops.take (k + 1)) = ((stepN (lb, lq, (bu, se, nn), od) fr (o1, o2, o3, o4, o5)).1, (stepN (lb, lq, (bu, se, nn), od) fr (o1, o2, o3, o4, o5)).2.1) from by rw [ru_take hko, HLf.out, ho])
      obtain ⟨⟨m, fr', er⟩, hC⟩ : ∃ C, stepN (lb, lq, (bu, se, nn), od) fr (o1, o2, o3, o4, o5) = C := ⟨_, rfl⟩
      rw [hC] at HSt
      have HC := Lib.hid hC
      obtain ⟨V, hV⟩ : ∃ V, V = wr.alloc (.cells #[.int .i64 o1, .int .i64 o2, .int .i64 o3, .int .i64 o4, .int .i64 o5] 36) := ⟨_, rfl⟩
      have hbV : Below wr.heap.size wr V := hV ▸ below1 wr _
      have HV := Lib.hid hV
      have hbVw := nx hb hbV
      have HXV := Lib.hid (HX.out.stays hbV)
      have HFV := Lib.hid (hl_stays HF.out hbV)
      clear ho hat hV hC
      go_wp2_with fail
      rw [← HV.out]
      refine (step_any B (lb, lq, (bu, se, nn), od) fr _ _ o1 o2 o3 o4 o5 V HXV.out.ln HFV.out (HB.out V hbVw) (sm_right HR.out) (ac_len HRf.out)).mono ?_
      rw [HC.out]
      rintro e w3 ⟨b1, m1, d1, b2, m2, d2, b3, m3, d3, b4, m4, d4, rfl, hd9, hln, hfl⟩
      simp only at hln hfl
      obtain ⟨h1, h2, h3⟩ := hln.inv
      have hx3 := HXV.out.stays hd9
      have hb3 := nx hbVw hd9
      have z3 := hx3.lt
      have p3 := hx3.plain
      obtain ⟨hxX, hfX, hbX⟩ := box_put (m := m) hx3 hsz hb3 h1 h2 h3 hfl
      have HXX := Lib.hid hxX
      have HFX := Lib.hid hfX
      have HbX := Lib.hid hbX
      clear hx3 hb3 h1 h2 h3 hxX hfX hbX hln hfl hd9 r0 z0
      go_wp2
      go_roundw
      case rel => exact ⟨k + 1, by omega, by go_num, HbX.out, _, _, _, _, _, _, _, _, _, _, _, _, by rw [HSt.out]; exact HXX.out, rfl, by rw [HSt.out]; exact HFX.out⟩
      case measure => simp [intOf]; omega
    · obtain rfl : k = N := by omega
      have hfin : ru 60 ops = ((lb, lq, (bu, se, nn), od), fr) := by rw [← HLf.out, HN.out, List.take_length]
      obtain ⟨q0, q1, q2, q3, q4⟩ : wr.cell? ⟨w.heap.size, 0, none⟩ = some (.int .i64 i1) ∧ wr.cell? ⟨w.heap.size, 1, none⟩ = some (.int .i64 i2) ∧ wr.cell? ⟨w.heap.size, 2, none⟩ = some (.int .i64 i3) ∧ wr.cell? ⟨w.heap.size, 3, none⟩ = some (.int .i64 i4) ∧ wr.cell? ⟨w.heap.size, 4, none⟩ = some (.int .i64 i5) := by
        have hb9 := (hb.block w.heap.size (by rw [HzU.out]; omega)).trans HOp.out
        refine ⟨?_, ?_, ?_, ?_, ?_⟩ <;> simp [World.cell?, hb9]
      have ro : row wr w.heap.size = #[.int .i64 i1, .int .i64 i2, .int .i64 i3, .int .i64 i4, .int .i64 i5] := by unfold Rw.row; rw [(hb.block w.heap.size (by rw [HzU.out]; omega)).trans HOp.out]
      have zo : w.heap.size < wr.heap.size := by have := hb.size; have := HzU.out; omega
      go_wp2_with fail
      obtain ⟨⟨m, fr', er⟩, hC⟩ : ∃ C, stepN (lb, lq, (bu, se, nn), od) fr (i1, i2, i3, i4, i5) = C := ⟨_, rfl⟩
      obtain ⟨hk1, hk2, hk3, hk4⟩ := stepN_keep HR.out HRf.out (i1, i2, i3, i4, i5)
      rw [hC] at hk1 hk2 hk3 hk4
      simp only at hk1 hk2 hk3 hk4
      have hbm := hk1.right
      refine (step_any B (lb, lq, (bu, se, nn), od) fr _ _ i1 i2 i3 i4 i5 wr HX.out.ln HF.out (HB.out wr hb) (sm_right HR.out) (ac_len HRf.out)).mono ?_
      rw [hC]
      rintro e w3 ⟨b1, m1, d1, b2, m2, d2, b3, m3, d3, b4, m4, d4, rfl, hd9, hln, hfl⟩
      simp only at hln hfl
      obtain ⟨h1, h2, h3⟩ := hln.inv
      have hb3 := nx hb hd9
      obtain ⟨M, hM⟩ : ∃ M, M = w3.alloc (.cells (cN m.1 m.2.1 (.slice b1 m1 d1) (.slice b2 m2 d2) m.2.2.1.2.2 (.slice b3 m3 d3)) 28) := ⟨_, rfl⟩
      have hbo : Below w3.heap.size w3 M := hM ▸ below1 w3 _
      have hbM := nx hb3 hbo
      have HX0 := Lib.hid (HX.out.stays (nx hd9 hbo))
      have HF0 := Lib.hid (hl_stays HF.out (nx hd9 hbo))
      have HFm := Lib.hid (hl_stays hfl hbo)
      obtain ⟨t, ht⟩ : ∃ t, w3.heap.size = t := ⟨_, rfl⟩
      have HXm := Lib.hid (show LB B m (.slice b1 m1 d1) (.slice b2 m2 d2) (.slice b3 m3 d3) t M from by rw [hM, ← ht]; exact LB.made h1 h2 h3 (HB.out w3 hb3).1)
      have HM := Lib.hid hM
      have HK1 := Lib.hid hk1
      have HK3 := Lib.hid hk3
      have HK4 := Lib.hid hk4
      have HbM := Lib.hid hbM
      have HRm := Lib.hid (show fr'.length ≤ 1000000 from Nat.le_trans (ac_len hk1.free) (by decide))
      clear hd9 hbo hbM hM hfl hln h1 h2 h3 hk1 hk2 hk3 hk4 hC hb3 r0 z0 ro zo q0 q1 q2 q3 q4 hbm
      go_wp2
      rw [← HM.out]
      have hlf0 : fr.length ≤ 1000000 := Nat.le_trans (ac_len HRf.out) (by decide)
      have hlo0 : od.length ≤ 1000000 := Nat.le_trans (ac_len HR.out.owed) (by decide)
      have hlm0 : m.2.2.2.length ≤ 1000000 := Nat.le_trans (ac_len HK1.out.right.owed) (by decide)
      go_loopw [48] (fun i wy => ∃ k : Nat, k ≤ 5 ∧ i = .int .i64 k ∧ Below M.heap.size M wy) (fun i _ => 5 - (intOf i).toNat)
      case atStart => exact ⟨0, Nat.zero_le _, rfl, Below.refl _ _⟩
      case round =>
        obtain ⟨ka, hka, rfl, hby⟩ := hrel
        by_cases hlt : ka < 5
        · have hlt2 : (ka : Int) < 5 := by omega
          go_wp2
          go_loopw [51] (fun i wz => ∃ k : Nat, k ≤ 4 ∧ i = .int .i64 k ∧ Below M.heap.size M wz) (fun i _ => 4 - (intOf i).toNat)
          case atStart => exact ⟨0, Nat.zero_le _, rfl, hby⟩
          case round =>
            obtain ⟨ks, hks, rfl, hbz⟩ := hrel
            by_cases hls : ks < 4
            · have hls2 : (ks : Int) < 4 := by omega
              obtain ⟨V, hV⟩ : ∃ V, V = wr.alloc (.cells #[.int .i64 ka, .int .i64 ks] 53) := ⟨_, rfl⟩
              have hbV : Below wr.heap.size wr V := hV ▸ below1 wr _
              have hzV : V.heap.size = wr.heap.size + 1 := by rw [hV]; simp
              have hPv : V.heap[wr.heap.size]? = some (.cells #[.int .i64 ka, .int .i64 ks] 53 (0, 0)) := by rw [hV]; exact heap_alloc_new wr _
              have HV := Lib.hid hV
              have hbVM := nx hbz hbV
              have hF : ∀ u, Below V.heap.size V u → (u.cell? ⟨w.heap.size, 0, none⟩ = some (.int .i64 i1) ∧ u.cell? ⟨w.heap.size, 1, none⟩ = some (.int .i64 i2)) ∧ w.heap.size < u.heap.size ∧ ((u.cell? ⟨wr.heap.size, 0, none⟩ = some (.int .i64 ka) ∧ u.cell? ⟨wr.heap.size, 1, none⟩ = some (.int .i64 ks)) ∧ wr.heap.size < u.heap.size) ∧ (u.cell? ⟨s, 5, none⟩ = some (.slice a3 n3 c3) ∧ s < u.heap.size) ∧ (u.cell? ⟨t, 5, none⟩ = some (.slice b3 m3 d3) ∧ t < u.heap.size) := fun u hu => by
                have hbu := nx hbVM hu
                have hM9 := nx HbM.out hbu
                have e1 := (hM9.block w.heap.size (by rw [HzU.out]; omega)).trans HOp.out
                have e2 := (hu.block wr.heap.size (by rw [hzV]; omega)).trans hPv
                refine ⟨⟨?_, ?_⟩, (Array.getElem?_eq_some_iff.1 e1).1, ⟨⟨?_, ?_⟩, (Array.getElem?_eq_some_iff.1 e2).1⟩, ⟨(HX0.out.stays hbu).cells.2.2.2.2.2, (HX0.out.stays hbu).lt⟩, ⟨(HXm.out.stays hbu).cells.2.2.2.2.2, (HXm.out.stays hbu).lt⟩⟩
                · simp [World.cell?, e1]
                · simp [World.cell?, e1]
                · simp [World.cell?, e2]
                · simp [World.cell?, e2]
              have HFu := Lib.hid (show ∀ u, Below V.heap.size V u → HL B.lo fr (.slice a4 n4 c4) u ∧ HL B.lo fr' (.slice b4 m4 d4) u ∧ HL B.lo od (.slice a3 n3 c3) u ∧ HL B.lo m.2.2.2 (.slice b3 m3 d3) u from fun u hu => ⟨hl_stays HF0.out (nx hbVM hu), hl_stays HFm.out (nx hbVM hu), (HX0.out.stays (nx hbVM hu)).l3, (HXm.out.stays (nx hbVM hu)).l3⟩)
              have HbV := Lib.hid hbVM
              clear hV hbV hPv
              go_upto_region 18 with fail
              rw [← HV.out]
              by_cases how : (ka : Int) ≠ i2
              · have hd1 : ((ka : Int) != i2) = true := by simpa using how
                have hd2 : ((ka : Int) == i2) = false := by simpa using how
                have hg : Ac.get fr' (ka, ks) = Ac.get fr (ka, ks) := HK1.out.others (ka, ks) how
                have hd3 : (Ac.get fr (ka, ks) != Ac.get fr' (ka, ks)) = false := by rw [hg]; simp
                refine Rh.region (fun u => Below V.heap.size V u) (fun u => Below V.heap.size V u) (fun _ _ h k => nx h k) (fun _ _ h k => nx h k) ((Below.refl _ _).drew) ((Below.refl _ _).drew) [0, 1, 2, 3, 4, 5, 6, 7, 8, 9, 10, 11, 12] (by kernel_rfl) (by kernel_rfl) (by kernel_rfl) (fun _ _ d _ _ h => by cases d <;> exact h) ?_
                repeat (first | (refine Rh.Steps.skip (by rfl) (by kernel_rfl) (by rfl) ?_; simp only [Act.put, List.setIfInBounds_toArray, List.set_cons_zero, List.set_cons_succ]) | (refine Rh.Steps.pure (v := ?_) (by rfl) (by kernel_rfl) (by rfl) ?_ ?_; rotate_left; (intro w_ hS_; have hk_ := hF w_ hS_; go_simp <;> with_reducible rfl); simp only [Act.put, List.setIfInBounds_toArray, List.set_cons_zero, List.set_cons_succ]) | (refine Rh.Steps.call (v := ?_) (f := ?_) (args := ?_) (by rfl) (by kernel_rfl) (by rfl) ?_ ?_ ?_; rotate_left 3; (intro w_ hS_; have hk_ := hF w_ hS_; go_simp <;> first | with_reducible rfl | (constructor <;> with_reducible rfl)); (intro w_ hS_; have hk_ := hF w_ hS_; first | (go_at_call 29; (first | with_reducible refine (Ac.get_any fr (.slice a4 n4 c4) ka ks w_ (HFu.out w_ hS_).1 hlf0).mono ?_ | with_reducible refine (Ac.get_any fr' (.slice b4 m4 d4) ka ks w_ (HFu.out w_ hS_).2.1 HRm.out).mono ?_); first | (rintro e w_ ⟨rfl, rfl⟩; refine ⟨?_, Below.refl _ _⟩; with_reducible rfl) | (rintro e w_ ⟨rfl, hb_⟩; refine ⟨?_, hb_⟩; with_reducible rfl))); simp only [Act.put, List.setIfInBounds_toArray, List.set_cons_zero, List.set_cons_succ]))
                refine Rh.Steps.nil (by kernel_rfl) ?_
                intro w1_ hS1_ _
                go_upto_region 20 with fail
                refine Rh.region (fun u => Below V.heap.size V u) (fun u => Below V.heap.size V u) (fun _ _ h k => nx h k) (fun _ _ h k => nx h k) (hS1_.drew) (hS1_.drew) [0, 1, 2, 3, 4, 5, 6, 7, 8, 9, 10, 11, 12, 13, 14, 15, 16, 17, 18, 19] (by kernel_rfl) (by kernel_rfl) (by kernel_rfl) (fun _ _ d _ _ h => by cases d <;> exact h) ?_
                repeat (first | (refine Rh.Steps.skip (by rfl) (by kernel_rfl) (by rfl) ?_; simp only [Act.put, List.setIfInBounds_toArray, List.set_cons_zero, List.set_cons_succ]) | (refine Rh.Steps.pure (v := ?_) (by rfl) (by kernel_rfl) (by rfl) ?_ ?_; rotate_left; (intro w_ hS_; have hk_ := hF w_ hS_; go_simp <;> with_reducible rfl); simp only [Act.put, List.setIfInBounds_toArray, List.set_cons_zero, List.set_cons_succ]))
                refine Rh.Steps.nil (by kernel_rfl) ?_
                intro w2_ hS2_ _
                obtain ⟨⟨x0, x1⟩, x2, ⟨⟨x3, x4⟩, x5⟩, ⟨x6, x7⟩, ⟨x8, x9⟩⟩ := hF w2_ hS2_
                go_wp2
                go_roundw
                case rel => exact ⟨ks + 1, by omega, by go_num, nx HbV.out hS2_⟩
                case measure => simp [intOf]; omega
              · have how' : (ka : Int) = i2 := Classical.not_not.1 how
                have hd1 : ((ka : Int) != i2) = false := by simpa using how'
                have hd2 : ((ka : Int) == i2) = true := by simpa using how'
                by_cases h3 : i1 ≠ 3
                · have hd4 : (i1 != 3) = true := by simpa using h3
                  have hd6 : (i1 == 3) = false := by simpa using h3
                  have hg : Ac.get m.2.2.2 (ka, ks) = Ac.get od (ka, ks) := HK3.out h3 (ka, ks) how'
                  have hd5 : (Ac.get od (ka, ks) != Ac.get m.2.2.2 (ka, ks)) = false := by rw [hg]; simp
                  clear how how'
                  refine Rh.region (fun u => Below V.heap.size V u) (fun u => Below V.heap.size V u) (fun _ _ h k => nx h k) (fun _ _ h k => nx h k) ((Below.refl _ _).drew) ((Below.refl _ _).drew) [0, 1, 2, 3, 4, 5, 6, 7, 8, 9, 10, 11, 12] (by kernel_rfl) (by kernel_rfl) (by kernel_rfl) (fun _ _ d _ _ h => by cases d <;> exact h) ?_
                  repeat (first | (refine Rh.Steps.skip (by rfl) (by kernel_rfl) (by rfl) ?_; simp only [Act.put, List.setIfInBounds_toArray, List.set_cons_zero, List.set_cons_succ]) | (refine Rh.Steps.pure (v := ?_) (by rfl) (by kernel_rfl) (by rfl) ?_ ?_; rotate_left; (intro w_ hS_; have hk_ := hF w_ hS_; go_simp <;> with_reducible rfl); simp only [Act.put, List.setIfInBounds_toArray, List.set_cons_zero, List.set_cons_succ]))
                  refine Rh.Steps.nil (by kernel_rfl) ?_
                  intro w1_ hS1_ _
                  go_upto_region 20 with fail
                  refine Rh.region (fun u => Below V.heap.size V u) (fun u => Below V.heap.size V u) (fun _ _ h k => nx h k) (fun _ _ h k => nx h k) (hS1_.drew) (hS1_.drew) [0, 1, 2, 3, 4, 5, 6, 7, 8, 9, 10, 11, 12, 13, 14, 15, 16, 17, 18, 19] (by kernel_rfl) (by kernel_rfl) (by kernel_rfl) (fun _ _ d _ _ h => by cases d <;> exact h) ?_
                  repeat (first | (refine Rh.Steps.skip (by rfl) (by kernel_rfl) (by rfl) ?_; simp only [Act.put, List.setIfInBounds_toArray, List.set_cons_zero, List.set_cons_succ]) | (refine Rh.Steps.pure (v := ?_) (by rfl) (by kernel_rfl) (by rfl) ?_ ?_; rotate_left; (intro w_ hS_; have hk_ := hF w_ hS_; go_simp <;> with_reducible rfl); simp only [Act.put, List.setIfInBounds_toArray, List.set_cons_zero, List.set_cons_succ]) | (refine Rh.Steps.call (v := ?_) (f := ?_) (args := ?_) (by rfl) (by kernel_rfl) (by rfl) ?_ ?_ ?_; rotate_left 3; (intro w_ hS_; have hk_ := hF w_ hS_; go_simp <;> first | with_reducible rfl | (constructor <;> with_reducible rfl)); (intro w_ hS_; have hk_ := hF w_ hS_; first | (go_at_call 29; (first | with_reducible refine (Ac.get_any od (.slice a3 n3 c3) ka ks w_ (HFu.out w_ hS_).2.2.1 hlo0).mono ?_ | with_reducible refine (Ac.get_any m.2.2.2 (.slice b3 m3 d3) ka ks w_ (HFu.out w_ hS_).2.2.2 hlm0).mono ?_); first | (rintro e w_ ⟨rfl, rfl⟩; refine ⟨?_, Below.refl _ _⟩; with_reducible rfl) | (rintro e w_ ⟨rfl, hb_⟩; refine ⟨?_, hb_⟩; with_reducible rfl))); simp only [Act.put, List.setIfInBounds_toArray, List.set_cons_zero, List.set_cons_succ]))
                  refine Rh.Steps.nil (by kernel_rfl) ?_
                  intro w2_ hS2_ _
                  obtain ⟨⟨x0, x1⟩, x2, ⟨⟨x3, x4⟩, x5⟩, ⟨x6, x7⟩, ⟨x8, x9⟩⟩ := hF w2_ hS2_
                  go_wp2
                  go_roundw
                  case rel => exact ⟨ks + 1, by omega, by go_num, nx HbV.out hS2_⟩
                  case measure => simp [intOf]; omega
                · have h3' : i1 = 3 := Classical.not_not.1 h3
                  have hd4 : (i1 != 3) = false := by simpa using h3'
                  have hd6 : (i1 == 3) = true := by simpa using h3'
                  have hg := fun e => HK4.out h3' e (ka, ks) how'
                  clear how how'
                  refine Rh.region (fun u => Below V.heap.size V u) (fun u => Below V.heap.size V u) (fun _ _ h k => nx h k) (fun _ _ h k => nx h k) ((Below.refl _ _).drew) ((Below.refl _ _).drew) [0, 1, 2, 3, 4, 5, 6, 7, 8, 9, 10, 11, 12] (by kernel_rfl) (by kernel_rfl) (by kernel_rfl) (fun _ _ d _ _ h => by cases d <;> exact h) ?_
                  repeat (first | (refine Rh.Steps.skip (by rfl) (by kernel_rfl) (by rfl) ?_; simp only [Act.put, List.setIfInBounds_toArray, List.set_cons_zero, List.set_cons_succ]) | (refine Rh.Steps.pure (v := ?_) (by rfl) (by kernel_rfl) (by rfl) ?_ ?_; rotate_left; (intro w_ hS_; have hk_ := hF w_ hS_; go_simp <;> with_reducible rfl); simp only [Act.put, List.setIfInBounds_toArray, List.set_cons_zero, List.set_cons_succ]))
                  refine Rh.Steps.nil (by kernel_rfl) ?_
                  intro w1_ hS1_ _
                  go_upto_region 20 with fail
                  refine Rh.region (fun u => Below V.heap.size V u) (fun u => Below V.heap.size V u) (fun _ _ h k => nx h k) (fun _ _ h k => nx h k) (hS1_.drew) (hS1_.drew) [0, 1, 2, 3, 4, 5, 6, 7, 8, 9, 10, 11, 12, 13, 14, 15, 16, 17, 18, 19] (by kernel_rfl) (by kernel_rfl) (by kernel_rfl) (fun _ _ d _ _ h => by cases d <;> exact h) ?_
                  repeat (first | (refine Rh.Steps.skip (by rfl) (by kernel_rfl) (by rfl) ?_; simp only [Act.put, List.setIfInBounds_toArray, List.set_cons_zero, List.set_cons_succ]) | (refine Rh.Steps.pure (v := ?_) (by rfl) (by kernel_rfl) (by rfl) ?_ ?_; rotate_left; (intro w_ hS_; have hk_ := hF w_ hS_; go_simp <;> with_reducible rfl); simp only [Act.put, List.setIfInBounds_toArray, List.set_cons_zero, List.set_cons_succ]))
                  refine Rh.Steps.nil (by kernel_rfl) ?_
                  intro w2_ hS2_ _
                  obtain ⟨⟨x0, x1⟩, x2, ⟨⟨x3, x4⟩, x5⟩, ⟨x6, x7⟩, ⟨x8, x9⟩⟩ := hF w2_ hS2_
                  by_cases he : er = 0
                  · have hd7 : (er == 0) = true := by simpa using he
                    have hg0 := hg he
                    clear hg he h3' h3
                    go_wp2_with fail
                    refine (Ac.get_any m.2.2.2 _ ka ks w2_ (HFu.out w2_ hS2_).2.2.2 hlm0).mono ?_
                    rintro e w3_ ⟨rfl, hb3_⟩
                    have hS3_ := nx hS2_ hb3_
                    rw [hg0]
                    clear hg0 hb3_
                    go_wp2
                    go_roundw
                    case rel => exact ⟨ks + 1, by omega, by go_num, nx HbV.out hS3_⟩
                    case measure => simp [intOf]; omega
                  · have hd7 : (er == 0) = false := by simpa using he
                    go_wp2
                    go_roundw
                    case rel => exact ⟨ks + 1, by omega, by go_num, nx HbV.out hS2_⟩
                    case measure => simp [intOf]; omega
            · obtain rfl : ks = 4 := by omega
              go_wp2
              go_roundw
              case rel => exact ⟨ka + 1, by omega, by go_num, hbz⟩
              case measure => simp [intOf]; omega
        · obtain rfl : ka = 5 := by omega
          have hbwy := nx HbM.out hby
          go_wp2_with fail
          refine (awake_any wr).mono ?_
          rintro e w9 ⟨rfl, hb9⟩
          have hfin9 := nx HbU.out (nx hbwy hb9)
          go_wp2
          go_ret
          exact ⟨rfl, hfin9⟩
set_option maxRecDepth 16000 in
set_option maxHeartbeats 8000000 in
theorem walkOwner2 (ops : List Op5) (v : Value) (i1 i2 i3 i4 i5 : Int) (w : World) (h : PL (Bs.of w.heap.size) ops v w) (h60 : ¬ ops.length ≤ 60) :
    Calls Tryz.prog 6 #[v, .agg #[.int .i64 i1, .int .i64 i2, .int .i64 i3, .int .i64 i4, .int .i64 i5]] w fun e w' => e = .returned (.bool true) ∧ Below w.heap.size w w' := by
  obtain ⟨a0, c0, rfl, hel⟩ := h
  obtain ⟨B, hB'⟩ : ∃ B, B = Bs.of w.heap.size := ⟨_, rfl⟩
  have hB : B.le w.heap.size := by rw [hB']; exact Bs.of_le _
  obtain ⟨N, hn⟩ : ∃ N, N = ops.length := ⟨_, rfl⟩
  rw [← hn] at h60 ⊢
  have HE := Lib.hid hel
  have HN := Lib.hid hn
  have hd : decide ((60 : Int) < N) = true := decide_eq_true (by omega)
  have hd' : decide (60 < N) = true := decide_eq_true (by omega)
  obtain ⟨U, hU⟩ : ∃ U, U = w.alloc (.cells #[.int .i64 i1, .int .i64 i2, .int .i64 i3, .int .i64 i4, .int .i64 i5] 36) := ⟨_, rfl⟩
  have hbU : Below w.heap.size w U := hU ▸ below1 w _
  have hOp : U.heap[w.heap.size]? = some (.cells #[.int .i64 i1, .int .i64 i2, .int .i64 i3, .int .i64 i4, .int .i64 i5] 36 (0, 0)) := by rw [hU]; exact heap_alloc_new w _
  have hzU : U.heap.size = w.heap.size + 1 := by rw [hU]; simp
  have HB := Lib.hid (show ∀ u, Below U.heap.size U u → B.le u.heap.size from fun u hu => (hB.mono hbU.size).mono hu.size)
  have HU := Lib.hid hU
  have HbU := Lib.hid hbU
  have HOp := Lib.hid hOp
  have HzU := Lib.hid hzU
  have HNw := Lib.hid (lnew_any 1 2 U)
  clear hel hn hB hB' hU hbU hOp hzU
  go_enter Tryz.func6, Tryz.ntmps6
  go_wp2_with fail
  rw [← HU.out]
  refine HNw.out.mono ?_
  rintro e w1 ⟨v1, rfl, hb1, hln⟩
  have hln1 : LN B ln0 v1 w1 := hln B (HB.out U (Below.refl _ _))
  obtain ⟨a1, n1, c1, a2, n2, c2, a3, n3, c3, rfl, -, -, -, hk1, hk2, hk3⟩ := hln1.open'
  rw [show newE 1 2 = 0 from rfl]
  obtain ⟨M1, hM1⟩ : ∃ M, M = w1.alloc (.cells (cN 1 2 (.slice a1 n1 c1) (.slice a2 n2 c2) 1 (.slice a3 n3 c3)) 28) := ⟨_, rfl⟩
  have hbM1 : Below U.heap.size U M1 := nx hb1 (hM1 ▸ below1 w1 _)
  have HX1 := Lib.hid (show LB B ln0 (.slice a1 n1 c1) (.slice a2 n2 c2) (.slice a3 n3 c3) w1.heap.size M1 from by rw [hM1]; exact LB.made (l := ln0) hk1 hk2 hk3 (HB.out w1 hb1).1)
  have HM1 := Lib.hid hM1
  obtain ⟨s, hs⟩ : ∃ s, w1.heap.size = s := ⟨_, rfl⟩
  rw [hs] at HX1
  have hsz : U.heap.size ≤ s := by have := hb1.size; omega
  clear hln hln1 hk1 hk2 hk3 hM1
  go_wp2_with fail
  rw [← HM1.out]
  refine (rich_any (lo := B.lo) 60 M1).mono ?_
  rintro e w2 ⟨v2, rfl, hb2, hrich⟩
  obtain ⟨a4, c4, rfl⟩ := hl_slice hrich
  have hbw2 := nx hbM1 hb2
  have HX2 := Lib.hid (HX1.out.stays hb2)
  have HF2 := Lib.hid hrich
  clear hrich hb2
  have hbw9 := nx HbU.out hbw2
  go_wp2_with fail
  refine (awake_any w2).mono ?_
  rintro e w9 ⟨rfl, hb9⟩
  have hfin9 := nx hbw9 hb9
  go_wp2
  go_ret
  exact ⟨rfl, hfin9⟩
theorem walkOwner (ops : List Op5) (v : Value) (i1 i2 i3 i4 i5 : Int) (w : World) (h : PL (Bs.of w.heap.size) ops v w) :
    Calls Tryz.prog 6 #[v, .agg #[.int .i64 i1, .int .i64 i2, .int .i64 i3, .int .i64 i4, .int .i64 i5]] w fun e w' => e = .returned (.bool true) ∧ Below w.heap.size w w' := by
  by_cases h60 : ops.length ≤ 60
  · exact walkOwner1 ops v i1 i2 i3 i4 i5 w h h60
  · exact walkOwner2 ops v i1 i2 i3 i4 i5 w h h60
end Go.Proofs.YthecinmekoaphaaGreat.La
