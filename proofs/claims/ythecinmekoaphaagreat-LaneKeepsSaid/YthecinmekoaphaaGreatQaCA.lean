/- LaneKeeps: walked. -/
import Derived.Test.YthecinmekoaphaaGreatQaBY
set_option linter.unusedVariables false
namespace Go.Proofs.YthecinmekoaphaaGreat.La
open Go.RowKit
open Go.Proofs.YthecinmekoaphaaGreat.Rw
open Go.Proofs.YthecinmekoaphaaGreat.Da
open Go.Proofs.YthecinmekoaphaaGreat.Le
open Go.Proofs.YthecinmekoaphaaGreat.Bk
open Go.Proofs.YthecinmekoaphaaGreat.Ac (Hd Pu HL pmay pmay_iff tot total giveE giveL takeE takeL)
/-- What there was of each asset. -/
def wasC (l : List Hd) (k : Nat) : Array Value := #[.int .i64 0, .int .i64 (if 1 < k then total l 1 else 0), .int .i64 (if 2 < k then total l 2 else 0)]
theorem tot_bd {s : Int} : ∀ {l : List Hd}, (∀ h ∈ l, Ac.good h = true) → 0 ≤ tot s l ∧ tot s l ≤ l.length * 1125899906842624
  | [], _ => by simp [tot]
  | h :: r, hg => by
    obtain ⟨_, h1, h2⟩ := Ac.good_iff.1 (hg h List.mem_cons_self)
    have ih := tot_bd (s := s) (l := r) fun x hx => hg x (List.mem_cons_of_mem _ hx)
    rw [tot, List.length_cons]
    have e : ((r.length + 1 : Nat) : Int) * 1125899906842624 = r.length * 1125899906842624 + 1125899906842624 := by rw [Int.natCast_add, Int.add_mul]; omega
    rw [e]
    split <;> omega
theorem total_bd {s : Int} {l : List Hd} (h : Ac.Right l) : 0 ≤ total l s ∧ total l s ≤ 576460752303423488 := by
  rw [Ac.total_right h]
  have h1 := tot_bd (s := s) h.1
  have h2 := Ac.right_512 h
  omega
/-- Behind any calls: what is free, reserved, owed, is together what there was. -/
theorem ru_sum (n : Int) (ops : List Op5) : ∀ a : Nat, a = 1 ∨ a = 2 → (0 ≤ total (ru n ops).2 a ∧ total (ru n ops).2 a ≤ 576460752303423488) ∧ (0 ≤ reserved (ru n ops).1 a ∧ reserved (ru n ops).1 a ≤ 1125899906842624) ∧ (0 ≤ owedN (ru n ops).1 a ∧ owedN (ru n ops).1 a ≤ 576460752303423488) ∧ total (ru n ops).2 a + reserved (ru n ops).1 a + owedN (ru n ops).1 a = total (richK n 4) a := by
  intro a _
  obtain ⟨k1, k2, k3, k4, k5⟩ := runN_right ops awR0 (rich_right n 4)
  have k6 := k5 a
  unfold ru
  have hr := rsv_bd (b := (runN ln0 (richK n 4) ops).1.1) (q := (runN ln0 (richK n 4) ops).1.2.1) (a := a) (okO_of k1.book)
  have hl : (allO (runN ln0 (richK n 4) ops).1.2.2.1).length ≤ 40 := by
    have := k1.book.cnt
    unfold cntB at this
    unfold allO
    rw [List.length_append]; omega
  refine ⟨total_bd k2, ?_, ?_, ?_⟩
  · unfold reserved; rw [if_pos (rightN_iff.2 k1)]; omega
  · unfold owedN; rw [if_pos (rightN_iff.2 k1)]; exact total_bd k1.owed
  · unfold reserved owedN
    rw [if_pos (rightN_iff.2 k1), if_pos (rightN_iff.2 k1), Ac.total_right k2, Ac.total_right k1.owed, Ac.total_right (rich_right n 4), k3, k4, k6]
    simp [allO, flat, rsv, tot]
theorem tot_is {lo : Nat} {l : List Hd} {v : Value} {s r : Int} {w : World} (hr : total l s = r) (hm : l.length ≤ 1000000) (h : HL lo l v w) :
    Calls Tryz.prog 27 #[v, .int .i64 s] w fun e w' => e = .returned (.int .i64 r) ∧ Below w.heap.size w w' := by
  rw [← hr]; exact Ac.total_any l v s w h hm
set_option maxRecDepth 16000 in
set_option maxHeartbeats 8000000 in
theorem walkKeeps1 (ops : List Op5) (v : Value) (n : Int) (w : World) (h : PL (Bs.of w.heap.size) ops v w) (h60 : ops.length ≤ 60) :
    Calls Tryz.prog 5 #[v, .int .i64 n] w fun e w' => e = .returned (.bool true) ∧ Below w.heap.size w w' := by
  obtain ⟨a0, c0, rfl, hel⟩ := h
  obtain ⟨B, hB'⟩ : ∃ B, B = Bs.of w.heap.size := ⟨_, rfl⟩
  have hB : B.le w.heap.size := by rw [hB']; exact Bs.of_le _
  obtain ⟨N, hn⟩ : ∃ N, N = ops.length := ⟨_, rfl⟩
  rw [← hn] at h60 ⊢
  have HE := Lib.hid hel
  have HN := Lib.hid hn
  have hd : decide ((60 : Int) < N) = false := decide_eq_false (by omega)
  have hd' : decide (60 < N) = false := decide_eq_false (by omega)
  have HB := Lib.hid (show ∀ u, Below w.heap.size w u → B.le u.heap.size from fun u hu => hB.mono hu.size)
  have HNw := Lib.hid (lnew_any 1 2 w)
  clear hel hn hB hB'
  go_enter Tryz.func5, Tryz.ntmps5
  go_wp2_with fail
  refine HNw.out.mono ?_
  rintro e w1 ⟨v1, rfl, hb1, hln⟩
  have hln1 : LN B ln0 v1 w1 := hln B (HB.out w (Below.refl _ _))
  obtain ⟨a1, n1, c1, a2, n2, c2, a3, n3, c3, rfl, -, -, -, hk1, hk2, hk3⟩ := hln1.open'
  rw [show newE 1 2 = 0 from rfl]
  obtain ⟨M1, hM1⟩ : ∃ M, M = w1.alloc (.cells (cN 1 2 (.slice a1 n1 c1) (.slice a2 n2 c2) 1 (.slice a3 n3 c3)) 28) := ⟨_, rfl⟩
  have hbM1 : Below w.heap.size w M1 := nx hb1 (hM1 ▸ below1 w1 _)
  have HX1 := Lib.hid (show LB B ln0 (.slice a1 n1 c1) (.slice a2 n2 c2) (.slice a3 n3 c3) w1.heap.size M1 from by rw [hM1]; exact LB.made (l := ln0) hk1 hk2 hk3 (HB.out w1 hb1).1)
  have HM1 := Lib.hid hM1
  obtain ⟨s, hs⟩ : ∃ s, w1.heap.size = s := ⟨_, rfl⟩
  rw [hs] at HX1
  have hsz : w.heap.size ≤ s := by have := hb1.size; omega
  clear hln hln1 hk1 hk2 hk3 hM1
  go_wp2_with fail
  rw [← HM1.out]
  obtain ⟨x, hx⟩ : ∃ x : Int, wrap64 ((IntKind.u64.wrap n).tmod 1000000) = x := ⟨_, rfl⟩
  rw [hx]
  refine (rich_any (lo := B.lo) x M1).mono ?_
  rintro e w2 ⟨v2, rfl, hb2, hrich⟩
  obtain ⟨a4, c4, rfl⟩ := hl_slice hrich
  have hbw2 := nx hbM1 hb2
  have HX2 := Lib.hid (HX1.out.stays hb2)
  have HF2 := Lib.hid hrich
  clear hrich hb2
  have hlr : (richK x 4).length ≤ 1000000 := Nat.le_trans (rich_len x 4) (by decide)
  obtain ⟨fr0, hfr0⟩ : ∃ l, richK x 4 = l := ⟨_, rfl⟩
  rw [hfr0] at HF2 hlr ⊢
  obtain ⟨t, ht⟩ : ∃ t, w2.heap.size = t := ⟨_, rfl⟩
  obtain ⟨M, hM⟩ : ∃ M, M = w2.alloc (.cells #[.int .i64 0, .int .i64 0, .int .i64 0] 56) := ⟨_, rfl⟩
  have hbo : Below w2.heap.size w2 M := hM ▸ below1 w2 _
  have hwM : M.heap[t]? = some (.cells (wasC fr0 1) 56 (0, 0)) := by rw [hM, ← ht]; exact heap_alloc_new w2 _
  have hst : s < t := by rw [← ht]; exact HX2.out.lt
  have HM := Lib.hid hM
  have HwM := Lib.hid hwM
  have HFr0 := Lib.hid hfr0
  clear hx hM hwM hfr0
  go_wp2
  rw [← HM.out]
  go_loopw [9] (fun i wr => ∃ k : Nat, 1 ≤ k ∧ k ≤ 3 ∧ i = .int .i64 k ∧ Below w2.heap.size w2 wr ∧ wr.heap[t]? = some (.cells (wasC fr0 k) 56 (0, 0))) (fun i _ => 3 - (intOf i).toNat)
  case atStart => exact ⟨1, by decide, by decide, rfl, hbo, HwM.out⟩
  case round =>
    obtain ⟨k, hk1, hk3, rfl, hb, hwas⟩ := hrel
    have HW := Lib.hid hwas
    clear hwas
    by_cases hlt : k < 3
    · have hlt2 : (k : Int) < 3 := by omega
      have hfl := Lib.hid (hl_stays HF2.out hb)
      go_wp2_with fail
      refine (Ac.total_any fr0 _ k wr hfl.out hlr).mono ?_
      rintro e w3 ⟨rfl, hb3⟩
      have hw3 := (hb3.block t (Array.getElem?_eq_some_iff.1 HW.out).1).trans HW.out
      have z3 := (Array.getElem?_eq_some_iff.1 hw3).1
      have hff : ∀ j, w3.frozen? ⟨t, j, none⟩ = false := fun j => by simp [World.frozen?, hw3]
      have hcc : ∀ j : Nat, j < 3 → ∃ y, w3.cell? ⟨t, j, none⟩ = some (.int .i64 y) := fun j hj => by
        match j, hj with
        | 0, _ => exact ⟨0, by simp [World.cell?, hw3, wasC]⟩
        | 1, _ => exact ⟨_, by simp [World.cell?, hw3, wasC]; rfl⟩
        | 2, _ => exact ⟨_, by simp [World.cell?, hw3, wasC]; rfl⟩
      obtain ⟨y, hy⟩ := hcc k hlt
      have HW3 := Lib.hid hw3
      clear hcc hw3
      go_wp2
      refine ⟨⟨k + 1, by omega, by omega, by go_num, (nx hb hb3).trans (low_setCell _ _ (Nat.le_of_eq ht)), ?_⟩, by simp [intOf]; omega⟩
      rw [setN k _ HW3.out]
      obtain rfl | rfl : k = 1 ∨ k = 2 := by omega
      · simp [wasC]
      · simp [wasC]
    · obtain rfl : k = 3 := by omega
      have hbw := nx hbw2 hb
      have HX3 := Lib.hid (HX2.out.stays hb)
      have HF3 := Lib.hid (hl_stays HF2.out hb)
      have HW3 := Lib.hid HW.out
      clear hb hk1 hk3 hlt
      go_wp2
      go_loopw [7, 40] (fun f i wr => ∃ k : Nat, k ≤ N ∧ i = .int .i64 k ∧ Below w.heap.size w wr ∧ wr.heap[t]? = some (.cells (wasC fr0 3) 56 (0, 0)) ∧ ∃ a1 n1 c1 a2 n2 c2 a3 n3 c3 a4 n4 c4, LB B (ru x (ops.take k)).1 (.slice a1 n1 c1) (.slice a2 n2 c2) (.slice a3 n3 c3) s wr ∧ f = .slice a4 n4 c4 ∧ HL B.lo (ru x (ops.take k)).2 (.slice a4 n4 c4) wr) (fun _ i _ => N - (intOf i).toNat)
      case atStart =>
        have e0 : ru x (ops.take 0) = (ln0, fr0) := by rw [List.take_zero, ← HFr0.out, ru, runN]
        refine ⟨0, Nat.zero_le _, rfl, hbw, HW3.out, a1, n1, c1, a2, n2, c2, a3, n3, c3, a4, fr0.length, c4, ?_, rfl, ?_⟩
        · rw [e0]; exact HX3.out
        · rw [e0]; exact HF3.out
      case round =>
        obtain ⟨k, hk, rfl, hb, hwas, a1, n1, c1, a2, n2, c2, a3, n3, c3, a4, n4, c4, hbx, rfl, hfl⟩ := hrel
        obtain ⟨⟨l, fr⟩, hlf⟩ : ∃ L, ru x (ops.take k) = L := ⟨_, rfl⟩
        obtain ⟨hR, hRf⟩ := ru_right x (ops.take k)
        have hsum := ru_sum x (ops.take k)
        rw [hlf] at hbx hfl hR hRf hsum
        obtain ⟨lb, lq, ⟨bu, se, nn⟩, od⟩ := l
        simp only at hbx hfl hR hRf hsum
        have HR := Lib.hid hR
        have HRf := Lib.hid hRf
        have HX := Lib.hid hbx
        have HF := Lib.hid hfl
        have HLf := Lib.hid hlf
        have HWr := Lib.hid hwas
        have r0 := hbx.row
        have z0 := hbx.lt
        simp only at r0
        clear hbx hfl hlf hR hRf hwas hsum
        by_cases hlt : k < N
        · have hlt2 : (k : Int) < N := by omega
          have hko : k < ops.length := by rw [← HN.out]; exact hlt
          rcases HE.out with ⟨e, _⟩ | ⟨bo, off, rfl, hat⟩
          · rw [e] at hko; cases hko
          obtain ⟨q0, q1, q2, q3, q4⟩ := atP (Lies.keep eP 36 hat (Keeps.of_below hb)) k hko
          have hbb : bo < wr.heap.size := Nat.lt_of_lt_of_le hat.1 hb.size
          obtain ⟨⟨o1, o2, o3, o4, o5⟩, ho⟩ : ∃ x, ops[k]'hko = x := ⟨_, rfl⟩
          rw [ho] at q0 q1 q2 q3 q4
          simp only at q0 q1 q2 q3 q4
          have hst : ru x (ops.take (k + 1)) = ((stepN (lb, lq, (bu, se, nn), od) fr (o1, o2, o3, o4, o5)).1, (stepN (lb, lq, (bu, se, nn), od) fr (o1, o2, o3, o4, o5)).2.1) := by rw [ru_take hko, HLf.out, ho]
          obtain ⟨hk1, hk2, -, -⟩ := stepN_keep HR.out HRf.out (o1, o2, o3, o4, o5)
          obtain ⟨⟨m, fr', er⟩, hC⟩ : ∃ C, stepN (lb, lq, (bu, se, nn), od) fr (o1, o2, o3, o4, o5) = C := ⟨_, rfl⟩
          rw [hC] at hst hk1 hk2
          simp only at hst hk1 hk2
          have hsum := ru_sum x (ops.take (k + 1))
          rw [hst, HFr0.out] at hsum
          simp only at hsum
          have HC := Lib.hid hC
          have HSt := Lib.hid hst
          have HSum := Lib.hid hsum
          have HRi := Lib.hid hk1.right
          have HRf' := Lib.hid hk1.free
          have HK2 := Lib.hid hk2
          have HRm := Lib.hid (show fr'.length ≤ 1000000 from Nat.le_trans (ac_len hk1.free) (by decide))
          obtain ⟨V, hV⟩ : ∃ V, V = wr.alloc (.cells #[.int .i64 o1, .int .i64 o2, .int .i64 o3, .int .i64 o4, .int .i64 o5] 36) := ⟨_, rfl⟩
          have hbV : Below wr.heap.size wr V := hV ▸ below1 wr _
          have HV := Lib.hid hV
          have hbVw := nx hb hbV
          have HXV := Lib.hid (HX.out.stays hbV)
          have HFV := Lib.hid (hl_stays HF.out hbV)
          clear ho hat hV hC hst hsum hk1 hk2
          go_wp2_with fail
          rw [← HV.out]
          refine (step_any B (lb, lq, (bu, se, nn), od) fr _ _ o1 o2 o3 o4 o5 V HXV.out.ln HFV.out (HB.out V hbVw) (sm_right HR.out) (ac_len HRf.out)).mono ?_
          rw [HC.out]
          rintro e w3 ⟨b1, m1, d1, b2, m2, d2, b3, m3, d3, b4, m4, d4, rfl, hd9, hln, hfl⟩
          simp only at hln hfl
          obtain ⟨h1, h2, h3⟩ := hln.inv
          have hb3 := nx hbVw hd9
          obtain ⟨M, hM⟩ : ∃ M, M = w3.alloc (.cells (cN m.1 m.2.1 (.slice b1 m1 d1) (.slice b2 m2 d2) m.2.2.1.2.2 (.slice b3 m3 d3)) 28) := ⟨_, rfl⟩
          have hbo : Below w3.heap.size w3 M := hM ▸ below1 w3 _
          have hVM := nx hd9 hbo
          have HbMw := Lib.hid (nx hb3 hbo)
          have hx0 := HXV.out.stays hVM
          have HX0 := Lib.hid hx0
          have HF0 := Lib.hid (hl_stays HFV.out hVM)
          have HFm := Lib.hid (hl_stays hfl hbo)
          obtain ⟨t', ht'⟩ : ∃ t, w3.heap.size = t := ⟨_, rfl⟩
          have hxm : LB B m (.slice b1 m1 d1) (.slice b2 m2 d2) (.slice b3 m3 d3) t' M := by rw [hM, ← ht']; exact LB.made h1 h2 h3 (HB.out w3 hb3).1
          have HXm := Lib.hid hxm
          have HWM := Lib.hid (show M.heap[t]? = some (.cells (wasC fr0 3) 56 (0, 0)) from ((nx hbV hVM).block t (Array.getElem?_eq_some_iff.1 HWr.out).1).trans HWr.out)
          have HM := Lib.hid hM
          clear r0 z0 q0 q1 q2 q3 q4 hbb
          have r0 := hx0.row
          have z0 := hx0.lt
          have r1 := hxm.row
          have z1 := hxm.lt
          simp only at r0
          clear hx0 hxm hd9 hbo hM hfl hln h1 h2 h3 hb3 hbV hbVw hVM hb
          go_upto_region 14 with fail
          rw [← HM.out]
          by_cases her : er ≠ 0
          · have he1 : (er != 0) = true := by simpa using her
            have hml := Lib.hid (HK2.out her)
            clear her
            go_wp2_with fail
            refine (same_yes (B := B) (B' := B) (lb, lq, (bu, se, nn), od) _ _ M (by rw [← hml.out.1]; exact HXm.out.ln) HX0.out.ln (HB.out M HbMw.out) (HB.out M HbMw.out) (sm_right HR.out)).mono ?_
            rintro e wa ⟨rfl, hba⟩
            clear r0 z0 r1 z1
            go_wp2_with fail
            refine (holdings_yes fr _ _ wa (by have := hl_stays HFm.out hba; rw [hml.out.2] at this; exact this) (hl_stays HF0.out hba) (Nat.le_trans (ac_len HRf.out) (by decide))).mono ?_
            rintro e wb ⟨rfl, hbb⟩
            have hbb' := nx hba hbb
            have r1 := (HXm.out.stays hbb').row
            have z1 := (HXm.out.stays hbb').lt
            go_wp2_with fail
            refine (lright_any B m _ wb (HXm.out.stays hbb').ln (HB.out wb (nx HbMw.out hbb')) (sm_right HRi.out)).mono ?_
            rintro e wc ⟨rfl, hbc⟩
            rw [rightN_iff.2 HRi.out]
            have hbc' := nx hbb' hbc
            clear r1 z1
            go_wp2_with fail
            refine (Ac.right_any fr' _ wc (hl_stays HFm.out hbc') HRm.out).mono ?_
            rintro e wz9 ⟨rfl, hbd⟩
            rw [Ac.right_iff.2 HRf'.out]
            have hbM9 := nx hbc' hbd
            have HbU := Lib.hid hbM9
            clear hba hbb hbb' hbc hbc' hbd he1
            have hbu := nx HbMw.out hbM9
            clear hbM9
            go_wp2
            go_loopw [15] (fun i wz => ∃ ka : Nat, 1 ≤ ka ∧ ka ≤ 3 ∧ i = .int .i64 ka ∧ Below M.heap.size M wz) (fun i _ => 3 - (intOf i).toNat)
            case atStart => exact ⟨1, by decide, by decide, rfl, HbU.out⟩
            case round =>
              obtain ⟨ka, hka1, hka3, rfl, hbz⟩ := hrel
              by_cases hk3 : ka < 3
              · have hk32 : (ka : Int) < 3 := by omega
                have hkI : ka = 1 ∨ ka = 2 := by omega
                obtain ⟨T1, hT1⟩ : ∃ x, total fr' ka = x := ⟨_, rfl⟩
                obtain ⟨T2, hT2⟩ : ∃ x, reserved m ka = x := ⟨_, rfl⟩
                obtain ⟨T3, hT3⟩ : ∃ x, owedN m ka = x := ⟨_, rfl⟩
                obtain ⟨hs1, hs2, hs3, hs4⟩ := HSum.out ka hkI
                rw [hT1, hT2, hT3] at hs4
                rw [hT1] at hs1
                rw [hT2] at hs2
                rw [hT3] at hs3
                have HT := Lib.hid (show total fr' ka = T1 ∧ reserved m ka = T2 ∧ owedN m ka = T3 from ⟨hT1, hT2, hT3⟩)
                obtain ⟨T4, hT4⟩ : ∃ x : Int, T1 + T2 = x := ⟨_, rfl⟩
                have e1 : wrap64 (T1 + T2) = T4 := by rw [hT4]; exact IntWalk.wrap64_in _ (by omega)
                have e1' : IntKind.i64.wrap (T1 + T2) = T4 := by rw [hT4]; exact IntWalk.i64_in _ (by omega)
                have hT5 : T4 + T3 = total fr0 ka := by omega
                obtain ⟨T5, hT5'⟩ : ∃ x, total fr0 ka = x := ⟨_, rfl⟩
                rw [hT5'] at hT5 hs4
                have e2 : wrap64 (T4 + T3) = T5 := by rw [hT5]; exact IntWalk.wrap64_in _ (by omega)
                have e2' : IntKind.i64.wrap (T4 + T3) = T5 := by rw [hT5]; exact IntWalk.i64_in _ (by omega)
                have e3 : (T5 != T5) = false := by simp
                have hF : ∀ u, Below M.heap.size M u → row u t' = cN m.1 m.2.1 (.slice b1 m1 d1) (.slice b2 m2 d2) m.2.2.1.2.2 (.slice b3 m3 d3) ∧ t' < u.heap.size ∧ u.cell? ⟨t, ka, none⟩ = some (.int .i64 T5) ∧ t < u.heap.size := fun u hu => by
                  have hx := HXm.out.stays hu
                  have hw := (hu.block t (Array.getElem?_eq_some_iff.1 HWM.out).1).trans HWM.out
                  refine ⟨hx.row, hx.lt, ?_, (Array.getElem?_eq_some_iff.1 hw).1⟩
                  rw [← hT5']
                  obtain rfl | rfl := hkI
                  · simp [World.cell?, hw, wasC]
                  · simp [World.cell?, hw, wasC]
                clear hT1 hT2 hT3 hT4 hT5 hT5' hs1 hs2 hs3 hs4 hkI hka1 hka3
                go_upto_region 19 with fail
                refine Rh.region (fun u => Below M.heap.size M u) (fun u => Below M.heap.size M u) (fun _ _ h k => nx h k) (fun _ _ h k => nx h k) (hbz.drew) (hbz.drew) [0, 1, 2, 3, 4, 5, 6, 7, 8, 9, 10, 11, 12, 13, 14] (by kernel_rfl) (by kernel_rfl) (by kernel_rfl) (fun _ _ d _ _ h => by cases d <;> exact h) ?_
                repeat (first | (refine Rh.Steps.skip (by rfl) (by kernel_rfl) (by rfl) ?_; simp only [Act.put, List.setIfInBounds_toArray, List.set_cons_zero, List.set_cons_succ]) | (refine Rh.Steps.pure (v := ?_) (by rfl) (by kernel_rfl) (by rfl) ?_ ?_; rotate_left; (intro w_ hS_; have hk_ := hF w_ hS_; go_simp <;> with_reducible rfl); simp only [Act.put, List.setIfInBounds_toArray, List.set_cons_zero, List.set_cons_succ]) | (refine Rh.Steps.call (v := ?_) (f := ?_) (args := ?_) (by rfl) (by kernel_rfl) (by rfl) ?_ ?_ ?_; rotate_left 3; (intro w_ hS_; have hk_ := hF w_ hS_; go_simp <;> first | with_reducible rfl | (constructor <;> with_reducible rfl)); (intro w_ hS_; have hk_ := hF w_ hS_; first | (go_at_call 27; refine (tot_is HT.out.1 HRm.out (hl_stays HFm.out hS_)).mono ?_; first | (rintro e w_ ⟨rfl, rfl⟩; refine ⟨?_, Below.refl _ _⟩; with_reducible rfl) | (rintro e w_ ⟨rfl, hb_⟩; refine ⟨?_, hb_⟩; with_reducible rfl)) | (go_at_call 20; refine (res_is HT.out.2.1 (HXm.out.stays hS_).ln (HB.out w_ (nx HbMw.out hS_)) (sm_right HRi.out)).mono ?_; first | (rintro e w_ ⟨rfl, rfl⟩; refine ⟨?_, Below.refl _ _⟩; with_reducible rfl) | (rintro e w_ ⟨rfl, hb_⟩; refine ⟨?_, hb_⟩; with_reducible rfl)) | (go_at_call 22; refine (owe_is HT.out.2.2 (HXm.out.stays hS_).ln (HB.out w_ (nx HbMw.out hS_)) (sm_right HRi.out)).mono ?_; first | (rintro e w_ ⟨rfl, rfl⟩; refine ⟨?_, Below.refl _ _⟩; with_reducible rfl) | (rintro e w_ ⟨rfl, hb_⟩; refine ⟨?_, hb_⟩; with_reducible rfl))); simp only [Act.put, List.setIfInBounds_toArray, List.set_cons_zero, List.set_cons_succ]))
                refine Rh.Steps.nil (by kernel_rfl) ?_
                intro w9_ hS9_ _
                go_wp2
                go_roundw
                case rel => exact ⟨ka + 1, by omega, by omega, by go_num, hS9_⟩
                case measure => simp [intOf]; omega
              · obtain rfl : ka = 3 := by omega
                have hbz9 := nx HbMw.out hbz
                have hxm := HXm.out.stays hbz
                have hx0 := HX0.out.stays hbz
                have r9 := hxm.row
                have z9 := hxm.lt
                have p9 := hx0.plain
                have y9 := hx0.lt
                obtain ⟨hxX, hfX, hbX⟩ := box_put (m := m) hx0 hsz hbz9 hxm.l1 hxm.l2 hxm.l3 (hl_stays HFm.out hbz)
                have hwX := (setRow_other wr s t (cN m.1 m.2.1 (.slice b1 m1 d1) (.slice b2 m2 d2) m.2.2.1.2.2 (.slice b3 m3 d3)) (by omega)).trans ((hbz.block t (Array.getElem?_eq_some_iff.1 HWM.out).1).trans HWM.out)
                have HXX := Lib.hid hxX
                have HFX := Lib.hid hfX
                have HbX := Lib.hid hbX
                have HwX := Lib.hid hwX
                clear hbz9 hxm hx0 hxX hfX hbX hwX
                go_wp2
                go_roundw
                case rel => (repeat apply Exists.intro); exact ⟨⟨k + 1, by omega, by go_num, HbX.out, HwX.out, _, _, _, _, _, _, _, _, _, _, _, _, by rw [HSt.out]; exact HXX.out, rfl, by rw [HSt.out]; exact HFX.out⟩, rfl⟩
                case measure => simp [intOf]; omega
          · have he1 : (er != 0) = false := by simpa using her
            clear her r0 z0
            go_wp2_with fail
            refine (lright_any B m _ M HXm.out.ln (HB.out M HbMw.out) (sm_right HRi.out)).mono ?_
            rintro e wc ⟨rfl, hbc'⟩
            rw [rightN_iff.2 HRi.out]
            clear r1 z1
            go_wp2_with fail
            refine (Ac.right_any fr' _ wc (hl_stays HFm.out hbc') HRm.out).mono ?_
            rintro e wz9 ⟨rfl, hbd⟩
            rw [Ac.right_iff.2 HRf'.out]
            have hbM9 := nx hbc' hbd
            have HbU := Lib.hid hbM9
            clear hbc' hbd he1
            have hbu := nx HbMw.out hbM9
            clear hbM9
            go_wp2
            go_loopw [15] (fun i wz => ∃ ka : Nat, 1 ≤ ka ∧ ka ≤ 3 ∧ i = .int .i64 ka ∧ Below M.heap.size M wz) (fun i _ => 3 - (intOf i).toNat)
            case atStart => exact ⟨1, by decide, by decide, rfl, HbU.out⟩
            case round =>
              obtain ⟨ka, hka1, hka3, rfl, hbz⟩ := hrel
              by_cases hk3 : ka < 3
              · have hk32 : (ka : Int) < 3 := by omega
                have hkI : ka = 1 ∨ ka = 2 := by omega
                obtain ⟨T1, hT1⟩ : ∃ x, total fr' ka = x := ⟨_, rfl⟩
                obtain ⟨T2, hT2⟩ : ∃ x, reserved m ka = x := ⟨_, rfl⟩
                obtain ⟨T3, hT3⟩ : ∃ x, owedN m ka = x := ⟨_, rfl⟩
                obtain ⟨hs1, hs2, hs3, hs4⟩ := HSum.out ka hkI
                rw [hT1, hT2, hT3] at hs4
                rw [hT1] at hs1
                rw [hT2] at hs2
                rw [hT3] at hs3
                have HT := Lib.hid (show total fr' ka = T1 ∧ reserved m ka = T2 ∧ owedN m ka = T3 from ⟨hT1, hT2, hT3⟩)
                obtain ⟨T4, hT4⟩ : ∃ x : Int, T1 + T2 = x := ⟨_, rfl⟩
                have e1 : wrap64 (T1 + T2) = T4 := by rw [hT4]; exact IntWalk.wrap64_in _ (by omega)
                have e1' : IntKind.i64.wrap (T1 + T2) = T4 := by rw [hT4]; exact IntWalk.i64_in _ (by omega)
                have hT5 : T4 + T3 = total fr0 ka := by omega
                obtain ⟨T5, hT5'⟩ : ∃ x, total fr0 ka = x := ⟨_, rfl⟩
                rw [hT5'] at hT5 hs4
                have e2 : wrap64 (T4 + T3) = T5 := by rw [hT5]; exact IntWalk.wrap64_in _ (by omega)
                have e2' : IntKind.i64.wrap (T4 + T3) = T5 := by rw [hT5]; exact IntWalk.i64_in _ (by omega)
                have e3 : (T5 != T5) = false := by simp
                have hF : ∀ u, Below M.heap.size M u → row u t' = cN m.1 m.2.1 (.slice b1 m1 d1) (.slice b2 m2 d2) m.2.2.1.2.2 (.slice b3 m3 d3) ∧ t' < u.heap.size ∧ u.cell? ⟨t, ka, none⟩ = some (.int .i64 T5) ∧ t < u.heap.size := fun u hu => by
                  have hx := HXm.out.stays hu
                  have hw := (hu.block t (Array.getElem?_eq_some_iff.1 HWM.out).1).trans HWM.out
                  refine ⟨hx.row, hx.lt, ?_, (Array.getElem?_eq_some_iff.1 hw).1⟩
                  rw [← hT5']
                  obtain rfl | rfl := hkI
                  · simp [World.cell?, hw, wasC]
                  · simp [World.cell?, hw, wasC]
                clear hT1 hT2 hT3 hT4 hT5 hT5' hs1 hs2 hs3 hs4 hkI hka1 hka3
                go_upto_region 19 with fail
                refine Rh.region (fun u => Below M.heap.size M u) (fun u => Below M.heap.size M u) (fun _ _ h k => nx h k) (fun _ _ h k => nx h k) (hbz.drew) (hbz.drew) [0, 1, 2, 3, 4, 5, 6, 7, 8, 9, 10, 11, 12, 13, 14] (by kernel_rfl) (by kernel_rfl) (by kernel_rfl) (fun _ _ d _ _ h => by cases d <;> exact h) ?_
                repeat (first | (refine Rh.Steps.skip (by rfl) (by kernel_rfl) (by rfl) ?_; simp only [Act.put, List.setIfInBounds_toArray, List.set_cons_zero, List.set_cons_succ]) | (refine Rh.Steps.pure (v := ?_) (by rfl) (by kernel_rfl) (by rfl) ?_ ?_; rotate_left; (intro w_ hS_; have hk_ := hF w_ hS_; go_simp <;> with_reducible rfl); simp only [Act.put, List.setIfInBounds_toArray, List.set_cons_zero, List.set_cons_succ]) | (refine Rh.Steps.call (v := ?_) (f := ?_) (args := ?_) (by rfl) (by kernel_rfl) (by rfl) ?_ ?_ ?_; rotate_left 3; (intro w_ hS_; have hk_ := hF w_ hS_; go_simp <;> first | with_reducible rfl | (constructor <;> with_reducible rfl)); (intro w_ hS_; have hk_ := hF w_ hS_; first | (go_at_call 27; refine (tot_is HT.out.1 HRm.out (hl_stays HFm.out hS_)).mono ?_; first | (rintro e w_ ⟨rfl, rfl⟩; refine ⟨?_, Below.refl _ _⟩; with_reducible rfl) | (rintro e w_ ⟨rfl, hb_⟩; refine ⟨?_, hb_⟩; with_reducible rfl)) | (go_at_call 20; refine (res_is HT.out.2.1 (HXm.out.stays hS_).ln (HB.out w_ (nx HbMw.out hS_)) (sm_right HRi.out)).mono ?_; first | (rintro e w_ ⟨rfl, rfl⟩; refine ⟨?_, Below.refl _ _⟩; with_reducible rfl) | (rintro e w_ ⟨rfl, hb_⟩; refine ⟨?_, hb_⟩; with_reducible rfl)) | (go_at_call 22; refine (owe_is HT.out.2.2 (HXm.out.stays hS_).ln (HB.out w_ (nx HbMw.out hS_)) (sm_right HRi.out)).mono ?_; first | (rintro e w_ ⟨rfl, rfl⟩; refine ⟨?_, Below.refl _ _⟩; with_reducible rfl) | (rintro e w_ ⟨rfl, hb_⟩; refine ⟨?_, hb_⟩; with_reducible rfl))); simp only [Act.put, List.setIfInBounds_toArray, List.set_cons_zero, List.set_cons_succ]))
                refine Rh.Steps.nil (by kernel_rfl) ?_
                intro w9_ hS9_ _
                go_wp2
                go_roundw
                case rel => exact ⟨ka + 1, by omega, by omega, by go_num, hS9_⟩
                case measure => simp [intOf]; omega
              · obtain rfl : ka = 3 := by omega
                have hbz9 := nx HbMw.out hbz
                have hxm := HXm.out.stays hbz
                have hx0 := HX0.out.stays hbz
                have r9 := hxm.row
                have z9 := hxm.lt
                have p9 := hx0.plain
                have y9 := hx0.lt
                obtain ⟨hxX, hfX, hbX⟩ := box_put (m := m) hx0 hsz hbz9 hxm.l1 hxm.l2 hxm.l3 (hl_stays HFm.out hbz)
                have hwX := (setRow_other wr s t (cN m.1 m.2.1 (.slice b1 m1 d1) (.slice b2 m2 d2) m.2.2.1.2.2 (.slice b3 m3 d3)) (by omega)).trans ((hbz.block t (Array.getElem?_eq_some_iff.1 HWM.out).1).trans HWM.out)
                have HXX := Lib.hid hxX
                have HFX := Lib.hid hfX
                have HbX := Lib.hid hbX
                have HwX := Lib.hid hwX
                clear hbz9 hxm hx0 hxX hfX hbX hwX
                go_wp2
                go_roundw
                case rel => (repeat apply Exists.intro); exact ⟨⟨k + 1, by omega, by go_num, HbX.out, HwX.out, _, _, _, _, _, _, _, _, _, _, _, _, by rw [HSt.out]; exact HXX.out, rfl, by rw [HSt.out]; exact HFX.out⟩, rfl⟩
                case measure => simp [intOf]; omega
        · obtain rfl : k = N := by omega
          go_wp2_with fail
          refine (awake_any wr).mono ?_
          rintro e w9 ⟨rfl, hb9⟩
          have hfin9 := nx hb hb9
          go_wp2
          go_ret
          exact ⟨rfl, hfin9⟩
set_option maxRecDepth 16000 in
set_option maxHeartbeats 8000000 in
theorem walkKeeps2 (ops : List Op5) (v : Value) (n : Int) (w : World) (h : PL (Bs.of w.heap.size) ops v w) (h60 : ¬ ops.length ≤ 60) :
    Calls Tryz.prog 5 #[v, .int .i64 n] w fun e w' => e = .returned (.bool true) ∧ Below w.heap.size w w' := by
  obtain ⟨a0, c0, rfl, hel⟩ := h
  obtain ⟨B, hB'⟩ : ∃ B, B = Bs.of w.heap.size := ⟨_, rfl⟩
  have hB : B.le w.heap.size := by rw [hB']; exact Bs.of_le _
  obtain ⟨N, hn⟩ : ∃ N, N = ops.length := ⟨_, rfl⟩
  rw [← hn] at h60 ⊢
  have HE := Lib.hid hel
  have HN := Lib.hid hn
  have hd : decide ((60 : Int) < N) = true := decide_eq_true (by omega)
  have hd' : decide (60 < N) = true := decide_eq_true (by omega)
  have HB := Lib.hid (show ∀ u, Below w.heap.size w u → B.le u.heap.size from fun u hu => hB.mono hu.size)
  have HNw := Lib.hid (lnew_any 1 2 w)
  clear hel hn hB hB'
  go_enter Tryz.func5, Tryz.ntmps5
  go_wp2_with fail
  refine HNw.out.mono ?_
  rintro e w1 ⟨v1, rfl, hb1, hln⟩
  have hln1 : LN B ln0 v1 w1 := hln B (HB.out w (Below.refl _ _))
  obtain ⟨a1, n1, c1, a2, n2, c2, a3, n3, c3, rfl, -, -, -, hk1, hk2, hk3⟩ := hln1.open'
  rw [show newE 1 2 = 0 from rfl]
  obtain ⟨M1, hM1⟩ : ∃ M, M = w1.alloc (.cells (cN 1 2 (.slice a1 n1 c1) (.slice a2 n2 c2) 1 (.slice a3 n3 c3)) 28) := ⟨_, rfl⟩
  have hbM1 : Below w.heap.size w M1 := nx hb1 (hM1 ▸ below1 w1 _)
  have HX1 := Lib.hid (show LB B ln0 (.slice a1 n1 c1) (.slice a2 n2 c2) (.slice a3 n3 c3) w1.heap.size M1 from by rw [hM1]; exact LB.made (l := ln0) hk1 hk2 hk3 (HB.out w1 hb1).1)
  have HM1 := Lib.hid hM1
  obtain ⟨s, hs⟩ : ∃ s, w1.heap.size = s := ⟨_, rfl⟩
  rw [hs] at HX1
  have hsz : w.heap.size ≤ s := by have := hb1.size; omega
  clear hln hln1 hk1 hk2 hk3 hM1
  go_wp2_with fail
  rw [← HM1.out]
  obtain ⟨x, hx⟩ : ∃ x : Int, wrap64 ((IntKind.u64.wrap n).tmod 1000000) = x := ⟨_, rfl⟩
  rw [hx]
  refine (rich_any (lo := B.lo) x M1).mono ?_
  rintro e w2 ⟨v2, rfl, hb2, hrich⟩
  obtain ⟨a4, c4, rfl⟩ := hl_slice hrich
  have hbw2 := nx hbM1 hb2
  clear hrich hb2
  go_wp2_with fail
  refine (awake_any w2).mono ?_
  rintro e w9 ⟨rfl, hb9⟩
  have hfin9 := nx hbw2 hb9
  go_wp2
  go_ret
  exact ⟨rfl, hfin9⟩
theorem walkKeeps (ops : List Op5) (v : Value) (n : Int) (w : World) (h : PL (Bs.of w.heap.size) ops v w) (_ : wfPs ops) {P : Prop} (_ : P) :
    Calls Tryz.prog 5 #[v, .int .i64 n] w fun e w' => e = .returned (.bool true) ∧ Below w.heap.size w w' := by
  by_cases h60 : ops.length ≤ 60
  · exact walkKeeps1 ops v n w h h60
  · exact walkKeeps2 ops v n w h h60
end Go.Proofs.YthecinmekoaphaaGreat.La
