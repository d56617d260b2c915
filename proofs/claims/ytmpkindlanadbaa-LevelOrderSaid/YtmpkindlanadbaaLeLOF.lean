/- LevelOrder: walked, side 2. -/
import Derived.Test.YtmpkindlanadbaaLeO
import Derived.RegionTactic
import Derived.ChangeAlike
import Derived.BigRegion
namespace Go.Proofs.Ytmpkindlanadbaa.Le
open Go.RowKit
set_option linter.unusedVariables false
open Go.Proofs.Ytmpkindlanadbaa.Rw
open Go.Proofs.Ytmpkindlanadbaa.Da
set_option maxRecDepth 100000 in
set_option maxHeartbeats 8000000 in
theorem walkOrderF (ops : List Op3) (v : Value) (w : World) (h : PL (Bs.of w.heap.size) ops v w) (hn80 : ops.length ≤ 80) :
    Calls Try.prog 4 #[v, .bool false] w fun e w' => e = .returned (.bool true) ∧ Below w.heap.size w w' := by
  obtain ⟨a0, c0, rfl, hel⟩ := h
  obtain ⟨n, hn⟩ : ∃ n, n = ops.length := ⟨_, rfl⟩
  rw [← hn] at hn80 ⊢
  have HE := Lib.hid hel
  have HN := Lib.hid hn
  have HSt := Lib.hid (relO_start w (s := 2) (by decide))
  have hd : decide ((80 : Int) < n) = false := decide_eq_false (by omega)
  have hd' : decide (80 < n) = false := decide_eq_false (by omega)
  have HF := Lib.hid (show ∀ u, Below w.heap.size w u → PL (Bs.of w.heap.size) ops (.slice a0 ops.length c0) u from fun u hu => Is.stays eP 44 ⟨a0, c0, rfl, hel⟩ hu)
  clear hel hn
  go_enter Try.func4, Try.ntmps4
  go_wp2
  go_loopw [6, 7, 35] (fun t6 t7 i wr => ∃ k : Nat, k ≤ n ∧ i = .int .i64 k ∧ RelO w 2 k t6 t7 wr) (fun _ _ i _ => n - (intOf i).toNat)
  case atStart => exact ⟨0, Nat.zero_le _, rfl, HSt.out⟩
  case round =>
    obtain ⟨wo, rfl⟩ : ∃ wo : World, wo = wr := ⟨_, rfl⟩
    obtain ⟨k, hk, rfl, L, want, hb, hL, hW, hI, hl⟩ := hrel
    have HI := Lib.hid hI
    have hBt := but_le hb hW
    have hlen := relO_len hI hl (by omega)
    obtain ⟨a7, c7, rfl⟩ := (hW.is (by decide) (Bs.of_le _)).len
    have HWi := Lib.hid (show ∀ u, Below wo.heap.size wo u → OL (Bs.of w.heap.size) want (.slice a7 want.length c7) u from fun u hu => (hW.stays hu).is (by decide) (Bs.of_le _))
    obtain ⟨m, hm⟩ : ∃ m, want.length = m := ⟨_, rfl⟩
    have HM := Lib.hid hm
    rw [hm] at hL hW hBt hl HWi ⊢
    have HL := Lib.hid hL
    have HW := Lib.hid hW
    clear hL hW hI hm
    by_cases hlt : k < n
    · have hlt2 : (k : Int) < n := by omega
      have hko : k < ops.length := by rw [← HN.out]; exact hlt
      rcases HE.out with ⟨e, _⟩ | ⟨b, off, rfl, hat⟩
      · rw [e] at hko; cases hko
      obtain ⟨q0, q1, q2⟩ := at3 (hat.keep eP 44 (Keeps.of_below hb)) k hko
      have hbb : b < wo.heap.size := Nat.lt_of_lt_of_le hat.1 hb.size
      obtain ⟨⟨x1, x2, x3⟩, hx⟩ : ∃ x, ops[k]'hko = x := ⟨_, rfl⟩
      rw [hx] at q0 q1 q2
      simp only at q0 q1 q2
      clear hx hat
      obtain ⟨V, hV⟩ : ∃ V, V = wo.alloc (.cells #[.int .i64 x1, .int .i64 x2, .int .i64 x3] 44) := ⟨_, rfl⟩
      have hbV : Below wo.heap.size wo V := hV ▸ below1 wo _
      have hzV : wo.heap.size < V.heap.size := by rw [hV]; simp
      have HC := Lib.hid (show ∀ u, Below V.heap.size V u → u.cell? ⟨wo.heap.size, 1, none⟩ = some (.int .i64 x2) ∧ u.cell? ⟨wo.heap.size, 2, none⟩ = some (.int .i64 x3) ∧ wo.heap.size < u.heap.size from fun u hu => by
        refine ⟨?_, ?_, Nat.lt_of_lt_of_le hzV hu.size⟩
        · rw [hu.cell (p := ⟨wo.heap.size, 1, none⟩) hzV, hV]; simp [go_sem]
        · rw [hu.cell (p := ⟨wo.heap.size, 2, none⟩) hzV, hV]; simp [go_sem])
      have HV := Lib.hid hV
      have HbV := Lib.hid hbV
      clear hV hzV
      by_cases hk1 : x1 = 1
      · have d1 : (x1 == 1) = true := by simpa using hk1
        clear hk1
        obtain ⟨r, hr⟩ : ∃ r, fnd (flat L) x2 = r := ⟨_, rfl⟩
        obtain ⟨fb, hfb⟩ : ∃ b, r.isSome = b := ⟨_, rfl⟩
        have HRr : Hid (fnd want x2 = r) := Lib.hid (by rw [← HI.out.fnd]; exact hr)
        have HFb := Lib.hid hfb
        have hcs := cO_size r
        have h1c : oneAll (.agg (cO r)) = true := by cases r <;> exact one5 _ _ _ _ _
        have hcall := remove_any _ L _ x2 V (Is.stays eL 50 HL.out HbV.out) (hBt.mono HbV.out.size) hlen.1 hlen.2
        rw [hr] at hcall
        unfold Post3 at hcall
        rw [hfb] at hcall
        have HCl := Lib.hid hcall
        clear hcall hr hfb
        obtain ⟨e1, e2, e3⟩ := HC.out V (Below.refl _ _)
        go_wp2_with fail
        rw [← HV.out]
        refine HCl.out.mono ?_
        rintro e w1 ⟨t, rfl, hb1, hl1⟩
        clear HCl
        have hbx := below1 w1 (.cells (cO r) 24)
        obtain ⟨W1, hW1⟩ : ∃ W1, W1 = w1.alloc (.cells (cO r) 24) := ⟨_, rfl⟩
        have hz1 : w1.heap.size < W1.heap.size := by rw [hW1]; simp
        have hro : ∀ u, Below W1.heap.size W1 u → row u w1.heap.size = cO r ∧ w1.heap.size < u.heap.size := fun u hu => by
          refine ⟨?_, Nat.lt_of_lt_of_le hz1 hu.size⟩
          rw [(bcell hu).2.2.1 w1.heap.size hz1, hW1]; simp [go_sem]
        rw [← hW1] at hbx
        have hbW := nx HbV.out (nx hb1 hbx)
        have HL1 := Lib.hid (Is.stays eL 50 hl1 hbx)
        have HRo := Lib.hid hro
        have HW1 := Lib.hid hW1
        have HbVW := Lib.hid (nx hb1 hbx)
        have HIr := Lib.hid (HI.out.rem x2)
        clear hl1 hb1 hbx hro hW1
        go_wp2
        rw [← HW1.out]
        go_loopw [13, 14, 53] (fun t13 d i wr => ∃ (j : Nat) (dj : Bool), j ≤ m ∧ i = .int .i64 j ∧ d = .bool dj ∧ dj = (want.take j).any (hasId x2) ∧ Below W1.heap.size W1 wr ∧ OwnO (Bs.of w.heap.size) W1.heap.size ((want.take j).filter (fun o => !hasId x2 o)) t13 wr) (fun _ _ i _ => m - (intOf i).toNat)
        case atStart => exact ⟨0, false, Nat.zero_le _, rfl, rfl, rfl, Below.refl _ _, Own.nil _ _ _⟩
        case round =>
          obtain ⟨j, dj, hj, rfl, rfl, hdj, hbi, hleft⟩ := hrel
          have HLe := Lib.hid hleft
          have HDj := Lib.hid hdj
          clear hleft hdj
          by_cases hjm : j < m
          · have hjm2 : (j : Int) < m := by omega
            have hjo : j < want.length := by rw [HM.out]; exact hjm
            have hwi := HWi.out wr (nx hbW hbi)
            rw [← HM.out] at hwi
            rcases hwi.cases with ⟨e, _⟩ | ⟨_, b7, off7, cc, e, hat⟩
            · rw [e] at hjo; cases hjo
            simp only [Value.slice.injEq] at e
            obtain ⟨rfl, _, rfl⟩ := e
            have hc5 := at5 hat j hjo
            have hbb7 := hat.1
            have hfs := filt_snoc (id := x2) hjo
            have has := any_snoc (id := x2) hjo
            have hmem := List.getElem_mem hjo
            obtain ⟨⟨y1, y2, y3, y4, y5⟩, hy⟩ : ∃ y, want[j]'hjo = y := ⟨_, rfl⟩
            rw [hy] at hc5 hfs has hmem
            simp only at hc5 hfs has
            obtain ⟨s0, s1, s2, s3, s4⟩ := hc5
            obtain ⟨e1, e2, e3⟩ := HC.out wr (nx HbVW.out hbi)
            obtain ⟨rw1, rz1⟩ := HRo.out wr hbi
            have HFs := Lib.hid hfs
            have HAs := Lib.hid has
            have HMem := Lib.hid hmem
            have hbx := below1 wr (.cells #[.int .i64 y1, .int .i64 y2, .int .i64 y3, .int .i64 y4, .int .i64 y5] 24)
            clear hy hwi hat hfs has hmem
            by_cases hid : y1 = x2
            · have d2 : (y1 == x2) = true := by simpa using hid
              have hrx : r = some (y1, y2, y3, y4, y5) := by
                rw [← HRr.out, ← hid]
                exact fnd_mem HI.out.nodup HMem.out
              have HN1 : Hid (OwnO (Bs.of w.heap.size) W1.heap.size ((want.take (j + 1)).filter (fun o => !hasId x2 o)) u13 wr) := Lib.hid (by rw [HFs.out, if_pos hid, List.append_nil]; exact HLe.out)
              have HN2 : Hid (true = (want.take (j + 1)).any (hasId x2)) := Lib.hid (by rw [HAs.out, decide_eq_true hid, Bool.or_true])
              rw [hrx] at rw1
              simp only [cO] at rw1
              have heq : eqO (y1, y2, y3, y4, y5) (y1, y2, y3, y4, y5) = true := by simp [eqO]
              clear hid hrx
              go_wp2
              go_roundw
              case rel => exact ⟨j + 1, true, by omega, by go_num, rfl, HN2.out, nx hbi hbx, HN1.out.stays hbx⟩
              case measure => simp [intOf]; omega
            · have d2 : (y1 == x2) = false := by simpa using hid
              have HN2 : Hid (dj = (want.take (j + 1)).any (hasId x2)) := Lib.hid (by rw [HAs.out, decide_eq_false hid, Bool.or_false]; exact HDj.out)
              have hb2 := below1 (wr.alloc (.cells #[.int .i64 y1, .int .i64 y2, .int .i64 y3, .int .i64 y4, .int .i64 y5] 24)) (.cells #[.int .i64 y1, .int .i64 y2, .int .i64 y3, .int .i64 y4, .int .i64 y5] 24)
              have hbw2 := nx hbx hb2
              have hfl : ((want.take j).filter (fun o => !hasId x2 o)).length ≤ 1000 := by
                have h1 := List.length_filter_le (fun o => !hasId x2 o) (want.take j)
                rw [List.length_take] at h1; omega
              obtain ⟨v2, w2, hrun, hown2, _, hbl, _⟩ := Own.append elemO 39 typesO (B := Bs.of w.heap.size) ((Bs.of_le _).mono (by have := (nx hb hbW).size; omega)) (Nat.le_trans hbi.size hbw2.size) (HLe.out.stays hbw2)
                (Is.one (e := eO) (T := 24) (B := Bs.of w.heap.size) (x := ((y1, y2, y3, y4, y5) : Od)) (cs := cellsO (y1, y2, y3, y4, y5)) (w := wr.alloc (.cells #[.int .i64 y1, .int .i64 y2, .int .i64 y3, .int .i64 y4, .int .i64 y5] 24)) ((Bs.of_le _).mono (by have := (nx (nx hb hbW) (nx hbi hbx)).size; omega)) rfl) (by simp only [List.length_singleton]; omega) (by omega)
              have hb3 := hbl _ _ (Nat.le_refl _) (nx hbi hbw2)
              have HN1 : Hid (OwnO (Bs.of w.heap.size) W1.heap.size ((want.take (j + 1)).filter (fun o => !hasId x2 o)) v2 w2) := Lib.hid (by rw [HFs.out, if_neg hid]; exact hown2)
              rw [World.size_alloc] at hrun
              clear hid hown2 hbl hbx hb2 hbw2
              go_wp2
              go_roundw
              case rel => exact ⟨j + 1, dj, by omega, by go_num, rfl, HN2.out, hb3, HN1.out⟩
              case measure => simp [intOf]; omega
          · obtain rfl : j = m := by omega
            have e1 : want.take j = want := by rw [← HM.out, List.take_length]
            have hdj2 := HDj.out
            have hle2 := HLe.out
            rw [e1] at hdj2 hle2
            have hdf : dj = fb := by rw [hdj2, any_some, HRr.out]; exact HFb.out
            subst hdf
            have HRel := Lib.hid (relO_rem (s := 2) (k := k) (nx hb hbW) HL1.out hbi hle2 HIr.out (Nat.le_trans (List.length_filter_le _ _) (by rw [HM.out]; exact hl)))
            clear e1 hdj2 hle2
            go_wp2
            go_roundw
            case rel => exact ⟨k + 1, by omega, by go_num, HRel.out⟩
            case measure => simp [intOf]; omega
      · have d1 : (x1 == 1) = false := by simpa using hk1
        clear hk1
        obtain ⟨c, hc20, hc⟩ := mod64 x3 20 (by decide)
        have hc' : (IntKind.u64.wrap x3).tmod 20 = (c : Int) := hc
        clear hc
        have hord := order_any (k + 1) 2 (1 + (c : Int)) (by omega)
        rw [show ((k + 1 : Nat) : Int) = (k : Int) + 1 by omega] at hord
        have hC : Hid (∀ u, Calls Try.prog 24 #[.int .i64 ((k : Int) + 1), .int .i64 2, .int .i64 (1 + (c : Int))] u fun e u' => e = .returned (.agg #[.int .i64 ((k : Int) + 1), .int .i64 (((k + 1) % 4 : Nat) : Int), .int .i64 2, .int .i64 (1 + (c : Int)), .int .i64 (1 + (((k + 1) % 9 : Nat) : Int))]) ∧ Below u.heap.size u u') := Lib.hid hord
        clear hord
        go_wp2_with fail
        rw [← HV.out]
        refine (hC.out V).mono ?_
        rintro e w1 ⟨rfl, hb1⟩
        clear hc'
        have hbx := below1 w1 (.cells #[.int .i64 ((k : Int) + 1), .int .i64 (((k + 1) % 4 : Nat) : Int), .int .i64 2, .int .i64 (1 + (c : Int)), .int .i64 (1 + (((k + 1) % 9 : Nat) : Int))] 24)
        obtain ⟨o2, ho2⟩ : ∃ o2, (((k + 1) % 4 : Nat) : Int) = o2 := ⟨_, rfl⟩
        obtain ⟨o5, ho5⟩ : ∃ o5, 1 + (((k + 1) % 9 : Nat) : Int) = o5 := ⟨_, rfl⟩
        have HO : Hid (mkO (k + 1) 2 c = ((k : Int) + 1, o2, 2, 1 + (c : Int), o5)) := Lib.hid (by unfold mkO; rw [← ho2, ← ho5]; rfl)
        rw [ho2, ho5] at hbx ⊢
        clear ho2 ho5 hC
        obtain ⟨X, hX⟩ : ∃ X, X = w1.alloc (.cells #[.int .i64 ((k : Int) + 1), .int .i64 o2, .int .i64 2, .int .i64 (1 + (c : Int)), .int .i64 o5] 24) := ⟨_, rfl⟩
        have HX := Lib.hid (show ∀ u, Below X.heap.size X u → row u w1.heap.size = #[.int .i64 ((k : Int) + 1), .int .i64 o2, .int .i64 2, .int .i64 (1 + (c : Int)), .int .i64 o5] ∧ w1.heap.size < u.heap.size from fun u hu => by
          refine ⟨?_, ?_⟩
          · rw [(bcell hu).2.2.1 w1.heap.size (by rw [hX]; simp), hX]; simp [go_sem]
          · have := hu.size; rw [hX] at this; simp at this; omega)
        rw [← hX] at hbx
        have hbX := nx HbV.out (nx hb1 hbx)
        have hput := put_any _ L _ ((k : Int) + 1) o2 2 (1 + (c : Int)) o5 X (Is.stays eL 50 HL.out hbX) (hBt.mono hbX.size) hlen.1 hlen.2
        have hpo := HI.out.put (o := mkO (k + 1) 2 c) (by unfold mkO; simp; omega) rfl (mk_may (by omega) (by omega) hc20)
        rw [HO.out] at hpo
        have HPo := Lib.hid hpo
        have HXe := Lib.hid hX
        have hP : Hid _ := Lib.hid hput
        clear hX hput hpo
        go_wp2_with fail
        rw [← HXe.out]
        refine hP.out.mono ?_
        rintro e w2 ⟨t, rfl, hb2, hl2⟩
        rw [HPo.out.1]
        clear hP
        have hbY := nx hbX hb2
        obtain ⟨hrow, hzx⟩ := HX.out w2 hb2
        obtain ⟨t', w3, hrun, hrel⟩ := relO_put (k := k) (o := ((k : Int) + 1, o2, 2, 1 + (c : Int), o5)) (nx hb hbY) hl2 (HW.out.stays hbY) (by have := HPo.out.2; rw [show ((k + 1 : Nat) : Int) = (k : Int) + 1 from rfl]; exact this) (by rw [HM.out]; exact hl) (by omega)
        have HRel := Lib.hid hrel
        clear hrel hl2
        go_wp2
        go_roundw
        case rel => exact ⟨k + 1, by omega, by go_num, HRel.out⟩
        case measure => simp [intOf]; omega
    · obtain rfl : k = n := by omega
      have hLL := Lib.hid (show ∀ u, Below wo.heap.size wo u → LL ((Bs.of w.heap.size).but (fun b => (Value.slice a7 m c7).ownBlock = some b)) L u6 u ∧ ((Bs.of w.heap.size).but (fun b => (Value.slice a7 m c7).ownBlock = some b)).le u.heap.size from fun u hu => ⟨Is.stays eL 50 HL.out hu, hBt.mono hu.size⟩)
      have HFl : Hid ((flat L).length = m) := Lib.hid (by rw [HI.out.len]; exact HM.out)
      have HRt : Hid (rightL 2 L = true) := Lib.hid (rightL_iff.2 HI.out.right)
      have hm80 : m ≤ 80 := by omega
      have hords := ords_any _ L _ wo (hLL.out _ (Below.refl _ _)).1 (hLL.out _ (Below.refl _ _)).2 hlen.1 hlen.2
      have HOr := Lib.hid hords
      clear hBt hords
      go_wp2_with fail
      refine HOr.out.mono ?_
      rintro e w1 ⟨t20, rfl, hb1, hol⟩
      obtain ⟨a20, c20, rfl⟩ := hol.len
      have HAl := Lib.hid (show ∀ u, Below w1.heap.size w1 u → OL _ (flat L) (.slice a20 (flat L).length c20) u from fun u hu => Is.stays eO 24 hol hu)
      rw [HFl.out] at HAl ⊢
      have hcnt := count_any _ L _ w1 (hLL.out _ hb1).1 (hLL.out _ hb1).2 hlen.1 hlen.2
      rw [HFl.out] at hcnt
      have HCn := Lib.hid hcnt
      clear hol hcnt HOr
      go_wp2_with fail
      refine HCn.out.mono ?_
      rintro e w2 ⟨rfl, hb2⟩
      have hb12 := nx hb1 hb2
      have hrg := right_any _ L _ 2 w2 (hLL.out _ hb12).1 (hLL.out _ hb12).2 hlen.1 hlen.2
      rw [HRt.out] at hrg
      have HRg := Lib.hid hrg
      clear hrg HCn
      go_wp2_with fail
      refine HRg.out.mono ?_
      rintro e w3 ⟨rfl, hb3⟩
      have hb13 := nx hb12 hb3
      have hb23 := nx hb2 hb3
      clear HRg hb1 hb2 hb12 hb3
      go_wp2
      go_loopw [21] (fun i wr => ∃ k1 : Nat, i = .int .i64 ((k1 : Int) + 1) ∧ k1 ≤ 80 ∧ Below w3.heap.size w3 wr) (fun i _ => 81 - (intOf i).toNat)
      case atStart => exact ⟨0, by rfl, Nat.zero_le _, Below.refl _ _⟩
      case round =>
        obtain ⟨i, rfl, hi80, hbi⟩ := hrel
        by_cases him : i + 1 < m
        · have him2 : (i : Int) + 1 < m := by omega
          have hifl : i + 1 < (flat L).length := by rw [HFl.out]; exact him
          have hal := HAl.out wr (nx hb23 hbi)
          rcases hal with ⟨aa, ca, e, hal⟩
          rw [HFl.out] at e
          simp only [Value.slice.injEq] at e
          obtain ⟨rfl, _, rfl⟩ := e
          rcases hal with ⟨e, _⟩ | ⟨b9, off9, rfl, hat⟩
          · rw [e] at hifl; cases hifl
          have hcA := at5 hat i (by omega)
          have hcB := at5 hat (i + 1) hifl
          have hb9 := hat.1
          have hnx := HI.out.next hifl
          obtain ⟨⟨p1, p2, p3, p4, p5⟩, hp⟩ : ∃ y, (flat L)[i]'(by omega) = y := ⟨_, rfl⟩
          obtain ⟨⟨z1, z2, z3, z4, z5⟩, hz⟩ : ∃ y, (flat L)[i + 1]'hifl = y := ⟨_, rfl⟩
          rw [hp] at hcA hnx
          rw [hz] at hcB hnx
          simp only [opr] at hcA hcB hnx
          have hnx2 : (¬ p4 = z4 ∧ p4 < z4) ∨ (p4 = z4 ∧ p1 < z1) := by
            rcases hnx with h | h
            · left; simp [ahead] at h; omega
            · exact .inr h
          obtain ⟨s0, s1, s2, s3, s4⟩ := hcA
          obtain ⟨r0, r1, r2, r3, r4⟩ := hcB
          have k1 : IntKind.i64.wrap ((i : Int) + 1 - 1) = i := by rw [Int.add_sub_cancel]; exact IntWalk.i64_in _ (by omega)
          have k2 : IntKind.i64.wrap (i : Int) = i := IntWalk.i64_in _ (by omega)
          have k3 : ((i : Int) + 1).toNat = i + 1 := by omega
          have k4 : (0 : Int) ≤ (i : Int) + 1 := by omega
          have k5 : (i : Int) < m := by omega
          clear hp hz hnx hat
          rcases hnx2 with ⟨h1, h2⟩ | ⟨h1, h2⟩
          · have d1 : (p4 == z4) = false := by simpa using h1
            have d2 : decide (z4 < p4) = false := decide_eq_false (by omega)
            clear h1
            go_wp2
            go_region
            all_goals
              go_wp2
              go_roundw
              case rel => exact ⟨i + 1, by go_num, by omega, nx hbi (below2 wr _ _).drew⟩
              case measure => simp [intOf]; omega
          · subst h1
            have d3 : decide (z1 ≤ p1) = false := decide_eq_false (by omega)
            go_wp2
            go_region
            all_goals
              go_wp2
              go_roundw
              case rel => exact ⟨i + 1, by go_num, by omega, nx hbi (below2 wr _ _).drew⟩
              case measure => simp [intOf]; omega
        · have him2 : decide ((i : Int) + 1 < m) = false := decide_eq_false (by omega)
          have him3 : ¬ (i : Int) + 1 < m := by omega
          have him4 : decide (i + 1 < m) = false := decide_eq_false him
          have hb14 := nx hb13 hbi
          clear hb13 hb23 hbi
          go_wp2
          go_loopw [169] (fun i wr => ∃ j : Nat, i = .int .i64 j ∧ j ≤ m ∧ Below wo.heap.size wo wr) (fun i _ => m - (intOf i).toNat)
          case atStart => exact ⟨0, rfl, Nat.zero_le _, hb14⟩
          case round =>
            obtain ⟨j, rfl, hjm', hbj⟩ := hrel
            by_cases hjm : j < m
            · have hjm2 : (j : Int) < m := by omega
              have hjo : j < want.length := by rw [HM.out]; exact hjm
              have hwi := HWi.out wr hbj
              rcases hwi with ⟨aa, ca, e, hwi⟩
              rw [HM.out] at e
              simp only [Value.slice.injEq] at e
              obtain ⟨rfl, _, rfl⟩ := e
              rcases hwi with ⟨e, _⟩ | ⟨b7, off7, rfl, hat⟩
              · rw [e] at hjo; cases hjo
              have hc5 := at5 hat j hjo
              have hbb7 := hat.1
              have hfnd := HI.out.find (List.getElem_mem hjo)
              obtain ⟨⟨y1, y2, y3, y4, y5⟩, hy⟩ : ∃ y, want[j]'hjo = y := ⟨_, rfl⟩
              rw [hy] at hc5 hfnd
              simp only at hc5 hfnd
              obtain ⟨s0, s1, s2, s3, s4⟩ := hc5
              have hbx := below1 wr (.cells #[.int .i64 y1, .int .i64 y2, .int .i64 y3, .int .i64 y4, .int .i64 y5] 24)
              obtain ⟨X, hX⟩ : ∃ X, X = wr.alloc (.cells #[.int .i64 y1, .int .i64 y2, .int .i64 y3, .int .i64 y4, .int .i64 y5] 24) := ⟨_, rfl⟩
              have hzX : wr.heap.size < X.heap.size := by rw [hX]; simp
              have hrX : row X wr.heap.size = #[.int .i64 y1, .int .i64 y2, .int .i64 y3, .int .i64 y4, .int .i64 y5] := by rw [hX]; simp [go_sem]
              rw [← hX] at hbx
              have hbX := nx hbj hbx
              have hfi := find_any _ L _ y1 X (hLL.out _ hbX).1 (hLL.out _ hbX).2 hlen.1 hlen.2
              rw [hfnd] at hfi
              simp only [fV] at hfi
              have HFi := Lib.hid hfi
              have HX := Lib.hid hX
              have heq : eqO (y1, y2, y3, y4, y5) (y1, y2, y3, y4, y5) = true := by simp [eqO]
              clear hy hat hfnd hfi hX
              go_wp2_with fail
              rw [← HX.out]
              refine HFi.out.mono ?_
              rintro e w5 ⟨rfl, hb5⟩
              have hr5 : row w5 wr.heap.size = #[.int .i64 y1, .int .i64 y2, .int .i64 y3, .int .i64 y4, .int .i64 y5] := ((bcell hb5).2.2.1 wr.heap.size hzX).trans hrX
              have hz5 : wr.heap.size < w5.heap.size := Nat.lt_of_lt_of_le hzX hb5.size
              clear HFi
              go_wp2
              go_roundw
              case rel => exact ⟨j + 1, by go_num, by omega, nx hbX (nx hb5 (below1 _ _))⟩
              case measure => simp [intOf]; omega
            · obtain rfl : j = m := by omega
              go_wp2_with fail
              refine (awake_any wr).mono ?_
              rintro e w6 ⟨rfl, hb6⟩
              go_wp2
              go_ret
              exact ⟨rfl, nx hb (nx hbj hb6)⟩
end Go.Proofs.Ytmpkindlanadbaa.Le
