/- InstanceMeets. -/
import Derived.Test.YtoncmbglmebkiaaInH
import Derived.Test.YtoncmbglmebkiaaVeD
namespace Go.Proofs.Ytoncmbglmebkiaa.In
open Go.RowKit
set_option linter.unusedVariables false
open Go.Proofs.Ytoncmbglmebkiaa.Rw
open Go.Proofs.Ytoncmbglmebkiaa.Da
open Go.Proofs.Ytoncmbglmebkiaa.Bv
open Go.Proofs.Ytoncmbglmebkiaa.Rc (Ins ci zeroI okI okI_iff)
open Go.Proofs.Ytoncmbglmebkiaa.St
open Go.Proofs.Ytoncmbglmebkiaa.Cm (meetB)
open Go.Proofs.Ytoncmbglmebkiaa.Ve (zeroV raiseV covB)
theorem grD_none {c : Nat → Int} (h : c 2 = 0) (l : List Ins) (r s : Int) : grD l c r s = zeroV := by
  unfold grD
  have hm : ∀ x : Ins, consB c r s x = false := fun x => by
    unfold consB meetB
    rw [h]
    simp
  generalize zeroV = v
  induction l generalizing v with
  | nil => rfl
  | cons x l ih => rw [List.foldl_cons]; unfold stepD; rw [hm x, if_neg (by decide)]; exact ih v
theorem depV_gr (l : List Ins) (c : Nat → Int) (r s : Int) : depV l c r s = grD l c r s := by
  unfold depV
  split
  · rename_i h; exact (grD_none h l r s).symm
  · rfl
theorem fc_cell (f : Nat → Int) (r : Int) (h0 : 0 ≤ r) (h7 : r < 7) : (Ve.fc f)[r.toNat]? = some (.int .i64 (f r.toNat)) := Ve.fc_at f r.toNat (by omega)
theorem covers_isH {v : Nat → Int} {r s : Int} {x : Bool} (h : Hid (covB v r s = x)) (w : World) :
    Calls Try.prog 14 #[.agg (Ve.fc v), .agg #[.int .i64 r, .int .i64 s]] w fun e w' => e = .returned (.bool x) ∧ Below w.heap.size w w' := Ve.covers_is v r s x h.out w
set_option maxRecDepth 16000 in
set_option maxHeartbeats 16000000 in
theorem walkMeets (l : List Ins) (v : Value) (c : Nat → Int) (r s : Int) (w : World) (h : TI w.heap.size l v w) (_ : l.length ≤ maxLen ∧ capOk v) :
    Calls Try.prog 4 #[v, .agg (Cm.fc c), .agg #[.int .i64 r, .int .i64 s]] w fun e w' => e = .returned (.bool true) ∧ Below w.heap.size w w' := by
  obtain ⟨q, hq⟩ : ∃ q, q = w.heap.size := ⟨_, rfl⟩
  rw [← hq] at h
  clear hq
  obtain ⟨a1, c1, rfl⟩ := h.len
  have H := Lib.hid h
  obtain ⟨m, hmm⟩ : ∃ m, l.length = m := ⟨_, rfl⟩
  have HN := Lib.hid hmm
  rw [hmm]
  obtain ⟨C, hC⟩ : ∃ Q_ : World, w.alloc (.cells (Cm.fc c) 29) = Q_ := ⟨_, rfl⟩
  have bC : Below w.heap.size w C := hC ▸ below1 w _
  have xC : Bx C w.heap.size (Cm.fc c) 29 := hC ▸ Bx.new _ _ _
  obtain ⟨X, hX⟩ : ∃ Q_ : World, C.alloc (.cells #[.int .i64 r, .int .i64 s] 24) = Q_ := ⟨_, rfl⟩
  have bX : Below C.heap.size C X := hX ▸ below1 C _
  have pX : Bx X C.heap.size #[.int .i64 r, .int .i64 s] 24 := hX ▸ Bx.new _ _ _
  have xX := xC.stays bX
  have bwX := nx bC bX
  have l1 : w.heap.size < C.heap.size := xC.lt
  have l2 : C.heap.size < X.heap.size := pX.lt
  have HTX : Hid (TI q l (.slice a1 m c1) X) := Lib.hid (by rw [← hmm]; exact h.stays bwX)
  clear h hmm xC bC bX
  by_cases hlen : 60 < m
  · have hd : decide ((m : Int) > 60) = true := decide_eq_true (by omega)
    go_enter Try.func4, Try.ntmps4
    go_wp2_with fail
    refine (awake_any _).mono ?_
    rintro e w1 ⟨rfl, hb1⟩
    go_wp2
    go_ret
    exact ⟨rfl, nx bwX hb1⟩
  have hd : decide ((m : Int) > 60) = false := decide_eq_false (by omega)
  have hm6 : l.length ≤ 1000000 := by rw [HN.out]; omega
  obtain ⟨g, hg⟩ : ∃ g, rightT l 7 = g := ⟨_, rfl⟩
  have HG := Lib.hid hg
  clear hg
  cases g with
  | false =>
    go_enter Try.func4, Try.ntmps4
    go_wp2_with fail
    refine (right_is HG _ X HTX.out hm6).mono ?_
    rintro e w1 ⟨rfl, hb1⟩
    go_wp2_with fail
    refine (awake_any _).mono ?_
    rintro e w2 ⟨rfl, hb2⟩
    go_wp2
    go_ret
    exact ⟨rfl, nx (nx bwX hb1) hb2⟩
  | true =>
  have HRt := Lib.hid (rightT_iff.1 HG.out)
  obtain ⟨dn, hdn⟩ : ∃ d, depN l c r s = d := ⟨_, rfl⟩
  obtain ⟨dv, hdv⟩ : ∃ d, depV l c r s = d := ⟨_, rfl⟩
  have HDn := Lib.hid hdn
  have HDv := Lib.hid hdv
  clear hdn hdv
  have rc := xX.row
  have rp := pX.row
  go_enter Try.func4, Try.ntmps4
  go_wp2_with fail
  refine (right_is HG _ X HTX.out hm6).mono ?_
  rintro e w1 ⟨rfl, hb1⟩
  have x1 := xX.stays hb1
  have p1 := pX.stays hb1
  have rc1 := x1.row
  have rp1 := p1.row
  have bw1 := nx bwX hb1
  have hdep := depends_any q l _ c r s w1 (HTX.out.stays hb1) hm6
  rw [HDn.out, HDv.out] at hdep
  have HDep := Lib.hid hdep
  clear hdep rc rp
  go_wp2_with fail
  refine HDep.out.mono ?_
  rintro e w2 ⟨rfl, hb2⟩
  have x2 := x1.stays hb2
  have p2 := p1.stays hb2
  have bw2 := nx bw1 hb2
  obtain ⟨D, hD⟩ : ∃ Q_ : World, (w2.alloc (.cells (Ve.fc zeroV) 31)).setRow w2.heap.size (Ve.fc dv) = Q_ := ⟨_, rfl⟩
  have dD : Bx D w2.heap.size (Ve.fc dv) 31 := hD ▸ Bx.put (Bx.new _ _ _) _
  have bD : Below w2.heap.size w2 D := hD ▸ below_setRow (below1 _ _) (Nat.le_refl _) _
  have dp := bx_vplain (Bx.new w2 (Ve.fc zeroV) 31) (Ve.fc_size _)
  obtain ⟨M, hM⟩ : ∃ Q_ : World, D.alloc (.cells (Ve.fc zeroV) 31) = Q_ := ⟨_, rfl⟩
  have mM : Bx M D.heap.size (Ve.fc zeroV) 31 := hM ▸ Bx.new _ _ _
  have bM : Below D.heap.size D M := hM ▸ below1 _ _
  have dM := dD.stays bM
  have xM := (x2.stays bD).stays bM
  have pM := (p2.stays bD).stays bM
  have bwM := nx (nx bw2 bD) bM
  have hwD : w2.heap.size < D.heap.size := dD.lt
  have hDM : D.heap.size < M.heap.size := mM.lt
  have hwC : C.heap.size < w2.heap.size := p2.lt
  have L1 := Lib.hid l1
  have L2 := Lib.hid hwC
  have L3 := Lib.hid hwD
  have L4 := Lib.hid hDM
  have HTM : Hid (TI q l (.slice a1 m c1) w2) := Lib.hid ((HTX.out.stays hb1).stays hb2)
  have HbwM := Lib.hid bwM
  have bDM := bM
  clear rc1 rp1 x1 p1 x2 p2 xX pX bD bM bw1 bw2 bwX bwM hX hC
  go_wp2
  go_loopw [30] (fun x wr => ∃ k : Nat, k ≤ m ∧ x = .int .i64 k ∧ Bx wr D.heap.size (Ve.fc (grD (l.take k) c r s)) 31 ∧ Below D.heap.size M wr) (fun x _ => m - (intOf x).toNat)
  case atStart => exact ⟨0, Nat.zero_le _, rfl, mM, Below.refl _ _⟩
  case round =>
    obtain ⟨k, hk, rfl, hm, hb⟩ := hrel
    have bDr : Below D.heap.size D wr := bDM.trans hb
    have dr := dM.low hb hwD
    have xr := xM.low hb (by omega)
    have pr := pM.low hb (by omega)
    have hsz : D.heap.size < wr.heap.size := hm.lt
    have bww : Below w.heap.size w wr := HbwM.out.trans (hb.mono (by omega))
    obtain ⟨d, hdd⟩ : ∃ d, grD (l.take k) c r s = d := ⟨_, rfl⟩
    rw [hdd] at hm
    have HDd := Lib.hid hdd
    clear hdd
    by_cases hlt : k < m
    · have hkl : k < l.length := by rw [HN.out]; exact hlt
      have hlt2 : (k : Int) < m := by omega
      obtain ⟨b, off, rfl, hbb, hK0⟩ := TI.all HTM.out (wr := wr) ((show Below w2.heap.size w2 D from hD ▸ below_setRow (below1 _ _) (Nat.le_refl _) _).trans (bDr.mono (by omega))) hkl
      have hx := (hK0 wr (Below.refl _ _)).1
      have hdt := grD_take hkl c r s
      rw [HDd.out] at hdt
      have HOx := Lib.hid (HRt.out.2.1 l[k] (List.getElem_mem hkl))
      have HMem := Lib.hid (List.getElem_mem hkl)
      obtain ⟨x, hxx⟩ : ∃ x, l[k] = x := ⟨_, rfl⟩
      rw [hxx] at hx hdt HOx HMem
      have HDT := Lib.hid hdt
      clear hxx hK0 hdt
      obtain ⟨V, hV⟩ : ∃ Q_ : World, (wr.alloc (.cells (ci zeroI) 35)).setRow wr.heap.size (ci x) = Q_ := ⟨_, rfl⟩
      have xV : Bx V wr.heap.size (ci x) 35 := hV ▸ Bx.put (Bx.new _ _ _) _
      have bV : Below wr.heap.size wr V := hV ▸ below_setRow (below1 _ _) (Nat.le_refl _) _
      have hplain := (Bx.new wr (ci zeroI) 35).plain (n := 25) rfl
      have rx := xV.row
      have cV := xr.stays bV
      have pV := pr.stays bV
      have dV := dr.stays bV
      have mV := hm.stays bV
      have rc := cV.row
      have rp2 := pV.row
      have rd := bx_vrow dV
      have k6 : V.cell? ⟨wr.heap.size, 6, none⟩ = some (.int .i64 x.st) := xV.cell 6
      have hbV := hb.trans (bV.mono (Nat.le_of_lt hsz))
      have skip : consB c r s x = false → grD (l.take (k + 1)) c r s = d := fun e => by
        rw [HDT.out]; unfold stepD; rw [e]; rfl
      cases hat : atP x r s with
      | true =>
        have hq2 : (x.pr == r && x.ps == s) = true := hat
        have HS := Lib.hid (skip (by unfold consB; rw [hat]; rfl))
        clear skip hat
        go_wp2
        go_roundw
        case rel => exact ⟨k + 1, by omega, by go_num, by rw [HS.out]; exact mV, hbV⟩
        case measure => simp [intOf]; omega
      | false =>
        have hq2 : (x.pr == r && x.ps == s) = false := hat
        by_cases hst : 1 ≤ x.st
        · have hs1 : decide (x.st < 1) = false := decide_eq_false (by omega)
          cases hmt : meetB x.c c with
          | false =>
            have HM := Lib.hid hmt
            have HS := Lib.hid (skip (by unfold consB; rw [hmt]; simp))
            clear skip hat hmt hst
            go_wp2_with fail
            refine (meets_is HM _).mono ?_
            rintro e w3 ⟨rfl, hb3⟩
            have m3 := mV.stays hb3
            have hb4 := hbV.trans (hb3.mono (by have := bV.size; omega))
            go_wp2
            go_roundw
            case rel => exact ⟨k + 1, by omega, by go_num, by rw [HS.out]; exact m3, hb4⟩
            case measure => simp [intOf]; omega
          | true =>
            have HM := Lib.hid hmt
            have hc : consB c r s x = true := consB_iff.2 ⟨hat, hst, hmt⟩
            have hcv := cov_of HMem.out hc HOx.out
            rw [HDv.out, HDn.out] at hcv
            have HCov := Lib.hid hcv.1
            have hor : decide (x.q ≥ dn) = false ∨ decide (x.q ≥ dn) = true ∧ decide (x.q < 1073741824) = false := by
              by_cases e : dn ≤ x.q
              · refine .inr ⟨decide_eq_true e, decide_eq_false ?_⟩
                rcases hcv.2 with h | h <;> omega
              · exact .inl (decide_eq_false (by omega))
            have HOr := Lib.hid hor
            obtain ⟨_, hpl, _⟩ := okI_iff.1 HOx.out
            have h0 : 0 ≤ x.pr := hpl.1
            have h7 : x.pr < 7 := hpl.2.1
            obtain ⟨y, hy⟩ : ∃ y, d x.pr.toNat = y := ⟨_, rfl⟩
            obtain ⟨z, hz⟩ : ∃ z, (if y < x.ps then x.ps else y) = z := ⟨_, rfl⟩
            have HS : Hid (grD (l.take (k + 1)) c r s = Ve.upd d x.pr.toNat z) := Lib.hid (by
              rw [HDT.out]; unfold stepD; rw [if_pos hc, Ve.raise_in ⟨h0, h7⟩]
              congr 1
              rw [hy, ← hz]
              split <;> omega)
            have HY := Lib.hid hy
            clear skip hat hmt hst hor hcv hc hpl hy
            go_wp2_with fail
            refine (meets_is HM _).mono ?_
            rintro e w3 ⟨rfl, hb3⟩
            have x3 := xV.stays hb3
            have d3 := dV.stays hb3
            have m3 := mV.stays hb3
            have rx3 := x3.row
            have rd3 := bx_vrow d3
            have sz3 := hb3.size
            have szV := bV.size
            have hb4 := hbV.trans (hb3.mono (by omega))
            clear rx rc rp2 rd k6
            go_wp2_with fail
            refine (covers_isH HCov _).mono ?_
            rintro e w4 ⟨rfl, hb5⟩
            have x4 := x3.stays hb5
            have m4 := m3.stays hb5
            have k16 : w4.cell? ⟨wr.heap.size, 16, none⟩ = some (.int .i64 x.q) := x4.cell 16
            have hb6 := hb4.trans (hb5.mono (by omega))
            clear rx3 rd3
            obtain ⟨E, hE⟩ : ∃ Q_ : World, w4.drew = Q_ := ⟨_, rfl⟩
            have bE : Below w4.heap.size w4 E := hE ▸ (Below.refl _ _).drew
            have x5 := x4.stays bE
            have m5 := m4.stays bE
            have k0 : E.cell? ⟨wr.heap.size, 0, none⟩ = some (.int .i64 x.pr) := x5.cell 0
            have k1 : E.cell? ⟨wr.heap.size, 1, none⟩ = some (.int .i64 x.ps) := x5.cell 1
            have kd : E.cell? ⟨D.heap.size, x.pr.toNat, none⟩ = some (.int .i64 y) := by rw [m5.cell, fc_cell d x.pr h0 h7, HY.out]
            have kf : E.frozen? ⟨D.heap.size, x.pr.toNat, none⟩ = false := m5.thawed _
            have sz5 := hb5.size
            have hb7 := hb6.trans (bE.mono (by omega))
            have HFin : Hid (Bx (E.setCell ⟨D.heap.size, x.pr.toNat, none⟩ (.int .i64 z)) D.heap.size (Ve.fc (Ve.upd d x.pr.toNat z)) 31 ∧ Below D.heap.size M (E.setCell ⟨D.heap.size, x.pr.toNat, none⟩ (.int .i64 z))) := Lib.hid ⟨by
              have := m5.set x.pr.toNat (.int .i64 z)
              rwa [Ve.fc_set] at this, hb7.trans (low_setCell _ _ (Nat.le_refl _))⟩
            rcases HOr.out with e1 | ⟨e1, e2⟩
            all_goals
              go_wp2
              go_region
              go_wp2
              go_roundw
              case rel => exact ⟨k + 1, by omega, by go_num, by rw [HS.out]; exact HFin.out.1, HFin.out.2⟩
              case measure => simp [intOf]; omega
        · have hs1 : decide (x.st < 1) = true := decide_eq_true (by omega)
          have HS := Lib.hid (skip (by unfold consB; rw [decide_eq_false hst]; simp))
          clear skip hat hst
          go_wp2
          go_roundw
          case rel => exact ⟨k + 1, by omega, by go_num, by rw [HS.out]; exact mV, hbV⟩
          case measure => simp [intOf]; omega
    · obtain rfl : k = m := by omega
      have HE : Hid (Ve.eqV dv d = true) := Lib.hid (by
        rw [← HDv.out, depV_gr, ← HDd.out, ← HN.out, List.take_length]
        exact Ve.eqV_refl _)
      have he := HE.out
      have rd := bx_vrow dr
      have rm := bx_vrow hm
      have kc : wr.cell? ⟨w.heap.size, 2, none⟩ = some (.int .i64 (c 2)) := by rw [xr.cell]; exact Cm.fc_at c 2 (by decide)
      have hor : (c 2 != 0) = true ∨ (c 2 != 0) = false ∧ (dn == 0) = true := by
        by_cases e : c 2 = 0
        · refine .inr ⟨by rw [e]; rfl, ?_⟩
          rw [← HDn.out]; unfold depN; rw [if_pos e]; rfl
        · exact .inl (by simpa using e)
      rcases hor with e1 | ⟨e1, e2⟩
      all_goals
        go_wp2_with fail
        refine (awake_any _).mono ?_
        rintro e w3 ⟨rfl, hb3⟩
        go_wp2
        go_ret
        exact ⟨rfl, nx bww hb3⟩
end Go.Proofs.Ytoncmbglmebkiaa.In
