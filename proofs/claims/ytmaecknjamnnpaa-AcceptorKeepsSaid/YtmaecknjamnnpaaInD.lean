/- Layer 18: package instance's Depends. -/
import Derived.Test.YtmaecknjamnnpaaInC
import Derived.Test.YtmaecknjamnnpaaCmF
import Derived.Test.YtmaecknjamnnpaaVeC
namespace Go.Proofs.Ytmaecknjamnnpaa.In
open Go.RowKit
set_option linter.unusedVariables false
open Go.Proofs.Ytmaecknjamnnpaa.Rw
open Go.Proofs.Ytmaecknjamnnpaa.Da
open Go.Proofs.Ytmaecknjamnnpaa.Bv
open Go.Proofs.Ytmaecknjamnnpaa.Rc (Ins ci zeroI okI)
open Go.Proofs.Ytmaecknjamnnpaa.St
open Go.Proofs.Ytmaecknjamnnpaa.Cm (meetB)
open Go.Proofs.Ytmaecknjamnnpaa.Ve (zeroV raiseV)
theorem bx_vrow {w : World} {b : Nat} {cs : Array Value} {t : TypeId} (h : Bx w b cs t) : Ve.row w b = cs := by unfold Ve.row; rw [h]
theorem bx_vplain {w : World} {b : Nat} {cs : Array Value} {t : TypeId} (h : Bx w b cs t) (hs : cs.size = 7) : Ve.plain w b = true := by unfold Ve.plain; rw [h]; simp [hs]
/-- A result that is no cell, then one that is. -/
theorem ret_QD {fn : Func} {p q : Tmp} (h : fn.results = #[.tmp q, .cell p 30]) (tmps : Array Value) (w : World) {f : Nat → Int} (hr : rowOf w (tmps.getD p undef) = Ve.fc f) : (results fn tmps).run Try.prog w = .ok (.tuple #[tmps.getD q undef, .agg (Ve.fc f)]) w := by
  obtain ⟨b, e, hl⟩ := read_cell (T := 30) (n := 6) Try.underlying30 rfl (by kernel_rfl) hr (Ve.fc_size f)
  have hp' : tmps[p]?.getD undef = .pointer (some ⟨b, 0, none⟩) := by simpa using e
  simp [results, h, hp', asAddr, hl]
theorem meets_is {a b : Nat → Int} {r : Bool} (h : Hid (meetB a b = r)) (w : World) :
    Calls Try.prog 20 #[.agg (Cm.fc a), .agg (Cm.fc b)] w fun e w' => e = .returned (.bool r) ∧ Below w.heap.size w w' := by
  rw [← h.out]; exact Cm.meets_any a b w
theorem raise_is {v : Nat → Int} {r s : Int} {x : Nat → Int} (h : Hid (raiseV v r s = x)) (w : World) :
    Calls Try.prog 41 #[.agg (Ve.fc v), .agg #[.int .i64 r, .int .i64 s]] w fun e w' => e = .returned (.agg (Ve.fc x)) ∧ Below w.heap.size w w' := by
  rw [← h.out]; exact Ve.raise_any v r s w
set_option maxRecDepth 16000 in
set_option maxHeartbeats 8000000 in
theorem depends_any (q : Nat) (l : List Ins) (v : Value) (c : Nat → Int) (r s : Int) (w : World) (h : TI q l v w) (hm : l.length ≤ 1000000) :
    Calls Try.prog 57 #[v, .agg (Cm.fc c), .agg #[.int .i64 r, .int .i64 s]] w fun e w' => e = .returned (.tuple #[.int .i64 (depN l c r s), .agg (Ve.fc (depV l c r s))]) ∧ Below w.heap.size w w' := by
  obtain ⟨a1, c1, rfl⟩ := h.len
  have H := Lib.hid h
  obtain ⟨m, hmm⟩ : ∃ m, l.length = m := ⟨_, rfl⟩
  have HN := Lib.hid hmm
  rw [hmm] at hm ⊢
  obtain ⟨gn, hgn⟩ : ∃ g, depN l c r s = g := ⟨_, rfl⟩
  obtain ⟨gv, hgv⟩ : ∃ g, depV l c r s = g := ⟨_, rfl⟩
  have HGn := Lib.hid hgn
  have HGv := Lib.hid hgv
  rw [hgn, hgv]
  obtain ⟨C, hC⟩ : ∃ Q_ : World, w.alloc (.cells (Cm.fc c) 28) = Q_ := ⟨_, rfl⟩
  have bC : Below w.heap.size w C := hC ▸ below1 w _
  have xC : Bx C w.heap.size (Cm.fc c) 28 := hC ▸ Bx.new _ _ _
  obtain ⟨X, hX⟩ : ∃ Q_ : World, C.alloc (.cells #[.int .i64 r, .int .i64 s] 24) = Q_ := ⟨_, rfl⟩
  have bX : Below C.heap.size C X := hX ▸ below1 C _
  have pX : Bx X C.heap.size #[.int .i64 r, .int .i64 s] 24 := hX ▸ Bx.new _ _ _
  obtain ⟨R, hR⟩ : ∃ Q_ : World, X.alloc (.cells (Ve.fc zeroV) 30) = Q_ := ⟨_, rfl⟩
  have bR : Below X.heap.size X R := hR ▸ below1 X _
  have rR : Bx R X.heap.size (Ve.fc zeroV) 30 := hR ▸ Bx.new _ _ _
  have pR := pX.stays bR
  have xR := (xC.stays bX).stays bR
  have hwR := nx (nx bC bX) bR
  have l1 : w.heap.size < C.heap.size := xC.lt
  have l2 : C.heap.size < X.heap.size := pX.lt
  have l3 : X.heap.size < R.heap.size := rR.lt
  have L1 := Lib.hid l1
  have L2 := Lib.hid l2
  have L3 := Lib.hid l3
  have kc : R.cell? ⟨w.heap.size, 2, none⟩ = some (.int .i64 (c 2)) := by rw [xR.cell]; exact Cm.fc_at c 2 (by decide)
  have rp := bx_vplain rR (Ve.fc_size _)
  clear h hmm hgn hgv xC pX bC bX bR
  by_cases h0 : c 2 = 0
  · have e0 : (c 2 == 0) = true := by simpa using h0
    have HF : Hid (gn = 0 ∧ gv = zeroV) := Lib.hid ⟨by rw [← HGn.out]; unfold depN; rw [if_pos h0], by rw [← HGv.out]; unfold depV; rw [if_pos h0]⟩
    clear h0
    go_enter Try.func57, Try.ntmps57
    go_wp2
    exact bodyPost_ret (v := .tuple #[.int .i64 0, .agg (Ve.fc zeroV)]) (ret_QD Try.results57 _ _ (rR.put (Ve.fc zeroV)).row) rfl ⟨by rw [HF.out.1, HF.out.2], below_setRow hwR (by have := L1.out; have := L2.out; omega) _⟩
  have e0 : (c 2 == 0) = false := by simpa using h0
  have HF0 := Lib.hid h0
  clear h0
  obtain ⟨Z, hZ⟩ : ∃ Q_ : World, (R.alloc (.cells (Ve.fc zeroV) 30)).setRow R.heap.size (Ve.fc zeroV) = Q_ := ⟨_, rfl⟩
  have zZ : Bx Z R.heap.size (Ve.fc zeroV) 30 := hZ ▸ Bx.put (Bx.new _ _ _) _
  have bZ : Below R.heap.size R Z := hZ ▸ below_setRow (below1 _ _) (Nat.le_refl _) _
  have zp := bx_vplain (Bx.new R (Ve.fc zeroV) 30) (Ve.fc_size _)
  have hsz2 : (R.alloc (.cells (Ve.fc zeroV) 30)).heap.size = R.heap.size + 1 := by simp
  have hRZ : R.heap.size < Z.heap.size := zZ.lt
  go_enter Try.func57, Try.ntmps57
  go_wp2
  go_loopw [8, 19] (fun n x wr => ∃ k : Nat, k ≤ m ∧ x = .int .i64 k ∧ n = .int .i64 (grQ (l.take k) c r s) ∧ Bx wr R.heap.size (Ve.fc (grD (l.take k) c r s)) 30 ∧ Below R.heap.size R wr) (fun _ x _ => m - (intOf x).toNat)
  case atStart => exact ⟨0, Nat.zero_le _, rfl, rfl, zZ, bZ⟩
  case round =>
    obtain ⟨k, hk, rfl, rfl, hd, hb⟩ := hrel
    have bw := nx hwR hb
    have hsz : R.heap.size < wr.heap.size := hd.lt
    have xr := xR.low hb (by have := L1.out; have := L2.out; have := L3.out; omega)
    have pr := pR.low hb (by have := L2.out; have := L3.out; omega)
    have rr := rR.low hb L3.out
    obtain ⟨n, hn⟩ : ∃ n, grQ (l.take k) c r s = n := ⟨_, rfl⟩
    obtain ⟨d, hdd⟩ : ∃ d, grD (l.take k) c r s = d := ⟨_, rfl⟩
    have hnb := grQ_bd (l.take k) c r s
    rw [hn] at hnb ⊢
    rw [hdd] at hd
    have HNn := Lib.hid hn
    have HDd := Lib.hid hdd
    have hn0 := hnb.1
    have hn1 := hnb.2
    clear hn hdd hnb
    by_cases hlt : k < m
    · have hkl : k < l.length := by rw [HN.out]; exact hlt
      have hlt2 : (k : Int) < m := by omega
      obtain ⟨b, off, rfl, hbb, hK0⟩ := TI.all H.out bw hkl
      have hx := (hK0 wr (Below.refl _ _)).1
      have hqt := grQ_take hkl c r s
      have hdt := grD_take hkl c r s
      rw [HNn.out] at hqt
      rw [HDd.out] at hdt
      obtain ⟨x, hxx⟩ : ∃ x, l[k] = x := ⟨_, rfl⟩
      rw [hxx] at hx hqt hdt
      have HQT := Lib.hid hqt
      have HDT := Lib.hid hdt
      clear hxx hK0 hqt hdt
      obtain ⟨V, hV⟩ : ∃ Q_ : World, (wr.alloc (.cells (ci zeroI) 37)).setRow wr.heap.size (ci x) = Q_ := ⟨_, rfl⟩
      have xV : Bx V wr.heap.size (ci x) 37 := hV ▸ Bx.put (Bx.new _ _ _) _
      have bV : Below wr.heap.size wr V := hV ▸ below_setRow (below1 _ _) (Nat.le_refl _) _
      have hplain := (Bx.new wr (ci zeroI) 37).plain (n := 25) rfl
      have rx := xV.row
      have cV := xr.stays bV
      have pV := pr.stays bV
      have dV := hd.stays bV
      have rc := cV.row
      have rp2 := pV.row
      have rd := bx_vrow dV
      have k6 : V.cell? ⟨wr.heap.size, 6, none⟩ = some (.int .i64 x.st) := xV.cell 6
      have hbV := hb.trans (bV.mono (Nat.le_of_lt hsz))
      have bwV := nx bw bV
      -- not one that counts
      have skip : consB c r s x = false → grQ (l.take (k + 1)) c r s = n ∧ grD (l.take (k + 1)) c r s = d := fun e => by
        rw [HQT.out, HDT.out]; unfold stepQ stepD; rw [e]; exact ⟨rfl, rfl⟩
      cases hat : atP x r s with
      | true =>
        have hq : (x.pr == r && x.ps == s) = true := hat
        have HS := Lib.hid (skip (by unfold consB; rw [hat]; rfl))
        clear skip hat
        go_wp2
        go_roundw
        case rel => exact ⟨k + 1, by omega, by go_num, by rw [HS.out.1], by rw [HS.out.2]; exact dV, hbV⟩
        case measure => simp [intOf]; omega
      | false =>
        have hq : (x.pr == r && x.ps == s) = false := hat
        by_cases hst : 1 ≤ x.st
        · have hs1 : decide (x.st < 1) = false := decide_eq_false (by omega)
          have rc2 := Bx.row cV
          cases hmt : meetB x.c c with
          | false =>
            have HM := Lib.hid hmt
            have HS := Lib.hid (skip (by unfold consB; rw [hmt]; simp))
            clear skip hat hmt hst
            go_wp2_with fail
            refine (meets_is HM _).mono ?_
            rintro e w1 ⟨rfl, hb1⟩
            have d1 := dV.stays hb1
            have hb2 := hbV.trans (hb1.mono (by have := bV.size; omega))
            go_wp2
            go_roundw
            case rel => exact ⟨k + 1, by omega, by go_num, by rw [HS.out.1], by rw [HS.out.2]; exact d1, hb2⟩
            case measure => simp [intOf]; omega
          | true =>
            have HM := Lib.hid hmt
            obtain ⟨y, hy⟩ : ∃ y, (if (1073741823 : Int) < x.q then 1073741823 else x.q) = y := ⟨_, rfl⟩
            obtain ⟨n2, hn2⟩ : ∃ n2, (if n < y then y else n) = n2 := ⟨_, rfl⟩
            obtain ⟨d2, hd2⟩ : ∃ d2, raiseV d x.pr x.ps = d2 := ⟨_, rfl⟩
            have HR2 := Lib.hid hd2
            have HS : Hid (grQ (l.take (k + 1)) c r s = n2 ∧ grD (l.take (k + 1)) c r s = d2) := Lib.hid (by
              have hc : consB c r s x = true := consB_iff.2 ⟨hat, hst, hmt⟩
              rw [HQT.out, HDT.out]; unfold stepQ stepD; rw [if_pos hc, if_pos hc]
              refine ⟨?_, hd2⟩
              rw [← hn2, ← hy]
              split <;> split <;> omega)
            clear skip hat hmt hst hd2
            go_wp2_with fail
            refine (meets_is HM _).mono ?_
            rintro e w1 ⟨rfl, hb1⟩
            have x1 := xV.stays hb1
            have d1 := dV.stays hb1
            have rx1 := x1.row
            have rd1 := bx_vrow d1
            have k16 : w1.cell? ⟨wr.heap.size, 16, none⟩ = some (.int .i64 x.q) := x1.cell 16
            have sz1 := hb1.size
            have szV := bV.size
            have hb2 := hbV.trans (hb1.mono (by omega))
            clear rd rx rc rp2 rc2
            go_wp2_with fail
            refine (raise_is HR2 _).mono ?_
            rintro e w2 ⟨rfl, hb22⟩
            have d2b := d1.stays hb22
            have dp := bx_vplain d2b (Ve.fc_size _)
            have sz2 := hb22.size
            have hb3 := hb2.trans (hb22.mono (by omega))
            have HD3 := Lib.hid (d2b.put (Ve.fc d2))
            go_wp2
            go_roundw
            case rel => exact ⟨k + 1, by omega, by go_num, by rw [HS.out.1], by rw [HS.out.2]; exact HD3.out, below_setRow hb3 (Nat.le_refl _) _⟩
            case measure => simp [intOf]; omega
        · have hs1 : decide (x.st < 1) = true := decide_eq_true (by omega)
          have HS := Lib.hid (skip (by unfold consB; rw [decide_eq_false hst]; simp))
          clear skip hat hst
          go_wp2
          go_roundw
          case rel => exact ⟨k + 1, by omega, by go_num, by rw [HS.out.1], by rw [HS.out.2]; exact dV, hbV⟩
          case measure => simp [intOf]; omega
    · obtain rfl : k = m := by omega
      have HE : Hid (gn = n + 1 ∧ gv = d) := Lib.hid (by
        rw [← HGn.out, ← HGv.out, ← HNn.out, ← HDd.out, ← HN.out, List.take_length]
        unfold depN depV
        rw [if_neg HF0.out, if_neg HF0.out]
        exact ⟨rfl, rfl⟩)
      have rd := bx_vrow hd
      have rpl := bx_vplain rr (Ve.fc_size _)
      have rd2 : ∀ cs, Ve.row wr.drew R.heap.size = cs ↔ Ve.row wr R.heap.size = cs := fun cs => by rw [Ve.row_drew]
      clear rd2
      have hdr : Below wr.heap.size wr wr.drew := (Below.refl _ _).drew
      have rrd := rr.stays hdr
      have hbd := bw.trans (hdr.mono (by have := bw.size; exact this))
      go_wp2
      go_region
      go_wp2
      exact bodyPost_ret (v := .tuple #[.int .i64 (n + 1), .agg (Ve.fc d)]) (ret_QD Try.results57 _ _ (rrd.put (Ve.fc d)).row) rfl ⟨by rw [HE.out.1, HE.out.2], below_setRow hbd (by have := L1.out; have := L2.out; omega) _⟩
end Go.Proofs.Ytmaecknjamnnpaa.In
