/- Package record: Write, numbers. -/
import Derived.Test.YtngnkjbcnmcngaaDoorRcL
import Derived.Test.YtngnkjbcnmcngaaDoorCmJ
namespace Go.Proofs.YtngnkjbcnmcngaaDoor.Rc
open Go.RowKit
set_option linter.unusedVariables false
open Go.Proofs.YtngnkjbcnmcngaaDoor.Rw
open Go.Proofs.YtngnkjbcnmcngaaDoor.Bv
open Go.Proofs.YtngnkjbcnmcngaaDoor.Fx (enc enc_size putV dec getV oB wB)
open Go.Proofs.YtngnkjbcnmcngaaDoor.Cm (chkB chkE numF Tab Bld string_any row_lt getV_arg oB_nat get_is)
/-- In how many bytes the numbers ahead of a value are written; how many lie ahead of one. -/
def wH : Nat → Nat
  | 0 => 1 | 1 => 2 | 2 => 1 | 3 => 1 | 4 => 4 | 5 => 1 | 6 => 4 | _ => 1
def preH : Nat → Nat
  | 0 => 0
  | k + 1 => preH k + wH k
theorem wH_bd (k : Nat) : 1 ≤ wH k ∧ wH k ≤ 7 := by unfold wH; split <;> omega
theorem preH_le (k : Nat) (h : k ≤ 8) : preH k ≤ 15 := by
  match k, h with
  | 0, _ => decide | 1, _ => decide | 2, _ => decide | 3, _ => decide | 4, _ => decide | 5, _ => decide | 6, _ => decide | 7, _ => decide | 8, _ => decide
theorem preH_in (k : Nat) (h : k < 8) : preH k + wH k ≤ 15 := preH_le (k + 1) (by omega)
/-- The listed array lies as the text lays it. -/
def Tb (w : World) : Prop := row w 0 = hc (fun i => wH i)
theorem Tb.lt {w : World} (h : Tb w) : 0 < w.heap.size := row_lt (n := 7) (by unfold Tb at h; rw [h]; exact hc_size _)
theorem Tb.below {w w' : World} (h : Tb w) (k : Below w.heap.size w w') : Tb w' := by
  unfold Tb at h ⊢
  rw [(bcell k).2.2.1 _ (Tb.lt h)]; exact h
theorem Tb.at {w : World} (h : Tb w) (k : Nat) (hk : k < 8) : w.cell? ⟨0, k, none⟩ = some (.int .i64 (wH k)) := by
  have hs : (row w 0).size = 7 + 1 := by unfold Tb at h; rw [h]; exact hc_size _
  rw [cell_row w _ k hs, h, hc_at _ k hk]
/-- The first k of the numbers ahead of a value. -/
def catH (f : Nat → Int) : Nat → ByteArray
  | 0 => ByteArray.empty
  | k + 1 => catH f k ++ enc (f k) (wH k)
theorem catH_size (f : Nat → Int) (k : Nat) : (catH f k).size = preH k := by
  induction k with
  | zero => rfl
  | succ k ih => rw [catH, ByteArray.size_append, ih, enc_size, preH]
theorem catH_all (i : Ins) : catH (headN i) 8 = cat (headF i) := by
  simp [catH, headN, headF, cat, v8, wH, ByteArray.append_assoc]
theorem headN_fit {i : Ins} {n : Int} (h : okI i n = true) (k : Nat) (hk : k < 8) : Fit (headN i k, wH k) := by
  have hf : ∀ f ∈ headF i, Fit f := fun f hf => fit_ins h f (List.mem_append_left _ hf)
  match k, hk with
  | 0, _ => exact hf (i.pr, 1) (by simp [headF])
  | 1, _ => exact hf (i.ps, 2) (by simp [headF])
  | 2, _ => exact hf (i.st, 1) (by simp [headF])
  | 3, _ => exact hf (flagN i.sm, 1) (by simp [headF])
  | 4, _ => exact hf (i.bn, 4) (by simp [headF])
  | 5, _ => exact hf (i.br, 1) (by simp [headF])
  | 6, _ => exact hf (i.tn, 4) (by simp [headF])
  | 7, _ => exact hf (i.tr, 1) (by simp [headF])
/-- What is written of an instance. -/
def wrS (i : Ins) (n : Int) : ByteArray := if okI i n then cat (insF i n.toNat) else ByteArray.empty
def wrE (i : Ins) (n : Int) : Int := if okI i n then 0 else 1
theorem putValue_yes {c : Nat → Int} {q : Int} {d : Nat → Int} {n : Int} {x : ByteArray} (h : Hid (okV c q d n = true)) (hx : Hid (cat (valF c q d n.toNat) = x)) (w : World) (ht : Tab w) :
    Calls Tryd.prog 9 #[.agg (cv c q d), .int .i64 n] w fun e w' => e = .returned (.tuple #[.string x, .int .i64 0]) ∧ Below w.heap.size w w' := by
  have k := putValue_any c q d n w ht
  rw [h.out, if_pos rfl, if_pos rfl, hx.out] at k; exact k
set_option maxRecDepth 8000 in
set_option maxHeartbeats 4000000 in
theorem write_any (i : Ins) (n : Int) (w : World) (ht : Tab w) (hb : Tb w) :
    Calls Tryd.prog 7 #[.agg (ci i), .int .i64 n] w fun e w' => e = .returned (.tuple #[.string (wrS i n), .int .i64 (wrE i n)]) ∧ Below w.heap.size w w' := by
  obtain ⟨V, hV⟩ : ∃ Q_ : World, w.alloc (.cells (ci i) 33) = Q_ := ⟨_, rfl⟩
  have bV : Below w.heap.size w V := hV ▸ below1 _ _
  have A0 : At V w.heap.size i := hV ▸ At.new _ _ _
  have HT := Lib.hid (show ∀ u, Below V.heap.size V u → Tab u from fun u hu => ht.below (nx bV hu))
  have HW := Lib.hid (show ∀ u, Below V.heap.size V u → Tb u from fun u hu => hb.below (nx bV hu))
  obtain ⟨m1, m2, m3, m4⟩ := A0.facts
  have HA := Lib.hid (show ∀ u, Below V.heap.size V u → At u w.heap.size i from fun u hu => A0.stays hu)
  clear A0 ht hb
  cases h1 : okI i n with
  | false =>
    have H1 := Lib.hid h1
    have HS : Hid (wrS i n = ByteArray.empty) := Lib.hid (by unfold wrS; rw [h1]; rfl)
    have HE : Hid (wrE i n = 1) := Lib.hid (by unfold wrE; rw [h1]; rfl)
    clear h1
    rw [HS.out, HE.out]
    go_enter Tryd.func7, Tryd.ntmps7
    go_wp2_with fail
    clear m1 m2 m3 m4
    refine (right_is H1 _).mono ?_
    rintro e w1 ⟨rfl, hb1⟩
    go_wp2
    go_ret2
    exact ⟨rfl, nx bV hb1⟩
  | true =>
    have H1 := Lib.hid h1
    obtain ⟨x, hx⟩ : ∃ x, cat (valF i.c i.q i.d n.toNat) = x := ⟨_, rfl⟩
    have hxs : x.size ≤ 48 := by rw [← hx, val_size]; have := (okI_iff.1 h1).1; omega
    have HX := Lib.hid hx
    have HV := Lib.hid (okI_iff.1 h1).2.2.2.2.2.2.1
    have HS : Hid (wrS i n = catH (headN i) 8 ++ x) := Lib.hid (by unfold wrS; rw [h1, if_pos rfl, insF, cat_append, catH_all, hx])
    have HE : Hid (wrE i n = 0) := Lib.hid (by unfold wrE; rw [h1]; rfl)
    have HF := Lib.hid (headN_fit h1)
    obtain ⟨f, hf⟩ : ∃ f, headN i = f := ⟨_, rfl⟩
    have HH := Lib.hid hf
    rw [hf] at HS HF
    clear h1 hx hf
    rw [HE.out]
    go_enter Tryd.func7, Tryd.ntmps7
    go_wp2_with fail
    clear m1 m2 m3 m4
    refine (right_is H1 _).mono ?_
    rintro e w1 ⟨rfl, hb1⟩
    have A1 := HA.out w1 hb1
    obtain ⟨U, hU⟩ : ∃ Q_ : World, w1.alloc (.cells #[.pointer none, .slice none 0 0] 51) = Q_ := ⟨_, rfl⟩
    have hB0 : Bd w1.heap.size w1.heap.size ByteArray.empty U := hU ▸ Lib.fresh_isBuilder _ _ w1
    have bU : Below w1.heap.size w1 U := hU ▸ below1 w1 _
    have AU := A1.stays bU
    obtain ⟨m1, m2, m3, m4⟩ := AU.facts
    have HB0 := Lib.hid hB0
    clear hB0 A1 AU
    go_wp2_with fail
    clear m1 m2 m3 m4 hU
    refine (head_any i _).mono ?_
    rintro e w2 ⟨rfl, hb2⟩
    rw [HH.out]
    have HB2 := Lib.hid (HB0.out.below hb2)
    have b2 := nx bU hb2
    clear HB0 hb2
    go_wp2
    go_loopw [17] (fun j wr => ∃ (k : Nat), k ≤ 8 ∧ j = .int .i64 k ∧ Bd w1.heap.size w1.heap.size (catH f k) wr ∧ Below w1.heap.size w1 wr) (fun j _ => 8 - (intOf j).toNat)
    case atStart => exact ⟨0, Nat.zero_le _, rfl, HB2.out, b2⟩
    case round =>
      obtain ⟨k, hk, rfl, hB, hb⟩ := hrel
      have HB := Lib.hid hB
      have hs := hb.size
      have hzs := catH_size f k
      have hzl := preH_le k hk
      clear hB HB2 b2
      by_cases hlt : k < 8
      · have hlt2 : (k : Int) < 8 := by omega
        have hF := HF.out k hlt
        have HFk := Lib.hid hF
        have hw := (HW.out wr (nx hb1 hb)).at k hlt
        have hk1 := wH_bd k
        have HZ : Hid (catH f (k + 1) = catH f k ++ enc (f k) (wH k)) := Lib.hid rfl
        obtain ⟨z, hz⟩ : ∃ z, catH f k = z := ⟨_, rfl⟩
        rw [hz] at HB HZ hzs
        clear hF hz
        go_wp2_with fail
        clear hw
        refine (put_any _ _ _ (f k) (wH k) _ HB.out (by omega) (by omega) HFk.out hk1).mono ?_
        rintro e w5 ⟨rfl, hB5, hb5⟩
        have HB5 := Lib.hid hB5
        clear hB5
        go_wp2
        go_roundw
        case rel => exact ⟨k + 1, by omega, by go_num, by rw [HZ.out]; exact HB5.out, hb.trans hb5⟩
        case measure => simp [intOf]; omega
      · obtain rfl : k = 8 := by omega
        obtain ⟨z, hz⟩ : ∃ z, catH f 8 = z := ⟨_, rfl⟩
        rw [hz] at HB hzs HS
        clear hz
        have A2 := HA.out wr (nx hb1 hb)
        obtain ⟨m1, m2, m3, m4⟩ := A2.facts
        go_wp2_with fail
        clear m1 m2 m3 m4 A2
        refine (putValue_yes HV HX _ (HT.out _ (nx hb1 hb))).mono ?_
        rintro e w3 ⟨rfl, hb3⟩
        have HB3 := Lib.hid (HB.out.below hb3)
        have b3 := nx hb hb3
        have hs3 := b3.size
        go_wp2_with fail
        refine (wrote_any _ _ _ _ _ HB3.out (by omega) (by omega)).mono ?_
        rintro e w4 ⟨rfl, hB4, hb4⟩
        have HB4 := Lib.hid hB4
        have b4 : Below w1.heap.size w1 w4 := b3.trans hb4
        have hs4 := b4.size
        clear hB4 HB3 HB
        go_wp2_with fail
        refine (string_any _ _ _ _ HB4.out (by omega)).mono ?_
        rintro e w5 ⟨rfl, hb5⟩
        go_wp2
        go_ret2
        exact ⟨by rw [HS.out]; rfl, nx bV (nx hb1 (b4.trans hb5))⟩
theorem write_is {i : Ins} {n : Int} {x : ByteArray} {y : Int} (h : Hid (wrS i n = x ∧ wrE i n = y)) (w : World) (ht : Tab w) (hb : Tb w) :
    Calls Tryd.prog 7 #[.agg (ci i), .int .i64 n] w fun e w' => e = .returned (.tuple #[.string x, .int .i64 y]) ∧ Below w.heap.size w w' := by
  obtain ⟨rfl, rfl⟩ := h.out
  exact write_any i n w ht hb
/-- The numbers ahead of a value, out of bytes. -/
def rdH (s : ByteArray) : Nat → Int := fun k => dec s (preH k) (wH k)
theorem getH {s : ByteArray} (h : 15 ≤ s.size) (k : Nat) (hk : k < 8) : getV s (preH k : Nat) (wH k : Nat) = .tuple #[.int .i64 (rdH s k), .int .i64 0] := by
  have h1 := wH_bd k
  have h2 := preH_in k hk
  unfold getV
  rw [oB_nat, show wB ((wH k : Nat) : Int) = true by unfold wB; simp; omega, decide_eq_true (by omega), if_pos (by rfl), if_pos (by omega), Int.toNat_natCast, Int.toNat_natCast]
  rfl
set_option maxRecDepth 8000 in
set_option maxHeartbeats 4000000 in
theorem numbers_any (s : ByteArray) (hs : s.size ≤ maxLen) (h : 15 ≤ s.size) (w : World) (hb : Tb w) :
    Calls Tryd.prog 36 #[.string s] w fun e w' => e = .returned (.agg (hc (rdH s))) ∧ Below w.heap.size w w' := by
  have HS := Lib.hid hs
  have HG := Lib.hid (getH h)
  unfold Tb at hb
  have hz := Tb.lt hb
  obtain ⟨V, hV⟩ : ∃ Q_ : World, (w.alloc (.cells (hc Cm.zeroF) 52)).alloc (.cells (hc Cm.zeroF) 52) = Q_ := ⟨_, rfl⟩
  have bV : Below w.heap.size w V := hV ▸ below2 _ _ _
  have B0 : Bx V w.heap.size (hc Cm.zeroF) 52 := hV ▸ (Bx.new _ _ _).alloc _
  have B1 : Bx V (w.heap.size + 1) (hc (Cm.mix (rdH s) 0)) 52 := by rw [Cm.mix_zero]; exact hV ▸ Bx.at (by simp) _ _
  have hr : row V 0 = hc (fun i => wH i) := by rw [(bcell bV).2.2.1 _ hz]; exact hb
  have hzV : 0 < V.heap.size := Nat.lt_of_lt_of_le hz bV.size
  have hzV0 : w.heap.size + 1 < V.heap.size := B1.lt
  have HB0 := Lib.hid B0
  have HB1 := Lib.hid B1
  have HV := Lib.hid hV
  have hz0 : 0 < w.heap.size := by omega
  clear hs h B0 B1 hr hV
  go_enter Tryd.func36, Tryd.ntmps36
  go_wp2
  rw [HV.out]
  clear hb HV
  go_loopw [4, 9] (fun a j wr => ∃ (k : Nat), k ≤ 8 ∧ j = .int .i64 k ∧ a = .int .i64 (preH k : Nat) ∧ Bx wr w.heap.size (hc Cm.zeroF) 52 ∧ Bx wr (w.heap.size + 1) (hc (Cm.mix (rdH s) k)) 52 ∧ Below w.heap.size w wr) (fun _ j _ => 8 - (intOf j).toNat)
  case atStart => exact ⟨0, Nat.zero_le _, rfl, rfl, HB0.out, HB1.out, bV⟩
  case round =>
    obtain ⟨k, hk, rfl, rfl, b0, b1, hb⟩ := hrel
    have hpl := preH_le k hk
    have G0 := Lib.hid b0
    have G1 := Lib.hid b1
    clear HB0 HB1
    by_cases hlt : k < 8
    · have hlt2 : (k : Int) < 8 := by omega
      have hG := HG.out k hlt
      have HGk := Lib.hid hG
      have hk1 := wH_bd k
      obtain ⟨X, hX⟩ : ∃ Q_ : World, wr.setCell ⟨w.heap.size + 1, k, none⟩ (.int .i64 (rdH s k)) = Q_ := ⟨_, rfl⟩
      have X0 : Bx X w.heap.size (hc Cm.zeroF) 52 := hX ▸ b0.set' (by omega) _ _
      have X1 : Bx X (w.heap.size + 1) (hc (Cm.mix (rdH s) (k + 1))) 52 := by
        have := b1.set k (.int .i64 (rdH s k))
        rw [hX, hc_set, Cm.mix_succ] at this
        exact this
      have bX : Below w.heap.size w X := hX ▸ hb.trans (low_setCell _ _ (by omega))
      have hcl : wr.cell? ⟨w.heap.size + 1, k, none⟩ = some (.int .i64 (Cm.mix (rdH s) k k)) := by rw [b1.cell, hc_at _ _ hlt]
      have hfz : wr.frozen? ⟨w.heap.size + 1, k, none⟩ = false := b1.thawed k
      have HP : Hid (preH (k + 1) = preH k + wH k) := Lib.hid rfl
      have HX0 := Lib.hid X0
      have HX1 := Lib.hid X1
      clear hG X0 X1 b0 b1
      go_wp2_with fail
      refine (get_is HS.out HGk _).mono ?_
      rintro e w' ⟨rfl, rfl⟩
      go_wp2
      go_roundw
      case rel => exact ⟨k + 1, by omega, by go_num, by rw [HP.out]; go_num, HX0.out, HX1.out, bX⟩
      case measure => simp [intOf]; omega
    · obtain rfl : k = 8 := by omega
      have HE : Hid (hc (Cm.mix (rdH s) 8) = hc (rdH s)) := Lib.hid (hc_congr fun i hi => by unfold Cm.mix; rw [if_pos hi])
      obtain ⟨X, hX⟩ : ∃ Q_ : World, wr.setRow w.heap.size (hc (rdH s)) = Q_ := ⟨_, rfl⟩
      have X0 : Bx X w.heap.size (hc (rdH s)) 52 := hX ▸ b0.put _
      have bX : Below w.heap.size w X := hX ▸ hb.trans (low_setRow _ (by omega))
      have r1 := b1.row
      rw [HE.out] at r1
      have p0 := b0.plain (hc_size _)
      have x0 := X0.row
      clear b0 b1 G0 G1
      go_wp2
      exact bodyPost_ret (v := .agg (hc (rdH s))) (ret_H Tryd.results36 _ _ _ (by simp [go_sem, x0])) rfl ⟨rfl, bX⟩
end Go.Proofs.YtngnkjbcnmcngaaDoor.Rc
