/- Layer 18: package instance's Put. -/
import Derived.Test.YtmaecknjamnnpaaInB
import Derived.Deep.CutBlock
import Derived.Deep.DeepCutAuto
import Derived.RegionTactic
namespace Go.Proofs.Ytmaecknjamnnpaa.In
open Go.RowKit
set_option linter.unusedVariables false
open Go.Proofs.Ytmaecknjamnnpaa.Rw
open Go.Proofs.Ytmaecknjamnnpaa.Da
open Go.Proofs.Ytmaecknjamnnpaa.Ro
open Go.Proofs.Ytmaecknjamnnpaa.Bv
open Go.Proofs.Ytmaecknjamnnpaa.Rc (Ins ci zeroI okI)
open Go.Proofs.Ytmaecknjamnnpaa.St
def PostI (F : Value → World → Prop) (w : World) (e : Ending) (w' : World) : Prop := ∃ v, e = .returned v ∧ Below w.heap.size w w' ∧ F v w'
theorem exLo (ρ : Operand → Value) (dst : Option Tmp) (ty : TypeId) (pos : String) (after : Array Edge) (guard : Option (Nat × Bool)) (w : World) (x y : Operand) (h : loOk (ρ x) (ρ y) = true) :
    (execOp ρ { dst, op := .slice 22 x (some y) none none, type := ty, pos, after, guard }).run Try.prog w = .ok (.value (Da.cutLo 25 (natOf (ρ y)) (ρ x))) w :=
  exec_lo ρ dst ty pos after guard w elemI x y h
theorem exHi (ρ : Operand → Value) (dst : Option Tmp) (ty : TypeId) (pos : String) (after : Array Edge) (guard : Option (Nat × Bool)) (w : World) (x y : Operand) (h : hiOk (ρ x) (ρ y) = true) :
    (execOp ρ { dst, op := .slice 22 x none (some y) none, type := ty, pos, after, guard }).run Try.prog w = .ok (.value (Da.cutHi 25 (natOf (ρ y)) (ρ x))) w :=
  exec_hi ρ dst ty pos after guard w elemI x y h
attribute [go_sem ↓] exLo exHi
theorem ti_bx {n b : Nat} {i : Ins} {w : World} (h : Bx w b (ci i) 37) (hn : n ≤ b) : TI n [i] (.slice (some ⟨b, 0, none⟩) 1 1) w := by
  refine ⟨_, 1, rfl, .inr ⟨b, 0, rfl, h.lt, .inr ⟨⟨_, h⟩, fun hb => hb⟩, fun k y hy => ?_⟩⟩
  cases k with
  | zero =>
    simp at hy
    subst hy
    refine ⟨cI i, rfl, fun j u hu => ?_⟩
    rw [h.cell, ← hu]
    show (ci i)[0 + 0 * 25 + j]? = (ci i).toList[j]?
    rw [Array.getElem?_toList]
    simp
  | succ k => simp at hy
/-- What an append of a list comes to, with what is kept of other blocks. -/
theorem app_listK {n Bo : Nat} {l m : List Ins} {v x : Value} {w : World} (h : OwnI n Bo l v w) (hx : TI n m x w) (hn : n ≤ Bo) (hB : Bo ≤ w.heap.size) (hl : l.length + m.length ≤ 100000000) :
    ∃ v' w', appRun Try.prog 22 22 v x w = .ok v' w' ∧ OwnI n Bo (l ++ m) v' w' ∧ (∀ k w0, k ≤ Bo → Below k w0 w → Below k w0 w') ∧ ∀ b cs T, Bx w b cs T → v.ownBlock ≠ some b → Bx w' b cs T := by
  obtain ⟨v', w', h1, h2, h4, h3, _⟩ := Own.append elemI' 22 typesI ⟨hn, fun _ h => False.elim h⟩ hB h hx (by omega) (by decide)
  exact ⟨v', w', h1, h2, h3, fun b cs T hb hne => (h4.block b hb.lt (fun e => hne e.symm)).trans hb⟩
theorem own_madeI (q Bo : Nat) (n : Nat) (w : World) (hB : Bo ≤ w.heap.size) (hn : n ≤ maxLen) : OwnI q Bo [] (.slice (some ⟨w.heap.size, 0, none⟩) 0 n) (w.alloc (.cells (madeCells (ci zeroI) (n * 25)) 37)) := by
  have h := Row.made (e := fI) (T := 37) (w := w) (n := n) (z := ci zeroI) zeroI rfl (by decide)
  have := (h.take 0).owns hB hn
  rw [List.take_zero] at this
  exact ⟨[], rfl, by simp, this⟩
theorem makeI (m : Nat) (hm : m ≤ 100000000) (w : World) : (Instr.makeSlice 22 (.int .i64 0) (.int .i64 m)).run Try.prog w = .ok (.slice (some ⟨w.heap.size, 0, none⟩) 0 m) (w.alloc (.cells (madeCells (ci zeroI) (m * 25)) 37)) := by
  obtain ⟨i, h1, h2, h3, h4⟩ := info_parts infoI
  have := run_make (P := Try.prog) w 22 37 i _ Try.underlying22 h1 h2 .i64 .i64 (0 : Nat) m (by omega) (by omega) (by rw [h4]; omega) (by omega)
  rw [h3] at this
  simpa [Value.cells] using this
/-- Where the walk through the ones ahead has come to. -/
def AheadK (l : List Ins) (i : Ins) (k : Nat) : Prop := k ≤ l.length ∧ (∀ j (h : j < l.length), j < k → lessI l[j] i = true) ∧ ∀ h : k < l.length, lessI l[k] i = false
theorem flt_take {l : List Ins} {i : Ins} {j : Nat} (h : j < l.length) : (l.take (j + 1)).filter (fun x => !atI x i) = if atI l[j] i then (l.take j).filter (fun x => !atI x i) else (l.take j).filter (fun x => !atI x i) ++ [l[j]] := by
  rw [List.take_succ_eq_append_getElem h, List.filter_append]
  cases e : atI l[j] i <;> simp [e]
set_option maxRecDepth 16000 in
set_option maxHeartbeats 8000000 in
theorem put_any (q : Nat) (l : List Ins) (v : Value) (i : Ins) (w : World) (h : TI q l v w) (hc : capOk v) (hq : q ≤ w.heap.size) (hm : l.length ≤ 1000000) :
    Calls Try.prog 18 #[v, .agg (ci i)] w (PostI (OwnI q w.heap.size (putG i l)) w) := by
  obtain ⟨a1, c1, rfl⟩ := h.len
  have hcap : l.length ≤ c1 := hc
  have H := Lib.hid h
  have HC := Lib.hid hc
  obtain ⟨m, hmm⟩ : ∃ m, l.length = m := ⟨_, rfl⟩
  have HN := Lib.hid hmm
  rw [hmm] at hm hcap ⊢
  obtain ⟨g, hg⟩ : ∃ g, putG i l = g := ⟨_, rfl⟩
  have HG := Lib.hid hg
  rw [hg]
  obtain ⟨U, hU⟩ : ∃ Q_ : World, w.alloc (.cells (ci i) 37) = Q_ := ⟨_, rfl⟩
  have bU : Below w.heap.size w U := hU ▸ below1 w _
  have xU : Bx U w.heap.size (ci i) 37 := hU ▸ Bx.new _ _ _
  have hwU : w.heap.size < U.heap.size := xU.lt
  have HwU := Lib.hid hwU
  have Hq := Lib.hid (show q ≤ U.heap.size by omega)
  clear h hc hmm hg
  go_enter Try.func18, Try.ntmps18
  go_upto_block 0 with fail
  go_cut [5] (fun x wx => ∃ k : Nat, x = .int .i64 k ∧ AheadK l i k ∧ Below U.heap.size U wx)
  case first =>
    go_wp2_with fail
    go_loopw [5] (fun x wr => ∃ k : Nat, k ≤ m ∧ x = .int .i64 k ∧ (∀ j (h : j < l.length), j < k → lessI l[j] i = true) ∧ Below U.heap.size U wr) (fun x _ => m - (intOf x).toNat)
    case atStart => exact ⟨0, Nat.zero_le _, rfl, fun j _ h => absurd h (Nat.not_lt_zero _), Below.refl _ _⟩
    case round =>
      obtain ⟨k, hk, rfl, h0, hb⟩ := hrel
      have H0 := Lib.hid h0
      clear h0
      have bw := nx bU hb
      have xr := xU.low hb hwU
      have hsz := hb.size
      by_cases hlt : k < m
      · have hkl : k < l.length := by rw [HN.out]; exact hlt
        have hlt2 : (k : Int) < m := by omega
        have hd : decide ((k : Int) < m) = true := decide_eq_true hlt2
        obtain ⟨b, off, rfl, hbb, hK0⟩ := TI.all H.out bw hkl
        obtain ⟨x, hxx⟩ : ∃ x, l[k] = x := ⟨_, rfl⟩
        have HX := Lib.hid hxx
        rw [hxx] at hK0
        clear hxx
        have hK : ∀ u, Below wr.heap.size wr u → row u w.heap.size = ci i ∧ (row u b).extract (off + k * 25) (off + k * 25 + 2) = #[.int .i64 x.pr, .int .i64 x.ps] := fun u hu => ⟨(xr.stays hu).row, (hK0 u hu).2⟩
        clear hK0
        cases hl : lessI x i with
        | true =>
          have HL : Hid (lessP x.pr x.ps i.pr i.ps = true) := Lib.hid hl
          have HE : Hid (∀ j (h : j < l.length), j < k + 1 → lessI l[j] i = true) := Lib.hid fun j h hj => by
            by_cases e : j = k
            · subst e; rw [HX.out]; exact hl
            · exact H0.out j h (by omega)
          clear hl
          go_wp2
          refine Rg.region (by kernel_rfl) (by kernel_rfl) (by kernel_rfl) (fun _ _ d _ _ h => by cases d <;> exact h) _ rfl ?_
          repeat (first | (refine Rg.Seq.skip (by rfl) ?_; simp only [Act.put, List.setIfInBounds_toArray, List.set_cons_zero, List.set_cons_succ]) | (refine Rg.Seq.pure (v := ?_) (by rfl) ?_ ?_; rotate_left; (intro w_ hS_; have hk_ := hK w_ hS_; go_simp <;> with_reducible rfl); simp only [Act.put, List.setIfInBounds_toArray, List.set_cons_zero, List.set_cons_succ]) | (refine Rg.Seq.call (v := ?_) (f := ?_) (args := ?_) (by rfl) ?_ ?_ ?_; rotate_left 3; (intro w_ hS_; have hk_ := hK w_ hS_; go_simp <;> first | with_reducible rfl | (constructor <;> with_reducible rfl)); (intro w_ hS_; first | (go_at_call 35; refine (less_is HL _).mono ?_; rintro e w_ ⟨rfl, hb_⟩; refine ⟨?_, nx hS_ hb_⟩; with_reducible rfl)); simp only [Act.put, List.setIfInBounds_toArray, List.set_cons_zero, List.set_cons_succ]))
          intro w1 hb1
          go_wp2
          go_roundw
          case rel => exact ⟨k + 1, by omega, by go_num, HE.out, hb.trans (hb1.mono hsz)⟩
          case measure => simp [intOf]; omega
        | false =>
          have HL : Hid (lessP x.pr x.ps i.pr i.ps = false) := Lib.hid hl
          have HA : Hid (AheadK l i k) := Lib.hid ⟨by omega, H0.out, fun h => by rw [HX.out]; exact hl⟩
          clear hl
          go_wp2
          refine Rg.region (by kernel_rfl) (by kernel_rfl) (by kernel_rfl) (fun _ _ d _ _ h => by cases d <;> exact h) _ rfl ?_
          repeat (first | (refine Rg.Seq.skip (by rfl) ?_; simp only [Act.put, List.setIfInBounds_toArray, List.set_cons_zero, List.set_cons_succ]) | (refine Rg.Seq.pure (v := ?_) (by rfl) ?_ ?_; rotate_left; (intro w_ hS_; have hk_ := hK w_ hS_; go_simp <;> with_reducible rfl); simp only [Act.put, List.setIfInBounds_toArray, List.set_cons_zero, List.set_cons_succ]) | (refine Rg.Seq.call (v := ?_) (f := ?_) (args := ?_) (by rfl) ?_ ?_ ?_; rotate_left 3; (intro w_ hS_; have hk_ := hK w_ hS_; go_simp <;> first | with_reducible rfl | (constructor <;> with_reducible rfl)); (intro w_ hS_; first | (go_at_call 35; refine (less_is HL _).mono ?_; rintro e w_ ⟨rfl, hb_⟩; refine ⟨?_, nx hS_ hb_⟩; with_reducible rfl)); simp only [Act.put, List.setIfInBounds_toArray, List.set_cons_zero, List.set_cons_succ]))
          intro w1 hb1
          go_wp2
          go_meet
          exact ⟨k, rfl, HA.out, hb.trans (hb1.mono hsz)⟩
      · obtain rfl : k = m := by omega
        have hd : decide ((k : Int) < k) = false := decide_eq_false (by omega)
        have HA : Hid (AheadK l i k) := Lib.hid ⟨by rw [HN.out]; exact Nat.le_refl _, H0.out, fun h => absurd h (by rw [HN.out]; exact Nat.lt_irrefl _)⟩
        have hK : ∀ u, Below wr.heap.size wr u → row u w.heap.size = ci i := fun u hu => (xr.stays hu).row
        go_wp2
        refine Rg.region (by kernel_rfl) (by kernel_rfl) (by kernel_rfl) (fun _ _ d _ _ h => by cases d <;> exact h) _ rfl ?_
        repeat (first | (refine Rg.Seq.skip (by rfl) ?_; simp only [Act.put, List.setIfInBounds_toArray, List.set_cons_zero, List.set_cons_succ]) | (refine Rg.Seq.pure (v := ?_) (by rfl) ?_ ?_; rotate_left; (intro w_ hS_; have hk_ := hK w_ hS_; go_simp <;> with_reducible rfl); simp only [Act.put, List.setIfInBounds_toArray, List.set_cons_zero, List.set_cons_succ]))
        intro w1 hb1
        go_wp2
        go_meet
        exact ⟨k, rfl, HA.out, hb.trans (hb1.mono hsz)⟩
  case rest =>
  obtain ⟨k, rfl, hA, hb⟩ := hcut
  have HA := Lib.hid hA
  have hkm : k ≤ m := by rw [← HN.out]; exact hA.1
  clear hA
  have hmk := makeI (m + 1) (by omega) wc
  rw [show (((m + 1 : Nat) : Int)) = (m : Int) + 1 from by omega] at hmk
  have bw := nx bU hb
  have hszc := hb.size
  obtain ⟨M, hM⟩ : ∃ Q_ : World, wc.alloc (.cells (madeCells (ci zeroI) ((m + 1) * 25)) 37) = Q_ := ⟨_, rfl⟩
  have oM : OwnI q U.heap.size [] (.slice (some ⟨wc.heap.size, 0, none⟩) 0 (m + 1)) M := hM ▸ own_madeI q U.heap.size (m + 1) wc hszc (by unfold maxLen; omega)
  have bM : Below wc.heap.size wc M := hM ▸ below1 _ _
  have hMs : M.heap.size = wc.heap.size + 1 := by rw [← hM]; simp
  have HOM := Lib.hid oM
  have hUM : U.heap.size ≤ M.heap.size := by have := bM.size; omega
  have bUM := hb.trans (bM.mono hszc)
  have bwM := nx bw bM
  clear oM
  rw [hM] at hmk
  have HMs := Lib.hid hMs
  clear hMs
  go_upto_region 5 with fail
  obtain ⟨tk, htk⟩ : ∃ tk, l.take k = tk := ⟨_, rfl⟩
  have HTK := Lib.hid htk
  have HTl : Hid (tk.length ≤ 1000000) := Lib.hid (by rw [← htk, List.length_take, HN.out]; omega)
  have HhiI : Hid (TI q tk (Da.cutHi 25 k (.slice a1 m c1)) M) := Lib.hid (by
    have := (Is.cutHi (H.out.stays bwM) (k := k) (by rw [HN.out]; exact hkm))
    rw [HN.out, htk] at this
    exact this)
  obtain ⟨sv, hsv⟩ : ∃ sv, Da.cutHi 25 k (.slice a1 m c1) = sv := ⟨_, rfl⟩
  rw [hsv] at HhiI
  have hkc : k ≤ c1 := by omega
  have hkc2 : decide (k ≤ c1) = true := decide_eq_true hkc
  go_cut [6] (fun t wx => OwnI q U.heap.size (tk ++ [i]) t wx ∧ Below U.heap.size U wx)
  case first =>
    obtain ⟨D, hD⟩ : ∃ Q_ : World, M.drew = Q_ := ⟨_, rfl⟩
    have hMs := HMs.out
    have bD : Below M.heap.size M D := hD ▸ (Below.refl _ _).drew
    have xM : Bx M w.heap.size (ci i) 37 := xU.low bUM hwU
    have xD := xM.stays bD
    have hUD : U.heap.size ≤ D.heap.size := by have := bD.size; omega
    -- the append first
    obtain ⟨vA, wA, runA, ownA, belA, kA⟩ := app_listK (HOM.out.stays bD) (HhiI.out.stays bD) Hq.out hUD (by have := HTl.out; simp; omega)
    rw [List.nil_append] at ownA
    have bA := belA U.heap.size D (Nat.le_refl _) (Below.refl _ _)
    have xA := xD.low bA hwU
    obtain ⟨vA2, wA2, runA2, ownA2, belA2⟩ := app_oneI ownA Hq.out (show U.heap.size ≤ wA.heap.size by have := bA.size; omega) i (by have := HTl.out; omega)
    have bA2 := belA2 U.heap.size D (Nat.le_refl _) bA
    -- the literal first
    obtain ⟨E, hE⟩ : ∃ Q_ : World, D.alloc (.cells (ci i) 37) = Q_ := ⟨_, rfl⟩
    have bE : Below D.heap.size D E := hE ▸ below1 _ _
    have eE : Bx E D.heap.size (ci i) 37 := hE ▸ Bx.new _ _ _
    have hUE : U.heap.size ≤ E.heap.size := by have := bE.size; omega
    obtain ⟨vB, wB, runB, ownB, belB, kB⟩ := app_listK ((HOM.out.stays bD).stays bE) ((HhiI.out.stays bD).stays bE) Hq.out hUE (by have := HTl.out; simp; omega)
    rw [List.nil_append] at ownB
    have bB := belB U.heap.size D (Nat.le_refl _) (bE.mono hUD)
    have eB := kB _ _ _ eE (by simp [Value.ownBlock]; have := bD.size; omega)
    obtain ⟨vB2, wB2, runB2, ownB2, belB2, _⟩ := app_listK ownB (ti_bx eB (show q ≤ D.heap.size by have := Hq.out; omega)) Hq.out (show U.heap.size ≤ wB.heap.size by have := bB.size; omega) (by have := HTl.out; simp; omega)
    have bB2 := belB2 U.heap.size D (Nat.le_refl _) bB
    have rM := xM.row
    have rD := xD.row
    have rE := (xD.stays bE).row
    have rA := xA.row
    have rB := (xD.low bB hwU).row
    have bUD := bUM.trans (bD.mono hUM)
    have HA2 := Lib.hid (And.intro ownA2 (bUD.trans bA2))
    have HB2 := Lib.hid (And.intro ownB2 (bUD.trans bB2))
    clear ownA2 ownB2 ownA ownB belA belA2 belB belB2 kA kB bA bB bA2 bB2 eB eE xA xD xM
    clear hMs
    go_region
    all_goals
      go_wp2
      go_meet
      first
      | exact HA2.out
      | exact HB2.out
  case rest =>
  obtain ⟨hown, hb2⟩ := hcut
  have HO := Lib.hid hown
  clear hown hsv hmk hM bM bUM bwM
  obtain ⟨dl, hdl⟩ : ∃ dl, l.drop k = dl := ⟨_, rfl⟩
  have hdlen : dl.length = m - k := by rw [← hdl, List.length_drop, HN.out]
  have HDL := Lib.hid hdl
  obtain ⟨n2, hn2⟩ : ∃ n2, m - k = n2 := ⟨_, rfl⟩
  have HLN := Lib.hid (hdlen.trans hn2)
  have hn2m : n2 ≤ m := by omega
  have hcl := Is.cutLo H.out HC.out (k := k) (by rw [HN.out]; exact hkm)
  rw [HN.out, hdl] at hcl
  obtain ⟨a2, c2, hlv⟩ := hcl.len
  have hlv2 : Da.cutLo 25 k (.slice a1 m c1) = .slice a2 n2 c2 := by rw [← hn2, ← hdlen]; exact hlv
  rw [hlv, HLN.out] at hcl
  have HD := Lib.hid (show TI q dl (.slice a2 n2 c2) w from hcl)
  have hkm2 : decide (k ≤ m) = true := decide_eq_true hkm
  clear hcl hlv hdl hdlen hn2 hb bw hszc
  go_wp2
  go_loopw [6, 41] (fun t x wr => ∃ (j : Nat), j ≤ n2 ∧ x = .int .i64 j ∧ OwnI q U.heap.size (tk ++ i :: (dl.take j).filter (fun x => !atI x i)) t wr ∧ Below U.heap.size U wr) (fun _ x _ => n2 - (intOf x).toNat)
  case atStart => exact ⟨0, Nat.zero_le _, rfl, HO.out, hb2⟩
  case round =>
    obtain ⟨j, hj, rfl, ho, hb⟩ := hrel
    have HO2 := Lib.hid ho
    have bw := nx bU hb
    have xr := xU.low hb HwU.out
    have hsz := hb.size
    obtain ⟨out, hout⟩ : ∃ out, tk ++ i :: (dl.take j).filter (fun x => !atI x i) = out := ⟨_, rfl⟩
    have hol : out.length ≤ 3000000 := by
      rw [← hout, List.length_append, List.length_cons]
      have h1 := List.length_filter_le (fun x => !atI x i) (dl.take j)
      rw [List.length_take] at h1
      have := HTl.out
      omega
    have HOU := Lib.hid hout
    rw [hout] at HO2
    clear ho hout
    by_cases hlt : j < n2
    · have hjl : j < dl.length := by rw [HLN.out]; exact hlt
      have hlt2 : (j : Int) < n2 := by omega
      obtain ⟨b, off, rfl, hbb, hK0⟩ := TI.all HD.out bw hjl
      have hx := (hK0 wr (Below.refl _ _)).1
      have hft := flt_take (i := i) hjl
      obtain ⟨x, hxx⟩ : ∃ x, dl[j] = x := ⟨_, rfl⟩
      rw [hxx] at hx hft
      have HFT := Lib.hid hft
      clear hxx hK0 hft
      obtain ⟨V, hV⟩ : ∃ Q_ : World, (wr.alloc (.cells (ci zeroI) 37)).setRow wr.heap.size (ci x) = Q_ := ⟨_, rfl⟩
      have xV : Bx V wr.heap.size (ci x) 37 := hV ▸ Bx.put (Bx.new _ _ _) _
      have bV : Below wr.heap.size wr V := hV ▸ below_setRow (below1 _ _) (Nat.le_refl _) _
      have hplain := (Bx.new wr (ci zeroI) 37).plain (n := 25) rfl
      have rx := xV.row
      have ri := (xr.stays bV).row
      have hbV := hb.trans (bV.mono hsz)
      have hUV : U.heap.size ≤ V.heap.size := by have := bV.size; omega
      cases hat : atI x i with
      | true =>
        have hq2 : (x.pr == i.pr && x.ps == i.ps) = true := by rw [at_pl, atP_at]; exact hat
        have HF : Hid (tk ++ i :: (dl.take (j + 1)).filter (fun x => !atI x i) = out) := Lib.hid (by rw [HFT.out, hat, ← HOU.out]; rfl)
        have HO3 := Lib.hid (HO2.out.stays bV)
        clear hat
        go_wp2
        go_roundw
        case rel => exact ⟨j + 1, by omega, by go_num, by rw [HF.out]; exact HO3.out, hbV⟩
        case measure => simp [intOf]; omega
      | false =>
        have hq2 : (x.pr == i.pr && x.ps == i.ps) = false := by rw [at_pl, atP_at]; exact hat
        have HF : Hid (tk ++ i :: (dl.take (j + 1)).filter (fun x => !atI x i) = out ++ [x]) := Lib.hid (by rw [HFT.out, hat, ← HOU.out]; simp)
        obtain ⟨v', w', hrun, hown', hbl⟩ := app_oneI (HO2.out.stays bV) Hq.out hUV x (by omega)
        have bl := hbl U.heap.size U (Nat.le_refl _) hbV
        have HO3 := Lib.hid hown'
        clear hat hown' hbl
        go_wp2
        go_roundw
        case rel => exact ⟨j + 1, by omega, by go_num, by rw [HF.out]; exact HO3.out, bl⟩
        case measure => simp [intOf]; omega
    · obtain rfl : j = n2 := by omega
      have HF : Hid (out = g) := Lib.hid (by
        rw [← HOU.out, ← HG.out, putG_at HA.out.1 HA.out.2.1 HA.out.2.2, HTK.out, HDL.out, ← HLN.out, List.take_length])
      go_wp2
      go_ret
      exact ⟨_, rfl, bw, by rw [← HF.out]; exact own_less (Nat.le_of_lt HwU.out) HO2.out⟩
end Go.Proofs.Ytmaecknjamnnpaa.In
