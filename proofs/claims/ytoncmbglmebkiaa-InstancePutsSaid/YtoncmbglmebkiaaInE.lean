/- Layer 18: the map of what each place has come to; package instance's statuses. -/
import Derived.Test.YtoncmbglmebkiaaInB
import Derived.Test.YtoncmbglmebkiaaMv
import Derived.Maps.OwnOps
import Derived.DeepKeys4
namespace Go.Proofs.Ytoncmbglmebkiaa.In
open Go.RowKit Go.Maps
open Go.ChangeMaps Go.ChangeShapes Go.WideShapes
set_option linter.unusedVariables false
open Go.Proofs.Ytoncmbglmebkiaa.Rw
open Go.Proofs.Ytoncmbglmebkiaa.Da
open Go.Proofs.Ytoncmbglmebkiaa.Bv
open Go.Proofs.Ytoncmbglmebkiaa.Mv
open Go.Proofs.Ytoncmbglmebkiaa.Rc (Ins ci zeroI okI)
open Go.Proofs.Ytoncmbglmebkiaa.St
theorem laidOutP : laidOutB Try.prog = true := by kernel_rfl
theorem lawPl : Go.WideMaps.KeyLaw Try.prog 24 := deep_law_laid laidOutP (m := 2) (by omega) (of_decide_eq_true (by kernel_rfl)) (by kernel_rfl) (by kernel_rfl)
theorem keyedPl : Keyed Try.prog 24 := Keyed.of_law lawPl
theorem zeroN (w : World) : (zeroValue 3).run Try.prog w = .ok (.int .i64 0) w := by kernel_rfl
/-- Numbers that an int may be. -/
def Num (x : Int) : Prop := -9223372036854775808 ≤ x ∧ x ≤ 9223372036854775807
theorem num_wf {x : Int} (h : Num x) : (Lit.int .i64 x).wf = true := Go.WalkArith.wf_i64 (by unfold Num at h; omega)
def KPl (v : Value) : Prop := ∃ r s : Int, Num r ∧ Num s ∧ v = .agg #[.int .i64 r, .int .i64 s]
theorem keyTy : Try.prog.keyType 24 = true := by kernel_rfl
theorem cellsPl : Try.prog.cellsOf 24 = 2 := by kernel_rfl
theorem cellsIn : Try.prog.cellsOf 3 = 1 := by kernel_rfl
theorem keyLitI (n : Nat) {x : Int} (h : Num x) : Try.prog.keyLits (n + 1) 3 [.int .i64 x] = some [.int .i64 x] := by
  unfold Program.keyLits
  rw [Try.underlying3]
  simp [num_wf h]
theorem keyPl {r s : Int} (hr : Num r) (hs : Num s) : ∃ kl, keyOf Try.prog 24 (.agg #[.int .i64 r, .int .i64 s]) = some kl := by
  obtain ⟨n, hn⟩ : ∃ n, Try.prog.types.size + 1 = n + 1 + 1 := ⟨Try.prog.types.size - 1, by have : 0 < Try.prog.types.size := of_decide_eq_true (by kernel_rfl); omega⟩
  have hf : Value.formed Try.prog 24 (.agg #[.int .i64 r, .int .i64 s]) = true := by
    unfold Value.formed
    rw [Rc.fieldsP]
    simp [cellsPl]
  unfold keyOf
  rw [Rc.fieldsP]
  simp only [keyTy, hf, Bool.and_self, if_true, hn]
  unfold Program.keyLits
  rw [Try.underlying24]
  simp [cellsPl, cellsIn, keyLitI, hr, hs, Value.cells]
/-- What the first instance of each place has come to. -/
def stM (l : List Ins) : Value → Option Value
  | .agg #[.int _ r, .int _ s] => if hasI l r s then some (.int .i64 (gotI l r s).st) else none
  | _ => none
abbrev MS (l : List Ins) (b n : Nat) (w : World) : Prop := MV Try.prog 24 KPl (stM l) b n w
theorem has_snoc (l : List Ins) (x : Ins) (r s : Int) : hasI (l ++ [x]) r s = (hasI l r s || atP x r s) := by unfold hasI; simp
theorem got_snoc (l : List Ins) (x : Ins) (r s : Int) : gotI (l ++ [x]) r s = if hasI l r s then gotI l r s else if atP x r s then x else placeI r s := by
  induction l with
  | nil => exact got_cons x [] r s
  | cons y l ih =>
    rw [List.cons_append, got_cons, got_cons, has_cons, ih]
    cases atP y r s <;> simp
theorem MS.look {l : List Ins} {b n : Nat} {w : World} (h : MS l b n w) {r s : Int} (hr : Num r) (hs : Num s) :
    (Instr.lookup 59 (.map (some b)) (.agg #[.int .i64 r, .int .i64 s]) false).run Try.prog w = .ok (.int .i64 (gotI l r s).st) w := by
  obtain ⟨kl, hk⟩ := keyPl hr hs
  have := MV.look h keyedPl Try.underlying59 zeroN (key := .agg #[.int .i64 r, .int .i64 s]) ⟨r, s, hr, hs, rfl⟩ hk false
  rw [if_neg (by decide)] at this
  rw [this]
  congr 1
  show (if hasI l r s then some (Value.int .i64 (gotI l r s).st) else none).getD (.int .i64 0) = _
  cases e : hasI l r s with
  | true => rfl
  | false => rw [got_none e]; rfl
theorem MS.look2 {l : List Ins} {b n : Nat} {w : World} (h : MS l b n w) {r s : Int} (hr : Num r) (hs : Num s) :
    ∃ y, (Instr.lookup 59 (.map (some b)) (.agg #[.int .i64 r, .int .i64 s]) true).run Try.prog w = .ok (.tuple #[.int .i64 y, .bool (hasI l r s)]) w := by
  obtain ⟨kl, hk⟩ := keyPl hr hs
  have := MV.look h keyedPl Try.underlying59 zeroN (key := .agg #[.int .i64 r, .int .i64 s]) ⟨r, s, hr, hs, rfl⟩ hk true
  rw [if_pos rfl] at this
  refine ⟨if hasI l r s then (gotI l r s).st else 0, ?_⟩
  rw [this]
  show Result.ok (Value.tuple #[(if hasI l r s then some (Value.int .i64 (gotI l r s).st) else none).getD (.int .i64 0), .bool (if hasI l r s then some (Value.int .i64 (gotI l r s).st) else none).isSome]) w = _
  cases e : hasI l r s <;> rfl
theorem MS.put {l : List Ins} {b n : Nat} {w : World} (h : MS l b n w) (hn : n < maxLen) (x : Ins) (hr : Num x.pr) (hs : Num x.ps) (hh : hasI l x.pr x.ps = false) :
    ∃ w', (Instr.mapUpdate 59 (.map (some b)) (.agg #[.int .i64 x.pr, .int .i64 x.ps]) (.int .i64 x.st)).run Try.prog w = .ok () w' ∧ MS (l ++ [x]) b (n + 1) w' ∧ w.grownBy w' (some b) := by
  obtain ⟨kl, hk⟩ := keyPl hr hs
  refine MV.put h keyedPl Try.underlying59 hn hk ?_ fun u ⟨r, s, _, _, e⟩ hne => ?_
  · show (if hasI (l ++ [x]) x.pr x.ps then some (Value.int .i64 (gotI (l ++ [x]) x.pr x.ps).st) else none) = _
    have ha : atP x x.pr x.ps = true := atP_iff.2 ⟨rfl, rfl⟩
    rw [has_snoc, got_snoc, hh, ha]; rfl
  · subst e
    have ha : atP x r s = false := atP_no.2 fun ⟨e1, e2⟩ => hne (by rw [e1, e2])
    show (if hasI (l ++ [x]) r s then some (Value.int .i64 (gotI (l ++ [x]) r s).st) else none) = if hasI l r s then some (Value.int .i64 (gotI l r s).st) else none
    rw [has_snoc, got_snoc, ha, Bool.or_false]
    cases hasI l r s <;> rfl
theorem MS.same {l : List Ins} {b n : Nat} {w : World} (h : MS l b n w) (x : Ins) (hh : hasI l x.pr x.ps = true) : MS (l ++ [x]) b n w := by
  refine MV.congr h fun u ⟨r, s, _, _, e⟩ => ?_
  subst e
  show (if hasI (l ++ [x]) r s then some (Value.int .i64 (gotI (l ++ [x]) r s).st) else none) = if hasI l r s then some (Value.int .i64 (gotI l r s).st) else none
  rw [has_snoc, got_snoc]
  cases e : hasI l r s with
  | true => rfl
  | false =>
    have ha : atP x r s = false := atP_no.2 fun ⟨e1, e2⟩ => by rw [e1, e2, e] at hh; cases hh
    rw [ha]; rfl
def Nums (l : List Ins) : Prop := ∀ i ∈ l, Num i.pr ∧ Num i.ps
def StatP (l : List Ins) (w : World) (e : Ending) (w' : World) : Prop := ∃ b n, e = .returned (.map (some b)) ∧ w.heap.size ≤ b ∧ MS l b n w' ∧ Below w.heap.size w w'
set_option maxRecDepth 8000 in
set_option maxHeartbeats 4000000 in
theorem statuses_any (q : Nat) (l : List Ins) (v : Value) (w : World) (h : TI q l v w) (hm : l.length ≤ 1000000) (hN : Nums l) :
    Calls Try.prog 22 #[v] w (StatP l w) := by
  obtain ⟨a1, c1, rfl⟩ := h.len
  have H := Lib.hid h
  have HNu := Lib.hid hN
  obtain ⟨m, hmm⟩ : ∃ m, l.length = m := ⟨_, rfl⟩
  have HN := Lib.hid hmm
  rw [hmm] at hm ⊢
  have hmk : (Instr.makeMap 59 (some (.int .i64 (m : Int)))).run Try.prog w = .ok (.map (some w.heap.size)) (w.alloc (.map #[] 0)) := by
    simp [Instr.makeMap, asInt, asIntOf]
  have HM0 : Hid (MS [] w.heap.size 0 (w.alloc (.map #[] 0))) := Lib.hid (MV.congr (MV.made w) fun u ⟨r, s, _, _, e⟩ => by subst e; rfl)
  clear h hmm hN
  go_enter Try.func22, Try.ntmps22
  go_wp2
  go_loopw [13] (fun x wr => ∃ k n : Nat, k ≤ m ∧ n ≤ k ∧ x = .int .i64 k ∧ MS (l.take k) w.heap.size n wr ∧ Below w.heap.size w wr) (fun x _ => m - (intOf x).toNat)
  case atStart => exact ⟨0, 0, Nat.zero_le _, Nat.le_refl _, rfl, HM0.out, below1 _ _⟩
  case round =>
    obtain ⟨k, n, hk, hnk, rfl, hM, hb⟩ := hrel
    have HM := Lib.hid hM
    have hwr : w.heap.size < wr.heap.size := MV.lt hM
    clear hM
    by_cases hlt : k < m
    · have hkl : k < l.length := by rw [HN.out]; exact hlt
      have hlt2 : (k : Int) < m := by omega
      obtain ⟨b, off, rfl, hbb, hK0⟩ := TI.all H.out hb hkl
      have hx := (hK0 wr (Below.refl _ _)).1
      have HT := Lib.hid (List.take_succ_eq_append_getElem hkl)
      have HNx := Lib.hid (HNu.out l[k] (List.getElem_mem hkl))
      obtain ⟨x, hxx⟩ : ∃ x, l[k] = x := ⟨_, rfl⟩
      rw [hxx] at hx HT HNx
      clear hxx hK0
      obtain ⟨V, hV⟩ : ∃ Q_ : World, (wr.alloc (.cells (ci zeroI) 35)).setRow wr.heap.size (ci x) = Q_ := ⟨_, rfl⟩
      have xV : Bx V wr.heap.size (ci x) 35 := hV ▸ Bx.put (Bx.new _ _ _) _
      have bV : Below wr.heap.size wr V := hV ▸ below_setRow (below1 _ _) (Nat.le_refl _) _
      have hplain := (Bx.new wr (ci zeroI) 35).plain (n := 25) rfl
      have rx := xV.row
      have k6 : V.cell? ⟨wr.heap.size, 6, none⟩ = some (.int .i64 x.st) := xV.cell 6
      have bw := nx hb bV
      have MVv : MS (l.take k) w.heap.size n V := MV.stays HM.out bV
      obtain ⟨y, hlk⟩ := MS.look2 MVv HNx.out.1 HNx.out.2
      cases hh : hasI (l.take k) x.pr x.ps with
      | true =>
        rw [hh] at hlk
        have HS := Lib.hid (MS.same MVv x hh)
        clear MVv hh
        go_wp2
        go_roundw
        case rel => exact ⟨k + 1, n, by omega, by omega, by go_num, by rw [HT.out]; exact HS.out, bw⟩
        case measure => simp [intOf]; omega
      | false =>
        rw [hh] at hlk
        obtain ⟨w', hput, hM2, hgr⟩ := MS.put MVv (by unfold maxLen; omega) x HNx.out.1 HNx.out.2 hh
        have HS := Lib.hid hM2
        have HB : Hid (Below w.heap.size w w') := Lib.hid (bw.grown hgr (by have := bw.size; exact this) (fun q hq => by cases hq; exact Nat.le_refl _))
        clear MVv hh hM2 hgr
        go_wp2
        go_roundw
        case rel => exact ⟨k + 1, n + 1, by omega, by omega, by go_num, by rw [HT.out]; exact HS.out, HB.out⟩
        case measure => simp [intOf]; omega
    · obtain rfl : k = m := by omega
      have HE : Hid (l.take k = l) := Lib.hid (by rw [← HN.out, List.take_length])
      go_wp2
      go_ret
      exact ⟨_, n, rfl, Nat.le_refl _, by rw [← HE.out]; exact HM.out, hb⟩
end Go.Proofs.Ytoncmbglmebkiaa.In
