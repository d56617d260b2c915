/- Layer 17: instances in lists in memory. -/
import Derived.Test.YtmaecknjamnnpaaStIns
import Derived.Test.YtmaecknjamnnpaaRcJ
import Derived.Test.YtmaecknjamnnpaaRs
import Derived.Great.BuildSlice
namespace Go.Proofs.Ytmaecknjamnnpaa.St
open Go.RowKit
set_option linter.unusedVariables false
open Go.Proofs.Ytmaecknjamnnpaa.Rw
open Go.Proofs.Ytmaecknjamnnpaa.Da
open Go.Proofs.Ytmaecknjamnnpaa.Ro
open Go.Proofs.Ytmaecknjamnnpaa.Bv
open Go.Proofs.Ytmaecknjamnnpaa.Rc (Ins ci zeroI)
def cI (i : Ins) : List Value := (ci i).toList
theorem cI_one (i : Ins) : ∀ u ∈ cI i, u.oneCell' = true := by
  intro u hu
  simp only [cI, ci, List.mem_cons, List.not_mem_nil, or_false] at hu
  rcases hu with rfl | rfl | rfl | rfl | rfl | rfl | rfl | rfl | rfl | rfl | rfl | rfl | rfl | rfl | rfl | rfl | rfl | rfl | rfl | rfl | rfl | rfl | rfl | rfl | rfl <;> rfl
def fI : Flat Ins := ⟨25, cI, fun _ => rfl, cI_one⟩
def eI : Enc Ins := fI.enc
abbrev TI (n : Nat) (l : List Ins) (v : Value) (w : World) : Prop := Is eI 37 (Bs.of n) l v w
abbrev OwnI (n Bo : Nat) (l : List Ins) (v : Value) (w : World) : Prop := Own eI 37 (Bs.of n) Bo l v w
abbrev RowI (g cap : Nat) (l : List Ins) (w : World) : Prop := Row fI 37 g cap l w
theorem typesI : 37 ∉ eI.ts := by decide
theorem infoI : (Try.prog.info? 37).map (fun i => (i.zero, i.size, i.bytes)) = some (some (.agg (ci zeroI)), 25, 200) := by kernel_rfl
theorem elemI : Elem Try.prog 22 37 fI.k 200 := elem_of Try.underlying22 infoI rfl (by decide)
theorem elemI' : Elem Try.prog 22 37 eI.k 200 := elemI
theorem TI.stays {n : Nat} {l : List Ins} {v : Value} {w w' : World} (h : TI n l v w) (k : Below w.heap.size w w') : TI n l v w' := Is.stays eI 37 h k
theorem OwnI.ti {n Bo : Nat} {l : List Ins} {v : Value} {w : World} (h : OwnI n Bo l v w) (hn : n ≤ Bo) : TI n l v w := h.is (by decide) ⟨hn, fun _ h => False.elim h⟩
/-- The cells that lie from o on in a block. -/
theorem part_of {w : World} {b o : Nat} {cs : Array Value} (h0 : 0 < cs.size) (h : ∀ (j : Nat) u, cs.toList[j]? = some u → w.cell? ⟨b, o + j, none⟩ = some u) : (row w b).extract o (o + cs.size) = cs := by
  have h1 := h 0 cs[0] (by rw [Array.getElem?_toList, Array.getElem?_eq_getElem h0])
  unfold World.cell? at h1
  unfold row
  cases e : w.heap[b]? with
  | none => simp [e] at h1
  | some ob =>
    cases ob with
    | cells cur t fr =>
      simp only
      apply Array.ext_getElem?
      intro j
      rw [Array.getElem?_extract]
      by_cases hj : j < cs.size
      · have h2 := h j cs[j] (by rw [Array.getElem?_toList, Array.getElem?_eq_getElem hj])
        unfold World.cell? at h2
        simp only [e] at h2
        have hlt : o + j < cur.size := by
          rcases Nat.lt_or_ge (o + j) cur.size with h | h
          · exact h
          · rw [Array.getElem?_eq_none h] at h2; simp at h2
        rw [if_pos (by omega), show cur[o + j]? = some cs[j] by simpa using h2, Array.getElem?_eq_getElem hj]
      · rw [if_neg (by omega), Array.getElem?_eq_none (by omega)]
    | _ => simp [e] at h1
theorem TI.get {n : Nat} {l : List Ins} {v : Value} {w wr : World} (h : TI n l v w) (hb : Below w.heap.size w wr) {k : Nat} (hk : k < l.length) :
    ∃ b off c, v = .slice (some ⟨b, off, none⟩) l.length c ∧ (row wr b).extract (off + k * 25) (off + k * 25 + 25) = ci l[k] ∧ (wr.cell? ⟨b, off + k * 25, none⟩ = some (.int .i64 l[k].pr) ∧ wr.cell? ⟨b, off + k * 25 + 1, none⟩ = some (.int .i64 l[k].ps)) ∧ b < wr.heap.size := by
  rcases (h.stays hb).cases with ⟨e, _⟩ | ⟨e, b, off, c, hv, hl⟩
  · rw [e] at hk; exact absurd hk (by simp)
  · obtain ⟨cs, rfl, hu⟩ := hl.at k hk
    exact ⟨b, off, c, hv, part_of (cs := ci l[k]) (show 0 < 25 by decide) hu, ⟨hu 0 _ rfl, hu 1 _ rfl⟩, hl.1⟩
/-- What an append of a list to one of the call's own comes to. -/
theorem app_list {n Bo : Nat} {l m : List Ins} {v x : Value} {w : World} (h : OwnI n Bo l v w) (hx : TI n m x w) (hn : n ≤ Bo) (hB : Bo ≤ w.heap.size) (hl : l.length + m.length ≤ 100000000) :
    ∃ v' w', appRun Try.prog 22 22 v x w = .ok v' w' ∧ OwnI n Bo (l ++ m) v' w' ∧ (∀ k w0, k ≤ Bo → Below k w0 w → Below k w0 w') := by
  obtain ⟨v', w', h1, h2, _, h3, _⟩ := Own.append elemI' 22 typesI ⟨hn, fun _ h => False.elim h⟩ hB h hx (by omega) (by decide)
  exact ⟨v', w', h1, h2, h3⟩
theorem TI.one {n : Nat} (i : Ins) {w : World} (hn : n ≤ w.heap.size) : TI n [i] (.slice (some ⟨w.heap.size, 0, none⟩) 1 1) (w.alloc (.cells (ci i) 37)) :=
  Is.one (e := eI) (T := 37) (cs := cI i) ⟨hn, fun _ h => False.elim h⟩ rfl
theorem app_oneI {n Bo : Nat} {l : List Ins} {v : Value} {w : World} (h : OwnI n Bo l v w) (hn : n ≤ Bo) (hB : Bo ≤ w.heap.size) (i : Ins) (hl : l.length ≤ 10000000) :
    ∃ v' w', appRun Try.prog 22 22 v (.slice (some ⟨w.heap.size, 0, none⟩) 1 1) (w.alloc (.cells (ci i) 37)) = .ok v' w' ∧ OwnI n Bo (l ++ [i]) v' w' ∧ (∀ k w0, k ≤ Bo → Below k w0 w → Below k w0 w') := by
  obtain ⟨v', w', h1, h2, h3⟩ := app_list (h.stays (below1 w _)) (TI.one i (Nat.le_trans hn hB)) hn (by simp; omega) (m := [i]) (by simp; omega)
  exact ⟨v', w', h1, h2, fun k w0 hk hb => h3 k w0 hk (hb.trans ((below1 w _).mono (Nat.le_trans hk hB)))⟩
/-- The same, with what is kept of other blocks. -/
theorem app_oneK {n Bo : Nat} {l : List Ins} {v : Value} {w : World} (h : OwnI n Bo l v w) (hn : n ≤ Bo) (hB : Bo ≤ w.heap.size) (i : Ins) (hl : l.length ≤ 10000000) :
    ∃ v' w', appRun Try.prog 22 22 v (.slice (some ⟨w.heap.size, 0, none⟩) 1 1) (w.alloc (.cells (ci i) 37)) = .ok v' w' ∧ OwnI n Bo (l ++ [i]) v' w' ∧ (∀ k w0, k ≤ Bo → Below k w0 w → Below k w0 w') ∧ ∀ b cs T, Bx w b cs T → v.ownBlock ≠ some b → Bx w' b cs T := by
  obtain ⟨v', w', h1, h2, h4, h3, _⟩ := Own.append elemI' 22 typesI ⟨hn, fun _ h => False.elim h⟩ (by simp; omega) (h.stays (below1 w _)) (TI.one i (Nat.le_trans hn hB)) (m := [i]) (by simp; omega) (by decide)
  exact ⟨v', w', h1, h2, fun k w0 hk hb => h3 k w0 hk (hb.trans ((below1 w _).mono (Nat.le_trans hk hB))), fun b cs T hb hne => by
    have hb1 := hb.alloc (.cells (ci i) 37)
    exact (h4.block b hb1.lt (fun e => hne e.symm)).trans hb1⟩
theorem own_lt {n Bo : Nat} {l : List Ins} {v : Value} {w : World} (h : OwnI n Bo l v w) {b : Nat} (e : v.ownBlock = some b) : b < w.heap.size := by
  obtain ⟨css, _, _, hr⟩ := h
  exact (hr.lt b e).2
theorem own_less {α : Type} {e : Enc α} {T : TypeId} {B : Bs} {n m : Nat} {l : List α} {v : Value} {w : World} (h : n ≤ m) (k : Own e T B m l v w) : Own e T B n l v w := by
  obtain ⟨css, k1, k2, k3⟩ := k
  exact ⟨css, k1, k2, k3.1, k3.2.imp id fun ⟨g, cap, cur, j1, j2, j3⟩ => ⟨g, cap, cur, j1, Nat.le_trans h j2, j3⟩⟩
/-- An instance stored whole into a row. -/
theorem row_sets {g cap : Nat} {l : List Ins} {w : World} (h : RowI g cap l w) {i : Nat} (hi : i < l.length) (y : Ins) : RowI g cap (l.set i y) (w.setCells g (i * 25) (cI y)) := Row.sets (e := fI) h hi y
section
variable (ρ : Operand → Value) (dst : Option Tmp) (ty : TypeId) (pos : String) (after : Array Edge) (guard : Option (Nat × Bool)) (w : World)
theorem fill1 (i : Ins) (w : World) : (Instr.buildSlice 22 1 #[(0, .agg (ci i))]).run Try.prog w = .ok (.slice (some ⟨w.heap.size, 0, none⟩) 1 1) (w.alloc (.cells (ci i) 37)) := by
  obtain ⟨k, h1, h2, h3, h4⟩ := info_parts infoI
  exact run_buildSlice w 22 37 1 _ (ci i) k _ Try.underlying22 h1 h2 (by rw [h3]; decide) (by rw [h3]; decide) (by rw [h3]; kernel_rfl)
theorem fill2 (i j : Ins) (w : World) : (Instr.buildSlice 22 2 #[(0, .agg (ci i)), (1, .agg (ci j))]).run Try.prog w = .ok (.slice (some ⟨w.heap.size, 0, none⟩) 2 2) (w.alloc (.cells (ci i ++ ci j) 37)) := by
  obtain ⟨k, h1, h2, h3, h4⟩ := info_parts infoI
  exact run_buildSlice w 22 37 2 _ (ci i ++ ci j) k _ Try.underlying22 h1 h2 (by rw [h3]; decide) (by rw [h3]; decide) (by rw [h3]; kernel_rfl)
def isIns (v : Value) : Prop := ∃ i : Ins, v = .agg (ci i)
theorem isIns_ci (i : Ins) : isIns (.agg (ci i)) := ⟨i, rfl⟩
theorem exI1 (x : Operand) (h0 : isIns (ρ x)) :
    (execOp ρ { dst, op := .buildSlice 22 1 #[(0, x)], type := ty, pos, after, guard }).run Try.prog w = .ok (.value (.slice (some ⟨w.heap.size, 0, none⟩) 1 1)) (w.alloc (.cells (ρ x).cells 37)) := by
  obtain ⟨c, hc⟩ := h0
  simp [execOp, hc, fill1, Value.cells]
theorem exI2 (x y : Operand) (h0 : isIns (ρ x)) (h1 : isIns (ρ y)) :
    (execOp ρ { dst, op := .buildSlice 22 2 #[(0, x), (1, y)], type := ty, pos, after, guard }).run Try.prog w = .ok (.value (.slice (some ⟨w.heap.size, 0, none⟩) 2 2)) (w.alloc (.cells ((ρ x).cells ++ (ρ y).cells) 37)) := by
  obtain ⟨c, hc⟩ := h0
  obtain ⟨d, hd⟩ := h1
  simp [execOp, hc, hd, fill2, Value.cells]
theorem storeMidI (p x : Operand) (h : thereOf w (ρ p) 25) (hs : (ρ x).cells.size = 25) (h1 : oneAll (ρ x) = true) (ha : ρ x = .agg (ρ x).cells) : (execOp ρ { dst, op := .store 37 p x, type := ty, pos, after, guard }).run Try.prog w = .ok .skip (putMid w (ρ p) (ρ x).cells) :=
  storeMid (by kernel_rfl) ρ dst ty pos after guard w p x h hs h1 ha
end
attribute [go_sem ↓] exI1 exI2
attribute [go_sem] isIns_ci
end Go.Proofs.Ytmaecknjamnnpaa.St
