/- Of the statements of layer 14: the calls that came in, as a list; far. -/
import Derived.Test.YtegepbifbhamnaaDkQ
import Derived.Deep.Slices
import Derived.Deep.Fields
import Derived.ChangeSame
import Derived.OpenShut
namespace Go.Proofs.Ytegepbifbhamnaa.Dk
open Go.RowKit
set_option linter.unusedVariables false
open Go.ChangeShapes Go.WideShapes Go.Deep
open Go.Proofs.Ytegepbifbhamnaa.Rw
open Go.Proofs.Ytegepbifbhamnaa.Da
def cellsC (o : Op5) : List Value := [.int .i64 o.1, .int .i64 o.2.1, .int .i64 o.2.2.1, .int .i64 o.2.2.2.1, .string o.2.2.2.2]
def eC : Enc Op5 := Enc.flat 5 cellsC (fun _ => rfl) (fun o u hu => by simp [cellsC] at hu; rcases hu with rfl | rfl | rfl | rfl | rfl <;> rfl)
abbrev CL (B : Bs) (l : List Op5) (v : Value) (w : World) : Prop := Is eC 31 B l v w
theorem atC {B : Bs} {l : List Op5} {b off : Nat} {w : World} (h : Lies eC 31 B l b off w) (i : Nat) (hi : i < l.length) :
    w.cell? ⟨b, off + i * 5, none⟩ = some (.int .i64 l[i].1) ∧ w.cell? ⟨b, off + i * 5 + 1, none⟩ = some (.int .i64 l[i].2.1) ∧ w.cell? ⟨b, off + i * 5 + 2, none⟩ = some (.int .i64 l[i].2.2.1) ∧ w.cell? ⟨b, off + i * 5 + 3, none⟩ = some (.int .i64 l[i].2.2.2.1) ∧ w.cell? ⟨b, off + i * 5 + 4, none⟩ = some (.string l[i].2.2.2.2) := by
  obtain ⟨cs, rfl, hu⟩ := h.at i hi
  exact ⟨hu 0 _ rfl, hu 1 _ rfl, hu 2 _ rfl, hu 3 _ rfl, hu 4 _ rfl⟩
theorem cellsI : Try.prog.cellsOf 3 = 1 := by kernel_rfl
theorem cellsSt : Try.prog.cellsOf 9 = 1 := by kernel_rfl
theorem cellsC5 : Try.prog.cellsOf 31 = 5 := by kernel_rfl
theorem add_eq (b off j : Nat) : (⟨b, off, none⟩ : Addr).add j = ⟨b, off + j, none⟩ := by
  unfold Addr.add
  split
  · rename_i h; rw [h]; rfl
  · rfl
theorem cell_block {w : World} {p : Addr} {v : Value} (h : w.cell? p = some v) : p.block < w.heap.size := by
  apply Nat.lt_of_not_le
  intro hc
  have : w.heap[p.block]? = none := Array.getElem?_eq_none hc
  unfold World.cell? at h
  simp [this] at h
/-- Elements that were read each for itself make a list. -/
theorem is_of {α : Type} [Inhabited α] (e : Enc α) (T : TypeId) (h0 : 0 < e.k) (w : World) (a : Addr) (len c : Nat) (good : α → Prop)
    (h : ∀ i, i < len → ∃ x cs, good x ∧ e.R (Bs.of w.heap.size) x cs w ∧ ∀ j u, cs[j]? = some u → w.cell? ((a.add (i * e.k)).add j) = some u) : ∃ l, Is e T (Bs.of w.heap.size) l (.slice (some a) len c) w ∧ l.length = len ∧ ∀ x ∈ l, good x := by
  classical
  have hg : ∀ i, ∃ x, i < len → good x ∧ ∃ cs, e.R (Bs.of w.heap.size) x cs w ∧ ∀ j u, cs[j]? = some u → w.cell? ((a.add (i * e.k)).add j) = some u := fun i => by
    by_cases hi : i < len
    · obtain ⟨x, cs, h1, h2, h3⟩ := h i hi; exact ⟨x, fun _ => ⟨h1, cs, h2, h3⟩⟩
    · exact ⟨default, fun e => absurd e hi⟩
  let f := fun i => Classical.choose (hg i)
  have hf : ∀ i, i < len → good (f i) ∧ ∃ cs, e.R (Bs.of w.heap.size) (f i) cs w ∧ ∀ j u, cs[j]? = some u → w.cell? ((a.add (i * e.k)).add j) = some u := fun i => Classical.choose_spec (hg i)
  have hlen : ((List.range len).map f).length = len := by simp
  refine ⟨(List.range len).map f, ⟨some a, c, by rw [hlen], ?_⟩, hlen, fun x hx => ?_⟩
  · by_cases e0 : len = 0
    · left; subst e0; exact ⟨rfl, fun e => by cases e⟩
    · right
      obtain ⟨_, cs, hR, hu⟩ := hf 0 (by omega)
      have h1 : 0 < cs.length := by rw [e.len hR]; exact h0
      have h2 := hu 0 _ (List.getElem?_eq_getElem h1)
      have h3 := World.cell?_spot h2
      obtain ⟨b, off, spot⟩ := a
      obtain rfl : spot = none := by simpa [Addr.add] using h3
      have h4 := cell_block h2
      rw [add_eq, add_eq] at h4
      refine ⟨b, off, rfl, h4, .inl h4, fun i x hx => ?_⟩
      have hi : i < len := by
        rcases Nat.lt_or_ge i len with h | h
        · exact h
        · rw [List.getElem?_eq_none (by rw [hlen]; exact h)] at hx; cases hx
      have e2 : f i = x := by simpa [hi] using hx
      subst e2
      obtain ⟨_, ds, hR2, hu2⟩ := hf i hi
      refine ⟨ds, hR2, fun j u hj => ?_⟩
      have := hu2 j u hj
      rwa [add_eq, add_eq] at this
  · obtain ⟨i, hi, rfl⟩ := List.mem_map.1 hx
    exact (hf i (List.mem_range.1 hi)).1
theorem one_of {H : Type} {en : TypeId × Value → H} {w : World} {base n : Nat} {sp : Nat → Bool} {held : Bool} {cs : List Value} {y : DataW H × List MemPlace} {t : TypeId} (ht : Try.prog.underlying t = some (.int .i64)) (j : Nat)
    (h : DataW.trod en Try.prog w base sp held n t ((cs.drop j).take 1) = some y) : ∃ x, cs[j]? = some (.int .i64 x) ∧ (Lit.int .i64 x).wf = true := by
  obtain ⟨x, e, _, hw⟩ := DataW.trod_int ht h
  refine ⟨x, ?_, hw⟩
  have e2 : ((cs.drop j).take 1)[0]? = some (.int .i64 x) := by rw [e]; rfl
  simpa using e2
theorem str_of {H : Type} {en : TypeId × Value → H} {w : World} {base n : Nat} {sp : Nat → Bool} {held : Bool} {cs : List Value} {y : DataW H × List MemPlace} {t : TypeId} (ht : Try.prog.underlying t = some .string) (j : Nat)
    (h : DataW.trod en Try.prog w base sp held n t ((cs.drop j).take 1) = some y) : ∃ x, cs[j]? = some (.string x) ∧ x.size ≤ maxLen := by
  obtain ⟨x, e, _, hw⟩ := DataW.trod_string ht h
  refine ⟨x, ?_, hw⟩
  have e2 : ((cs.drop j).take 1)[0]? = some (.string x) := by rw [e]; rfl
  simpa using e2
theorem fld {H : Type} {en : TypeId × Value → H} {w : World} {base n o k : Nat} {sp : Nat → Bool} {held : Bool} {t : TypeId} {cs : List Value} {y : DataW H × List MemPlace} {f : Field} (ht : f.type = t) (ho : f.offset = o) (hk : Try.prog.cellsOf t = k)
    (h : DataW.trod en Try.prog w base sp held n f.type ((cs.drop f.offset).take (Try.prog.cellsOf f.type)) = some y) : DataW.trod en Try.prog w base sp held n t ((cs.drop o).take k) = some y := by
  subst ht ho hk; exact h
def wfI (x : Int) : Prop := (Lit.int .i64 x).wf = true
def wfC (o : Op5) : Prop := wfI o.1 ∧ wfI o.2.1 ∧ wfI o.2.2.1 ∧ wfI o.2.2.2.1 ∧ o.2.2.2.2.size ≤ maxLen
def wfCs (l : List Op5) : Prop := l.length ≤ maxLen ∧ ∀ o ∈ l, wfC o
instance : Inhabited Op5 := ⟨(0, 0, 0, 0, nul)⟩
theorem open_cs {H : Type} {en : TypeId × Value → H} {w : World} {base fuel : Nat} {sp : Nat → Bool} {held : Bool} {a : Option Addr} {n c : Nat} {x : DataW H × List MemPlace}
    (h : DataW.trod en Try.prog w base sp held fuel 22 (Value.slice a n c).cells.toList = some x) : ∃ l, CL (Bs.of w.heap.size) l (.slice a n c) w ∧ wfCs l := by
  rcases open_slice Try.underlying22 h with ⟨hcs, _⟩ | ⟨ad, len, cap, m, n', D, Pl, hcs, _, hl, hcap, hm, _, hi⟩
  · simp [Value.cells] at hcs
    obtain ⟨rfl, rfl, rfl⟩ := hcs
    exact ⟨[], Is.nil _ _ _ _, Nat.zero_le _, by simp⟩
  · simp [Value.cells] at hcs
    obtain ⟨rfl, rfl, rfl⟩ := hcs
    suffices h : ∃ l, CL (Bs.of w.heap.size) l (.slice (some ad) n c) w ∧ l.length = n ∧ ∀ v ∈ l, wfC v by
      obtain ⟨l, h1, h2, h3⟩ := h
      exact ⟨l, h1, by omega, h3⟩
    refine is_of eC 31 (by decide) w ad n c wfC fun i hlt => ?_
    obtain ⟨cs, hc, ht⟩ := hi i (by rw [hm]; split <;> omega)
    rw [cellsC5] at hc
    obtain ⟨_, hcl, hat⟩ := World.cells?_some hc
    obtain ⟨ys, n1, _, _, _, hyl, hf⟩ := DataW.trod_struct Try.underlying31 ht
    have g1 := fld (o := 0) (t := 3) rfl rfl cellsI ((hf 0 _ rfl).trans (List.getElem?_eq_getElem (by rw [hyl]; decide)))
    have g2 := fld (o := 1) (t := 3) rfl rfl cellsI ((hf 1 _ rfl).trans (List.getElem?_eq_getElem (by rw [hyl]; decide)))
    have g3 := fld (o := 2) (t := 3) rfl rfl cellsI ((hf 2 _ rfl).trans (List.getElem?_eq_getElem (by rw [hyl]; decide)))
    have g4 := fld (o := 3) (t := 3) rfl rfl cellsI ((hf 3 _ rfl).trans (List.getElem?_eq_getElem (by rw [hyl]; decide)))
    have g5 := fld (o := 4) (t := 9) rfl rfl cellsSt ((hf 4 _ rfl).trans (List.getElem?_eq_getElem (by rw [hyl]; decide)))
    obtain ⟨x1, e1, w1⟩ := one_of Try.underlying3 0 g1
    obtain ⟨x2, e2, w2⟩ := one_of Try.underlying3 1 g2
    obtain ⟨x3, e3, w3⟩ := one_of Try.underlying3 2 g3
    obtain ⟨x4, e4, w4⟩ := one_of Try.underlying3 3 g4
    obtain ⟨x5, e5, w5⟩ := str_of Try.underlying9 4 g5
    refine ⟨(x1, x2, x3, x4, x5), _, ⟨w1, w2, w3, w4, w5⟩, rfl, fun j u hu => ?_⟩
    show w.cell? ((ad.add (i * 5)).add j) = some u
    match j, hu with
    | 0, hu => obtain rfl := Option.some.inj hu; rw [hat 0 (by omega), e1]
    | 1, hu => obtain rfl := Option.some.inj hu; rw [hat 1 (by omega), e2]
    | 2, hu => obtain rfl := Option.some.inj hu; rw [hat 2 (by omega), e3]
    | 3, hu => obtain rfl := Option.some.inj hu; rw [hat 3 (by omega), e4]
    | 4, hu => obtain rfl := Option.some.inj hu; rw [hat 4 (by omega), e5]
    | j + 5, hu => cases hu
/-- How many bytes the calls bear. -/
def wc (l : List Op5) : Nat := (l.map fun o => o.2.2.2.2.size).sum
def farB (l : List Op5) : Bool := l.any (fun o => decide (5000 < o.2.2.2.2.size)) || decide (100 < l.length) || decide (40000 < wc l)
theorem wc_take {l : List Op5} {k : Nat} (h : k < l.length) : wc (l.take (k + 1)) = wc (l.take k) + l[k].2.2.2.2.size := by
  unfold wc; rw [Da.take_snoc h, List.map_append, List.sum_append]; simp
theorem wc_le (l : List Op5) (k : Nat) : wc (l.take k) ≤ wc l := by
  have h : wc l = wc (l.take k) + wc (l.drop k) := by
    unfold wc; rw [← List.sum_append, ← List.map_append, List.take_append_drop]
  omega
theorem far_no {l : List Op5} (h : farB l = false) : l.length ≤ 100 ∧ wc l ≤ 40000 := by
  simp only [farB, Bool.or_eq_false_iff, decide_eq_false_iff_not] at h
  omega
end Go.Proofs.Ytegepbifbhamnaa.Dk
