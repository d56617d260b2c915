/- Levels that came in, as a list of lists. -/
import Derived.Test.YtmpkindlanadbaaLeA
import Derived.Deep.Slices
import Derived.Deep.Fields
import Derived.ChangeSame
import Derived.OpenShut
namespace Go.Proofs.Ytmpkindlanadbaa.Le
open Go.RowKit
set_option linter.unusedVariables false
open Go.ChangeShapes Go.WideShapes Go.Deep
open Go.Proofs.Ytmpkindlanadbaa.Rw
open Go.Proofs.Ytmpkindlanadbaa.Da
theorem cellsI : Try.prog.cellsOf 3 = 1 := by kernel_rfl
theorem cellsO5 : Try.prog.cellsOf 24 = 5 := by kernel_rfl
theorem cellsOs : Try.prog.cellsOf 39 = 1 := by kernel_rfl
theorem cellsL2 : Try.prog.cellsOf 50 = 2 := by kernel_rfl
theorem cell_block {w : World} {p : Addr} {v : Value} (h : w.cell? p = some v) : p.block < w.heap.size := by
  apply Nat.lt_of_not_le
  intro hc
  have : w.heap[p.block]? = none := Array.getElem?_eq_none hc
  unfold World.cell? at h
  simp [this] at h
/-- Elements that were read each for itself make a list. -/
theorem is_of {α : Type} [Inhabited α] (e : Enc α) (T : TypeId) (h0 : 0 < e.k) (w : World) (a : Addr) (len c : Nat) (good : α → Prop)
    (h : ∀ i, i < len → ∃ x cs, good x ∧ e.R (Bs.of w.heap.size) x cs w ∧ ∀ j u, cs[j]? = some u → w.cell? ((a.add (i * e.k)).add j) = some u) : ∃ l, Is e T (Bs.of w.heap.size) l (.slice (some a) len c) w ∧ l.length = len ∧ ∀ x ∈ l, good x := by
  classical
  have hg : ∀ i, ∃ x, i < len → good x ∧ ∃ cs, e.R (Bs.of w.heap.size) x cs w ∧ ∀ j u, cs[j]? = some u → w.cell? ((a.add (i * e.k)).add j) = some u := fun i => by
    by_cases hi : i < len
    · obtain ⟨x, cs, h1, h2, h3⟩ := h i hi; exact ⟨x, fun _ => ⟨h1, cs, h2, h3⟩⟩
    · exact ⟨default, fun e => absurd e hi⟩
  let f := fun i => Classical.choose (hg i)
  have hf : ∀ i, i < len → good (f i) ∧ ∃ cs, e.R (Bs.of w.heap.size) (f i) cs w ∧ ∀ j u, cs[j]? = some u → w.cell? ((a.add (i * e.k)).add j) = some u := fun i => Classical.choose_spec (hg i)
  have hlen : ((List.range len).map f).length = len := by simp
  refine ⟨(List.range len).map f, ⟨some a, c, by rw [hlen], ?_⟩, hlen, fun x hx => ?_⟩
  · by_cases e0 : len = 0
    · left; subst e0; exact ⟨rfl, fun e => by cases e⟩
    · right
      obtain ⟨_, cs, hR, hu⟩ := hf 0 (by omega)
      have h1 : 0 < cs.length := by rw [e.len hR]; exact h0
      have h2 := hu 0 _ (List.getElem?_eq_getElem h1)
      have h3 := World.cell?_spot h2
      obtain ⟨b, off, spot⟩ := a
      obtain rfl : spot = none := by simpa [Addr.add] using h3
      have h4 := cell_block h2
      rw [add_eq, add_eq] at h4
      refine ⟨b, off, rfl, h4, .inl h4, fun i x hx => ?_⟩
      have hi : i < len := by
        rcases Nat.lt_or_ge i len with h | h
        · exact h
        · rw [List.getElem?_eq_none (by rw [hlen]; exact h)] at hx; cases hx
      have e2 : f i = x := by simpa [hi] using hx
      subst e2
      obtain ⟨_, ds, hR2, hu2⟩ := hf i hi
      refine ⟨ds, hR2, fun j u hj => ?_⟩
      have := hu2 j u hj
      rwa [add_eq, add_eq] at this
  · obtain ⟨i, hi, rfl⟩ := List.mem_map.1 hx
    exact (hf i (List.mem_range.1 hi)).1
theorem one_of {H : Type} {en : TypeId × Value → H} {w : World} {base n : Nat} {sp : Nat → Bool} {held : Bool} {cs : List Value} {y : DataW H × List MemPlace} (j : Nat)
    (h : DataW.trod en Try.prog w base sp held n 3 ((cs.drop j).take 1) = some y) : ∃ x, cs[j]? = some (.int .i64 x) ∧ (Lit.int .i64 x).wf = true := by
  obtain ⟨x, e, _, hw⟩ := DataW.trod_int Try.underlying3 h
  refine ⟨x, ?_, hw⟩
  have e2 : ((cs.drop j).take 1)[0]? = some (.int .i64 x) := by rw [e]; rfl
  simpa using e2
theorem fld {H : Type} {en : TypeId × Value → H} {w : World} {base n o k : Nat} {sp : Nat → Bool} {held : Bool} {t : TypeId} {cs : List Value} {y : DataW H × List MemPlace} {f : Field} (ht : f.type = t) (ho : f.offset = o) (hk : Try.prog.cellsOf t = k)
    (h : DataW.trod en Try.prog w base sp held n f.type ((cs.drop f.offset).take (Try.prog.cellsOf f.type)) = some y) : DataW.trod en Try.prog w base sp held n t ((cs.drop o).take k) = some y := by
  subst ht ho hk; exact h
def wfI (x : Int) : Prop := (Lit.int .i64 x).wf = true
def wfO (o : Od) : Prop := wfI o.1 ∧ wfI o.2.1 ∧ wfI o.2.2.1 ∧ wfI o.2.2.2.1 ∧ wfI o.2.2.2.2
def wfL (v : Lv) : Prop := wfI v.1 ∧ ∀ o ∈ v.2, wfO o
def wfLs (l : List Lv) : Prop := l.length ≤ maxLen ∧ ∀ v ∈ l, wfL v
theorem open_os {H : Type} {en : TypeId × Value → H} {w : World} {base fuel : Nat} {sp : Nat → Bool} {held : Bool} {cs0 : List Value} {x : DataW H × List MemPlace}
    (h : DataW.trod en Try.prog w base sp held fuel 39 cs0 = some x) : ∃ l v, cs0 = [v] ∧ OL (Bs.of w.heap.size) l v w ∧ ∀ o ∈ l, wfO o := by
  rcases open_slice Try.underlying39 h with ⟨hcs, _⟩ | ⟨ad, len, cap, m, n', D, Pl, hcs, _, hl, _, hm, _, hi⟩
  · exact ⟨[], _, hcs, Is.nil _ _ _ _, by simp⟩
  · obtain ⟨l, h1, _, h2⟩ := is_of eO 24 (by decide) w ad len cap wfO fun i hlt => by
      obtain ⟨cs, hc, ht⟩ := hi i (by rw [hm]; split <;> omega)
      rw [cellsO5] at hc
      obtain ⟨_, hcl, hat⟩ := World.cells?_some hc
      obtain ⟨ys, n1, _, _, _, hyl, hf⟩ := DataW.trod_struct Try.underlying24 ht
      have g1 := fld (o := 0) (t := 3) rfl rfl cellsI ((hf 0 _ rfl).trans (List.getElem?_eq_getElem (by rw [hyl]; decide)))
      have g2 := fld (o := 1) (t := 3) rfl rfl cellsI ((hf 1 _ rfl).trans (List.getElem?_eq_getElem (by rw [hyl]; decide)))
      have g3 := fld (o := 2) (t := 3) rfl rfl cellsI ((hf 2 _ rfl).trans (List.getElem?_eq_getElem (by rw [hyl]; decide)))
      have g4 := fld (o := 3) (t := 3) rfl rfl cellsI ((hf 3 _ rfl).trans (List.getElem?_eq_getElem (by rw [hyl]; decide)))
      have g5 := fld (o := 4) (t := 3) rfl rfl cellsI ((hf 4 _ rfl).trans (List.getElem?_eq_getElem (by rw [hyl]; decide)))
      obtain ⟨x1, e1, w1⟩ := one_of 0 g1
      obtain ⟨x2, e2, w2⟩ := one_of 1 g2
      obtain ⟨x3, e3, w3⟩ := one_of 2 g3
      obtain ⟨x4, e4, w4⟩ := one_of 3 g4
      obtain ⟨x5, e5, w5⟩ := one_of 4 g5
      refine ⟨(x1, x2, x3, x4, x5), _, ⟨w1, w2, w3, w4, w5⟩, rfl, fun j u hu => ?_⟩
      show w.cell? ((ad.add (i * 5)).add j) = some u
      match j, hu with
      | 0, hu => obtain rfl := Option.some.inj hu; rw [hat 0 (by omega), e1]
      | 1, hu => obtain rfl := Option.some.inj hu; rw [hat 1 (by omega), e2]
      | 2, hu => obtain rfl := Option.some.inj hu; rw [hat 2 (by omega), e3]
      | 3, hu => obtain rfl := Option.some.inj hu; rw [hat 3 (by omega), e4]
      | 4, hu => obtain rfl := Option.some.inj hu; rw [hat 4 (by omega), e5]
      | j + 5, hu => cases hu
    exact ⟨l, _, hcs, h1, h2⟩
theorem open_ll {H : Type} {en : TypeId × Value → H} {w : World} {base fuel : Nat} {sp : Nat → Bool} {held : Bool} {a : Option Addr} {n c : Nat} {x : DataW H × List MemPlace}
    (h : DataW.trod en Try.prog w base sp held fuel 22 (Value.slice a n c).cells.toList = some x) : ∃ l, LL (Bs.of w.heap.size) l (.slice a n c) w ∧ wfLs l := by
  rcases open_slice Try.underlying22 h with ⟨hcs, _⟩ | ⟨ad, len, cap, m, n', D, Pl, hcs, _, hl, hcap, hm, _, hi⟩
  · simp [Value.cells] at hcs
    obtain ⟨rfl, rfl, rfl⟩ := hcs
    exact ⟨[], Is.nil _ _ _ _, Nat.zero_le _, by simp⟩
  · simp [Value.cells] at hcs
    obtain ⟨rfl, rfl, rfl⟩ := hcs
    suffices h : ∃ l, LL (Bs.of w.heap.size) l (.slice (some ad) n c) w ∧ l.length = n ∧ ∀ v ∈ l, wfL v by
      obtain ⟨l, h1, h2, h3⟩ := h
      exact ⟨l, h1, by omega, h3⟩
    refine is_of eL 50 (by decide) w ad n c wfL fun i hlt => ?_
    obtain ⟨cs, hc, ht⟩ := hi i (by rw [hm]; split <;> omega)
    rw [cellsL2] at hc
    obtain ⟨_, hcl, hat⟩ := World.cells?_some hc
    obtain ⟨ys, n1, _, _, _, hyl, hf⟩ := DataW.trod_struct Try.underlying50 ht
    have g1 := fld (o := 0) (t := 3) rfl rfl cellsI ((hf 0 _ rfl).trans (List.getElem?_eq_getElem (by rw [hyl]; decide)))
    have g2 := fld (o := 1) (t := 39) rfl rfl cellsOs ((hf 1 _ rfl).trans (List.getElem?_eq_getElem (by rw [hyl]; decide)))
    obtain ⟨x1, e1, w1⟩ := one_of 0 g1
    obtain ⟨os, v, e2, ho, hw⟩ := open_os g2
    have e3 : cs[1]? = some v := by
      have : ((cs.drop 1).take 1)[0]? = some v := by rw [e2]; rfl
      simpa using this
    refine ⟨(x1, os), _, ⟨w1, hw⟩, eL_mk ho, fun j u hu => ?_⟩
    show w.cell? ((ad.add (i * 2)).add j) = some u
    match j, hu with
    | 0, hu => obtain rfl := Option.some.inj hu; rw [hat 0 (by omega), e1]
    | 1, hu => obtain rfl := Option.some.inj hu; rw [hat 1 (by omega), e3]
    | j + 2, hu => cases hu
/-- An order that came in by value. -/
theorem open_o {H : Type} {enc : TypeId × Value → H} {W : World} {r : Reach} {base b0 : Nat} {sp : Nat → Bool} {held : Bool} {v : Value} {d : DataW H} {p : List MemPlace}
    (hv : Value.okWide Try.prog W r b0 24 v) (h : DataW.Trod enc Try.prog W base sp held 24 v d p) : ∃ a b c x y : Int, v = .agg #[.int .i64 a, .int .i64 b, .int .i64 c, .int .i64 x, .int .i64 y] ∧ wfO (a, b, c, x, y) := by
  obtain ⟨cs, rfl, hsz⟩ := okWide_struct Try.underlying24 hv
  obtain ⟨fuel, hf⟩ := h
  obtain ⟨ys, n1, _, _, _, hyl, hg⟩ := DataW.trod_struct Try.underlying24 hf
  rw [cellsO5] at hsz
  have g1 := fld (o := 0) (t := 3) rfl rfl cellsI ((hg 0 _ rfl).trans (List.getElem?_eq_getElem (by rw [hyl]; decide)))
  have g2 := fld (o := 1) (t := 3) rfl rfl cellsI ((hg 1 _ rfl).trans (List.getElem?_eq_getElem (by rw [hyl]; decide)))
  have g3 := fld (o := 2) (t := 3) rfl rfl cellsI ((hg 2 _ rfl).trans (List.getElem?_eq_getElem (by rw [hyl]; decide)))
  have g4 := fld (o := 3) (t := 3) rfl rfl cellsI ((hg 3 _ rfl).trans (List.getElem?_eq_getElem (by rw [hyl]; decide)))
  have g5 := fld (o := 4) (t := 3) rfl rfl cellsI ((hg 4 _ rfl).trans (List.getElem?_eq_getElem (by rw [hyl]; decide)))
  obtain ⟨x1, e1, w1⟩ := one_of 0 g1
  obtain ⟨x2, e2, w2⟩ := one_of 1 g2
  obtain ⟨x3, e3, w3⟩ := one_of 2 g3
  obtain ⟨x4, e4, w4⟩ := one_of 3 g4
  obtain ⟨x5, e5, w5⟩ := one_of 4 g5
  refine ⟨x1, x2, x3, x4, x5, ?_, w1, w2, w3, w4, w5⟩
  congr 1
  apply Array.ext_getElem?
  intro i
  have hl : (Value.agg cs).cells.toList = cs.toList := rfl
  rw [hl] at e1 e2 e3 e4 e5
  match i with
  | 0 => simpa using e1
  | 1 => simpa using e2
  | 2 => simpa using e3
  | 3 => simpa using e4
  | 4 => simpa using e5
  | i + 5 => rw [Array.getElem?_eq_none (by omega), Array.getElem?_eq_none (by simp)]
end Go.Proofs.Ytmpkindlanadbaa.Le
