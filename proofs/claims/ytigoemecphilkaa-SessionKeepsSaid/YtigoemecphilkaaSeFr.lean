/- Sessions that came in, as a list; a reply that came in by value. -/
import Derived.Test.YtigoemecphilkaaSeA
import Derived.Test.YtigoemecphilkaaSub
import Derived.Deep.Slices
import Derived.Deep.Fields
import Derived.ChangeSame
import Derived.OpenShut
namespace Go.Proofs.Ytigoemecphilkaa.Se
open Go.RowKit
set_option linter.unusedVariables false
open Go.ChangeShapes Go.WideShapes Go.Deep
open Go.Proofs.Ytigoemecphilkaa.Rw
open Go.Proofs.Ytigoemecphilkaa.Da
theorem cellsI : Try.prog.cellsOf 3 = 1 := by kernel_rfl
theorem cellsE : Try.prog.cellsOf 23 = 1 := by kernel_rfl
theorem cellsR5 : Try.prog.cellsOf 25 = 5 := by kernel_rfl
theorem cellsS7 : Try.prog.cellsOf 42 = 7 := by kernel_rfl
theorem add_eq (b off j : Nat) : (⟨b, off, none⟩ : Addr).add j = ⟨b, off + j, none⟩ := by
  unfold Addr.add
  split
  · rename_i h; rw [h]; rfl
  · rfl
theorem cell_block {w : World} {p : Addr} {v : Value} (h : w.cell? p = some v) : p.block < w.heap.size := by
  apply Nat.lt_of_not_le
  intro hc
  have : w.heap[p.block]? = none := Array.getElem?_eq_none hc
  unfold World.cell? at h
  simp [this] at h
/-- Elements that were read each for itself make a list. -/
theorem is_of {α : Type} [Inhabited α] (e : Enc α) (T : TypeId) (h0 : 0 < e.k) (w : World) (a : Addr) (len c : Nat) (good : α → Prop)
    (h : ∀ i, i < len → ∃ x cs, good x ∧ e.R (Bs.of w.heap.size) x cs w ∧ ∀ j u, cs[j]? = some u → w.cell? ((a.add (i * e.k)).add j) = some u) : ∃ l, Is e T (Bs.of w.heap.size) l (.slice (some a) len c) w ∧ l.length = len ∧ ∀ x ∈ l, good x := by
  classical
  have hg : ∀ i, ∃ x, i < len → good x ∧ ∃ cs, e.R (Bs.of w.heap.size) x cs w ∧ ∀ j u, cs[j]? = some u → w.cell? ((a.add (i * e.k)).add j) = some u := fun i => by
    by_cases hi : i < len
    · obtain ⟨x, cs, h1, h2, h3⟩ := h i hi; exact ⟨x, fun _ => ⟨h1, cs, h2, h3⟩⟩
    · exact ⟨default, fun e => absurd e hi⟩
  let f := fun i => Classical.choose (hg i)
  have hf : ∀ i, i < len → good (f i) ∧ ∃ cs, e.R (Bs.of w.heap.size) (f i) cs w ∧ ∀ j u, cs[j]? = some u → w.cell? ((a.add (i * e.k)).add j) = some u := fun i => Classical.choose_spec (hg i)
  have hlen : ((List.range len).map f).length = len := by simp
  refine ⟨(List.range len).map f, ⟨some a, c, by rw [hlen], ?_⟩, hlen, fun x hx => ?_⟩
  · by_cases e0 : len = 0
    · left; subst e0; exact ⟨rfl, fun e => by cases e⟩
    · right
      obtain ⟨_, cs, hR, hu⟩ := hf 0 (by omega)
      have h1 : 0 < cs.length := by rw [e.len hR]; exact h0
      have h2 := hu 0 _ (List.getElem?_eq_getElem h1)
      have h3 := World.cell?_spot h2
      obtain ⟨b, off, spot⟩ := a
      obtain rfl : spot = none := by simpa [Addr.add] using h3
      have h4 := cell_block h2
      rw [add_eq, add_eq] at h4
      refine ⟨b, off, rfl, h4, .inl h4, fun i x hx => ?_⟩
      have hi : i < len := by
        rcases Nat.lt_or_ge i len with h | h
        · exact h
        · rw [List.getElem?_eq_none (by rw [hlen]; exact h)] at hx; cases hx
      have e2 : f i = x := by simpa [hi] using hx
      subst e2
      obtain ⟨_, ds, hR2, hu2⟩ := hf i hi
      refine ⟨ds, hR2, fun j u hj => ?_⟩
      have := hu2 j u hj
      rwa [add_eq, add_eq] at this
  · obtain ⟨i, hi, rfl⟩ := List.mem_map.1 hx
    exact (hf i (List.mem_range.1 hi)).1
theorem one_of {H : Type} {en : TypeId × Value → H} {w : World} {base n : Nat} {sp : Nat → Bool} {held : Bool} {cs : List Value} {y : DataW H × List MemPlace} {t : TypeId} (ht : Try.prog.underlying t = some (.int .i64)) (j : Nat)
    (h : DataW.trod en Try.prog w base sp held n t ((cs.drop j).take 1) = some y) : ∃ x, cs[j]? = some (.int .i64 x) ∧ (Lit.int .i64 x).wf = true := by
  obtain ⟨x, e, _, hw⟩ := DataW.trod_int ht h
  refine ⟨x, ?_, hw⟩
  have e2 : ((cs.drop j).take 1)[0]? = some (.int .i64 x) := by rw [e]; rfl
  simpa using e2
theorem fld {H : Type} {en : TypeId × Value → H} {w : World} {base n o k : Nat} {sp : Nat → Bool} {held : Bool} {t : TypeId} {cs : List Value} {y : DataW H × List MemPlace} {f : Field} (ht : f.type = t) (ho : f.offset = o) (hk : Try.prog.cellsOf t = k)
    (h : DataW.trod en Try.prog w base sp held n f.type ((cs.drop f.offset).take (Try.prog.cellsOf f.type)) = some y) : DataW.trod en Try.prog w base sp held n t ((cs.drop o).take k) = some y := by
  subst ht ho hk; exact h
def wfI (x : Int) : Prop := (Lit.int .i64 x).wf = true
def wfR (r : Rp) : Prop := wfI r.1 ∧ wfI r.2.1 ∧ wfI r.2.2.1 ∧ wfI r.2.2.2.1 ∧ wfI r.2.2.2.2
def wfS (s : Sn) : Prop := wfI s.1 ∧ wfI s.2.1 ∧ wfR s.2.2
def wfSs (l : List Sn) : Prop := l.length ≤ maxLen ∧ ∀ s ∈ l, wfS s
def wfRs (l : List Rp) : Prop := l.length ≤ maxLen ∧ ∀ s ∈ l, wfR s
/-- The five cells of a reply. -/
theorem trod_r {H : Type} {en : TypeId × Value → H} {w : World} {base fuel : Nat} {sp : Nat → Bool} {held : Bool} {cs : List Value} {x : DataW H × List MemPlace}
    (h : DataW.trod en Try.prog w base sp held fuel 25 cs = some x) : ∃ r : Rp, wfR r ∧ cs[0]? = some (.int .i64 r.1) ∧ cs[1]? = some (.int .i64 r.2.1) ∧ cs[2]? = some (.int .i64 r.2.2.1) ∧ cs[3]? = some (.int .i64 r.2.2.2.1) ∧ cs[4]? = some (.int .i64 r.2.2.2.2) := by
  obtain ⟨ys, n1, _, _, _, hyl, hf⟩ := DataW.trod_struct Try.underlying25 h
  have g1 := fld (o := 0) (t := 3) rfl rfl cellsI ((hf 0 _ rfl).trans (List.getElem?_eq_getElem (by rw [hyl]; decide)))
  have g2 := fld (o := 1) (t := 3) rfl rfl cellsI ((hf 1 _ rfl).trans (List.getElem?_eq_getElem (by rw [hyl]; decide)))
  have g3 := fld (o := 2) (t := 23) rfl rfl cellsE ((hf 2 _ rfl).trans (List.getElem?_eq_getElem (by rw [hyl]; decide)))
  have g4 := fld (o := 3) (t := 3) rfl rfl cellsI ((hf 3 _ rfl).trans (List.getElem?_eq_getElem (by rw [hyl]; decide)))
  have g5 := fld (o := 4) (t := 3) rfl rfl cellsI ((hf 4 _ rfl).trans (List.getElem?_eq_getElem (by rw [hyl]; decide)))
  obtain ⟨x1, e1, w1⟩ := one_of Try.underlying3 0 g1
  obtain ⟨x2, e2, w2⟩ := one_of Try.underlying3 1 g2
  obtain ⟨x3, e3, w3⟩ := one_of Try.underlying23 2 g3
  obtain ⟨x4, e4, w4⟩ := one_of Try.underlying3 3 g4
  obtain ⟨x5, e5, w5⟩ := one_of Try.underlying3 4 g5
  exact ⟨(x1, x2, x3, x4, x5), ⟨w1, w2, w3, w4, w5⟩, e1, e2, e3, e4, e5⟩
theorem open_ns {H : Type} {en : TypeId × Value → H} {w : World} {base fuel : Nat} {sp : Nat → Bool} {held : Bool} {a : Option Addr} {n c : Nat} {x : DataW H × List MemPlace}
    (h : DataW.trod en Try.prog w base sp held fuel 22 (Value.slice a n c).cells.toList = some x) : ∃ l, NL (Bs.of w.heap.size) l (.slice a n c) w ∧ wfSs l ∧ capOk (.slice a n c) := by
  rcases open_slice Try.underlying22 h with ⟨hcs, _⟩ | ⟨ad, len, cap, m, n', D, Pl, hcs, _, hl, hcap, hm, _, hi⟩
  · simp [Value.cells] at hcs
    obtain ⟨rfl, rfl, rfl⟩ := hcs
    exact ⟨[], Is.nil _ _ _ _, ⟨Nat.zero_le _, by simp⟩, Nat.le_refl 0⟩
  · simp [Value.cells] at hcs
    obtain ⟨rfl, rfl, rfl⟩ := hcs
    suffices h : ∃ l, NL (Bs.of w.heap.size) l (.slice (some ad) n c) w ∧ l.length = n ∧ ∀ v ∈ l, wfS v by
      obtain ⟨l, h1, h2, h3⟩ := h
      exact ⟨l, h1, ⟨by omega, h3⟩, hl⟩
    refine is_of eS 42 (by decide) w ad n c wfS fun i hlt => ?_
    obtain ⟨cs, hc, ht⟩ := hi i (by rw [hm]; split <;> omega)
    rw [cellsS7] at hc
    obtain ⟨_, hcl, hat⟩ := World.cells?_some hc
    obtain ⟨ys, n1, _, _, _, hyl, hf⟩ := DataW.trod_struct Try.underlying42 ht
    have g1 := fld (o := 0) (t := 3) rfl rfl cellsI ((hf 0 _ rfl).trans (List.getElem?_eq_getElem (by rw [hyl]; decide)))
    have g2 := fld (o := 1) (t := 3) rfl rfl cellsI ((hf 1 _ rfl).trans (List.getElem?_eq_getElem (by rw [hyl]; decide)))
    have g3 := fld (o := 2) (t := 25) rfl rfl cellsR5 ((hf 2 _ rfl).trans (List.getElem?_eq_getElem (by rw [hyl]; decide)))
    obtain ⟨x1, e1, w1⟩ := one_of Try.underlying3 0 g1
    obtain ⟨x2, e2, w2⟩ := one_of Try.underlying3 1 g2
    obtain ⟨r, w3, e3, e4, e5, e6, e7⟩ := trod_r g3
    have e3 : cs[2]? = some (.int .i64 r.1) := by simpa using e3
    have e4 : cs[3]? = some (.int .i64 r.2.1) := by simpa using e4
    have e5 : cs[4]? = some (.int .i64 r.2.2.1) := by simpa using e5
    have e6 : cs[5]? = some (.int .i64 r.2.2.2.1) := by simpa using e6
    have e7 : cs[6]? = some (.int .i64 r.2.2.2.2) := by simpa using e7
    refine ⟨(x1, x2, r), _, ⟨w1, w2, w3⟩, rfl, fun j u hu => ?_⟩
    show w.cell? ((ad.add (i * 7)).add j) = some u
    match j, hu with
    | 0, hu => obtain rfl := Option.some.inj hu; rw [hat 0 (by omega), e1]
    | 1, hu => obtain rfl := Option.some.inj hu; rw [hat 1 (by omega), e2]
    | 2, hu => obtain rfl := Option.some.inj hu; rw [hat 2 (by omega), e3]
    | 3, hu => obtain rfl := Option.some.inj hu; rw [hat 3 (by omega), e4]
    | 4, hu => obtain rfl := Option.some.inj hu; rw [hat 4 (by omega), e5]
    | 5, hu => obtain rfl := Option.some.inj hu; rw [hat 5 (by omega), e6]
    | 6, hu => obtain rfl := Option.some.inj hu; rw [hat 6 (by omega), e7]
    | j + 7, hu => cases hu
def eR : Enc Rp := Enc.flat 5 (fun r => [.int .i64 r.1, .int .i64 r.2.1, .int .i64 r.2.2.1, .int .i64 r.2.2.2.1, .int .i64 r.2.2.2.2]) (fun _ => rfl) (fun o u hu => by simp at hu; rcases hu with rfl | rfl | rfl | rfl | rfl <;> rfl)
abbrev RL (B : Bs) (l : List Rp) (v : Value) (w : World) : Prop := Is eR 25 B l v w
/-- The five cells of a reply in a list. -/
theorem atR {B : Bs} {l : List Rp} {b off : Nat} {w : World} (h : Lies eR 25 B l b off w) (i : Nat) (hi : i < l.length) :
    w.cell? ⟨b, off + i * 5, none⟩ = some (.int .i64 l[i].1) ∧ w.cell? ⟨b, off + i * 5 + 1, none⟩ = some (.int .i64 l[i].2.1) ∧ w.cell? ⟨b, off + i * 5 + 2, none⟩ = some (.int .i64 l[i].2.2.1) ∧ w.cell? ⟨b, off + i * 5 + 3, none⟩ = some (.int .i64 l[i].2.2.2.1) ∧ w.cell? ⟨b, off + i * 5 + 4, none⟩ = some (.int .i64 l[i].2.2.2.2) := by
  obtain ⟨cs, rfl, hu⟩ := h.at i hi
  exact ⟨hu 0 _ rfl, hu 1 _ rfl, hu 2 _ rfl, hu 3 _ rfl, hu 4 _ rfl⟩
theorem open_rs {H : Type} {en : TypeId × Value → H} {w : World} {base fuel : Nat} {sp : Nat → Bool} {held : Bool} {a : Option Addr} {n c : Nat} {x : DataW H × List MemPlace}
    (h : DataW.trod en Try.prog w base sp held fuel 36 (Value.slice a n c).cells.toList = some x) : ∃ l, RL (Bs.of w.heap.size) l (.slice a n c) w ∧ wfRs l := by
  rcases open_slice Try.underlying36 h with ⟨hcs, _⟩ | ⟨ad, len, cap, m, n', D, Pl, hcs, _, hl, hcap, hm, _, hi⟩
  · simp [Value.cells] at hcs
    obtain ⟨rfl, rfl, rfl⟩ := hcs
    exact ⟨[], Is.nil _ _ _ _, Nat.zero_le _, by simp⟩
  · simp [Value.cells] at hcs
    obtain ⟨rfl, rfl, rfl⟩ := hcs
    suffices h : ∃ l, RL (Bs.of w.heap.size) l (.slice (some ad) n c) w ∧ l.length = n ∧ ∀ v ∈ l, wfR v by
      obtain ⟨l, h1, h2, h3⟩ := h
      exact ⟨l, h1, by omega, h3⟩
    refine is_of eR 25 (by decide) w ad n c wfR fun i hlt => ?_
    obtain ⟨cs, hc, ht⟩ := hi i (by rw [hm]; split <;> omega)
    rw [cellsR5] at hc
    obtain ⟨_, hcl, hat⟩ := World.cells?_some hc
    obtain ⟨r, w3, e1, e2, e3, e4, e5⟩ := trod_r ht
    refine ⟨r, _, w3, rfl, fun j u hu => ?_⟩
    show w.cell? ((ad.add (i * 5)).add j) = some u
    match j, hu with
    | 0, hu => obtain rfl := Option.some.inj hu; rw [hat 0 (by omega), e1]
    | 1, hu => obtain rfl := Option.some.inj hu; rw [hat 1 (by omega), e2]
    | 2, hu => obtain rfl := Option.some.inj hu; rw [hat 2 (by omega), e3]
    | 3, hu => obtain rfl := Option.some.inj hu; rw [hat 3 (by omega), e4]
    | 4, hu => obtain rfl := Option.some.inj hu; rw [hat 4 (by omega), e5]
    | j + 5, hu => cases hu
set_option maxRecDepth 8000 in
/-- A reply that came in by value. -/
theorem open_r {H : Type} {enc : TypeId × Value → H} {W : World} {r : Reach} {base b0 : Nat} {sp : Nat → Bool} {held : Bool} {v : Value} {d : DataW H} {p : List MemPlace}
    (hv : Value.okWide Try.prog W r b0 25 v) (h : DataW.Trod enc Try.prog W base sp held 25 v d p) : ∃ a b c x y : Int, v = .agg #[.int .i64 a, .int .i64 b, .int .i64 c, .int .i64 x, .int .i64 y] ∧ wfR (a, b, c, x, y) := by
  obtain ⟨cs, rfl, hsz⟩ := okWide_struct Try.underlying25 hv
  obtain ⟨fuel, hf⟩ := h
  rw [cellsR5] at hsz
  obtain ⟨⟨x1, x2, x3, x4, x5⟩, hw, e1, e2, e3, e4, e5⟩ := trod_r hf
  refine ⟨x1, x2, x3, x4, x5, ?_, hw⟩
  congr 1
  apply Array.ext_getElem?
  intro i
  have hl : (Value.agg cs).cells.toList = cs.toList := rfl
  rw [hl] at e1 e2 e3 e4 e5
  match i with
  | 0 => simpa using e1
  | 1 => simpa using e2
  | 2 => simpa using e3
  | 3 => simpa using e4
  | 4 => simpa using e5
  | i + 5 => rw [Array.getElem?_eq_none (by omega), Array.getElem?_eq_none (by simp)]
end Go.Proofs.Ytigoemecphilkaa.Se
