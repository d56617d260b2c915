/- Holdings that came in, as a list. -/
import Derived.Test.YteandjnbcolphaaAcA
import Derived.Deep.Slices
import Derived.Deep.Fields
import Derived.ChangeSame
import Derived.OpenShut
namespace Go.Proofs.Yteandjnbcolphaa.Ac
open Go.RowKit
set_option linter.unusedVariables false
open Go.ChangeShapes Go.WideShapes Go.Deep
open Go.Proofs.Yteandjnbcolphaa.Rw
open Go.Proofs.Yteandjnbcolphaa.Sl
theorem cellsI : Try.prog.cellsOf 3 = 1 := by kernel_rfl
theorem cellsP : Try.prog.cellsOf 24 = 2 := by kernel_rfl
theorem cellsH : Try.prog.cellsOf 50 = 3 := by kernel_rfl
theorem add_eq (b off j : Nat) : (⟨b, off, none⟩ : Addr).add j = ⟨b, off + j, none⟩ := by
  unfold Addr.add
  split
  · rename_i h; rw [h]; rfl
  · rfl
theorem cell_block {w : World} {p : Addr} {v : Value} (h : w.cell? p = some v) : p.block < w.heap.size := by
  apply Nat.lt_of_not_le
  intro hc
  have : w.heap[p.block]? = none := Array.getElem?_eq_none hc
  unfold World.cell? at h
  simp [this] at h
/-- Elements of k cells, each read for itself, make a list. -/
theorem sl_of {α : Type} [Inhabited α] (en : α → List Value) (k : Nat) (h0 : 0 < k) (hk : ∀ x, (en x).length = k) (w : World) (a : Addr) (len c : Nat) (good : α → Prop)
    (h : ∀ i, i < len → ∃ x, good x ∧ ∀ j u, (en x)[j]? = some u → w.cell? ((a.add (i * k)).add j) = some u) : ∃ l, SL en k l (.slice (some a) len c) w ∧ ∀ x ∈ l, good x := by
  classical
  have hg : ∀ i, ∃ x, i < len → good x ∧ ∀ j u, (en x)[j]? = some u → w.cell? ((a.add (i * k)).add j) = some u := fun i => by
    by_cases hi : i < len
    · obtain ⟨x, hx⟩ := h i hi; exact ⟨x, fun _ => hx⟩
    · exact ⟨default, fun e => absurd e hi⟩
  let f := fun i => Classical.choose (hg i)
  have hf : ∀ i, i < len → good (f i) ∧ ∀ j u, (en (f i))[j]? = some u → w.cell? ((a.add (i * k)).add j) = some u := fun i => Classical.choose_spec (hg i)
  have hlen : ((List.range len).map f).length = len := by simp
  refine ⟨(List.range len).map f, ⟨some a, c, by rw [hlen], ?_⟩, fun x hx => ?_⟩
  · by_cases e : len = 0
    · left; subst e; rfl
    · right
      have h1 : 0 < (en (f 0)).length := by rw [hk]; exact h0
      have h2 := (hf 0 (by omega)).2 0 _ (List.getElem?_eq_getElem h1)
      have h3 := World.cell?_spot h2
      obtain ⟨b, off, spot⟩ := a
      obtain rfl : spot = none := by simpa [Addr.add] using h3
      have h4 := cell_block h2
      rw [add_eq, add_eq] at h4
      refine ⟨b, off, rfl, h4, fun i x hx j u hu => ?_⟩
      have hi : i < len := by
        rcases Nat.lt_or_ge i len with h | h
        · exact h
        · rw [List.getElem?_eq_none (by rw [hlen]; exact h)] at hx; cases hx
      have e2 : f i = x := by simpa [hi] using hx
      subst e2
      have := (hf i hi).2 j u hu
      rwa [add_eq, add_eq] at this
  · obtain ⟨i, hi, rfl⟩ := List.mem_map.1 hx
    exact (hf i (List.mem_range.1 hi)).1
theorem one_of {H : Type} {en : TypeId × Value → H} {w : World} {base n : Nat} {sp : Nat → Bool} {held : Bool} {cs : List Value} {y : DataW H × List MemPlace} (j : Nat)
    (h : DataW.trod en Try.prog w base sp held n 3 ((cs.drop j).take 1) = some y) : ∃ x, cs[j]? = some (.int .i64 x) ∧ (Lit.int .i64 x).wf = true := by
  obtain ⟨x, e, _, hw⟩ := DataW.trod_int Try.underlying3 h
  refine ⟨x, ?_, hw⟩
  have e2 : ((cs.drop j).take 1)[0]? = some (.int .i64 x) := by rw [e]; rfl
  simpa using e2
theorem fld {H : Type} {en : TypeId × Value → H} {w : World} {base n o k : Nat} {sp : Nat → Bool} {held : Bool} {t : TypeId} {cs : List Value} {y : DataW H × List MemPlace} {f : Field} (ht : f.type = t) (ho : f.offset = o) (hk : Try.prog.cellsOf t = k)
    (h : DataW.trod en Try.prog w base sp held n f.type ((cs.drop f.offset).take (Try.prog.cellsOf f.type)) = some y) : DataW.trod en Try.prog w base sp held n t ((cs.drop o).take k) = some y := by
  subst ht ho hk; exact h
def wfH (h : Hd) : Prop := (Lit.int .i64 h.1).wf = true ∧ (Lit.int .i64 h.2.1).wf = true ∧ (Lit.int .i64 h.2.2).wf = true
theorem open_hl {H : Type} {en : TypeId × Value → H} {w : World} {base fuel : Nat} {sp : Nat → Bool} {held : Bool} {a : Option Addr} {n c : Nat} {x : DataW H × List MemPlace}
    (h : DataW.trod en Try.prog w base sp held fuel 22 (Value.slice a n c).cells.toList = some x) : ∃ l, HL l (.slice a n c) w ∧ ∀ h ∈ l, wfH h := by
  rcases open_slice Try.underlying22 h with ⟨hcs, _⟩ | ⟨ad, len, cap, m, n', D, Pl, hcs, _, hl, _, hm, _, hi⟩
  · simp [Value.cells] at hcs
    obtain ⟨rfl, rfl, rfl⟩ := hcs
    exact ⟨[], SL.nil enc 3 w, by simp⟩
  · simp [Value.cells] at hcs
    obtain ⟨rfl, rfl, rfl⟩ := hcs
    refine sl_of enc 3 (by omega) enc_len w ad n c wfH fun i hlt => ?_
    obtain ⟨cs, hc, ht⟩ := hi i (by rw [hm]; split <;> omega)
    rw [cellsH] at hc
    obtain ⟨_, hcl, hat⟩ := World.cells?_some hc
    obtain ⟨ys, n1, _, _, _, hyl, hf⟩ := DataW.trod_struct Try.underlying50 ht
    have hP := fld (o := 0) (t := 24) rfl rfl cellsP ((hf 0 _ rfl).trans (List.getElem?_eq_getElem (by rw [hyl]; decide)))
    have hA := fld (o := 2) (t := 3) rfl rfl cellsI ((hf 1 _ rfl).trans (List.getElem?_eq_getElem (by rw [hyl]; decide)))
    obtain ⟨zs, n2, _, _, _, hzl, hg⟩ := DataW.trod_struct Try.underlying24 hP
    have h1 := fld (o := 0) (t := 3) rfl rfl cellsI ((hg 0 _ rfl).trans (List.getElem?_eq_getElem (by rw [hzl]; decide)))
    have h2 := fld (o := 1) (t := 3) rfl rfl cellsI ((hg 1 _ rfl).trans (List.getElem?_eq_getElem (by rw [hzl]; decide)))
    obtain ⟨x1, e1, w1⟩ := one_of 0 h1
    obtain ⟨x2, e2, w2⟩ := one_of 1 h2
    obtain ⟨x3, e3, w3⟩ := one_of 2 hA
    have e1 : cs[0]? = some (.int .i64 x1) := by simpa using e1
    have e2 : cs[1]? = some (.int .i64 x2) := by simpa using e2
    refine ⟨(x1, x2, x3), ⟨w1, w2, w3⟩, fun j u hu => ?_⟩
    match j, hu with
    | 0, hu => obtain rfl := Option.some.inj hu; rw [hat 0 (by omega), e1]
    | 1, hu => obtain rfl := Option.some.inj hu; rw [hat 1 (by omega), e2]
    | 2, hu => obtain rfl := Option.some.inj hu; rw [hat 2 (by omega), e3]
    | j + 3, hu => cases hu
end Go.Proofs.Yteandjnbcolphaa.Ac
