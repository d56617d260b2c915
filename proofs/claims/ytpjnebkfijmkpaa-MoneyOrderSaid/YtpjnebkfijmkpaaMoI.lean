/- Slices of integers: as they came in, and the call's own. -/
import Derived.Test.YtpjnebkfijmkpaaMoLBack
import Derived.ChangeSlices
import Derived.OwnWalk
import Derived.Laws.OwnMore
import Derived.Laws.AppendOwnNone
import Derived.Sort.Lot0
namespace Go.Proofs.Ytpjnebkfijmkpaa.Mo
open Go.RowKit
set_option linter.unusedVariables false
open Go.ChangeShapes Go.WideShapes Go.ChangeAt
open Go.Proofs.Ytpjnebkfijmkpaa.Fx (nx nd)
/-- A slice of integers that came in, as a list. -/
def Rd (w : World) (a : Option Addr) (n : Nat) (l : List Int) : Prop :=
  l.length = n ∧ (∀ x ∈ l, (Lit.int .i64 x).wf = true) ∧ ∀ i, i < n → ∃ b off, a = some ⟨b, off, none⟩ ∧ b < w.heap.size ∧ w.cell? ⟨b, off + i, none⟩ = some (.int .i64 (l.getD i 0))
theorem rd_nil (w : World) (a : Option Addr) : Rd w a 0 [] := ⟨rfl, by simp, fun i hi => absurd hi (by omega)⟩
theorem cell_block {w : World} {p : Addr} {v : Value} (h : w.cell? p = some v) : p.block < w.heap.size := by
  apply Nat.lt_of_not_le
  intro hc
  have : w.heap[p.block]? = none := Array.getElem?_eq_none hc
  unfold World.cell? at h
  simp [this] at h
theorem rd_some (w : World) (a : Addr) (n c : Nat) (zs : List Int) (hn : n ≤ zs.length) (hc : ∀ i, i < zs.length → w.cell? (a.add i) = some (.int .i64 (zs.getD i 0))) (hw : ∀ x ∈ zs, (Lit.int .i64 x).wf = true) : Rd w (some a) n (zs.take n) := by
  refine ⟨by rw [List.length_take]; omega, fun x hx => hw x (List.mem_of_mem_take hx), fun i hi => ?_⟩
  have h1 := hc 0 (by omega)
  have h0 := hc i (by omega)
  obtain ⟨b, off, spot⟩ := a
  have hs : spot = none := by simpa [Addr.add] using World.cell?_spot h1
  subst hs
  have e : (⟨b, off, none⟩ : Addr).add i = ⟨b, off + i, none⟩ := by
    unfold Addr.add
    split
    · rename_i h; rw [h]; rfl
    · rfl
  rw [e] at h0
  refine ⟨b, off, rfl, cell_block h0, ?_⟩
  rw [h0]
  have : (zs.take n).getD i 0 = zs.getD i 0 := by simp [List.getD, hi]
  rw [this]
theorem Rd.ints {w w' : World} {a : Option Addr} {n : Nat} {l : List Int} (h : Rd w a n l) (hb : Below w.heap.size w w') (hn : 0 < n) : ∃ b off, a = some ⟨b, off, none⟩ ∧ b < w.heap.size ∧ Ints w' b off n l := by
  obtain ⟨b, off, rfl, hlt, _⟩ := h.2.2 0 hn
  refine ⟨b, off, rfl, hlt, h.1, fun i hi => ?_, h.2.1⟩
  obtain ⟨b', off', e, hlt', hc⟩ := h.2.2 i hi
  obtain ⟨rfl, rfl, _⟩ : b = b' ∧ off = off' ∧ True := by simpa using e
  rw [hb.cell (by simpa using hlt'), hc]
/-- All amounts: the sum does not ask for the order. -/
theorem tot_all : ∀ (l : List Int) (s : Int), 0 ≤ s → s ≤ 1125899906842624 → l.all may = true → tot l s = if s + l.sum ≤ 1125899906842624 then (s + l.sum, 0) else (0, 6)
  | [], s, _, h1, _ => by simp [tot, h1]
  | x :: r, s, h0, h1, h => by
    rw [List.all_cons, Bool.and_eq_true] at h
    have hx := may_iff.1 h.1
    have hr : 0 ≤ r.sum := sum_nonneg r h.2
    rw [tot, if_pos h.1, List.sum_cons]
    by_cases hg : 1125899906842624 - s < x
    · rw [if_pos hg, if_neg (by omega)]
    · rw [if_neg hg, tot_all r (s + x) (by omega) (by omega) h.2, Int.add_assoc]
where
  sum_nonneg : ∀ (r : List Int), r.all may = true → 0 ≤ r.sum
    | [], _ => by simp
    | y :: t, h => by
      rw [List.all_cons, Bool.and_eq_true] at h
      have := may_iff.1 h.1
      have := sum_nonneg t h.2
      rw [List.sum_cons]; omega
theorem perm_sum {l m : List Int} (h : l.Perm m) : l.sum = m.sum := by
  induction h with
  | nil => rfl
  | cons x _ ih => rw [List.sum_cons, List.sum_cons, ih]
  | swap x y l => simp only [List.sum_cons]; omega
  | trans _ _ a b => exact a.trans b
/-- The same amounts in another order. -/
theorem tot_perm {l m : List Int} (h : m.Perm l) (hl : l.all may = true) : totS m = totS l ∧ totE m = totE l := by
  have hm : m.all may = true := by
    rw [List.all_eq_true] at hl ⊢
    exact fun x hx => hl x (h.mem_iff.1 hx)
  have hs : m.sum = l.sum := perm_sum h
  unfold totS totE
  rw [tot_all l 0 (by omega) (by omega) hl, tot_all m 0 (by omega) (by omega) hm, hs]
  exact ⟨rfl, rfl⟩
theorem swap_perm (m : List Int) (p q : Nat) (hp : p < m.length) (hq : q < m.length) : ((m.set p (m.getD q 0)).set q (m.getD p 0)).Perm m := by
  have := Go.Sort.perm_set_set m p q hp hq
  simpa [List.getD, hp, hq] using this
def vals (l : List Int) : List Value := l.map (fun x => .int .i64 x)
theorem vals_at (l : List Int) (i : Nat) (h : i < l.length) : (vals l)[i]? = some (.int .i64 (l.getD i 0)) := by
  simp [vals, List.getD, h]
theorem vals_set (l : List Int) (i : Nat) (x : Int) : (vals l).set i (.int .i64 x) = vals (l.set i x) := by
  simp [vals, List.map_set]
def Own (w : World) (base : Nat) (v : Value) (n : Nat) (l : List Int) : Prop := w.ownsRow base 3 1 v n (vals l)
theorem Own.len {w : World} {base : Nat} {v : Value} {n : Nat} {l : List Int} (h : Own w base v n l) : l.length = n := by
  have := h.1
  simpa [vals] using this
theorem Own.slice {w : World} {base : Nat} {v : Value} {n : Nat} {l : List Int} (h : Own w base v n l) (hn : 0 < n) : ∃ g c, v = .slice (some ⟨g, 0, none⟩) n c ∧ base ≤ g := by
  rcases h.2 with ⟨_, e⟩ | ⟨g, cap, cur, e, hb, _⟩
  · omega
  · exact ⟨g, cap, e, hb⟩
theorem Own.slice0 {w : World} {base : Nat} {v : Value} {l : List Int} (h : Own w base v 0 l) : ∃ a c, v = .slice a 0 c := by
  rcases h.2 with ⟨e, _⟩ | ⟨g, cap, cur, e, hb, _⟩
  · exact ⟨none, 0, e⟩
  · exact ⟨_, cap, e⟩
theorem Own.cell {w : World} {base g n c : Nat} {l : List Int} (h : Own w base (.slice (some ⟨g, 0, none⟩) n c) n l) (i : Nat) (hi : i < n) : w.cell? ⟨g, i, none⟩ = some (.int .i64 (l.getD i 0)) := by
  rw [World.ownsRow.cellAt h i (by omega)]
  exact vals_at l i (by rw [h.len]; exact hi)
theorem Own.ints {w : World} {base g n c : Nat} {l : List Int} (h : Own w base (.slice (some ⟨g, 0, none⟩) n c) n l) (hw : ∀ x ∈ l, (Lit.int .i64 x).wf = true) : Ints w g 0 n l :=
  ⟨h.len, fun i hi => by rw [Nat.zero_add]; exact h.cell i hi, hw⟩
theorem Own.swap {w : World} {base g n c : Nat} {l : List Int} (h : Own w base (.slice (some ⟨g, 0, none⟩) n c) n l) (p q : Nat) (x y : Int) :
    Own ((w.setCell ⟨g, p, none⟩ (.int .i64 x)).setCell ⟨g, q, none⟩ (.int .i64 y)) base (.slice (some ⟨g, 0, none⟩) n c) n ((l.set p x).set q y) := by
  unfold Own
  rw [← vals_set, ← vals_set]
  exact (World.ownsRow.stored (World.ownsRow.stored h p _).1 q _).1
theorem Own.drewN {w : World} {base : Nat} {v : Value} {n : Nat} {l : List Int} (h : Own w base v n l) (k : Nat) : Own (w.drewN k) base v n l := h
theorem wf_all {l : List Int} (h : l.all may = true) : ∀ x ∈ l, (Lit.int .i64 x).wf = true := fun x hx => wf_of (may_iff.1 (List.all_eq_true.1 h x hx))
theorem mod64 (a : Int) (n : Nat) (h : 0 < n) : ∃ c : Nat, c < n ∧ (IntKind.u64.wrap a).tmod (n : Int) = c := by
  have h0 : 0 ≤ IntKind.u64.wrap a := by rw [IntKind.wrap_u64]; omega
  rw [Int.tmod_eq_emod_of_nonneg h0]
  have h1 := Int.emod_nonneg (IntKind.u64.wrap a) (show (n : Int) ≠ 0 by omega)
  have h2 := Int.emod_lt_of_pos (IntKind.u64.wrap a) (show (0 : Int) < n by omega)
  exact ⟨(IntKind.u64.wrap a % (n : Int)).toNat, by omega, by omega⟩
/-- A slice of integers as the call is handed it. -/
def RdIn (w : World) (a : Option Addr) (n c : Nat) (l : List Int) : Prop := Rd w a n l ∧ (a = none → n = 0 ∧ c = 0) ∧ n ≤ maxLen
theorem rdIn_open {H : Type} {enc : TypeId × Value → H} {w : World} {base fuel : Nat} {held : Bool} {a : Option Addr} {n c : Nat} {x : DataW H × List MemPlace}
    (h : DataW.trod enc Try.prog w base (fun _ => true) held fuel 28 (Value.slice a n c).cells.toList = some x) : ∃ zs, RdIn w a n c zs := by
  rcases open_ints Try.underlying28 Try.underlying3 (by kernel_rfl) h with ⟨hcs, _⟩ | ⟨ad, l, c', zs, hcs, _, hl, hm, hz, _, hcell, hwz⟩
  · simp [Value.cells] at hcs
    obtain ⟨rfl, rfl, rfl⟩ := hcs
    exact ⟨[], rd_nil _ _, fun _ => ⟨rfl, rfl⟩, by unfold maxLen; omega⟩
  · simp [Value.cells] at hcs
    obtain ⟨rfl, rfl, rfl⟩ := hcs
    have hz : zs.length = c := by simpa using hz
    exact ⟨zs.take n, rd_some w ad n c zs (by omega) hcell hwz, fun e => by simp at e, by omega⟩
end Go.Proofs.Ytpjnebkfijmkpaa.Mo
