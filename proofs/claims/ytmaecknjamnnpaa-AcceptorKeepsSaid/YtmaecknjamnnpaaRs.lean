/- An element stored whole into a row. Of no program. -/
import Derived.Test.YtmaecknjamnnpaaRo
import Derived.Test.YtmaecknjamnnpaaBv
namespace Go.Proofs.Ytmaecknjamnnpaa.Ro
open Go.RowKit
set_option linter.unusedVariables false
open Go.Proofs.Ytmaecknjamnnpaa.Da
open Go.Proofs.Ytmaecknjamnnpaa.Bv
theorem over_at (vs : List Value) : ∀ (o : Nat) (cs : Array Value), (over cs o vs).size = cs.size ∧ ∀ j, o + vs.length ≤ cs.size → (over cs o vs)[j]? = if o ≤ j ∧ j < o + vs.length then vs[j - o]? else cs[j]? := by
  induction vs with
  | nil => intro o cs; exact ⟨rfl, fun j _ => by rw [over, if_neg (by simp)]⟩
  | cons v r ih =>
    intro o cs
    obtain ⟨h1, h2⟩ := ih (o + 1) (cs.setIfInBounds o v)
    refine ⟨by rw [over, h1, Array.size_setIfInBounds], fun j hj => ?_⟩
    rw [List.length_cons] at hj
    rw [over, h2 j (by rw [Array.size_setIfInBounds]; omega)]
    rw [List.length_cons]
    by_cases c1 : o + 1 ≤ j ∧ j < o + 1 + r.length
    · rw [if_pos c1, if_pos (by omega), show j - o = (j - (o + 1)) + 1 by omega, List.getElem?_cons_succ]
    · rw [if_neg c1]
      by_cases c2 : j = o
      · subst c2
        rw [if_pos (by omega), Nat.sub_self, List.getElem?_cons_zero, Array.getElem?_setIfInBounds, if_pos rfl, if_pos (by omega)]
      · rw [if_neg (by omega), Array.getElem?_setIfInBounds, if_neg (by omega)]
theorem Row.sets {α : Type} {e : Flat α} {T : TypeId} {g cap : Nat} {l : List α} {w : World} (h : Row e T g cap l w) {i : Nat} (hi : i < l.length) (y : α) : Row e T g cap (l.set i y) (w.setCells g (i * e.k) (e.f y)) := by
  obtain ⟨cur, hg, hl, hs⟩ := h.ex
  have hle := h.le
  have hyl := e.len y
  have hm : i * e.k + e.k ≤ cap * e.k := by
    have := Nat.mul_le_mul_right e.k (show i + 1 ≤ cap by omega)
    rw [Nat.add_mul, Nat.one_mul] at this; exact this
  obtain ⟨k1, k2⟩ := over_at (e.f y) (i * e.k) cur.toArray
  have k2 := fun j => k2 j (by rw [hyl, List.size_toArray, hl]; exact hm)
  have hb2 := Bx.sets (w := w) (e.f y) (i * e.k) w cur.toArray (show Bx w g cur.toArray T from hg)
  generalize over cur.toArray (i * e.k) (e.f y) = C at *
  refine ⟨⟨C.toList, hb2, by rw [Array.length_toList, k1, List.size_toArray]; exact hl, ?_⟩, by rw [List.length_set]; exact hle⟩
  intro t x hx j u hu
  have hj : j < e.k := get_lt hu
  rw [Array.getElem?_toList, k2, hyl]
  rw [List.getElem?_set] at hx
  by_cases et : i = t
  · subst et
    rw [if_pos rfl, if_pos hi] at hx
    obtain rfl := Option.some.inj hx
    rw [if_pos (by omega), show i * e.k + j - i * e.k = j by omega]; exact hu
  · rw [if_neg et] at hx
    have hap : ¬ (i * e.k ≤ t * e.k + j ∧ t * e.k + j < i * e.k + e.k) := by
      intro ⟨c1, c2⟩
      exact et (mul_apart (k := e.k) (a := t * e.k + j - i * e.k) (b := j) (by omega) hj (by omega)).1
    rw [if_neg hap, List.getElem?_toArray]
    exact hs t x hx j u hu
/-- 'copy' out of a slice that may be longer than what is copied. -/
theorem Row.copy2 {α : Type} {e : Flat α} {T : TypeId} {P : Program} {t u : TypeId} {bytes : Nat} (E : Elem P t T e.k bytes) (ty : TypeId) {g cap : Nat} {xs ys : List α} {w : World} (h : Row e T g cap xs w) {o dl dc sl : Nat} (ho : o ≤ xs.length) (hn : Nat.min sl dl = ys.length) (hle : o + ys.length ≤ cap) (ad : Addr) (c : Nat)
    (hc : ∀ j u, (ys.map e.f).flatten[j]? = some u → w.cell? (ad.add j) = some u) :
    ∃ w', copyRun P t u ty (.slice (some ⟨g, o * e.k, none⟩) dl dc) (.slice (some ad) sl c) w = .ok (.int .i64 (ys.length : Nat)) w' ∧ Row e T g cap (xs.take o ++ ys ++ xs.drop (o + ys.length)) w' ∧ w.grownBy w' (some g) := by
  obtain ⟨i, z, hi, hz, hs, hb, hzs⟩ := E.ex
  obtain ⟨cur, hg, hl, h1⟩ := h.ex
  have hfit : o * e.k + ((ys.map e.f).flatten).length ≤ cur.length := by rw [flat_length, hl, ← Nat.add_mul]; exact Nat.mul_le_mul_right _ hle
  have hst := run_storeCells_at P g (o * e.k) T (ys.map e.f).flatten 0 cur.toArray w hg (by simpa using hfit) (flat_one _)
  have hsp := Row.splice hg hl h1 ho hle h.le (flat_length ys) (says_flat ys)
  have hlen := flat_length (e := e) ys
  have hfc := run_firstCells_some (P := P) w i.size ys.length ad sl c (ys.map e.f).flatten (by rw [hlen, hs]) hc
  refine ⟨_, ?_, hsp, setRow_grown _ _ _⟩
  simp only [Nat.add_zero] at hst
  clear hsp hc hfit hlen
  generalize (ys.map e.f).flatten = F at hst hfc ⊢
  unfold copyRun
  simp [Builtin.copy_, run_underlying E.ht, Builtin.lenOf, sizeOf, typeInfo, hi, hn, hfc, hst, Go.splice, goInt]
theorem sets_grown {g : Nat} : ∀ (vs : List Value) (o : Nat) (w : World), w.grownBy (w.setCells g o vs) (some g)
  | [], _, w => grown_refl _ _
  | v :: r, o, w => grown_trans (setCell_grown w g o v) (sets_grown r (o + 1) (w.setCell ⟨g, o, none⟩ v))
end Go.Proofs.Ytmaecknjamnnpaa.Ro
