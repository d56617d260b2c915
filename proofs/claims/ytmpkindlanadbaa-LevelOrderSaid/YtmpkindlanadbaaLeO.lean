/- LevelOrder: its loop's relation. -/
import Derived.Test.YtmpkindlanadbaaLeM
import Derived.Test.YtmpkindlanadbaaLeFo
import Derived.Test.YtmpkindlanadbaaLePv
import Derived.Test.YtmpkindlanadbaaAq
namespace Go.Proofs.Ytmpkindlanadbaa.Le
open Go.RowKit
set_option linter.unusedVariables false
open Go.Proofs.Ytmpkindlanadbaa.Rw
open Go.Proofs.Ytmpkindlanadbaa.Da
/-- The levels and the orders that are wanted behind k calls; they lie apart. -/
def RelO (w : World) (s : Int) (k : Nat) (t6 t7 : Value) (u : World) : Prop :=
  ∃ L want, Below w.heap.size w u ∧ LL ((Bs.of w.heap.size).but (fun b => t7.ownBlock = some b)) L t6 u ∧ OwnO (Bs.of w.heap.size) w.heap.size want t7 u ∧ InvO s k L want ∧ want.length ≤ k
theorem relO_start (w : World) {s : Int} (h : s = 1 ∨ s = 2) : RelO w s 0 (.slice none 0 0) (.slice none 0 0) w :=
  ⟨[], [], Below.refl _ _, Is.nil _ _ _ _, Own.nil _ _ _, invO_start h, Nat.le_refl _⟩
theorem but_le {w u : World} {t : Value} {want : List Od} (hb : Below w.heap.size w u) (h : OwnO (Bs.of w.heap.size) w.heap.size want t u) : ((Bs.of w.heap.size).but (fun b => t.ownBlock = some b)).le u.heap.size :=
  Bs.but_le ((Bs.of_le _).mono hb.size) (fun b hb => (Own.block h b hb).2)
/-- An order is put, and wanted. -/
theorem relO_put {w u : World} {s : Int} {k : Nat} {t t7 : Value} {L : List Lv} {want : List Od} {o : Od} (hb : Below w.heap.size w u) (hL : LL ((Bs.of w.heap.size).but (fun b => t7.ownBlock = some b)) L t u) (hW : OwnO (Bs.of w.heap.size) w.heap.size want t7 u) (hI : InvO s (k + 1 : Nat) L (want ++ [o])) (hl : want.length ≤ k) (hk : k ≤ 1000) :
    ∃ t' u', appRun Try.prog 39 39 t7 (.slice (some ⟨u.heap.size, 0, none⟩) 1 1) (u.alloc (.cells #[.int .i64 o.1, .int .i64 o.2.1, .int .i64 o.2.2.1, .int .i64 o.2.2.2.1, .int .i64 o.2.2.2.2] 24)) = .ok t' u' ∧ RelO w s (k + 1) t t' u' := by
  have hb1 := below1 u (.cells #[.int .i64 o.1, .int .i64 o.2.1, .int .i64 o.2.2.1, .int .i64 o.2.2.2.1, .int .i64 o.2.2.2.2] 24)
  have hbw := nx hb hb1
  have hsrc : Is eO 24 (Bs.of w.heap.size) [o] (.slice (some ⟨u.heap.size, 0, none⟩) 1 1) (u.alloc (.cells #[.int .i64 o.1, .int .i64 o.2.1, .int .i64 o.2.2.1, .int .i64 o.2.2.2.1, .int .i64 o.2.2.2.2] 24)) :=
    Is.one (e := eO) (x := o) (cs := cellsO o) ((Bs.of_le _).mono hb.size) rfl
  have hW1 := hW.stays hb1
  obtain ⟨t', u', hrun, hown, hg, hbl, _⟩ := Own.append elemO 39 typesO (Bs.of_le _) hbw.size hW1 hsrc (by simp only [List.length_singleton]; omega) (by omega)
  have hblk := append_block elemO 39 hW1 hsrc (by simp only [List.length_singleton]; omega) (by omega) hrun
  refine ⟨t', u', hrun, L, want ++ [o], hbl _ _ (Nat.le_refl _) hbw, ?_, hown, hI, by rw [List.length_append, List.length_singleton]; omega⟩
  exact Is.apart eL 50 (Is.stays eL 50 hL hb1) hg (fun g hg => (Own.block hW1 g hg).1) hblk
/-- An order is removed; those that are left are a list of their own. -/
theorem relO_rem {w W u : World} {s : Int} {k : Nat} {t t7 t13 : Value} {L : List Lv} {left : List Od} (hb : Below w.heap.size w W) (hL : LL ((Bs.of w.heap.size).but (fun b => t7.ownBlock = some b)) L t W) (hbu : Below W.heap.size W u) (hW : OwnO (Bs.of w.heap.size) W.heap.size left t13 u) (hI : InvO s k L left) (hl : left.length ≤ k) :
    RelO w s (k + 1) t t13 u := by
  refine ⟨L, left, nx hb hbu, ?_, Own.lower hW hb.size, hI.mono (by omega), by omega⟩
  have h1 := Is.now eL 50 (X := fun b => t13.ownBlock = some b) hL (fun b hb => (Own.block hW b hb).1)
  have h3 : (((Bs.of w.heap.size).but (fun b => t7.ownBlock = some b)).but (fun b => t13.ownBlock = some b)).sub ((Bs.of w.heap.size).but (fun b => t13.ownBlock = some b)) := ⟨Nat.le_refl _, fun b hb => by
    rcases hb with hb | hb
    · exact hb.elim
    · exact .inl (.inr hb)⟩
  exact Is.up eL 50 h3 (Is.stays eL 50 h1 hbu)
theorem relO_len {s : Int} {k : Nat} {L : List Lv} {want : List Od} (hI : InvO s k L want) (hl : want.length ≤ k) (hk : k ≤ 1000) : L.length ≤ 1000 ∧ (flat L).length ≤ 1000 := by
  have h1 := hI.len
  have h2 := levels_len hI.right
  omega
theorem mk_may {i c : Nat} {s : Int} (h1 : 1 ≤ i) (h2 : i ≤ 1000) (hc : c < 20) : omay (mkO i s c) s = true := by
  unfold mkO
  rw [omay_iff]
  refine ⟨?_, ?_, ?_, ?_, rfl, ?_, ?_, ?_, ?_⟩ <;> simp only <;> omega
theorem filt_snoc {want : List Od} {id : Int} {j : Nat} (h : j < want.length) : (want.take (j + 1)).filter (fun o => !hasId id o) = (want.take j).filter (fun o => !hasId id o) ++ (if want[j].1 = id then [] else [want[j]]) := by
  rw [Da.take_snoc h, List.filter_append, List.filter_cons, List.filter_nil]
  by_cases e : want[j].1 = id
  · rw [if_pos e]
    have : hasId id want[j] = true := by simpa [hasId] using e
    rw [this]; rfl
  · rw [if_neg e]
    have : hasId id want[j] = false := by simpa [hasId] using e
    rw [this]; rfl
theorem any_snoc {want : List Od} {id : Int} {j : Nat} (h : j < want.length) : (want.take (j + 1)).any (hasId id) = ((want.take j).any (hasId id) || decide (want[j].1 = id)) := by
  rw [Da.take_snoc h, List.any_append, List.any_cons, List.any_nil, Bool.or_false]
  rfl
end Go.Proofs.Ytmpkindlanadbaa.Le
