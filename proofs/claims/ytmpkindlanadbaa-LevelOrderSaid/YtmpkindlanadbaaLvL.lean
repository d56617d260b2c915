/- Package level as it landed: slices.Delete of an order. -/
import Derived.Test.YtmpkindlanadbaaLvG
namespace Go.Proofs.Ytmpkindlanadbaa.Le
open Go.RowKit
set_option linter.unusedVariables false
open Go.Proofs.Ytmpkindlanadbaa.Rw
open Go.Proofs.Ytmpkindlanadbaa.Da
open Go.Proofs.Ytmpkindlanadbaa.Ro
def DelP (g cap k i : Nat) (os : List Od) (w : World) (e : Ending) (w' : World) : Prop := e = .returned (.slice (some ⟨g, 0, none⟩) k cap) ∧ RowO g cap (os.take i ++ os.drop (i + 1)) w' ∧ w.grownBy w' (some g)
set_option maxHeartbeats 2000000 in
theorem delete_any (g cap k i : Nat) (os : List Od) (w : World) (hrow : RowO g cap os w) (hl : os.length = k + 1) (hi : i < k + 1) (hm : k < 1000000) (hc : Hid (cap ≤ maxLen)) :
    Calls Try.prog 35 #[.slice (some ⟨g, 0, none⟩) (k + 1) cap, .int .i64 i, .int .i64 ((i : Int) + 1)] w (DelP g cap k i os w) := by
  have hle := hrow.le
  rw [hl] at hle
  have HR := Lib.hid hrow
  have hdl : (os.drop (i + 1)).length = k - i := by rw [List.length_drop, hl]; omega
  obtain ⟨ad, had, hsl⟩ : ∃ ad : Addr, (∀ u, Below w.heap.size w u → ∀ j x, (((os.drop (i + 1)).map fO.f).flatten)[j]? = some x → u.cell? (ad.add j) = some x) ∧ (if cap = i + 1 then some (⟨g, 0, none⟩ : Addr) else some ⟨g, (i + 1) * 5, none⟩) = some ad := by
    by_cases e : cap = i + 1
    · refine ⟨⟨g, 0, none⟩, fun u _ j x hx => ?_, by rw [if_pos e]⟩
      have : os.drop (i + 1) = [] := List.drop_of_length_le (by omega)
      rw [this] at hx; simp at hx
    · exact ⟨⟨g, (i + 1) * 5, none⟩, fun u hu => (hrow.stays hu).cells (i + 1), by rw [if_neg e]⟩
  have HA : Hid (∀ u, Below w.heap.size w u → ∃ w', appRun Try.prog 39 39 (.slice (some ⟨g, 0, none⟩) i cap) (.slice (some ad) (k - i) (cap - (i + 1))) u = .ok (.slice (some ⟨g, 0, none⟩) k cap) w' ∧ RowO g cap (os.take i ++ os.drop (i + 1)) w' ∧ w.grownBy w' (some g)) := Lib.hid fun u hu => by
    obtain ⟨w', h1, h2, h3⟩ := Row.append elemO 39 (HR.out.stays hu) (n := i) (ys := os.drop (i + 1)) (by omega) (by omega) ad (cap - (i + 1)) (had u hu)
    have e2 : i + (os.drop (i + 1)).length = k := by omega
    rw [e2] at h1
    rw [hdl] at h1
    have h4 := h2.take k
    rw [List.take_append_of_le_length (by rw [List.length_append, List.length_take, hdl, hl]; omega), List.take_of_length_le (by rw [List.length_append, List.length_take, hdl, hl]; omega)] at h4
    exact ⟨w', h1, h4, grown_trans (grown_below _ hu) h3⟩
  have HC : Hid (∀ u, RowO g cap (os.take i ++ os.drop (i + 1)) u → w.grownBy u (some g) → ∃ w', clearRun Try.prog 39 0 (.slice (some ⟨g, k * 5, none⟩) 1 (cap - k)) u = .ok (.tuple #[]) w' ∧ RowO g cap (os.take i ++ os.drop (i + 1)) w' ∧ w.grownBy w' (some g)) := Lib.hid fun u hu hg => by
    obtain ⟨w', h1, h2, h3⟩ := Row.clear elemO 0 zero5 (x0 := ((0, 0, 0, 0, 0) : Od)) rfl hu (o := k) (m := 1) (c := cap - k) (by rw [List.length_append, List.length_take, hdl, hl]; omega) (by omega) (by omega)
    exact ⟨w', h1, h2, grown_trans hg h3⟩
  have hd1 : ((i : Int) == (i : Int) + 1) = false := by simp; omega
  have k1 : (i : Int) < (k : Int) + 1 := by omega
  have k2 : (i : Int) ≤ (k : Int) + 1 := by omega
  have k3 : (i : Int) ≤ k := by omega
  have k4 : (i : Int) + 1 ≤ cap := by omega
  have k5 : (k : Int) + 1 ≤ cap := by omega
  have k6 : (i : Int) ≤ cap := by omega
  have k7 : ¬ cap = i := by omega
  have k8 : ¬ cap = k := by omega
  have k9 : (k : Int) ≤ cap := by omega
  have k10 : ((i : Int) + 1).toNat = i + 1 := by omega
  have k11 : (0 : Int) ≤ (i : Int) + 1 := by omega
  have k12 : ((k : Int) + 1).toNat = k + 1 := by omega
  have k13 : (0 : Int) ≤ (k : Int) + 1 := by omega
  clear hrow had hdl hle hl
  go_enter Try.func35, Try.ntmps35
  go_wp2
  refine Rh.region (fun _ => True) (fun u => Below w.heap.size w u) (fun _ _ _ _ => trivial) (fun _ _ h k => nx h k) (trivial) ((Below.refl _ _).drew) [0, 1, 2, 3, 4, 5, 6, 7] (by kernel_rfl) (by kernel_rfl) (by kernel_rfl) (fun _ _ d _ _ h => by cases d <;> exact h) ?_
  repeat (first | (refine Rh.Steps.skip (by rfl) (by kernel_rfl) (by rfl) ?_; simp only [Act.put, List.setIfInBounds_toArray, List.set_cons_zero, List.set_cons_succ]) | (refine Rh.Steps.pure (v := ?_) (by rfl) (by kernel_rfl) (by rfl) ?_ ?_; rotate_left; (intro w_ hS_; skip; go_simp <;> with_reducible rfl); simp only [Act.put, List.setIfInBounds_toArray, List.set_cons_zero, List.set_cons_succ]))
  refine Rh.Steps.forced (i := 6) (by kernel_rfl) ?_
  refine Rh.One.new (fun v u => v = .slice (some ⟨g, 0, none⟩) k cap ∧ RowO g cap (os.take i ++ os.drop (i + 1)) u ∧ w.grownBy u (some g)) (fun v _ _ h k => ⟨h.1, h.2.1.stays k, grown_stays _ _ _ _ h.2.2 k⟩) (by rfl) (by rfl) ?_ ?_
  · intro w_ hS_ hG_
    obtain ⟨w', h1, h2, h3⟩ := HA.out w_ hG_
    refine ⟨_, w', ?_, trivial, rfl, h2, h3⟩
    go_simp
  rintro v4 u5 ⟨rfl, hv4⟩
  simp only [Act.put, List.setIfInBounds_toArray, List.set_cons_zero, List.set_cons_succ]
  refine Rh.Steps.pure (v := ?_) (by rfl) (by kernel_rfl) (by rfl) ?_ ?_
  rotate_left
  · intro w_ hS_
    go_simp <;> with_reducible rfl
  simp only [Act.put, List.setIfInBounds_toArray, List.set_cons_zero]
  refine Rh.Steps.nil (by kernel_rfl) ?_
  intro w4 _ hG4
  obtain ⟨w5, hrun, hr5, hg5⟩ := HC.out w4 hG4.2.1 hG4.2.2
  have HZ := Lib.hid (show DelP g cap k i os w (.returned (.slice (some ⟨g, 0, none⟩) k cap)) w5 from ⟨rfl, hr5, hg5⟩)
  clear hr5 hg5 hG4
  go_wp2
  go_ret
  exact HZ.out
end Go.Proofs.Ytmpkindlanadbaa.Le
