/- MoneyOrder: the call. -/
import Derived.Test.YtpjnebkfijmkpaaMoI
import Derived.RegionTactic
import Derived.BigRegion
import Derived.Deep.QuietTactic
import Derived.BigQuiet
namespace Go.Proofs.Ytpjnebkfijmkpaa.Mo
open Go.RowKit
set_option linter.unusedVariables false
open Go.Proofs.Ytpjnebkfijmkpaa.Fx (nx nd)
theorem info3 : (Try.prog.info? 3).map (fun i => (i.zero, i.size, i.bytes)) = some (some (.int .i64 0), 1, 8) := by kernel_rfl
theorem own0 (w : World) : (w.alloc (.cells #[] 3)).ownsRow w.heap.size 3 1 (.slice (some ⟨w.heap.size, 0, none⟩) 0 0) 0 [] := World.ownsRow_lit w #[] 0 (Nat.le_refl _) (by unfold maxLen; omega) rfl
theorem grown0 {w w1 : World} (h : (w.alloc (.cells #[] 3)).grownBy w1 (Value.slice (some ⟨w.heap.size, 0, none⟩) 0 0).ownBlock) : Below w.heap.size w w1 :=
  (below1 w _).grown h (by simp) (fun k hk => by
    have : w.heap.size = k := by simpa [Value.ownBlock] using hk
    omega)
theorem Rd.at {w w' : World} {a : Option Addr} {n : Nat} {l : List Int} (h : Rd w a n l) (hb : Below w.heap.size w w') (i : Nat) (hi : i < n) : ∃ b off x, a = some ⟨b, off, none⟩ ∧ w'.cell? ⟨b, off + i, none⟩ = some (.int .i64 x) := by
  obtain ⟨b, off, e, hlt, hc⟩ := h.2.2 i hi
  exact ⟨b, off, _, e, (hb.cell (by simpa using hlt)).trans hc⟩
set_option maxHeartbeats 6400000 in
theorem walkOrderN (a2 : Option Addr) (n2 c2 : Nat) (l2 : List Int) (w : World) (h2 : Rd w a2 n2 l2) (hm2 : n2 ≤ 60) :
    Calls Try.prog 5 #[.slice none 0 0, .slice a2 n2 c2] w fun e w' => e = .returned (.bool true) ∧ Below w.heap.size w w' := by
  obtain ⟨i0, hi, hz0, hz1, hz2⟩ := info_parts info3
  have H2 := Lib.hid h2
  clear h2
  have hown := own0 w
  have hd2 : decide (60 < (n2 : Int)) = false := decide_eq_false (by omega)
  go_enter Try.func5, Try.ntmps5
  go_wp2
  refine wp_loop_rounds 1 ?_
  rw [rounds_succ]
  go_wp2_with (first | (at_builtin; refine wpList_append_own_none rfl _ _ 28 rfl w.heap.size 3 i0 1 Try.underlying28 hi hz1 _ 0 [] rfl hown rfl ?_) | fail)
  go_loop [41] (fun i => ∃ k : Nat, k ≤ n2 ∧ i = .int .i64 k) (fun i => n2 - (intOf i).toNat)
  case atStart => exact ⟨0, Nat.zero_le _, rfl⟩
  case round =>
    obtain ⟨k, hk, rfl⟩ := hrel
    by_cases hlt : k < n2
    · obtain ⟨b2, o2, x, rfl, hck⟩ := Rd.at H2.out (below1 w (.cells #[] 3)) k hlt
      go_wp2
      go_round
      case rel => exact ⟨k + 1, by omega, by go_num⟩
      case measure => simp [intOf]; omega
    · obtain rfl : k = n2 := by omega
      go_wp2_with fail
      refine (sum_nil none 0 _).mono ?_
      rintro e w' ⟨rfl, rfl⟩
      go_wp2_with fail
      refine (sum_nil (some ⟨w.heap.size, 0, none⟩) 0 _).mono ?_
      rintro e w' ⟨rfl, rfl⟩
      go_wp2_with fail
      refine (awake_any _).mono ?_
      rintro e w9 ⟨rfl, hb9⟩
      go_wp2
      go_ret
      exact ⟨rfl, nx (below1 _ _) hb9⟩
set_option maxHeartbeats 6400000 in
theorem walkOrderE (ad : Addr) (c : Nat) (a2 : Option Addr) (n2 c2 : Nat) (l2 : List Int) (w : World) (h2 : Rd w a2 n2 l2) (hm2 : n2 ≤ 60) :
    Calls Try.prog 5 #[.slice (some ad) 0 c, .slice a2 n2 c2] w fun e w' => e = .returned (.bool true) ∧ Below w.heap.size w w' := by
  obtain ⟨i0, hi, hz0, hz1, hz2⟩ := info_parts info3
  have H2 := Lib.hid h2
  clear h2
  have hown := own0 w
  have hd2 : decide (60 < (n2 : Int)) = false := decide_eq_false (by omega)
  go_enter Try.func5, Try.ntmps5
  go_wp2
  refine wp_loop_rounds 1 ?_
  rw [rounds_succ]
  go_wp2_with (first | (at_builtin; refine wpList_append_own _ rfl _ _ 28 rfl w.heap.size 3 i0 (.int .i64 0) 1 8 Try.underlying28 hi hz0 hz1 hz2 rfl (by decide) _ 0 [] rfl hown ad 0 c [] rfl rfl (fun j u h => by simp at h) (fun u h => by simp at h) (by unfold maxLen; omega) (by omega) (by simp) ?_; intro v' w1 hown' hgrow hnil) | fail)
  have hb1 := Lib.hid (grown0 hgrow)
  obtain ⟨av, cv, rfl⟩ := Own.slice0 (l := []) (show Own w1 w.heap.size v' 0 [] from hown')
  clear hown' hgrow hnil
  go_loop [41] (fun i => ∃ k : Nat, k ≤ n2 ∧ i = .int .i64 k) (fun i => n2 - (intOf i).toNat)
  case atStart => exact ⟨0, Nat.zero_le _, rfl⟩
  case round =>
    obtain ⟨k, hk, rfl⟩ := hrel
    by_cases hlt : k < n2
    · obtain ⟨b2, o2, x, rfl, hck⟩ := Rd.at H2.out (hb1.out) k hlt
      go_wp2
      go_round
      case rel => exact ⟨k + 1, by omega, by go_num⟩
      case measure => simp [intOf]; omega
    · obtain rfl : k = n2 := by omega
      go_wp2_with fail
      refine (sum_nil (some ad) c _).mono ?_
      rintro e w' ⟨rfl, rfl⟩
      go_wp2_with fail
      refine (sum_nil av cv _).mono ?_
      rintro e w' ⟨rfl, rfl⟩
      go_wp2_with fail
      refine (awake_any _).mono ?_
      rintro e w9 ⟨rfl, hb9⟩
      go_wp2
      go_ret
      exact ⟨rfl, nx hb1.out hb9⟩
theorem all_of {l : List Int} {n : Nat} (hl : l.length = n) (h : ∀ j, j < n → may (l.getD j 0) = true) : l.all may = true := by
  rw [List.all_eq_true]
  intro x hx
  obtain ⟨j, hj, rfl⟩ := List.getElem_of_mem hx
  have := h j (by omega)
  simpa [List.getD, hj] using this
theorem news_at {w : World} {b off n : Nat} {l : List Int} (h : Ints w b off n l) (hb : b < w.heap.size) (j : Nat) (u : Value) (hu : (vals l)[j]? = some u) : (w.alloc (.cells #[] 3)).cell? ((⟨b, off, none⟩ : Addr).add j) = some u := by
  have hj : j < l.length := by
    have := (List.getElem?_eq_some_iff.1 hu).1
    simpa [vals] using this
  rw [vals_at l j hj] at hu
  have e : (⟨b, off, none⟩ : Addr).add j = ⟨b, off + j, none⟩ := by
    unfold Addr.add
    split
    · rename_i h; rw [h]; rfl
    · rfl
  rw [e, (below1 w _).cell (by simpa using hb), h.2.1 j (by rw [← h.1]; exact hj)]
  exact hu
theorem one_of {l : List Int} {u : Value} (h : u ∈ vals l) : u.oneCell' = true := by
  obtain ⟨x, _, rfl⟩ := List.mem_map.1 h
  rfl
end Go.Proofs.Ytpjnebkfijmkpaa.Mo
