/- May, mayAll, total: of package money. -/
import Derived.Test.YteandjnbcolphaaRows
import Derived.WalkKit
import Derived.ProofKit
import Derived.Below
import Derived.Lib.Hide
import Derived.WalkLawsBesides
import Derived.WalkSpells
import Derived.Test.YteandjnbcolphaaMoPure
import Derived.Test.YteandjnbcolphaaFxPure
namespace Go.Proofs.Yteandjnbcolphaa.Mo
open Go.RowKit
set_option linter.unusedVariables false
/-- What lies in the first n cells of a slice. -/
def Ints (w : World) (b off n : Nat) (l : List Int) : Prop :=
  l.length = n ∧ (∀ i, i < n → w.cell? ⟨b, off + i, none⟩ = some (.int .i64 (l.getD i 0))) ∧ ∀ x ∈ l, (Lit.int .i64 x).wf = true
theorem wf64 {a : Int} (wa : (Lit.int .i64 a).wf = true) : -9223372036854775808 ≤ a ∧ a ≤ 9223372036854775807 := by
  have h : IntKind.i64.min ≤ a ∧ a ≤ 9223372036854775807 := by simpa [Lit.wf] using wa
  exact ⟨(show IntKind.i64.min = -9223372036854775808 by decide) ▸ h.1, h.2⟩
set_option maxHeartbeats 400000 in
theorem may_any (a : Int) (w : World) :
    Calls Try.prog 30 #[.int .i64 a] w fun e w' => e = .returned (.bool (may a)) ∧ w = w' := by
  by_cases h0 : 0 ≤ a
  · by_cases h1 : a ≤ 1125899906842624
    · have HM := Lib.hid (may_of ⟨h0, h1⟩)
      go_enter Try.func30, Try.ntmps30
      go_wp2
      go_ret
      rw [HM.out]
      exact ⟨by simp, rfl⟩
    · have HM := Lib.hid (may_no (a := a) (by omega))
      go_enter Try.func30, Try.ntmps30
      go_wp2
      go_ret
      rw [HM.out]
      exact ⟨by simp, rfl⟩
  · have HM := Lib.hid (may_no (a := a) (by omega))
    have hd : decide (0 ≤ a) = false := by simp; omega
    go_enter Try.func30, Try.ntmps30
    go_wp2
    go_ret
    rw [HM.out]
    exact ⟨by simp, rfl⟩
theorem alls_drop (l : List Int) (k : Nat) (h : k < l.length) : (l.drop k).all may = (may (l.getD k 0) && (l.drop (k + 1)).all may) := by
  rw [List.drop_eq_getElem_cons h, List.all_cons]
  simp [List.getD, List.getElem?_eq_getElem h]
theorem tot_drop (l : List Int) (k : Nat) (h : k < l.length) (s : Int) : tot (l.drop k) s = if may (l.getD k 0) = true then (if 1125899906842624 - s < l.getD k 0 then (0, 6) else tot (l.drop (k + 1)) (s + l.getD k 0)) else (0, 1) := by
  rw [List.drop_eq_getElem_cons h, tot]
  simp [List.getD, List.getElem?_eq_getElem h]
set_option maxHeartbeats 800000 in
theorem mayAll_any (b off n c : Nat) (l : List Int) (w : World) (hl : Ints w b off n l) (hn : 0 < n) (hm : n ≤ maxLen) :
    Calls Try.prog 36 #[.slice (some ⟨b, off, none⟩) n c] w fun e w' => e = .returned (.bool (l.all may)) ∧ w = w' := by
  obtain ⟨hlen, hcell, _⟩ := hl
  unfold maxLen at hm
  have HC := Lib.hid hcell
  clear hcell
  go_enter Try.func36, Try.ntmps36
  go_wp2
  go_loop [7] (fun i => ∃ k : Nat, k ≤ n ∧ i = .int .i64 k ∧ (l.drop k).all may = l.all may) (fun i => n - (intOf i).toNat)
  case atStart => exact ⟨0, Nat.zero_le _, rfl, rfl⟩
  case round =>
    obtain ⟨k, hk, rfl, hd⟩ := hrel
    by_cases hlt : k < n
    · obtain ⟨x, hx, hck⟩ : ∃ x, l.getD k 0 = x ∧ w.cell? ⟨b, off + k, none⟩ = some (.int .i64 x) := ⟨_, rfl, HC.out k hlt⟩
      rw [alls_drop l k (by omega), hx] at hd
      clear hx
      by_cases hy : may x = true
      · rw [hy, Bool.true_and] at hd
        have HY := Lib.hid hy
        have HD := Lib.hid hd
        clear hd hy
        go_wp2_with fail
        refine (may_any x w).mono ?_
        rintro e w' ⟨rfl, rfl⟩
        rw [HY.out]
        go_wp2
        go_round
        case rel => exact ⟨k + 1, by omega, by go_num, HD.out⟩
        case measure => simp [intOf]; omega
      · have hy' : may x = false := by simpa using hy
        rw [hy', Bool.false_and] at hd
        have HY := Lib.hid hy'
        have HD := Lib.hid hd
        clear hd hy hy'
        go_wp2_with fail
        refine (may_any x w).mono ?_
        rintro e w' ⟨rfl, rfl⟩
        rw [HY.out]
        go_wp2
        go_ret
        rw [← HD.out]
        exact ⟨rfl, rfl⟩
    · obtain rfl : k = n := by omega
      have HD := Lib.hid hd
      clear hd
      go_wp2
      go_ret
      rw [← HD.out, List.drop_eq_nil_of_le (by omega)]
      exact ⟨rfl, rfl⟩
set_option maxHeartbeats 1600000 in
theorem total_any (b off n c : Nat) (l : List Int) (w : World) (hl : Ints w b off n l) (hn : 0 < n) (hm : n ≤ maxLen) :
    Calls Try.prog 35 #[.slice (some ⟨b, off, none⟩) n c] w fun e w' => e = .returned (.tuple #[.int .i64 (totS l), .int .i64 (totE l)]) ∧ w = w' := by
  obtain ⟨hlen, hcell, _⟩ := hl
  unfold maxLen at hm
  have HC := Lib.hid hcell
  clear hcell
  go_enter Try.func35, Try.ntmps35
  go_wp2
  go_loop [4, 9] (fun s i => ∃ (k : Nat) (z : Int), k ≤ n ∧ i = .int .i64 k ∧ s = .int .i64 z ∧ 0 ≤ z ∧ z ≤ 1125899906842624 ∧ tot (l.drop k) z = tot l 0) (fun _ i => n - (intOf i).toNat)
  case atStart => exact ⟨0, 0, Nat.zero_le _, rfl, rfl, by omega, by omega, rfl⟩
  case round =>
    obtain ⟨k, z, hk, rfl, rfl, z0, z1, hd⟩ := hrel
    by_cases hlt : k < n
    · obtain ⟨x, hx, hck⟩ : ∃ x, l.getD k 0 = x ∧ w.cell? ⟨b, off + k, none⟩ = some (.int .i64 x) := ⟨_, rfl, HC.out k hlt⟩
      rw [tot_drop l k (by omega), hx] at hd
      clear hx
      by_cases hy : may x = true
      · rw [if_pos hy] at hd
        have hxb := may_iff.1 hy
        have HY := Lib.hid hy
        by_cases hg : 1125899906842624 - z < x
        · rw [if_pos hg] at hd
          have HD := Lib.hid hd
          clear hd hy
          go_wp2_with fail
          refine (may_any x w).mono ?_
          rintro e w' ⟨rfl, rfl⟩
          rw [HY.out]
          go_wp2
          go_ret2
          unfold totS totE
          rw [← HD.out]
          exact ⟨rfl, rfl⟩
        · rw [if_neg hg] at hd
          have HD := Lib.hid hd
          clear hd hy
          go_wp2_with fail
          refine (may_any x w).mono ?_
          rintro e w' ⟨rfl, rfl⟩
          rw [HY.out]
          go_wp2
          go_round
          case rel => exact ⟨k + 1, z + x, by omega, by go_num, by go_num, by omega, by omega, HD.out⟩
          case measure => simp [intOf]; omega
      · rw [if_neg hy] at hd
        have HY := Lib.hid (show may x = false by simpa using hy)
        have HD := Lib.hid hd
        clear hd hy
        go_wp2_with fail
        refine (may_any x w).mono ?_
        rintro e w' ⟨rfl, rfl⟩
        rw [HY.out]
        go_wp2
        go_ret2
        unfold totS totE
        rw [← HD.out]
        exact ⟨rfl, rfl⟩
    · obtain rfl : k = n := by omega
      have HD := Lib.hid hd
      clear hd
      go_wp2
      go_ret2
      unfold totS totE
      rw [← HD.out, List.drop_eq_nil_of_le (by omega)]
      exact ⟨rfl, rfl⟩
set_option maxHeartbeats 800000 in
theorem total_nil (a : Option Addr) (c : Nat) (w : World) :
    Calls Try.prog 35 #[.slice a 0 c] w fun e w' => e = .returned (.tuple #[.int .i64 0, .int .i64 0]) ∧ w = w' := by
  go_enter Try.func35, Try.ntmps35
  go_wp2
  refine wp_loop_rounds 1 ?_
  rw [rounds_succ]
  go_wp2
  go_ret2
  exact ⟨rfl, rfl⟩
end Go.Proofs.Yteandjnbcolphaa.Mo
