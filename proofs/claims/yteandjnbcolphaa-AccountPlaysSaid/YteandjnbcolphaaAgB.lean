/- cmp.Compare and cmp.Or at ints. -/
import Derived.Test.YteandjnbcolphaaAgA
namespace Go.Proofs.Yteandjnbcolphaa.Ac
open Go.RowKit
set_option linter.unusedVariables false
open Go.Proofs.Yteandjnbcolphaa.Rw
open Go.Proofs.Yteandjnbcolphaa.Sl
def cmpI (a b : Int) : Int := if a < b then -1 else if b < a then 1 else 0
def orI (a b : Int) : Int := if a = 0 then b else a
/-- By accounts, then by assets. -/
def cmpP (a b : Pu) : Int := orI (cmpI a.1 b.1) (cmpI a.2 b.2)
theorem cmpP_lt (a b : Pu) : decide (cmpP a b < 0) = pless a b := by
  rw [Bool.eq_iff_iff, decide_eq_true_eq, pless_iff]
  unfold cmpP orI cmpI
  split <;> (split at * <;> (try split at *) <;> (try split) <;> omega)
set_option maxHeartbeats 400000 in
theorem nan_any (a : Int) (w : World) : Calls Try.prog 41 #[.int .i64 a] w fun e w' => e = .returned (.bool false) ∧ w = w' := by
  go_enter Try.func41, Try.ntmps41
  go_wp2
  go_ret
  exact ⟨by simp, rfl⟩
set_option maxHeartbeats 400000 in
theorem compare_any (a b : Int) (w : World) : Calls Try.prog 38 #[.int .i64 a, .int .i64 b] w fun e w' => e = .returned (.int .i64 (cmpI a b)) ∧ w = w' := by
  by_cases h1 : a < b
  · have H : Hid (cmpI a b = -1) := Lib.hid (if_pos h1)
    go_enter Try.func38, Try.ntmps38
    go_wp2_with fail
    refine (nan_any _ _).mono ?_
    rintro e w' ⟨rfl, rfl⟩
    go_wp2_with fail
    refine (nan_any _ _).mono ?_
    rintro e w' ⟨rfl, rfl⟩
    go_wp2
    go_ret
    exact ⟨ret_int H.out.symm, rfl⟩
  · by_cases h2 : b < a
    · have H : Hid (cmpI a b = 1) := Lib.hid (by unfold cmpI; rw [if_neg h1, if_pos h2])
      go_enter Try.func38, Try.ntmps38
      go_wp2_with fail
      refine (nan_any _ _).mono ?_
      rintro e w' ⟨rfl, rfl⟩
      go_wp2_with fail
      refine (nan_any _ _).mono ?_
      rintro e w' ⟨rfl, rfl⟩
      go_wp2
      go_ret
      exact ⟨ret_int H.out.symm, rfl⟩
    · have H : Hid (cmpI a b = 0) := Lib.hid (by unfold cmpI; rw [if_neg h1, if_neg h2])
      go_enter Try.func38, Try.ntmps38
      go_wp2_with fail
      refine (nan_any _ _).mono ?_
      rintro e w' ⟨rfl, rfl⟩
      go_wp2_with fail
      refine (nan_any _ _).mono ?_
      rintro e w' ⟨rfl, rfl⟩
      go_wp2
      go_ret
      exact ⟨ret_int H.out.symm, rfl⟩
set_option maxHeartbeats 400000 in
theorem or_any (x y : Int) (b c : Nat) (w : World) (k0 : w.cell? ⟨b, 0, none⟩ = some (.int .i64 x)) (k1 : w.cell? ⟨b, 1, none⟩ = some (.int .i64 y)) :
    Calls Try.prog 37 #[.slice (some ⟨b, 0, none⟩) 2 c] w fun e w' => e = .returned (.int .i64 (orI x y)) ∧ w = w' := by
  obtain ⟨r, hr⟩ : ∃ r, orI x y = r := ⟨_, rfl⟩
  rw [hr]
  have HR := Lib.hid hr
  clear hr
  go_enter Try.func37, Try.ntmps37
  go_wp2
  go_loop [8] (fun i => ∃ k : Nat, k ≤ 2 ∧ i = .int .i64 k ∧ (1 ≤ k → x = 0) ∧ (k = 2 → y = 0)) (fun i => 2 - (intOf i).toNat)
  case atStart => exact ⟨0, by omega, rfl, by omega, by omega⟩
  case round =>
    obtain ⟨k, hk, rfl, hx, hy⟩ := hrel
    have HX := Lib.hid hx
    have HY := Lib.hid hy
    clear hx hy
    match k, hk, HX, HY with
    | 0, _, HX, HY =>
      by_cases e : x = 0
      · have hd : (x != 0) = false := by simpa using e
        have HE := Lib.hid e
        clear e
        go_wp2
        go_round
        case rel => exact ⟨1, by omega, by go_num, fun _ => HE.out, by omega⟩
        case measure => simp [intOf]
      · have hd : (x != 0) = true := by simpa using e
        have HE : Hid (r = x) := Lib.hid (by rw [← HR.out]; unfold orI; rw [if_neg e])
        clear e
        go_wp2
        go_ret
        exact ⟨ret_int HE.out.symm, rfl⟩
    | 1, _, HX, HY =>
      have HE : Hid (r = y) := Lib.hid (by rw [← HR.out]; unfold orI; rw [if_pos (HX.out (by omega))])
      by_cases e : y = 0
      · have hd : (y != 0) = false := by simpa using e
        have HZ := Lib.hid e
        clear e
        go_wp2
        go_round
        case rel => exact ⟨2, by omega, by go_num, fun _ => HX.out (by omega), fun _ => HZ.out⟩
        case measure => simp [intOf]
      · have hd : (y != 0) = true := by simpa using e
        clear e
        go_wp2
        go_ret
        exact ⟨ret_int HE.out.symm, rfl⟩
    | 2, _, HX, HY =>
      have HE : Hid (r = 0) := Lib.hid (by rw [← HR.out]; unfold orI; rw [if_pos (HX.out (by omega)), HY.out rfl])
      go_wp2
      go_ret
      exact ⟨ret_int HE.out.symm, rfl⟩
end Go.Proofs.Yteandjnbcolphaa.Ac
