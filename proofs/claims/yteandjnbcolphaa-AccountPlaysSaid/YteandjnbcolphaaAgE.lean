/- Total of the landed package account. -/
import Derived.Test.YteandjnbcolphaaAgD
namespace Go.Proofs.Yteandjnbcolphaa.Ac
open Go.RowKit
set_option linter.unusedVariables false
open Go.Proofs.Yteandjnbcolphaa.Rw
open Go.Proofs.Yteandjnbcolphaa.Sl
theorem right_is {l : List Hd} {v : Value} {r : Bool} (h : Hid (right l = r)) (w : World) (hl : HL l v w) (hm : l.length ≤ 1000000) :
    Calls Try.prog 12 #[v] w fun e w' => e = .returned (.bool r) ∧ Below w.heap.size w w' := by
  rw [← h.out]; exact right_any l v w hl hm
set_option maxHeartbeats 1600000 in
theorem total_any (l : List Hd) (v : Value) (s : Int) (w : World) (h : HL l v w) (hm : l.length ≤ 1000000) :
    Calls Try.prog 16 #[v, .int .i64 s] w fun e w' => e = .returned (.int .i64 (total l s)) ∧ Below w.heap.size w w' := by
  have HM := Lib.hid hm
  have HH := Lib.hid h
  cases hr : right l
  · have HR := Lib.hid hr
    have HT : Hid (total l s = 0) := Lib.hid (by unfold total; rw [hr]; rfl)
    clear h hr hm
    go_enter Try.func16, Try.ntmps16
    go_wp2_with fail
    refine (right_is HR _ HH.out HM.out).mono ?_
    rintro e w1 ⟨rfl, hb1⟩
    go_wp2
    go_ret
    exact ⟨ret_int HT.out.symm, hb1⟩
  · have HR := Lib.hid hr
    have HT : Hid (total l s = tot s l) := Lib.hid (by unfold total; rw [hr]; rfl)
    have HRt := Lib.hid (right_iff.1 hr)
    clear hr
    rcases h.cases with ⟨rfl, a, c, rfl⟩ | ⟨hne, b, off, c, rfl, hat⟩
    · clear h
      go_enter Try.func16, Try.ntmps16
      go_wp2_with fail
      refine (right_is HR _ HH.out HM.out).mono ?_
      rintro e w1 ⟨rfl, hb1⟩
      go_wp2
      go_loopw [5, 13] (fun t i wr => i = .int .i64 0 ∧ t = .int .i64 0 ∧ Below w.heap.size w wr) (fun _ i _ => 0)
      case atStart => exact ⟨rfl, rfl, hb1⟩
      case round =>
        obtain ⟨rfl, rfl, hb⟩ := hrel
        go_wp2
        go_ret
        exact ⟨ret_int HT.out.symm, hb⟩
    · have HA := Lib.hid hat
      obtain ⟨n, hn⟩ : ∃ n, n = l.length := ⟨_, rfl⟩
      rw [← hn] at hm HH ⊢
      have HN := Lib.hid hn
      clear h hat hn hne
      go_enter Try.func16, Try.ntmps16
      go_wp2_with fail
      refine (right_is HR _ HH.out HM.out).mono ?_
      rintro e w1 ⟨rfl, hb1⟩
      have HW := Lib.hid (HA.out.stays enc 3 hb1)
      have hbb : b < w1.heap.size := HW.out.1
      go_wp2
      go_loopw [5, 13] (fun t i wr => ∃ k : Nat, k ≤ n ∧ i = .int .i64 k ∧ t = .int .i64 (tot s (l.take k)) ∧ Below w1.heap.size w1 wr) (fun _ i _ => n - (intOf i).toNat)
      case atStart => exact ⟨0, Nat.zero_le _, rfl, rfl, Below.refl _ _⟩
      case round =>
        obtain ⟨k, hk, rfl, rfl, hb⟩ := hrel
        by_cases hlt : k < n
        · have hlt2 : (k : Int) < n := by omega
          have hkl : k < l.length := by rw [← HN.out]; exact hlt
          obtain ⟨⟨x, y, z⟩, hx⟩ : ∃ x, l[k] = x := ⟨_, rfl⟩
          have hc := at3 HW.out k hkl
          have ht := tot_take hkl s
          rw [hx] at hc ht
          simp only at hc
          obtain ⟨q0, q1, q2⟩ := hc
          obtain ⟨c1, f1, r1, p1⟩ := bcell hb
          have hbd := tot_bd HRt.out s k
          have hbe := tot_bd HRt.out s (k + 1)
          obtain ⟨hbd1, hbd2⟩ := hbd
          have HTk : Hid (tot s (l.take (k + 1)) = tot s (l.take k) + (if y = s then z else 0)) := Lib.hid ht
          clear hx ht
          by_cases he : y = s
          · subst he
            have hz : Hid (tot y (l.take (k + 1)) = tot y (l.take k) + z) := Lib.hid (by rw [HTk.out, if_pos rfl])
            have hz1 : 0 ≤ tot y (l.take k) + z := by rw [← hz.out]; exact hbe.1
            have hz2 : tot y (l.take k) + z ≤ 576460752303423488 := by rw [← hz.out]; exact hbe.2
            clear hbe
            go_wp2
            go_roundw
            case rel => exact ⟨k + 1, by omega, by go_num, by rw [hz.out], nx hb (below1 _ _)⟩
            case measure => simp [intOf]; omega
          · have hz : Hid (tot s (l.take (k + 1)) = tot s (l.take k)) := Lib.hid (by rw [HTk.out, if_neg he, Int.add_zero])
            have hd : (y == s) = false := by simpa using he
            clear hbe he
            go_wp2
            go_roundw
            case rel => exact ⟨k + 1, by omega, by go_num, by rw [hz.out], nx hb (below1 _ _)⟩
            case measure => simp [intOf]; omega
        · obtain rfl : k = n := by omega
          have HZ : Hid (total l s = tot s (l.take k)) := Lib.hid (by rw [HT.out, HN.out, List.take_length])
          go_wp2
          go_ret
          exact ⟨ret_int HZ.out.symm, nx hb1 hb⟩
end Go.Proofs.Yteandjnbcolphaa.Ac
