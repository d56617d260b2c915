/- The document's own: which orders may rest, Count, Find, Best. -/
import Derived.Test.YtmpkindlanadbaaLeA
namespace Go.Proofs.Ytmpkindlanadbaa.Le
open Go.RowKit
set_option linter.unusedVariables false
open Go.Proofs.Ytmpkindlanadbaa.Rw
open Go.Proofs.Ytmpkindlanadbaa.Da
theorem omay_no {o : Od} {s : Int} (h : ¬ (1 ≤ o.1 ∧ o.1 ≤ 1073741824 ∧ 0 ≤ o.2.1 ∧ o.2.1 < 64 ∧ o.2.2.1 = s ∧ 1 ≤ o.2.2.2.1 ∧ o.2.2.2.1 ≤ 1048576 ∧ 1 ≤ o.2.2.2.2 ∧ o.2.2.2.2 ≤ 1048576)) : omay o s = false := by
  unfold omay; exact decide_eq_false h
set_option maxHeartbeats 1000000 in
theorem rOmay_any (a b c d e s : Int) (w : World) : Calls Try.prog 31 #[.agg #[.int .i64 a, .int .i64 b, .int .i64 c, .int .i64 d, .int .i64 e], .int .i64 s] w fun r w' => r = .returned (.bool (omay (a, b, c, d, e) s)) ∧ Below w.heap.size w w' := by
  obtain ⟨q, hq⟩ : ∃ q, omay (a, b, c, d, e) s = q := ⟨_, rfl⟩
  rw [hq]
  have H := Lib.hid hq
  clear hq
  go_enter Try.func31, Try.ntmps31
  go_wp2
  all_goals
    go_ret
    exact ⟨ret_bool (by rw [← H.out]; unfold omay; rw [Bool.eq_iff_iff]; simp; try omega), below1 _ _⟩
theorem rOmay_is {a b c d e s : Int} {r : Bool} (h : Hid (omay (a, b, c, d, e) s = r)) (w : World) : Calls Try.prog 31 #[.agg #[.int .i64 a, .int .i64 b, .int .i64 c, .int .i64 d, .int .i64 e], .int .i64 s] w fun x w' => x = .returned (.bool r) ∧ Below w.heap.size w w' := by
  rw [← h.out]; exact rOmay_any a b c d e s w
theorem count_take {l : List Lv} {k : Nat} (h : k < l.length) : (flat (l.take (k + 1))).length = (flat (l.take k)).length + l[k].2.length := by
  rw [take_snoc h, flat_app, List.length_append, flat_cons, flat_nil, List.append_nil]
theorem flat_take_le (l : List Lv) (k : Nat) : (flat (l.take k)).length ≤ (flat l).length := by
  conv => rhs; rw [← List.take_append_drop k l]
  rw [flat_app, List.length_append]; omega
set_option maxHeartbeats 800000 in
theorem rCount_any (B : Bs) (l : List Lv) (v : Value) (w : World) (h : LL B l v w) (hm : l.length ≤ 1000000) (hf : (flat l).length ≤ 1000000) :
    Calls Try.prog 20 #[v] w fun e w' => e = .returned (.int .i64 ((flat l).length : Nat)) ∧ Below w.heap.size w w' := by
  rcases h.cases with ⟨rfl, a, c, rfl⟩ | ⟨hne, b, off, c, rfl, hat⟩
  · clear h
    go_enter Try.func20, Try.ntmps20
    go_wp2
    go_loopw [3, 8] (fun t i wr => i = .int .i64 0 ∧ t = .int .i64 0 ∧ Below w.heap.size w wr) (fun _ i _ => 0)
    case atStart => exact ⟨rfl, rfl, Below.refl _ _⟩
    case round =>
      obtain ⟨rfl, rfl, hb⟩ := hrel
      go_wp2
      go_ret
      exact ⟨rfl, hb⟩
  · have hbb : b < w.heap.size := hat.1
    have HA := Lib.hid hat
    have HF := Lib.hid hf
    obtain ⟨n, hn⟩ : ∃ n, n = l.length := ⟨_, rfl⟩
    rw [← hn] at hm ⊢
    have HN := Lib.hid hn
    clear h hat hn hne hf
    go_enter Try.func20, Try.ntmps20
    go_wp2
    go_loopw [3, 8] (fun t i wr => ∃ k : Nat, k ≤ n ∧ i = .int .i64 k ∧ t = .int .i64 ((flat (l.take k)).length : Nat) ∧ Below w.heap.size w wr) (fun _ i _ => n - (intOf i).toNat)
    case atStart => exact ⟨0, Nat.zero_le _, rfl, rfl, Below.refl _ _⟩
    case round =>
      obtain ⟨k, hk, rfl, rfl, hb⟩ := hrel
      by_cases hlt : k < n
      · have hlt2 : (k : Int) < n := by omega
        have hkl : k < l.length := by rw [← HN.out]; exact hlt
        obtain ⟨x, q0, q1, hx⟩ := atL HA.out k hkl
        obtain ⟨a, cc, rfl⟩ := hx.len
        have ht := count_take hkl
        have hle := flat_take_le l (k + 1)
        obtain ⟨m, hmm⟩ : ∃ m, l[k].2.length = m := ⟨_, rfl⟩
        rw [hmm] at ht q1
        have hs : (flat (l.take k)).length + m ≤ 1000000 := by have := HF.out; omega
        have HT := Lib.hid ht
        obtain ⟨c1, f1, r1, p1⟩ := bcell hb
        clear ht hle hmm hx
        go_wp2
        go_roundw
        case rel => exact ⟨k + 1, by omega, by go_num, by rw [HT.out]; go_num, nx hb (below1 _ _)⟩
        case measure => simp [intOf]; omega
      · obtain rfl : k = n := by omega
        have HZ : Hid ((flat (l.take k)).length = (flat l).length) := Lib.hid (by rw [HN.out, List.take_length])
        go_wp2
        go_ret
        exact ⟨ret_int (by rw [HZ.out]), hb⟩
end Go.Proofs.Ytmpkindlanadbaa.Le
