/- Package session as it landed: isOf, first, Last, Look. -/
import Derived.Test.YtigoemecphilkaaSeA
namespace Go.Proofs.Ytigoemecphilkaa.Se
open Go.RowKit
set_option linter.unusedVariables false
open Go.Proofs.Ytigoemecphilkaa.Rw
open Go.Proofs.Ytigoemecphilkaa.Da
def isB (s : Sn) (c : Int) : Bool := decide (s.1 = c ∧ 1 ≤ s.2.1 ∧ s.2.1 ≤ 1125899906842624 ∧ s.2.2.1 = c ∧ s.2.2.2.1 = s.2.1)
set_option maxHeartbeats 1000000 in
theorem isOf_any (a b c d e f g x : Int) (w : World) : Calls Try.prog 20 #[.agg #[.int .i64 a, .int .i64 b, .int .i64 c, .int .i64 d, .int .i64 e, .int .i64 f, .int .i64 g], .int .i64 x] w fun r w' => r = .returned (.bool (isB (a, b, c, d, e, f, g) x)) ∧ Below w.heap.size w w' := by
  obtain ⟨q, hq⟩ : ∃ q, isB (a, b, c, d, e, f, g) x = q := ⟨_, rfl⟩
  rw [hq]
  have H := Lib.hid hq
  clear hq
  go_enter Try.func20, Try.ntmps20
  go_wp2
  all_goals
    go_ret
    exact ⟨ret_bool (by rw [← H.out]; unfold isB; rw [Bool.eq_iff_iff]; simp; try omega), below1 _ _⟩
theorem isOf_is {a b c d e f g x : Int} {r : Bool} (h : Hid (isB (a, b, c, d, e, f, g) x = r)) (w : World) : Calls Try.prog 20 #[.agg #[.int .i64 a, .int .i64 b, .int .i64 c, .int .i64 d, .int .i64 e, .int .i64 f, .int .i64 g], .int .i64 x] w fun e w' => e = .returned (.bool r) ∧ Below w.heap.size w w' := by
  rw [← h.out]; exact isOf_any a b c d e f g x w
theorem ret_S2 {fn : Func} {p q : Tmp} (h : fn.results = #[.cell p 42, .tmp q]) (tmps : Array Value) (w : World) {cs : Array Value} (hs : cs.size = 7) (hr : rowOf w (tmps.getD p undef) = cs) : (results fn tmps).run Try.prog w = .ok (.tuple #[.agg cs, tmps.getD q undef]) w :=
  ret2 (n := 6) h Try.underlying42 rfl (by kernel_rfl) tmps w hs hr
/-- A session and true, or the zero session and false. -/
def fV : Option Sn → Value
  | some s => .tuple #[.agg #[.int .i64 s.1, .int .i64 s.2.1, .int .i64 s.2.2.1, .int .i64 s.2.2.2.1, .int .i64 s.2.2.2.2.1, .int .i64 s.2.2.2.2.2.1, .int .i64 s.2.2.2.2.2.2], .bool true]
  | none => .tuple #[.agg #[.int .i64 0, .int .i64 0, .int .i64 0, .int .i64 0, .int .i64 0, .int .i64 0, .int .i64 0], .bool false]
theorem drop_cons {α : Type} {l : List α} {k : Nat} (h : k < l.length) : l.drop k = l[k] :: l.drop (k + 1) := List.drop_eq_getElem_cons h
theorem fnd_drop {l : List Sn} {k : Nat} (h : k < l.length) (c : Int) : fnd c (l.drop k) = if l[k].1 = c then some l[k] else fnd c (l.drop (k + 1)) := by
  rw [drop_cons h]; rfl
set_option maxHeartbeats 2000000 in
theorem first_any (B : Bs) (l : List Sn) (v : Value) (c : Int) (w : World) (h : NL B l v w) (hm : l.length ≤ 1000000) :
    Calls Try.prog 19 #[v, .int .i64 c] w fun e w' => e = .returned (fV (fnd c l)) ∧ Below w.heap.size w w' := by
  obtain ⟨a, cp, rfl, hel⟩ := h
  obtain ⟨n, hn⟩ : ∃ n, n = l.length := ⟨_, rfl⟩
  obtain ⟨r, hr⟩ : ∃ r, fnd c l = r := ⟨_, rfl⟩
  rw [← hn] at hm ⊢
  rw [hr]
  have HN := Lib.hid hn
  have HR := Lib.hid hr
  have HE := Lib.hid hel
  clear hn hr hel
  go_enter Try.func19, Try.ntmps19
  go_wp2
  obtain ⟨W, hW⟩ : ∃ W, W = w.alloc (.cells #[.int .i64 0, .int .i64 0, .int .i64 0, .int .i64 0, .int .i64 0, .int .i64 0, .int .i64 0] 42) := ⟨_, rfl⟩
  have hbW : Below w.heap.size w W := hW ▸ below1 w _
  have hz : w.heap.size < W.heap.size := by rw [hW]; simp
  have hpl : plain 7 W w.heap.size = true := by rw [hW]; simp [go_sem]
  have HP := Lib.hid hpl
  rw [← hW]
  clear hpl hW
  go_loopw [10] (fun i wr => ∃ k : Nat, k ≤ n ∧ i = .int .i64 k ∧ Below W.heap.size W wr ∧ fnd c (l.drop k) = r) (fun i _ => n - (intOf i).toNat)
  case atStart => exact ⟨0, Nat.zero_le _, rfl, Below.refl _ _, HR.out⟩
  case round =>
    obtain ⟨k, hk, rfl, hb, hrk⟩ := hrel
    have hz2 : w.heap.size < wr.heap.size := by have := hb.size; omega
    have hpi : plain 7 wr w.heap.size = true := by rw [(bcell hb).2.2.2 _ _ hz]; exact HP.out
    by_cases hlt : k < n
    · have hlt2 : (k : Int) < n := by omega
      have hkl : k < l.length := by rw [← HN.out]; exact hlt
      rcases HE.out with ⟨e, _⟩ | ⟨b, off, rfl, hat⟩
      · rw [e] at hkl; cases hkl
      · have hat3 := Lies.keep eS 42 hat (Keeps.of_below (nx hbW hb))
        have hc := at7 hat3 k hkl
        have hb3 := hat3.1
        rw [fnd_drop hkl] at hrk
        obtain ⟨⟨s1, s2, s3, s4, s5, s6, s7⟩, hs⟩ : ∃ s, l[k] = s := ⟨_, rfl⟩
        rw [hs] at hrk hc
        simp only at hrk hc
        obtain ⟨c0, c1, c2, c3, c4, c5, c6⟩ := hc
        clear hat hat3 hs
        by_cases e : s1 = c
        · have hd : (s1 == c) = true := by simpa using e
          rw [if_pos e] at hrk
          have HZ := Lib.hid hrk
          clear hrk e
          go_wp2
          refine bodyPost_ret (v := fV (some (s1, s2, s3, s4, s5, s6, s7))) (ret_S2 Try.results19 _ _ rfl ?c1) rfl ⟨by rw [HZ.out], ?c2⟩
          case c1 => exact (row_past _ _ _ (by rw [setRow_size]; exact hz2)).trans (row_set _ hpi)
          case c2 => exact (below_setRow (nx hbW hb) (Nat.le_refl _) _).alloc (by rw [setRow_size]; omega) _
        · have hd : (s1 == c) = false := by simpa using e
          rw [if_neg e] at hrk
          have HZ := Lib.hid hrk
          clear hrk e
          go_wp2
          go_roundw
          case rel => exact ⟨k + 1, by omega, by go_num, nx hb (below1 _ _), HZ.out⟩
          case measure => simp [intOf]; omega
    · obtain rfl : k = n := by omega
      have HZ : Hid (r = none) := Lib.hid (by rw [← hrk, HN.out, List.drop_length]; rfl)
      clear hrk
      go_wp2
      refine bodyPost_ret (v := fV none) (ret_S2 Try.results19 _ _ rfl ?c3) rfl ⟨by rw [HZ.out], ?c4⟩
      case c3 => exact row_set _ hpi
      case c4 => exact below_setRow (nx hbW hb) (Nat.le_refl _) _
end Go.Proofs.Ytigoemecphilkaa.Se
