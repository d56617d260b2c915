/- The document's own: less, may, Get, Total. -/
import Derived.Test.YteandjnbcolphaaAcA
import Derived.BigQuiet
import Derived.StillTailTactics
namespace Go.Proofs.Yteandjnbcolphaa.Ac
open Go.RowKit
set_option linter.unusedVariables false
open Go.Proofs.Yteandjnbcolphaa.Rw
open Go.Proofs.Yteandjnbcolphaa.Sl
open Go.Proofs.Yteandjnbcolphaa.Mo (may)
set_option maxHeartbeats 400000 in
theorem less_any (a b c d : Int) (w : World) :
    Calls Try.prog 32 #[.agg #[.int .i64 a, .int .i64 b], .agg #[.int .i64 c, .int .i64 d]] w fun e w' => e = .returned (.bool (pless (a, b) (c, d))) ∧ Below w.heap.size w w' := by
  by_cases h : a = c
  · have hd : (a != c) = false := by simpa using h
    have H : Hid (pless (a, b) (c, d) = decide (b < d)) := Lib.hid (if_pos h)
    clear h
    go_enter Try.func32, Try.ntmps32
    go_wp2
    go_ret
    exact ⟨ret_bool H.out.symm, below2 _ _ _⟩
  · have hd : (a != c) = true := by simpa using h
    have H : Hid (pless (a, b) (c, d) = decide (a < c)) := Lib.hid (if_neg h)
    clear h
    go_enter Try.func32, Try.ntmps32
    go_wp2
    go_ret
    exact ⟨ret_bool H.out.symm, below2 _ _ _⟩
theorem less_is {a b c d : Int} {r : Bool} (h : Hid (pless (a, b) (c, d) = r)) (w : World) :
    Calls Try.prog 32 #[.agg #[.int .i64 a, .int .i64 b], .agg #[.int .i64 c, .int .i64 d]] w fun e w' => e = .returned (.bool r) ∧ Below w.heap.size w w' := by
  rw [← h.out]; exact less_any a b c d w
set_option maxHeartbeats 400000 in
theorem pmay_any (a b : Int) (w : World) :
    Calls Try.prog 22 #[.agg #[.int .i64 a, .int .i64 b]] w fun e w' => e = .returned (.bool (pmay (a, b))) ∧ Below w.heap.size w w' := by
  by_cases h0 : 0 ≤ a
  · by_cases h1 : a < 64
    · by_cases h2 : 0 ≤ b
      · by_cases h3 : b < 8
        · have H : Hid (pmay (a, b) = true) := Lib.hid (pmay_iff.2 ⟨h0, h1, h2, h3⟩)
          go_enter Try.func22, Try.ntmps22
          go_wp2
          go_ret
          exact ⟨by rw [H.out]; simp, below1 _ _⟩
        · have H : Hid (pmay (a, b) = false) := Lib.hid (by unfold pmay; simp; omega)
          have hd : decide (b < 8) = false := by simp; omega
          go_enter Try.func22, Try.ntmps22
          go_wp2
          go_ret
          exact ⟨by rw [H.out]; simp, below1 _ _⟩
      · have H : Hid (pmay (a, b) = false) := Lib.hid (by unfold pmay; simp; omega)
        have hd : decide (0 ≤ b) = false := by simp; omega
        clear h2
        go_enter Try.func22, Try.ntmps22
        go_wp2
        go_ret
        exact ⟨by rw [H.out]; simp, below1 _ _⟩
    · have H : Hid (pmay (a, b) = false) := Lib.hid (by unfold pmay; simp; omega)
      have hd : decide (a < 64) = false := by simp; omega
      clear h1
      go_enter Try.func22, Try.ntmps22
      go_wp2
      go_ret
      exact ⟨by rw [H.out]; simp, below1 _ _⟩
  · have H : Hid (pmay (a, b) = false) := Lib.hid (by unfold pmay; simp; omega)
    have hd : decide (0 ≤ a) = false := by simp; omega
    clear h0
    go_enter Try.func22, Try.ntmps22
    go_wp2
    go_ret
    exact ⟨by rw [H.out]; simp, below1 _ _⟩
theorem pmay_is {a b : Int} {r : Bool} (h : Hid (pmay (a, b) = r)) (w : World) :
    Calls Try.prog 22 #[.agg #[.int .i64 a, .int .i64 b]] w fun e w' => e = .returned (.bool r) ∧ Below w.heap.size w w' := by
  rw [← h.out]; exact pmay_any a b w
theorem get_drop {l : List Hd} {k : Nat} (h : k < l.length) (p : Pu) : get (l.drop k) p = if key l[k] = p then amt l[k] else get (l.drop (k + 1)) p := by
  rw [List.drop_eq_getElem_cons h, get]
set_option maxHeartbeats 800000 in
theorem rGet_any (l : List Hd) (v : Value) (p q : Int) (w : World) (h : HL l v w) (hm : l.length ≤ maxLen) :
    Calls Try.prog 15 #[v, .agg #[.int .i64 p, .int .i64 q]] w fun e w' => e = .returned (.int .i64 (get l (p, q))) ∧ Below w.heap.size w w' := by
  unfold maxLen at hm
  rcases h.cases with ⟨rfl, a, c, rfl⟩ | ⟨hne, b, off, c, rfl, hat⟩
  · clear h
    go_enter Try.func15, Try.ntmps15
    go_wp2
    go_loopw [9] (fun i wr => i = .int .i64 0 ∧ Below w.heap.size w wr) (fun i _ => 0)
    case atStart => exact ⟨rfl, below1 _ _⟩
    case round =>
      obtain ⟨rfl, hb⟩ := hrel
      go_wp2
      go_ret
      exact ⟨rfl, hb⟩
  · have hbw := hat.1
    have HA := Lib.hid hat
    obtain ⟨n, hn⟩ : ∃ n, n = l.length := ⟨_, rfl⟩
    rw [← hn] at hm ⊢
    have HN := Lib.hid hn
    clear h hat hn hne
    go_enter Try.func15, Try.ntmps15
    go_wp2
    obtain ⟨W, hW⟩ : ∃ W, W = w.alloc (.cells #[.int .i64 p, .int .i64 q] 24) := ⟨_, rfl⟩
    have k0 : W.cell? ⟨w.heap.size, 0, none⟩ = some (.int .i64 p) := by rw [hW]; simp [go_sem]
    have k1 : W.cell? ⟨w.heap.size, 1, none⟩ = some (.int .i64 q) := by rw [hW]; simp [go_sem]
    have hb0 : Below w.heap.size w W := hW ▸ below1 w _
    have hz : w.heap.size < W.heap.size := by rw [hW]; simp
    have hzb : b < W.heap.size := by omega
    have HW := Lib.hid (HA.out.stays enc 3 hb0)
    rw [← hW]
    clear hW HA
    go_loopw [9] (fun i wr => ∃ k : Nat, k ≤ n ∧ i = .int .i64 k ∧ Below W.heap.size W wr ∧ get (l.drop k) (p, q) = get l (p, q)) (fun i _ => n - (intOf i).toNat)
    case atStart => exact ⟨0, Nat.zero_le _, rfl, Below.refl _ _, rfl⟩
    case round =>
      obtain ⟨k, hk, rfl, hb, hrest⟩ := hrel
      have HR := Lib.hid hrest
      clear hrest
      by_cases hlt : k < n
      · have hlt2 : (k : Int) < n := by omega
        have hkl : k < l.length := by rw [← HN.out]; exact hlt
        obtain ⟨⟨x, y, z⟩, hx⟩ : ∃ x, l[k] = x := ⟨_, rfl⟩
        have hc := at3 HW.out k hkl
        have hg := get_drop hkl (p, q)
        rw [hx] at hc hg
        simp only at hc
        obtain ⟨q0, q1, q2⟩ := hc
        obtain ⟨c1, f1, r1, p1⟩ := bcell hb
        have hzw : w.heap.size < wr.heap.size := by have := hb.size; omega
        have HG : Hid (get (l.drop k) (p, q) = if eqP (x, y) (p, q) = true then z else get (l.drop (k + 1)) (p, q)) := Lib.hid (by rw [hg]; simp only [eqP_iff]; rfl)
        clear hg hx
        cases he : eqP (x, y) (p, q)
        · rw [he] at HG
          go_wp2
          go_roundw
          case rel => exact ⟨k + 1, by omega, by go_num, nx hb (below1 _ _), by rw [← HR.out, HG.out]; rfl⟩
          case measure => simp [intOf]; omega
        · rw [he] at HG
          go_wp2
          go_ret
          exact ⟨ret_int (by rw [← HR.out, HG.out]; rfl), nx hb0 (nx hb (below1 _ _))⟩
      · obtain rfl : k = n := by omega
        have hz0 : get l (p, q) = 0 := by rw [← HR.out, HN.out, List.drop_length]; rfl
        have HZ := Lib.hid hz0
        clear hz0
        go_wp2
        go_ret
        exact ⟨ret_int HZ.out.symm, nx hb0 hb⟩
end Go.Proofs.Yteandjnbcolphaa.Ac
