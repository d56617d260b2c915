/- slices.Index and slices.Contains at keys. -/
import Derived.Test.YtinopnmacfkiiaaDoorCmD
namespace Go.Proofs.YtinopnmacfkiiaaDoor.Cm
open Go.RowKit
set_option linter.unusedVariables false
open Go.Proofs.YtinopnmacfkiiaaDoor.Rw
open Go.Proofs.YtinopnmacfkiiaaDoor.Fx (ret_v ret_bool ret_int)
/-- The first place, or -1. -/
def idxF (c : Nat → Int) (l : Bool) (x : Int) : Nat → Int
  | 0 => -1
  | n + 1 => if hasF c n l x then idxF c l x n else if keyB l x (kl n) (ki c n) then n else -1
theorem idxF_ge (c : Nat → Int) (l : Bool) (x : Int) (n : Nat) : decide (0 ≤ idxF c l x n) = hasF c n l x := by
  induction n with
  | zero => rfl
  | succ n ih =>
    rw [idxF, hasF_succ]
    cases h : hasF c n l x
    · cases k : keyB l x (kl n) (ki c n) <;> simp
    · rw [h] at ih; simpa using ih
theorem idxF_no {c : Nat → Int} {l : Bool} {x : Int} (n : Nat) (h : hasF c n l x = false) : idxF c l x n = -1 := by
  induction n with
  | zero => rfl
  | succ n ih =>
    rw [hasF_succ, Bool.or_eq_false_iff] at h
    rw [idxF, h.1, h.2]; rfl
theorem hasF_mono {c : Nat → Int} {l : Bool} {x : Int} {n m : Nat} (h : n ≤ m) (k : hasF c n l x = true) : hasF c m l x = true := by
  induction m with
  | zero => rw [← Nat.le_zero.1 h]; exact k
  | succ m ih =>
    by_cases e : n = m + 1
    · rw [← e]; exact k
    · rw [hasF_succ, ih (by omega)]; rfl
theorem idxF_at {c : Nat → Int} {l : Bool} {x : Int} (k n : Nat) (hk : k < n) (h0 : hasF c k l x = false) (h : keyB l x (kl k) (ki c k) = true) : idxF c l x n = k := by
  induction n with
  | zero => omega
  | succ n ih =>
    rw [idxF]
    by_cases e : k = n
    · subst e; rw [h0, h]; simp
    · have h1 : hasF c (k + 1) l x = true := by rw [hasF_succ, h, Bool.or_true]
      rw [hasF_mono (show k + 1 ≤ n by omega) h1, if_pos rfl]
      exact ih (by omega)
theorem bdrewN {B : Nat} {a w : World} (h : Below B a w) (n : Nat) : Below B a (w.drewN n) := ⟨h.os, h.tape, h.output, h.size, h.block⟩
set_option maxHeartbeats 400000 in
theorem index_nil (l : Bool) (x : Int) (w : World) :
    Calls Tryd.prog 37 #[.slice none 0 0, .agg #[.bool l, .int .i64 x]] w fun e w' => e = .returned (.int .i64 (-1)) ∧ Below w.heap.size w w' := by
  go_enter Tryd.func37, Tryd.ntmps37
  go_wp2
  go_loopw [8] (fun i wr => i = .int .i64 0 ∧ Below w.heap.size w wr) (fun i _ => 0)
  case atStart => exact ⟨rfl, below1 _ _⟩
  case round =>
    obtain ⟨rfl, hb⟩ := hrel
    go_wp2
    go_ret
    exact ⟨rfl, hb⟩
set_option maxHeartbeats 800000 in
theorem index_any (c : Nat → Int) (l : Bool) (x : Int) (b cap : Nat) (w : World) (hb : b < w.heap.size) (hc : ∀ j, j < nk c → w.cell? ⟨b, j * 2, none⟩ = some (.bool (kl j)) ∧ w.cell? ⟨b, j * 2 + 1, none⟩ = some (.int .i64 (ki c j))) :
    Calls Tryd.prog 37 #[.slice (some ⟨b, 0, none⟩) (nk c) cap, .agg #[.bool l, .int .i64 x]] w fun e w' => e = .returned (.int .i64 (idxF c l x (nk c))) ∧ Below w.heap.size w w' := by
  have HC := Lib.hid hc
  have hn := nk_bd c
  obtain ⟨n, hN⟩ : ∃ n, n = nk c := ⟨_, rfl⟩
  rw [← hN] at hn ⊢
  have HN := Lib.hid hN
  obtain ⟨hn1, hn2⟩ := hn
  clear hc hN
  go_enter Tryd.func37, Tryd.ntmps37
  go_wp2
  obtain ⟨W, hW⟩ : ∃ W, W = w.alloc (.cells #[.bool l, .int .i64 x] 27) := ⟨_, rfl⟩
  have hz : w.heap.size < W.heap.size := by rw [hW]; simp
  have hb0 : Below w.heap.size w W := hW ▸ below1 w _
  have k0 : W.cell? ⟨w.heap.size, 0, none⟩ = some (.bool l) := by rw [hW]; simp [go_sem]
  have k1 : W.cell? ⟨w.heap.size, 1, none⟩ = some (.int .i64 x) := by rw [hW]; simp [go_sem]
  have hbW : b < W.heap.size := by omega
  rw [← hW]
  have HK : Hid (∀ j, j < n → W.cell? ⟨b, j * 2, none⟩ = some (.bool (kl j)) ∧ W.cell? ⟨b, j * 2 + 1, none⟩ = some (.int .i64 (ki c j))) := Lib.hid fun j hj => by
    rw [hb0.cell (p := ⟨b, j * 2, none⟩) hb, hb0.cell (p := ⟨b, j * 2 + 1, none⟩) hb]
    exact HC.out j (HN.out ▸ hj)
  clear hW HC
  go_loopw [8] (fun i wr => ∃ k : Nat, k ≤ n ∧ i = .int .i64 k ∧ Below W.heap.size W wr ∧ hasF c k l x = false) (fun i _ => n - (intOf i).toNat)
  case atStart => exact ⟨0, Nat.zero_le _, rfl, Below.refl _ _, rfl⟩
  case round =>
    obtain ⟨k, hk, rfl, hb1, hno⟩ := hrel
    have HNo := Lib.hid hno
    clear hno
    by_cases hlt : k < n
    · have hlt2 : (k : Int) < n := by omega
      have hc := HK.out k hlt
      obtain ⟨hc0, hc1⟩ := hc
      have hB := bcell hb1
      obtain ⟨c1, f1, r1, p1⟩ := hB
      cases hq : keyB l x (kl k) (ki c k)
      · have HS : Hid (hasF c (k + 1) l x = false) := Lib.hid (by rw [hasF_succ, HNo.out, hq]; rfl)
        go_wp2
        go_quiet (fail)
        go_wp2
        go_roundw
        case rel => exact ⟨k + 1, by omega, by go_num, bdrewN hb1 _, HS.out⟩
        case measure => simp [intOf]; omega
      · have HS : Hid (idxF c l x n = k) := Lib.hid (idxF_at k n hlt HNo.out hq)
        go_wp2
        go_quiet (fail)
        go_wp2
        go_ret
        exact ⟨ret_int HS.out.symm, nx hb0 (bdrewN hb1 _)⟩
    · obtain rfl : k = n := by omega
      have HS : Hid (idxF c l x k = -1) := Lib.hid (idxF_no k HNo.out)
      go_wp2
      go_ret
      exact ⟨ret_int HS.out.symm, nx hb0 hb1⟩
theorem index_kv (c : Nat → Int) (l : Bool) (x : Int) (v : Value) (w : World) (h : KV c v w) :
    Calls Tryd.prog 37 #[v, .agg #[.bool l, .int .i64 x]] w fun e w' => (∃ k : Int, e = .returned (.int .i64 k) ∧ decide (0 ≤ k) = hasB c l x) ∧ Below w.heap.size w w' := by
  rcases h with ⟨h, rfl⟩ | ⟨h, b, cap, rfl, hb, hc⟩
  · exact (index_nil l x w).mono fun e w' ⟨he, hb⟩ => ⟨⟨_, he, by simp [hasB, h]⟩, hb⟩
  · exact (index_any c l x b cap w hb hc).mono fun e w' ⟨he, hb⟩ => ⟨⟨_, he, by rw [idxF_ge]; simp [hasB, h]⟩, hb⟩
set_option maxHeartbeats 400000 in
theorem contains_kv (c : Nat → Int) (l : Bool) (x : Int) (v : Value) (w : World) (h : KV c v w) :
    Calls Tryd.prog 26 #[v, .agg #[.bool l, .int .i64 x]] w fun e w' => e = .returned (.bool (hasB c l x)) ∧ Below w.heap.size w w' := by
  have HS := Lib.hid (KV.stays c v w _ h (below1 w (.cells #[.bool l, .int .i64 x] 27)))
  clear h
  go_enter Tryd.func26, Tryd.ntmps26
  go_wp2_with fail
  refine (index_kv c l x v _ HS.out).mono ?_
  rintro e w1 ⟨⟨k, rfl, hk⟩, hb1⟩
  have HK := Lib.hid hk
  clear hk
  go_wp2
  go_ret
  exact ⟨ret_bool HK.out, nx (below1 _ _) hb1⟩
end Go.Proofs.YtinopnmacfkiiaaDoor.Cm
