/- awake of layer 7. -/
import Derived.Test.YteandjnbcolphaaAcZ
import Derived.Test.YteandjnbcolphaaAcFr
namespace Go.Proofs.Yteandjnbcolphaa.Ac
open Go.RowKit
set_option linter.unusedVariables false
open Go.Proofs.Yteandjnbcolphaa.Rw
open Go.Proofs.Yteandjnbcolphaa.Sl
theorem aw1 : giveE [] (1, 0) 5 = 0 := by kernel_rfl
theorem aw2 : giveL [] (1, 0) 5 = [(1, 0, 5)] := by kernel_rfl
theorem aw3 : takeE [(1, 0, 5)] (1, 0) 6 = 7 := by kernel_rfl
theorem aw4 : takeE [(1, 0, 5)] (1, 0) 5 = 0 := by kernel_rfl
theorem aw5 : takeL [(1, 0, 5)] (1, 0) 5 = [] := by kernel_rfl
theorem aw6 : get [(1, 0, 5)] (1, 0) = 5 := by kernel_rfl
theorem aw7 : total [(1, 0, 5)] 0 = 5 := by kernel_rfl
theorem awc1 (w : World) : Calls Try.prog 7 #[.slice none 0 0, .agg #[.int .i64 1, .int .i64 0], .int .i64 5] w (Post2 (HL [(1, 0, 5)]) 0 w) := by
  have h := give_any [] (.slice none 0 0) 1 0 5 w (SL.nil enc 3 w) (by decide)
  rw [aw1, aw2] at h; exact h
theorem awc2 (v : Value) (w : World) (h : HL [(1, 0, 5)] v w) : Calls Try.prog 9 #[v, .agg #[.int .i64 1, .int .i64 0], .int .i64 6] w (Post2 (fun _ _ => True) 7 w) := by
  have k := take_any _ v 1 0 6 w h (by decide)
  rw [aw3] at k
  exact k.mono fun e w' ⟨x, a, b, c⟩ => ⟨x, a, b, trivial⟩
theorem awc3 (v : Value) (w : World) (h : HL [(1, 0, 5)] v w) : Calls Try.prog 9 #[v, .agg #[.int .i64 1, .int .i64 0], .int .i64 5] w (Post2 (HL []) 0 w) := by
  have k := take_any _ v 1 0 5 w h (by decide)
  rw [aw4, aw5] at k; exact k
theorem awc4 (v : Value) (w : World) (h : HL [(1, 0, 5)] v w) : Calls Try.prog 14 #[v, .agg #[.int .i64 1, .int .i64 0]] w fun e w' => e = .returned (.int .i64 5) ∧ Below w.heap.size w w' := by
  have k := get_any _ v 1 0 w h (by decide)
  rw [aw6] at k; exact k
theorem awc5 (v : Value) (w : World) (h : HL [(1, 0, 5)] v w) : Calls Try.prog 16 #[v, .int .i64 0] w fun e w' => e = .returned (.int .i64 5) ∧ Below w.heap.size w w' := by
  have k := total_any _ v 0 w h (by decide)
  rw [aw7] at k; exact k
set_option maxHeartbeats 1600000 in
theorem awake_any (w : World) : Calls Try.prog 6 #[] w fun e w' => e = .returned (.bool true) ∧ Below w.heap.size w w' := by
  go_enter Try.func6, Try.ntmps6
  go_wp2_with fail
  obtain ⟨W, hW⟩ : ∃ W, W = w.alloc (.cells #[.int .i64 1, .int .i64 0] 24) := ⟨_, rfl⟩
  have k0 : W.cell? ⟨w.heap.size, 0, none⟩ = some (.int .i64 1) := by rw [hW]; simp [go_sem]
  have k1 : W.cell? ⟨w.heap.size, 1, none⟩ = some (.int .i64 0) := by rw [hW]; simp [go_sem]
  have hb0 : Below w.heap.size w W := hW ▸ below1 w _
  have hz : w.heap.size < W.heap.size := by rw [hW]; simp
  rw [← hW]
  clear hW
  refine (awc1 _).mono ?_
  rintro e w1 ⟨l, rfl, hb1, hl⟩
  have HL1 := Lib.hid hl
  have l0 : w1.cell? ⟨w.heap.size, 0, none⟩ = some (.int .i64 1) := by rw [hb1.cell (p := ⟨w.heap.size, 0, none⟩) hz]; exact k0
  have l1 : w1.cell? ⟨w.heap.size, 1, none⟩ = some (.int .i64 0) := by rw [hb1.cell (p := ⟨w.heap.size, 1, none⟩) hz]; exact k1
  have hz1 : w.heap.size < w1.heap.size := by have := hb1.size; omega
  clear k0 k1 hl
  go_wp2_with fail
  refine (awc2 l _ HL1.out).mono ?_
  rintro e w2 ⟨x, rfl, hb2, _⟩
  have HL2 := Lib.hid (SL.stays enc 3 _ l _ _ HL1.out hb2)
  have m0 : w2.cell? ⟨w.heap.size, 0, none⟩ = some (.int .i64 1) := by rw [hb2.cell (p := ⟨w.heap.size, 0, none⟩) hz1]; exact l0
  have m1 : w2.cell? ⟨w.heap.size, 1, none⟩ = some (.int .i64 0) := by rw [hb2.cell (p := ⟨w.heap.size, 1, none⟩) hz1]; exact l1
  have hz2 : w.heap.size < w2.heap.size := by have := hb2.size; omega
  clear l0 l1
  go_wp2_with fail
  refine (awc3 l _ HL2.out).mono ?_
  rintro e w3 ⟨m, rfl, hb3, hm⟩
  obtain ⟨a, c, rfl, _⟩ := hm
  have HL3 := Lib.hid (SL.stays enc 3 _ l _ _ HL2.out hb3)
  have n0 : w3.cell? ⟨w.heap.size, 0, none⟩ = some (.int .i64 1) := by rw [hb3.cell (p := ⟨w.heap.size, 0, none⟩) hz2]; exact m0
  have n1 : w3.cell? ⟨w.heap.size, 1, none⟩ = some (.int .i64 0) := by rw [hb3.cell (p := ⟨w.heap.size, 1, none⟩) hz2]; exact m1
  clear m0 m1
  go_wp2_with fail
  refine (awc4 l _ HL3.out).mono ?_
  rintro e w4 ⟨rfl, hb4⟩
  have HL4 := Lib.hid (SL.stays enc 3 _ l _ _ HL3.out hb4)
  clear n0 n1
  go_wp2_with fail
  refine (awc5 l _ HL4.out).mono ?_
  rintro e w5 ⟨rfl, hb5⟩
  go_wp2
  go_ret
  exact ⟨rfl, nx hb0 (nx hb1 (nx hb2 (nx hb3 (nx hb4 hb5))))⟩
end Go.Proofs.Yteandjnbcolphaa.Ac
