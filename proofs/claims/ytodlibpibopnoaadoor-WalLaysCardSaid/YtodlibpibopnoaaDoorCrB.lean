/- a sum's four bytes: both programs' walks. -/
import Derived.Test.YtodlibpibopnoaaDoorCrA
import Derived.Laws.BytesArg
namespace Go.Proofs.YtodlibpibopnoaaDoor.Cr
open Go.RowKit
set_option linter.unusedVariables false
open Go.Proofs.YtodlibpibopnoaaDoor.Fx
/-- the cells of w bytes of which the first k hold f's numbers -/
def arrF (f : Nat → Int) (w k : Nat) : Array Value := ((List.range w).map fun i => if i < k then Value.int .u8 (f i) else Value.int .u8 0).toArray
theorem arrF_zero (f : Nat → Int) (w : Nat) : arrF f w 0 = arr 0 w 0 := by
  apply Array.ext'
  simp [arrF, arr]
theorem arrF_succ (f : Nat → Int) (w k : Nat) : (arrF f w k).setIfInBounds k (.int .u8 (f k)) = arrF f w (k + 1) := by
  apply Array.ext'
  unfold arrF
  rw [Array.toList_setIfInBounds]
  apply List.ext_getElem
  · simp
  · intro i h1 h2
    simp at h1 h2
    rw [List.getElem_set]
    by_cases h : k = i
    · subst h; simp
    · simp [h]
      by_cases h3 : i < k
      · simp [h3, show i < k + 1 by omega]
      · simp [h3, show ¬ i < k + 1 by omega]
theorem arrF_at (f : Nat → Int) (w k : Nat) (h : k < w) : (arrF f w k)[k]? = some (.int .u8 0) := by simp [arrF, h]
theorem arrF_get (f : Nat → Int) (w i : Nat) (h : i < w) : (arrF f w w)[i]? = some (.int .u8 (((List.range w).map f).getD i 0)) := by
  simp [arrF, h]
theorem conv_f (f : Nat → Int) (n : Nat) (w : World) :
    (convert 40 9 (.slice (some ⟨w.heap.size, 0, none⟩) n n)).run Tryd.prog (w.alloc (.cells (arrF f n n) 5)) = .ok (.string (strOfNums ((List.range n).map f))) (w.alloc (.cells (arrF f n n) 5)) :=
  run_convert_bytes_arg (P := Tryd.prog) _ 40 5 Tryd.underlying40 Tryd.underlying5 _ 0 n n ((List.range n).map f) (by simp) (fun i hi => by rw [World.cell?_alloc_at _ _ _ _ rfl, Nat.zero_add]; exact arrF_get f n i hi) 9 Tryd.underlying9
theorem conv_at (f : Nat → Int) (n b cap : Nat) (w : World) (h : ∀ i, i < n → w.cell? ⟨b, i, none⟩ = some (.int .u8 (((List.range n).map f).getD i 0))) :
    (convert 40 9 (.slice (some ⟨b, 0, none⟩) n cap)).run Tryd.prog w = .ok (.string (strOfNums ((List.range n).map f))) w :=
  run_convert_bytes_arg (P := Tryd.prog) _ 40 5 Tryd.underlying40 Tryd.underlying5 _ 0 n cap ((List.range n).map f) (by simp) (fun i hi => by rw [Nat.zero_add]; exact h i hi) 9 Tryd.underlying9
theorem make_f (f : Nat → Int) (n : Nat) (hn : n ≤ 100000) (w : World) :
    (Instr.makeSlice 40 (.int .i64 n) (.int .i64 n)).run Tryd.prog w = .ok (.slice (some ⟨w.heap.size, 0, none⟩) n n) (w.alloc (.cells (arrF f n 0) 5)) := by
  obtain ⟨i0, hi, hz0, hz1, hz2⟩ := info_parts info5
  have h := run_make (P := Tryd.prog) w 40 5 i0 (.int .u8 0) Tryd.underlying40 hi hz0 .i64 .i64 n n (by omega) (by omega) (by rw [hz2]; omega) (by omega)
  rw [h, hz1, arrF_zero, ← arr_zero]
  simp [Value.cells]
def fle (v : Nat) (i : Nat) : Int := (v : Int) / 2 ^ (8 * i) % 256
/-- a sum's four bytes -/
def leS (v : Nat) : ByteArray := strOfNums ((List.range 4).map (fle v))
theorem leS_data (v : Nat) : (leS v).data.toList = le4 v := by
  have e : ∀ i p : Nat, (2 : Int) ^ (8 * i) = (p : Int) → UInt8.ofNat (fle v i).toNat = UInt8.ofNat (v / p % 256) := fun i p hp => by
    have : fle v i = ((v / p % 256 : Nat) : Int) := by unfold fle; rw [hp]; omega
    rw [this, Int.toNat_natCast]
  unfold leS
  rw [strOfNums_data, show List.range 4 = [0, 1, 2, 3] from rfl]
  simp only [List.map_cons, List.map_nil]
  rw [e 0 1 rfl, e 1 256 rfl, e 2 65536 rfl, e 3 16777216 rfl, Nat.div_one]
  rfl
theorem leS_size (v : Nat) : (leS v).size = 4 := by rw [leS, strOfNums_size]; rfl
set_option maxHeartbeats 400000 in
theorem sumBytes_any (v : Nat) (hv : v < 4294967296) (w : World) :
    Calls Tryd.prog 26 #[.int .i64 v] w fun e w' => e = .returned (.string (leS v)) ∧ Below w.heap.size w w' := by
  have hmk : ∀ w : World, (Instr.makeSlice 40 (.int .i64 4) (.int .i64 4)).run Tryd.prog w = .ok (.slice (some ⟨w.heap.size, 0, none⟩) 4 4) (w.alloc (.cells (arrF (fle v) 4 0) 5)) := fun w => make_f (fle v) 4 (by omega) w
  go_enter Tryd.func26, Tryd.ntmps26
  go_wp2
  go_loopw [6] (fun i wr => ∃ k : Nat, k ≤ 4 ∧ i = .int .i64 k ∧ wr = w.alloc (.cells (arrF (fle v) 4 k) 5)) (fun i _ => 4 - (intOf i).toNat)
  case atStart => exact ⟨0, Nat.zero_le _, rfl, rfl⟩
  case round =>
    obtain ⟨k, hk, rfl, rfl⟩ := hrel
    by_cases hlt : k < 4
    · have hc := arrF_at (fle v) 4 k hlt
      go_wp2
      go_roundw
      case rel => exact ⟨k + 1, by omega, by go_num, by rw [← arrF_succ]; rfl⟩
      case measure => simp [intOf]; omega
    · obtain rfl : k = 4 := by omega
      have hcv := conv_f (fle v) 4 w
      go_wp2
      go_ret
      exact ⟨rfl, (Below.refl _ _).alloc (Nat.le_refl _) _⟩
theorem arrF4 (v : Nat) (hv : v < 4294967296) : arrF (fle v) 4 4 = #[Value.int .u8 (v % 256), .int .u8 (v / 256 % 256), .int .u8 (v / 65536 % 256), .int .u8 (v / 16777216)] := by
  apply Array.ext'
  simp [arrF, show List.range 4 = [0, 1, 2, 3] from rfl, fle]
  omega
set_option maxHeartbeats 400000 in
theorem rBack_any (v : Nat) (hv : v < 4294967296) (w : World) :
    Calls Tryd.prog 30 #[.int .i64 v] w fun e w' => e = .returned (.string (leS v)) ∧ Below w.heap.size w w' := by
  have hcv := conv_f (fle v) 4 w
  rw [arrF4 v hv] at hcv
  go_enter Tryd.func30, Tryd.ntmps30
  go_wp2
  go_ret
  exact ⟨rfl, (Below.refl _ _).alloc (Nat.le_refl _) _⟩
end Go.Proofs.YtodlibpibopnoaaDoor.Cr
