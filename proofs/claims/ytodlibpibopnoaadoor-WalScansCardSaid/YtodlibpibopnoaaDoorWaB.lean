/- The document's own of layer 15: Scan. -/
import Derived.Test.YtodlibpibopnoaaDoorWaA
namespace Go.Proofs.YtodlibpibopnoaaDoor.Wa
open Go.RowKit
set_option linter.unusedVariables false
open Go.Proofs.YtodlibpibopnoaaDoor.Rw
open Go.Proofs.YtodlibpibopnoaaDoor.Da
open Go.Proofs.YtodlibpibopnoaaDoor.Cr
theorem rOpen_is {s : ByteArray} {a : Int} {x : ByteArray} {y z : Int} (H : Hid (openS s a = x ∧ openA s a = y ∧ openE s a = z)) (hs : Hid (s.size ≤ 1000000)) (w : World) :
    Calls Tryd.prog 19 #[.string s, .int .i64 a] w fun e w' => e = .returned (.tuple #[.string x, .int .i64 y, .int .i64 z]) ∧ Below w.heap.size w w' := by
  obtain ⟨rfl, rfl, rfl⟩ := H.out
  exact rOpen_any s a (Nat.le_trans hs.out (by decide)) w
theorem open_no {s : ByteArray} {a : Int} {z : Int} (h : openE s a = z) (hz : z ≠ 0) : openS s a = ByteArray.empty ∧ openA s a = 0 ∧ openE s a = z := by
  unfold openS openA; rw [h, if_neg hz, if_neg hz]; exact ⟨rfl, rfl, rfl⟩
/-- What a scan answers. -/
def ScP (q : Nat) (r : List ByteArray × Nat) (w : World) (e : Ending) (w' : World) : Prop :=
  ∃ v, e = .returned (.tuple #[v, .int .i64 (r.2 : Nat)]) ∧ Below w.heap.size w w' ∧ OwnT q w.heap.size r.1 v w'
set_option maxRecDepth 8000 in
set_option maxHeartbeats 2000000 in
theorem rScan_any (q : Nat) (s : ByteArray) (hs : s.size ≤ 1000000) (w : World) (hq : q ≤ w.heap.size) :
    Calls Tryd.prog 9 #[.string s] w (ScP q (scan s) w) := by
  have HS := Lib.hid hs
  have HF : Hid (∀ l a, Sc s 0 l a → Stop s a → scan s = (l, a)) := Lib.hid fun l a h k => scan_is ⟨h, k⟩
  go_enter Tryd.func9, Tryd.ntmps9
  go_wp2
  go_loopw [4, 5] (fun t i wr => ∃ (a : Nat) (l : List ByteArray), i = .int .i64 a ∧ a ≤ s.size ∧ Sc s 0 l a ∧ OwnT q w.heap.size l t wr ∧ Below w.heap.size w wr) (fun _ i _ => s.size - (intOf i).toNat)
  case atStart => exact ⟨0, [], rfl, Nat.zero_le _, .nil _, Own.nil _ _ _, Below.refl _ _⟩
  case round =>
    obtain ⟨a, l, rfl, ha, hsc, hown, hb⟩ := hrel
    have HSc := Lib.hid hsc
    have HOw := Lib.hid hown
    have hll : l.length ≤ 100000000 := by have := hsc.many (Nat.zero_le _); omega
    clear hsc hown
    by_cases h1 : a < s.size
    · have h1' : (a : Int) < s.size := by omega
      by_cases h0 : openE s a = 0
      · obtain ⟨b, hA, hb6, hbs, -, -⟩ := next h0
        obtain ⟨x, hx⟩ : ∃ x, openS s a = x := ⟨_, rfl⟩
        have HO := Lib.hid (⟨hx, hA, h0⟩ : openS s a = x ∧ openA s a = (b : Nat) ∧ openE s a = 0)
        have HN : Hid (Sc s 0 (l ++ [x]) b) := Lib.hid (by rw [← hx]; exact HSc.out.snoc h1 h0 hA)
        clear h0 hA hx
        go_wp2_with fail
        refine (rOpen_is HO HS _).mono ?_
        rintro e w1 ⟨rfl, hb1⟩
        have bw1 := nx hb hb1
        obtain ⟨v2, w2, hrun, hown2, hbl⟩ := app_one (HOw.out.stays hb1) hq bw1.size x hll
        have HOw2 := Lib.hid hown2
        have bw2 := hbl _ w (Nat.le_refl _) bw1
        clear hown2 hbl
        go_wp2
        go_roundw
        case rel => exact ⟨b, l ++ [x], rfl, hbs, HN.out, HOw2.out, bw2⟩
        case measure => simp [intOf]; omega
      · obtain ⟨z, hz⟩ : ∃ z, openE s a = z := ⟨_, rfl⟩
        rw [hz] at h0
        have HO := Lib.hid (open_no hz h0)
        have z1 : (z != 0) = true := by simpa using h0
        have z2 : (z == 0) = false := by simpa using h0
        have HE : Hid (scan s = (l, a)) := Lib.hid (HF.out _ _ HSc.out fun h => h0 (hz.symm.trans h.2))
        clear h0 hz
        go_wp2_with fail
        refine (rOpen_is HO HS _).mono ?_
        rintro e w1 ⟨rfl, hb1⟩
        go_wp2
        go_ret2
        exact ⟨_, by rw [HE.out]; rfl, nx hb hb1, by rw [HE.out]; exact HOw.out.stays hb1⟩
    · obtain rfl : a = s.size := by omega
      have HE : Hid (scan s = (l, s.size)) := Lib.hid (HF.out _ _ HSc.out (stop_end s))
      go_wp2
      go_ret2
      exact ⟨_, by rw [HE.out]; rfl, hb, by rw [HE.out]; exact HOw.out⟩
end Go.Proofs.YtodlibpibopnoaaDoor.Wa
