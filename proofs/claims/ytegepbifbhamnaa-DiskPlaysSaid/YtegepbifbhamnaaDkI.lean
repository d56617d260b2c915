/- Package disk as it landed: Read. -/
import Derived.Test.YtegepbifbhamnaaDkH
namespace Go.Proofs.Ytegepbifbhamnaa.Dk
open Go.RowKit
set_option linter.unusedVariables false
open Go.Proofs.Ytegepbifbhamnaa.Rw
open Go.Proofs.Ytegepbifbhamnaa.Da
def PostS (x : ByteArray) (k : Int) (w : World) (e : Ending) (w' : World) : Prop := e = .returned (.tuple #[.string x, .int .i64 k]) ∧ Below w.heap.size w w'
theorem readS_no {d : Ds} {z : Int} (h : readE d z ≠ 0) : readS d z = ⟨#[]⟩ := by unfold readS; rw [if_neg h]; rfl
theorem readE_ok {d : Ds} {z : Int} (h : readE d z = 0) : d.n = false ∧ (z = 0 ∨ z = 1) := by
  unfold readE at h
  split at h
  · cases h
  · rename_i h1
    split at h
    · rename_i h2; exact ⟨by simpa using h1, by simpa [zoneB] using h2⟩
    · cases h
set_option maxHeartbeats 4000000 in
theorem read_any (n : Nat) (d : Ds) (v : Value) (z : Int) (w : World) (h : DV n d v w) (hn : n ≤ w.heap.size) (hw : d.wt ≤ 1000000) (hl : d.l.length ≤ 1000000) :
    Calls Try.prog 19 #[v, .int .i64 z] w (PostS (readS d z) (readE d z) w) := by
  obtain ⟨o, rfl, hO, hc⟩ := h
  obtain ⟨a, b, l, c, f, dn⟩ := d
  simp only at hO hw hl ⊢
  obtain ⟨a1, c1, rfl⟩ := hO.len
  obtain ⟨n1, hn1⟩ : ∃ q, l.length = q := ⟨_, rfl⟩
  rw [hn1] at hO hc ⊢
  have HN := Lib.hid hn1
  clear hn1
  obtain ⟨e0, he0⟩ : ∃ q, readE ⟨a, b, l, c, f, dn⟩ z = q := ⟨_, rfl⟩
  have HE := Lib.hid he0
  have HV := Lib.hid (show Bx (w.alloc (.cells #[.string a, .string b, .slice a1 n1 c1, .int .i64 c, .int .i64 f, .bool dn] 28)) w.heap.size #[.string a, .string b, .slice a1 n1 c1, .int .i64 c, .int .i64 f, .bool dn] 28 from Bx.new _ _ _)
  by_cases h0 : e0 = 0
  · subst h0
    obtain ⟨hdn, hz⟩ := readE_ok he0
    simp only at hdn
    subst hdn
    have hS : readS ⟨a, b, l, c, f, false⟩ z = at2 (fin (a, b) l) z := by unfold readS; rw [if_pos he0]; rfl
    obtain ⟨⟨s1, s2⟩, hs⟩ : ∃ q, fin (a, b) l = q := ⟨_, rfl⟩
    rw [hs] at hS
    have HS := Lib.hid hS
    have HF := Lib.hid hs
    have hw2 : a.size + b.size + wl l ≤ 1000000 := hw
    clear hS hs he0
    rcases hz with rfl | rfl
    all_goals
      go_enter Try.func19, Try.ntmps19
      go_wp2_with fail
      refine (check_is (d := ⟨a, b, l, c, f, false⟩) HE _ _).mono ?_
      rintro e w1 ⟨rfl, hb1⟩
      have hb2 := nx (below1 _ _) hb1
      have B1 := HV.out.stays hb1
      have hO1 := hO.stays hb2
      obtain ⟨q1, q2, q3, ⟨q4, q5, q6, q7, q8, q9⟩, _⟩ := B1.d6
      clear B1
      go_wp2_with fail
      refine (after_any n a b l _ w1 hO1 (by have := hb2.size; omega) hw2 hl).mono ?_
      rintro e w2 ⟨rfl, hb3⟩
      rw [HF.out]
      go_wp2
      go_ret2
      exact ⟨by rw [HS.out, HE.out]; rfl, nx hb2 hb3⟩
  · have hne : (e0 != 0) = true := by simpa using h0
    have HS := Lib.hid (readS_no (d := ⟨a, b, l, c, f, dn⟩) (z := z) (by rw [he0]; exact h0))
    clear he0 h0
    go_enter Try.func19, Try.ntmps19
    go_wp2_with fail
    refine (check_is (d := ⟨a, b, l, c, f, dn⟩) HE _ _).mono ?_
    rintro e w1 ⟨rfl, hb1⟩
    have hb2 := nx (below1 _ _) hb1
    go_wp2
    go_ret2
    exact ⟨by rw [HS.out, HE.out]; rfl, hb2⟩
theorem read_is {d : Ds} {z k : Int} {x : ByteArray} (HS : Hid (readS d z = x)) (HE : Hid (readE d z = k)) {n : Nat} {v : Value} {w : World} (h : DV n d v w) (hn : n ≤ w.heap.size) (hw : d.wt ≤ 1000000) (hl : d.l.length ≤ 1000000) :
    Calls Try.prog 19 #[v, .int .i64 z] w (PostS x k w) := by
  rw [← HS.out, ← HE.out]; exact read_any n d v z w h hn hw hl
end Go.Proofs.Ytegepbifbhamnaa.Dk
