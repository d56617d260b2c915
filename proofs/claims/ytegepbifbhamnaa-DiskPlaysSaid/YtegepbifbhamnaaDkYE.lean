/- The document's own of layer 14: Read, Append, Erase, Sync. -/
import Derived.Test.YtegepbifbhamnaaDkYD
namespace Go.Proofs.Ytegepbifbhamnaa.Dk
open Go.RowKit
set_option linter.unusedVariables false
open Go.Proofs.Ytegepbifbhamnaa.Rw
open Go.Proofs.Ytegepbifbhamnaa.Da
set_option maxRecDepth 8000
set_option maxHeartbeats 8000000
theorem zone_no {d : Ds} {z : Int} (e : readE d z = 1) (hdn : d.n = false) : ((z == 0) = false ∧ (z == 1) = false) ∧ (z != 0) = true ∧ (z != 1) = true := by
  have hz : zoneB z = false := by
    cases hz : zoneB z
    · rfl
    · unfold readE at e; rw [if_neg (by simp [hdn]), if_pos hz] at e; cases e
  have g0 : (z == 0) = false := by cases h9 : (z == 0) <;> simp_all [zoneB]
  have g1 : (z == 1) = false := by cases h9 : (z == 1) <;> simp_all [zoneB]
  exact ⟨⟨g0, g1⟩, by simpa using g0, by simpa using g1⟩
theorem rRead_any (n : Nat) (d : Ds) (v : Value) (z : Int) (w : World) (h : DV n d v w) (hn : n ≤ w.heap.size) (hw : d.wt ≤ 1000000) (hl : d.l.length ≤ 1000000) :
    Calls Try.prog 20 #[v, .int .i64 z] w (PostS (readS d z) (readE d z) w) := by
  obtain ⟨o, rfl, hO, hc⟩ := h
  obtain ⟨a, b, l, c, f, dn⟩ := d
  simp only at hO hl ⊢
  obtain ⟨a1, c1, rfl⟩ := hO.len
  obtain ⟨n1, hn1⟩ : ∃ q, l.length = q := ⟨_, rfl⟩
  rw [hn1] at hO hc ⊢
  have HL := Lib.hid (show (⟨a, b, l, c, f, dn⟩ : Ds).l.length ≤ 1000000 from hl)
  have hE := readE_cases ⟨a, b, l, c, f, dn⟩ z
  have HE := Lib.hid hE
  obtain ⟨V, hV⟩ : ∃ Q_ : World, w.alloc (.cells #[.string a, .string b, .slice a1 n1 c1, .int .i64 c, .int .i64 f, .bool dn] 28) = Q_ := ⟨_, rfl⟩
  have bV : Below w.heap.size w V := hV ▸ below1 _ _
  have B0 : Bx V w.heap.size #[.string a, .string b, .slice a1 n1 c1, .int .i64 c, .int .i64 f, .bool dn] 28 := hV ▸ Bx.new _ _ _
  have HD := Lib.hid (show DV n ⟨a, b, l, c, f, dn⟩ (.agg (cD a b (.slice a1 n1 c1) c f dn)) V from DV.mk (hO.stays bV) hc)
  obtain ⟨q1, q2, q3, ⟨q4, q5, q6, q7, q8, q9⟩, _⟩ := B0.d6
  clear hn1 hO hc hl hE
  rcases HE.out with ⟨e, hdn⟩ | ⟨e, hdn⟩ | ⟨e, hdn, hz⟩
  · have HS := Lib.hid (readS_no (d := ⟨a, b, l, c, f, dn⟩) (z := z) (by rw [e]; decide))
    have HQ := Lib.hid e
    simp only at hdn
    subst hdn
    clear e
    go_enter Try.func20, Try.ntmps20
    go_wp2
    go_ret2
    exact ⟨by rw [HS.out, HQ.out]; rfl, bV⟩
  · have HS := Lib.hid (readS_no (d := ⟨a, b, l, c, f, dn⟩) (z := z) (by rw [e]; decide))
    have HQ := Lib.hid e
    obtain ⟨⟨g0, g1⟩, g2, g3⟩ := zone_no e hdn
    simp only at hdn
    subst hdn
    clear e
    go_enter Try.func20, Try.ntmps20
    go_wp2
    go_ret2
    exact ⟨by rw [HS.out, HQ.out]; rfl, bV⟩
  · have hS : readS ⟨a, b, l, c, f, dn⟩ z = at2 (Ds.now ⟨a, b, l, c, f, dn⟩) z := by unfold readS; rw [if_pos e]
    obtain ⟨⟨s1, s2⟩, hs⟩ : ∃ q, Ds.now ⟨a, b, l, c, f, dn⟩ = q := ⟨_, rfl⟩
    rw [hs] at hS
    have HS := Lib.hid hS
    have HF := Lib.hid hs
    have HQ := Lib.hid e
    simp only at hdn
    subst hdn
    clear hS hs e
    rcases hz with rfl | rfl
    all_goals
      go_enter Try.func20, Try.ntmps20
      go_wp2_with fail
      with_reducible refine (rNow_is HF HD.out hw HL.out).mono ?_
      rintro e w2 ⟨rfl, hb3⟩
      simp only
      go_wp2
      go_ret2
      exact ⟨by rw [HS.out, HQ.out]; rfl, nx bV hb3⟩
theorem rRead_is {d : Ds} {z k : Int} {x : ByteArray} (HS : Hid (readS d z = x)) (HE : Hid (readE d z = k)) {n : Nat} {v : Value} {w : World} (h : DV n d v w) (hn : n ≤ w.heap.size) (hw : d.wt ≤ 1000000) (hl : d.l.length ≤ 1000000) :
    Calls Try.prog 20 #[v, .int .i64 z] w (PostS x k w) := by
  rw [← HS.out, ← HE.out]; exact rRead_any n d v z w h hn hw hl
end Go.Proofs.Ytegepbifbhamnaa.Dk
