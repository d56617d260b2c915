/- Of layer 14, plain mathematics: what is refused, what is done to one zone. -/
import Derived.Test.YtegepbifbhamnaaDkPure
namespace Go.Proofs.Ytegepbifbhamnaa.Dk
theorem doP_err {d : Ds} {o : Do} (h : (doP d o).2 ≠ 0) : (doP d o).2 = 15 ∧ (doP d o).1 = { d with n := true } := by
  unfold doP at h ⊢
  split
  · exact ⟨rfl, rfl⟩
  · rename_i e; rw [if_neg e] at h; exact absurd rfl h
theorem readE_cases (d : Ds) (z : Int) : (readE d z = 15 ∧ d.n = true) ∨ (readE d z = 1 ∧ d.n = false) ∨ (readE d z = 0 ∧ d.n = false ∧ (z = 0 ∨ z = 1)) := by
  unfold readE
  cases h : d.n
  · by_cases hz : zoneB z = true
    · refine .inr (.inr ⟨by rw [if_neg (by simp), if_pos hz], rfl, by simpa [zoneB] using hz⟩)
    · refine .inr (.inl ⟨by rw [if_neg (by simp), if_neg hz], rfl⟩)
  · exact .inl ⟨by simp, rfl⟩
/-- What a refusal leaves. -/
def left (d : Ds) (e : Int) : Ds := if e = 15 ∧ d.n = false then { d with n := true } else d
theorem left_no {d : Ds} {e : Int} (h : ¬ (e = 15 ∧ d.n = false)) : left d e = d := if_neg h
theorem left_yes {d : Ds} (h : d.n = false) : left d 15 = { d with n := true } := if_pos ⟨rfl, h⟩
theorem app_err {d : Ds} {z : Int} {x : ByteArray} (h : (appP d z x).2 ≠ 0) : (appP d z x).1 = left d (appP d z x).2 := by
  rcases readE_cases d z with ⟨e, hn⟩ | ⟨e, hn⟩ | ⟨e, hn, hz⟩
  · have : appP d z x = (d, 15) := by unfold appP; rw [if_pos (by rw [e]; decide), e]
    rw [this]; exact (left_no (by simp [hn])).symm
  · have : appP d z x = (d, 1) := by unfold appP; rw [if_pos (by rw [e]; decide), e]
    rw [this]; exact (left_no (by simp)).symm
  · unfold appP at h ⊢
    rw [if_neg (by rw [e]; decide)] at h ⊢
    split
    · exact (left_no (by simp)).symm
    · rename_i h1
      rw [if_neg h1] at h
      split
      · exact (left_no (by simp)).symm
      · rename_i h2
        rw [if_neg h2] at h
        obtain ⟨k1, k2⟩ := doP_err h
        rw [k1, k2]; exact (left_yes hn).symm
theorem era_err {d : Ds} {z : Int} (h : (eraP d z).2 ≠ 0) : (eraP d z).1 = left d (eraP d z).2 := by
  rcases readE_cases d z with ⟨e, hn⟩ | ⟨e, hn⟩ | ⟨e, hn, hz⟩
  · have : eraP d z = (d, 15) := by unfold eraP; rw [if_pos (by rw [e]; decide), e]
    rw [this]; exact (left_no (by simp [hn])).symm
  · have : eraP d z = (d, 1) := by unfold eraP; rw [if_pos (by rw [e]; decide), e]
    rw [this]; exact (left_no (by simp)).symm
  · unfold eraP at h ⊢
    rw [if_neg (by rw [e]; decide)] at h ⊢
    obtain ⟨k1, k2⟩ := doP_err h
    rw [k1, k2]; exact (left_yes hn).symm
theorem syn_err {d : Ds} (h : (synP d).2 ≠ 0) : (synP d).1 = left d (synP d).2 := by
  unfold synP at h ⊢
  cases hn : d.n
  · rw [hn, if_neg (by simp)] at h
    simp only [Bool.false_eq_true, if_false]
    split
    · exact (left_yes hn).symm
    · rename_i e; rw [if_neg e] at h; exact absurd rfl h
  · simp only [if_true]
    exact (left_no (by simp [hn])).symm
theorem step_err {d : Ds} {o : Op5} (h : (stepP d o).2 ≠ 0) : (stepP d o).1 = left d (stepP d o).2 := by
  unfold stepP at h ⊢
  split
  · rename_i e; rw [if_pos e] at h; exact app_err h
  · rename_i e0; rw [if_neg e0] at h
    split
    · rename_i e; rw [if_pos e] at h; exact era_err h
    · rename_i e1; rw [if_neg e1] at h
      split
      · rename_i e; rw [if_pos e] at h; exact syn_err h
      · rename_i e2; rw [if_neg e2] at h
        exfalso
        split at h
        · exact h rfl
        split at h
        · exact h rfl
        split at h
        · exact h rfl
        · exact h rfl
theorem fin_snoc (s : ByteArray × ByteArray) (l : List Do) (o : Do) : fin s (l ++ [o]) = done (fin s l) o := by
  unfold fin; rw [List.foldl_append]; rfl
theorem doP_ok {d : Ds} {o : Do} (h : (doP d o).2 = 0) : (doP d o).1.n = d.n ∧ (doP d o).1.c = d.c ∧ (doP d o).1.now = done d.now o ∧ doP d o = ({ d with f := max d.f 0 - 1, l := d.l ++ [o] }, 0) := by
  unfold doP at h ⊢
  split
  · rename_i e; rw [if_pos e] at h; cases h
  · exact ⟨rfl, rfl, fin_snoc _ _ _, rfl⟩
theorem app_ok {d : Ds} {z : Int} {x : ByteArray} (h : (appP d z x).2 = 0) : d.n = false ∧ (z = 0 ∨ z = 1) ∧ x.size ≠ 0 ∧ (at2 d.now z).size + x.size ≤ d.c ∧ appP d z x = doP d (z == 1, x, false) ∧ (doP d (z == 1, x, false)).2 = 0 := by
  rcases readE_cases d z with ⟨e, hn⟩ | ⟨e, hn⟩ | ⟨e, hn, hz⟩
  · have : appP d z x = (d, 15) := by unfold appP; rw [if_pos (by rw [e]; decide), e]
    rw [this] at h; cases h
  · have : appP d z x = (d, 1) := by unfold appP; rw [if_pos (by rw [e]; decide), e]
    rw [this] at h; cases h
  · unfold appP at h ⊢
    rw [if_neg (by rw [e]; decide)] at h ⊢
    split at h
    · cases h
    · rename_i h1
      split at h
      · cases h
      · rename_i h2
        rw [if_neg h1, if_neg h2]
        exact ⟨hn, hz, h1, by omega, rfl, h⟩
theorem era_ok {d : Ds} {z : Int} (h : (eraP d z).2 = 0) : d.n = false ∧ (z = 0 ∨ z = 1) ∧ eraP d z = doP d (z == 1, nul, true) ∧ (doP d (z == 1, nul, true)).2 = 0 := by
  rcases readE_cases d z with ⟨e, hn⟩ | ⟨e, hn⟩ | ⟨e, hn, hz⟩
  · have : eraP d z = (d, 15) := by unfold eraP; rw [if_pos (by rw [e]; decide), e]
    rw [this] at h; cases h
  · have : eraP d z = (d, 1) := by unfold eraP; rw [if_pos (by rw [e]; decide), e]
    rw [this] at h; cases h
  · unfold eraP at h ⊢
    rw [if_neg (by rw [e]; decide)] at h ⊢
    exact ⟨hn, hz, rfl, h⟩
theorem readS_up {d : Ds} {z : Int} (h : d.n = false) (hz : z = 0 ∨ z = 1) : readS d z = at2 d.now z ∧ readE d z = 0 := by
  have : readE d z = 0 := by unfold readE; rw [h]; rcases hz with rfl | rfl <;> rfl
  exact ⟨by unfold readS; rw [if_pos this], this⟩
/-- What is done to one zone. -/
theorem step_done {d : Ds} {k z p q : Int} {x : ByteArray} (hk : k = 0 ∨ k = 1) (h : (stepP d (k, z, p, q, x)).2 = 0) : d.n = false ∧ (z = 0 ∨ z = 1) ∧ (stepP d (k, z, p, q, x)).1.n = false ∧
    readS d (1 - z) = readS (stepP d (k, z, p, q, x)).1 (1 - z) ∧ (k = 0 → (readS (stepP d (k, z, p, q, x)).1 z).size ≤ (stepP d (k, z, p, q, x)).1.c) := by
  rcases hk with rfl | rfl
  · have hs : stepP d (0, z, p, q, x) = appP d z x := rfl
    rw [hs] at h ⊢
    obtain ⟨hn, hz, _, hc, he, hd⟩ := app_ok h
    rw [he]
    obtain ⟨k1, k2, k3, _⟩ := doP_ok hd
    have hz1 : (1 - z) = 0 ∨ (1 - z) = 1 := by omega
    refine ⟨hn, hz, by rw [k1, hn], ?_, fun _ => ?_⟩
    · rw [(readS_up hn hz1).1, (readS_up (by rw [k1, hn]) hz1).1, k3]
      rcases hz with rfl | rfl <;> simp [at2, done]
    · rw [(readS_up (by rw [k1, hn]) hz).1, k3, k2]
      rcases hz with rfl | rfl <;> simp [at2, done, ByteArray.size_append] at hc ⊢ <;> omega
  · have hs : stepP d (1, z, p, q, x) = eraP d z := rfl
    rw [hs] at h ⊢
    obtain ⟨hn, hz, he, hd⟩ := era_ok h
    rw [he]
    obtain ⟨k1, k2, k3, _⟩ := doP_ok hd
    have hz1 : (1 - z) = 0 ∨ (1 - z) = 1 := by omega
    refine ⟨hn, hz, by rw [k1, hn], ?_, fun h => by omega⟩
    rw [(readS_up hn hz1).1, (readS_up (by rw [k1, hn]) hz1).1, k3]
    rcases hz with rfl | rfl <;> simp [at2, done]
end Go.Proofs.Ytegepbifbhamnaa.Dk
