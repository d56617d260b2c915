/- What calls of Give and Take do to lists that are right: the plain part of AccountPlays. -/
import Derived.Test.YteandjnbcolphaaAcLB
namespace Go.Proofs.Yteandjnbcolphaa.Ac
open Go.Proofs.Yteandjnbcolphaa.Mo (may may_iff addS addE subS subE add2 sub2)
theorem give_plays {l : List Hd} {p : Pu} {n : Int} (hr : Right l) (hp : pmay p = true) : (giveE l p n = 0 ↔ 0 ≤ n ∧ n ≤ 1125899906842624 - get l p) := by
  obtain ⟨g0, g1, _⟩ := get_pos (p := p) hr
  constructor
  · intro h
    have := give_ok h
    omega
  · intro h
    have hn : may n = true := may_iff.2 ⟨h.1, by omega⟩
    have hg : may (get l p) = true := may_iff.2 ⟨g0, g1⟩
    unfold giveE
    rw [right_iff.2 hr, hp, hn, if_pos (by rfl)]
    unfold addE add2
    rw [if_pos ⟨hg, hn⟩]
    rw [if_neg (by omega)]
theorem take_plays {l : List Hd} {p : Pu} {n : Int} (hr : Right l) (hp : pmay p = true) : (takeE l p n = 0 ↔ 0 ≤ n ∧ n ≤ get l p) := by
  obtain ⟨g0, g1, _⟩ := get_pos (p := p) hr
  constructor
  · intro h
    unfold takeE at h
    by_cases c : may n = true
    · have := may_iff.1 c
      rw [right_iff.2 hr, hp, c, if_pos (by rfl)] at h
      have hg : may (get l p) = true := may_iff.2 ⟨g0, g1⟩
      unfold subE sub2 at h
      rw [if_pos ⟨hg, c⟩] at h
      refine ⟨this.1, ?_⟩
      by_cases d : get l p < n
      · rw [if_pos d] at h; exact absurd h (by decide)
      · omega
    · rw [right_iff.2 hr, hp] at h
      have c : may n = false := by simpa using c
      rw [c, if_neg (by simp)] at h
      exact absurd h (by decide)
  · intro h
    have hn : may n = true := may_iff.2 ⟨h.1, by omega⟩
    unfold takeE
    rw [right_iff.2 hr, hp, hn, if_pos (by rfl)]
    exact (sub_ok h.1 h.2 g1).1
theorem give_none {l : List Hd} {p : Pu} {n : Int} (h : ¬ giveE l p n = 0) : giveL l p n = l := by unfold giveL; rw [if_neg h]
theorem take_none {l : List Hd} {p : Pu} {n : Int} (h : ¬ takeE l p n = 0) : takeL l p n = l := by unfold takeL; rw [if_neg h]
theorem give_done {l : List Hd} {p : Pu} {n : Int} (h : giveE l p n = 0) : Right (giveL l p n) ∧ (∀ q, get (giveL l p n) q = if q = p then get l p + n else get l q) ∧ ∀ s, tot s (giveL l p n) = tot s l + (if p.2 = s then n else 0) := by
  obtain ⟨hr, hp, hn, hg, hs, e⟩ := give_ok h
  rw [e]
  obtain ⟨r1, g1⟩ := right_set hr hp (show 0 ≤ get l p + n by omega) hs
  refine ⟨r1, g1, fun s => ?_⟩
  rw [tot_set hr]
  have : get l p + n - get l p = n := by omega
  rw [this]
theorem take_done {l : List Hd} {p : Pu} {n : Int} (hr : Right l) (hp : pmay p = true) (h : takeE l p n = 0) : Right (takeL l p n) ∧ (∀ q, get (takeL l p n) q = if q = p then get l p - n else get l q) ∧ ∀ s, tot s (takeL l p n) = tot s l - (if p.2 = s then n else 0) := by
  obtain ⟨g0, g1, _⟩ := get_pos (p := p) hr
  have hb := (take_plays hr hp).1 h
  have e : takeL l p n = set l p (get l p - n) := by
    unfold takeL; rw [if_pos h, (sub_ok hb.1 hb.2 g1).2]
  rw [e]
  obtain ⟨r1, g2⟩ := right_set hr hp (show 0 ≤ get l p - n by omega) (by omega)
  refine ⟨r1, g2, fun s => ?_⟩
  rw [tot_set hr]
  split <;> omega
theorem total_right {l : List Hd} (hr : Right l) (s : Int) : total l s = tot s l := by
  unfold total; rw [right_iff.2 hr, if_pos rfl]
end Go.Proofs.Yteandjnbcolphaa.Ac
