/- Plain mathematics of layer 11: what notes come to, beside a map of each client's last reply. -/
import Derived.Test.YtigoemecphilkaaSePure
namespace Go.Proofs.Ytigoemecphilkaa.Se
structure PlI (s : List Sn) (m : Int → Option Rp) : Prop where
  right : Right s
  fnd' : ∀ c, fnd c s = (m c).map mk
  own : ∀ c r, m c = some r → r.1 = c ∧ 1 ≤ r.2.1
def want (m : Int → Option Rp) (r : Rp) : Int := if r.2.1 = 0 then 1 else match m r.1 with
  | some w => if r.2.1 ≤ w.2.1 then 13 else 0
  | none => 0
def updM (m : Int → Option Rp) (r : Rp) (c : Int) : Option Rp := if c = r.1 then some r else m c
theorem PlI.last {s : List Sn} {m : Int → Option Rp} (h : PlI s m) (c : Int) : last c s = match m c with | none => 0 | some r => r.2.1 := by
  unfold Se.last
  rw [h.fnd' c]
  cases m c <;> rfl
theorem PlI.look {s : List Sn} {m : Int → Option Rp} (h : PlI s m) {c : Int} {r : Rp} (hm : m c = some r) : look c r.2.1 s = (r, 0) := by
  unfold Se.look
  rw [h.fnd' c, hm]
  show (if r.2.1 < r.2.1 then (z5, (8 : Int)) else if r.2.1 < r.2.1 then (z5, 13) else (r, 0)) = (r, 0)
  rw [if_neg (by omega), if_neg (by omega)]
theorem PlI.nil : PlI [] (fun _ => none) := ⟨Right.nil, fun _ => rfl, fun _ _ e => by cases e⟩
theorem PlI.step {s : List Sn} {m : Int → Option Rp} (h : PlI s m) {r : Rp} (h1 : 0 ≤ r.1 ∧ r.1 < 64) (h2 : 0 ≤ r.2.1 ∧ r.2.1 ≤ 1125899906842624) :
    noteE s r = want m r ∧ PlI (noteL s r) (if want m r = 0 then updM m r else m) := by
  have hl := h.last r.1
  have hw : noteE s r = want m r := by
    unfold noteE want
    by_cases h0 : r.2.1 = 0
    · rw [if_pos h0, if_neg]
      intro hh
      rw [Bool.and_eq_true] at hh
      have := (okS_iff.1 hh.2).2.2.1
      have h3 : 1 ≤ r.2.1 := this
      omega
    · rw [if_neg h0, if_pos]
      · rw [hl]
        cases hm : m r.1 with
        | none => rw [if_neg (by show ¬ r.2.1 ≤ 0; omega)]
        | some w => rfl
      · rw [Bool.and_eq_true, right_iff]
        exact ⟨h.right, okS_iff.2 ⟨h1.1, h1.2, by show 1 ≤ r.2.1; omega, h2.2, rfl, rfl⟩⟩
  refine ⟨hw, ?_⟩
  rcases note_cases s r with ⟨e, k⟩ | ⟨e, e2, _⟩ | ⟨e, e2, _⟩
  · rw [← hw, e, if_pos rfl]
    refine ⟨k.right', fun c => ?_, fun c x hx => ?_⟩
    · rw [k.is, fnd_put c k.right]
      show (if r.1 = c then some (Se.mk r) else fnd c s) = (updM m r c).map Se.mk
      unfold updM
      by_cases hc : r.1 = c
      · rw [if_pos hc, if_pos hc.symm]; rfl
      · rw [if_neg hc, if_neg (fun x => hc x.symm), h.fnd' c]
    · unfold updM at hx
      by_cases hc : c = r.1
      · rw [if_pos hc] at hx
        obtain rfl := Option.some.inj hx
        exact ⟨hc.symm, (okS_iff.1 k.ok).2.2.1⟩
      · rw [if_neg hc] at hx; exact h.own c x hx
  · rw [← hw, e, if_neg (by decide), e2]; exact h
  · rw [← hw, e, if_neg (by decide), e2]; exact h
end Go.Proofs.Ytigoemecphilkaa.Se
