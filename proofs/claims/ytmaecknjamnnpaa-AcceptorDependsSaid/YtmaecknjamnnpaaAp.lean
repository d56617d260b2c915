/- An append by a fact laid ahead of the walk. Of no program. -/
import Derived.Test.YtmaecknjamnnpaaDa
namespace Go.Proofs.Ytmaecknjamnnpaa.Da
open Go.RowKit
set_option linter.unusedVariables false
/-- What 'append(v, x...)' comes to: a walk does not look behind the name. -/
def appRun (P : Program) (t ty : TypeId) (v x : Value) (w : World) : Result Value := (Builtin.append_ #[t, t] ty #[v, x]).run P w
section
variable {P : Program} (ρ : Operand → Value) (dst : Option Tmp) (ty : TypeId) (pos : String) (after : Array Edge) (guard : Option (Nat × Bool)) (w : World)
theorem exec_append (s x : Operand) (t : TypeId) :
    (execOp ρ { dst, op := .call { callee := .builtin .append, args := #[s, x], argTypes := #[t, t] }, type := ty, pos, after, guard }).run P w = (appRun P t ty (ρ s) (ρ x) w).andThen fun v w' => .ok (.value v) w' := by
  unfold execOp appRun
  simp only [resolve, invoke, builtin, Sem.run_bind, Sem.run_pure, List.map_toArray, List.map_cons, List.map_nil, Result.andThen_ok]
end
attribute [go_sem ↓] exec_append
section
variable {α : Type} {e : Enc α} {T : TypeId}
/-- 'append(v, x...)': v of the call's own, x whatever list. -/
theorem Own.append {P : Program} {t : TypeId} {bytes : Nat} (E : Elem P t T e.k bytes) (ty : TypeId) (hT : T ∉ e.ts) {B : Bs} {Bo : Nat} {l m : List α} {v x : Value} {w : World} (hB : B.le Bo) (hBo : Bo ≤ w.heap.size) (h : Own e T B Bo l v w) (hx : Is e T B m x w) (h63 : l.length + m.length ≤ 1000000000) (hby : bytes ≤ 100000) :
    ∃ v' w', appRun P t ty v x w = .ok v' w' ∧ Own e T B Bo (l ++ m) v' w' ∧ w.grownBy w' v.ownBlock ∧ (∀ n w0, n ≤ Bo → Below n w0 w → Below n w0 w') ∧ ∀ ts, T ∉ ts → Keeps B ts w w' := by
  obtain ⟨i, z, hi, hz, hs, hb, hzs⟩ := E.ex
  obtain ⟨css, hl, hc, hr⟩ := h
  have hbl : ∀ {w' : World}, w.grownBy w' v.ownBlock → ∀ n w0, n ≤ Bo → Below n w0 w → Below n w0 w' := fun hg n w0 hn hb => hb.grown hg (Nat.le_trans hn hBo) (fun k hk => Nat.le_trans hn (hr.lt k hk).1)
  rcases hx.src with ⟨rfl, rfl⟩ | ⟨ad, c, dss, rfl, hdl, hd, hu⟩
  · exact ⟨v, w, run_append_owned_none (P := P) (w := w) Bo t ty T i e.k E.ht hi v l.length css.flatten hr, by rw [List.append_nil]; exact ⟨css, hl, hc, hr⟩, ⟨rfl, rfl, rfl, Nat.le_refl _, fun _ _ _ => rfl⟩, fun _ _ _ h => h, fun ts _ => Keeps.refl _ _ _⟩
  · have hlen : dss.flatten.length = m.length * e.k := by rw [flat_len (Own.lens hdl hd), hdl]
    have hbytes : (l.length + m.length) * bytes ≤ 140737488355328 := Nat.le_trans (Nat.mul_le_mul h63 hby) (by decide)
    obtain ⟨v', w', h1, h2, h3, _⟩ := run_append_own (P := P) w Bo t ty T i z e.k bytes E.ht hi hz hs hb hzs E.pos v l.length css.flatten hr ad m.length c dss.flatten hlen hu (Own.ones hdl hd) (by unfold maxLen; omega) hbytes hBo
    exact ⟨v', w', h1, Own.app hT hB hl hc hr hdl hd h2 h3, h3, hbl h3, fun ts ht => Keeps.grown hr hB ht h3⟩
end
end Go.Proofs.Ytmaecknjamnnpaa.Da
