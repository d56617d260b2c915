/- A map that the call makes, of whatever values, as a function of its keys. Of no program. -/
import Derived.Test.YtoncmbglmebkiaaRw
import Derived.Maps.OwnOps
import Derived.Maps.Views
import Derived.WideKeyEntry
import Derived.DeepKeys4
namespace Go.Proofs.Ytoncmbglmebkiaa.Mv
open Go Go.Maps Go.RowKit Go.ChangeMaps Go.MapKept
open Go.WideElems (Fit rd rg pl rd_val elemAt)
section
variable {P : Program} {k e t : TypeId} {Kd : Value → Prop}
/-- Each value reads as itself. -/
def self (v : Value) : Option (DataW Value × List MemPlace) := some (.held v, [])
/-- Block b is a map of at most n entries; of the keys of Kd it holds f. -/
def MV (P : Program) (k : TypeId) (Kd : Value → Prop) (f : Value → Option Value) (b n : Nat) (w : World) : Prop :=
  ∃ D : DataW Value, IsMap D ∧ w.ownsMap P k self b n D ∧ ∀ v kl, Kd v → keyOf P k v = some kl → ∀ zd, D.atKey kl zd = match f v with | none => zd | some x => .held x
theorem MV.lt {f : Value → Option Value} {b n : Nat} {w : World} (h : MV P k Kd f b n w) : b < w.heap.size := by
  obtain ⟨D, _, h, _⟩ := h; exact h.lt
theorem MV.same {f : Value → Option Value} {b n : Nat} {w w' : World} (h : MV P k Kd f b n w) (hb : w'.heap[b]? = w.heap[b]?) : MV P k Kd f b n w' := by
  obtain ⟨D, h1, ⟨es, c, h2, h3⟩, h4⟩ := h
  exact ⟨D, h1, ⟨es, c, hb.trans h2, h3⟩, h4⟩
theorem MV.stays {f : Value → Option Value} {b n : Nat} {w w' : World} (h : MV P k Kd f b n w) (hb : Below w.heap.size w w') : MV P k Kd f b n w' := h.same (hb.block b h.lt)
theorem MV.mono {f : Value → Option Value} {b n m : Nat} {w : World} (h : MV P k Kd f b n w) (hm : n ≤ m) : MV P k Kd f b m w := by
  obtain ⟨D, h1, h2, h3⟩ := h; exact ⟨D, h1, h2.mono hm, h3⟩
theorem MV.congr {f g : Value → Option Value} {b n : Nat} {w : World} (h : MV P k Kd f b n w) (hf : ∀ v, Kd v → g v = f v) : MV P k Kd g b n w := by
  obtain ⟨D, h1, h2, h3⟩ := h; exact ⟨D, h1, h2, fun v kl hd hk => by rw [hf v hd]; exact h3 v kl hd hk⟩
theorem MV.made (w : World) : MV P k Kd (fun _ => none) w.heap.size 0 (w.alloc (.map #[] 0)) :=
  ⟨.map [], isMap_empty, World.ownsMap_made _ _ _ _, fun _ _ _ _ _ => rfl⟩
/-- 'm[k]', with or without 'ok'. -/
theorem MV.look {f : Value → Option Value} {b n : Nat} {w : World} (h : MV P k Kd f b n w) (K : Keyed P k) (ht : P.underlying t = some (.map k e)) {z : Value} (hz : ∀ u : World, (zeroValue e).run P u = .ok z u) {key : Value} {kl : Lit} (hd : Kd key) (hkey : keyOf P k key = some kl) (c : Bool) :
    (Instr.lookup t (.map (some b)) key c).run P w = .ok (if c then .tuple #[(f key).getD z, .bool (f key).isSome] else (f key).getD z) w := by
  obtain ⟨D, _, ⟨es, clock, hb, F, _, rfl⟩, h2⟩ := h
  have hf := h2 key kl hd hkey
  rcases Maps.fit_look c K ht (hz w) hb F hkey with ⟨hrun, _, hat⟩ | ⟨e0, y, _, _, hrun, hR, hat, _⟩
  · have e1 : f key = none := by
      have e2 := (hat .nil).symm.trans (hf .nil)
      cases hx : f key with
      | none => rfl
      | some x => rw [hx] at e2; cases e2
    rw [hrun, e1]; rfl
  · have e1 : f key = some e0.val := by
      have e2 := (hat .nil).symm.trans (hf .nil)
      obtain rfl : (.held e0.val, []) = y := by unfold self at hR; exact Option.some.inj hR
      cases hx : f key with
      | none => rw [hx] at e2; cases e2
      | some x => rw [hx] at e2; simp only [DataW.held.injEq] at e2; rw [e2]
    rw [hrun, e1]; rfl
/-- 'm[k] = v'. -/
theorem MV.put {f g : Value → Option Value} {b n : Nat} {w : World} (h : MV P k Kd f b n w) (K : Keyed P k) (ht : P.underlying t = some (.map k e)) (hn : n < maxLen) {key val : Value} {kl : Lit} (hkey : keyOf P k key = some kl)
    (hg : g key = some val) (ho : ∀ u, Kd u → u ≠ key → g u = f u) :
    ∃ w', (Instr.mapUpdate t (.map (some b)) key val).run P w = .ok () w' ∧ MV P k Kd g b (n + 1) w' ∧ w.grownBy w' (some b) := by
  obtain ⟨D, hD, h1, h2⟩ := h
  obtain ⟨w', hr, h3, h4⟩ := h1.update K ht hn hkey (d := .held val) (ps := []) rfl
  refine ⟨w', hr, ⟨_, hD.put _ _, h3, fun u ku hd' hu zd => ?_⟩, h4⟩
  by_cases hk : ku = kl
  · subst hk
    have : u = key := K.inj hu hkey
    subst this
    rw [atKey_put_same hD (K.key hkey), hg]
  · rw [atKey_put_other hk, ho u hd' (fun e1 => hk (by subst e1; rw [hkey] at hu; exact (Option.some.inj hu).symm))]
    exact h2 u ku hd' hu zd
end
end Go.Proofs.Ytoncmbglmebkiaa.Mv
