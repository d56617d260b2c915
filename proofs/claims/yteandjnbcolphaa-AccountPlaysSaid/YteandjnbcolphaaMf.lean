/- A map of integers that the call makes, as a function of its keys. Of no program. -/
import Derived.Test.YteandjnbcolphaaRw
import Derived.Maps.OwnOps
import Derived.Maps.Views
import Derived.WideKeyEntry
import Derived.DeepKeys4
namespace Go.Proofs.Yteandjnbcolphaa.Mf
open Go Go.Maps Go.RowKit Go.ChangeMaps Go.MapKept
open Go.WideElems (Fit rd rg pl rd_val elemAt entry_then_store)
open Go.WideMaps (KeyLaw)
section
variable {P : Program} {k e t : TypeId} {Kd : Value → Prop}
def MF (P : Program) (k e : TypeId) (Kd : Value → Prop) (f : Value → Int) (b n : Nat) (w : World) : Prop :=
  ∃ D : DataW Unit, IsMap D ∧ w.ownsMap P k (plainElem P e) b n D ∧ ∀ v kl, Kd v → keyOf P k v = some kl → D.atKey kl (.lit (.int .i64 0)) = .lit (.int .i64 (f v))
theorem MF.lt {f : Value → Int} {b n : Nat} {w : World} (h : MF P k e Kd f b n w) : b < w.heap.size := by
  obtain ⟨D, _, h, _⟩ := h; exact h.lt
theorem MF.same {f : Value → Int} {b n : Nat} {w w' : World} (h : MF P k e Kd f b n w) (hb : w'.heap[b]? = w.heap[b]?) : MF P k e Kd f b n w' := by
  obtain ⟨D, h1, ⟨es, c, h2, h3⟩, h4⟩ := h
  exact ⟨D, h1, ⟨es, c, hb.trans h2, h3⟩, h4⟩
theorem MF.stays {f : Value → Int} {b n : Nat} {w w' : World} (h : MF P k e Kd f b n w) (hb : Below w.heap.size w w') : MF P k e Kd f b n w' := h.same (hb.block b h.lt)
theorem MF.mono {f : Value → Int} {b n m : Nat} {w : World} (h : MF P k e Kd f b n w) (hm : n ≤ m) : MF P k e Kd f b m w := by
  obtain ⟨D, h1, h2, h3⟩ := h; exact ⟨D, h1, h2.mono hm, h3⟩
theorem MF.congr {f g : Value → Int} {b n : Nat} {w : World} (h : MF P k e Kd f b n w) (hf : ∀ v, Kd v → g v = f v) : MF P k e Kd g b n w := by
  obtain ⟨D, h1, h2, h3⟩ := h; exact ⟨D, h1, h2, fun v kl hd hk => by rw [hf v hd]; exact h3 v kl hd hk⟩
theorem MF.made (w : World) : MF P k e Kd (fun _ => 0) w.heap.size 0 (w.alloc (.map #[] 0)) :=
  ⟨.map [], isMap_empty, World.ownsMap_made _ _ _ _, fun _ _ _ _ => rfl⟩
theorem MF.look {f : Value → Int} {b n : Nat} {w : World} (h : MF P k e Kd f b n w) (K : Keyed P k) (ht : P.underlying t = some (.map k e)) (he : P.underlying e = some (.int .i64)) (hz : ∀ u : World, (zeroValue e).run P u = .ok (.int .i64 0) u) {key : Value} {kl : Lit} (hd : Kd key) (hkey : keyOf P k key = some kl) :
    (Instr.lookup t (.map (some b)) key false).run P w = .ok (.int .i64 (f key)) w ∧ (Lit.int .i64 (f key)).wf = true := by
  obtain ⟨D, _, h1, h2⟩ := h
  obtain ⟨c, hr, ha, hw⟩ := h1.lookup_int K ht he (hz w) hkey
  have e1 := (h2 key kl hd hkey).symm.trans ha
  have e2 : f key = c := by simpa using e1
  rw [e2]; exact ⟨hr, hw⟩
theorem MF.put {f g : Value → Int} {b n : Nat} {w : World} (h : MF P k e Kd f b n w) (K : Keyed P k) (ht : P.underlying t = some (.map k e)) (he : P.underlying e = some (.int .i64)) (hn : n < maxLen) {key : Value} {kl : Lit} (hd : Kd key) (hkey : keyOf P k key = some kl)
    {c : Int} (hc : (Lit.int .i64 c).wf = true) (hg : g key = c) (ho : ∀ u, Kd u → u ≠ key → g u = f u) :
    ∃ w', (Instr.mapUpdate t (.map (some b)) key (.int .i64 c)).run P w = .ok () w' ∧ MF P k e Kd g b (n + 1) w' ∧ w.grownBy w' (some b) := by
  obtain ⟨D, hD, h1, h2⟩ := h
  obtain ⟨w', hr, h3, h4⟩ := h1.update K ht hn hkey (plainElem_int he hc)
  refine ⟨w', hr, ⟨_, hD.put _ _, h3, fun u ku hd' hu => ?_⟩, h4⟩
  by_cases hk : ku = kl
  · subst hk
    have : u = key := K.inj hu hkey
    subst this
    rw [atKey_put_same hD (K.key hkey), hg]
  · rw [atKey_put_other hk, ho u hd' (fun e1 => hk (by subst e1; rw [hkey] at hu; exact (Option.some.inj hu).symm))]
    exact h2 u ku hd' hu
/-- 'm[k] op= c': the entry is laid, then written; a look-up between the two reads as before. -/
theorem MF.entry {f g : Value → Int} {b n : Nat} {w : World} (h : MF P k e Kd f b n w) (L : KeyLaw P k) (K : Keyed P k) (ht : P.underlying t = some (.map k e)) (he : P.underlying e = some (.int .i64)) (hz : ∀ u : World, (zeroValue e).run P u = .ok (.int .i64 0) u) (hn : n < maxLen) {key : Value} {kl : Lit} (hd : Kd key) (hkey : keyOf P k key = some kl)
    {c : Int} (hc : (Lit.int .i64 c).wf = true) (hg : g key = c) (ho : ∀ u, Kd u → u ≠ key → g u = f u) :
    ∃ (st : Nat) (v0 : Value) (o1 o2 : Obj), (Instr.mapEntry t (.map (some b)) key).run P w = .ok (.tuple #[v0, goInt st]) (setBlock w b o1) ∧
      (∀ w2 : World, w2.heap[b]? = some o1 → MF P k e Kd f b (n + 1) w2 ∧ (Instr.entryStore t (.map (some b)) (goInt st) (.int .i64 c)).run P w2 = .ok () (setBlock w2 b o2)) ∧ MF P k e Kd g b (n + 1) (setBlock w b o2) := by
  have hM := h
  obtain ⟨D, hD, ⟨es, clock, hb, F, hs, hDe⟩, h2⟩ := h
  have hsame : ∀ (w2 : World) (o : Obj), w2.heap[b]? = some o → w2.heap[b]? = (setBlock w b o).heap[b]? := fun w2 o h => by rw [h, heap_setBlock_same hb]
  obtain ⟨v0, st, es1, clock1, hr1, hv, hst⟩ := entry_then_store L ht hz hb F hkey
  have h0 := hst (setBlock w b (.map es1 clock1)) (.int .i64 c) (heap_setBlock_same hb _)
  obtain ⟨es', clock', hr2, hr3⟩ := h0
  refine ⟨st, v0, .map es1 clock1, .map es' clock', hr1, ?_, ?_⟩
  · have hf1 : MF P k e Kd f b (n + 1) (setBlock w b (.map es1 clock1)) := by
      rcases L.find w hkey es.toList F.keys with ⟨q1, q2⟩ | ⟨j, e0, q1, q2, q3⟩
      · obtain ⟨hl, _⟩ := hM.look K ht he hz hd hkey
        have hf0 : f key = 0 := by
          simp [Instr.lookup, run_underlying ht, MapKept.run_getObj_map hb, K.check w _ hkey, q1, hz, Result.andThen] at hl
          exact hl.symm
        obtain ⟨w', p1, p2, _⟩ := hM.put (g := f) K ht he hn hd hkey (c := 0) (by decide) hf0 (fun _ _ _ => rfl)
        simp [Instr.mapUpdate, run_underlying ht, MapKept.run_getObj_map hb, L.check w false hkey, q1, MapKept.run_setObj_map _ hb, Result.andThen] at p1
        simp [Instr.mapEntry, run_underlying ht, MapKept.run_getObj_map hb, L.check w false hkey, q1, hz, MapKept.run_setObj_map _ hb, Result.andThen] at hr1
        rw [show setBlock w b (.map es1 clock1) = w' from hr1.2.symm.trans p1]; exact p2
      · have hj : es[j]? = some e0 := by simpa using q2
        have hmod : es.modify j (fun x => { x with key := key }) = es := by
          apply Array.ext_getElem?
          intro i
          rw [Array.getElem?_modify]
          split
          · rename_i hi; subst hi; rw [hj, ← q3]; rfl
          · rfl
        simp [Instr.mapEntry, run_underlying ht, MapKept.run_getObj_map hb, L.check w false hkey, q1, hj, q3, L.stays w hkey, hmod, MapKept.run_setObj_map _ hb, Result.andThen] at hr1
        rw [show setBlock w b (.map es1 clock1) = setBlock w b (.map es clock) from hr1.2.symm]
        exact (hM.mono (Nat.le_succ n)).same ((heap_setBlock_same hb _).trans hb.symm)
    intro w2 hw2
    obtain ⟨es2, clock2, k1, k2⟩ := hst w2 (.int .i64 c) hw2
    have e1 : setBlock w b (.map es2 clock2) = setBlock w b (.map es' clock') := by
      have := k2.symm.trans hr3
      simpa using this
    have e2 : Obj.map es2 clock2 = .map es' clock' := by
      have := congrArg (fun u : World => u.heap[b]?) e1
      simpa [heap_setBlock_same hb] using this
    rw [e2] at k1
    exact ⟨hf1.same (hsame _ _ hw2), k1⟩
  · obtain ⟨w', p1, p2, _⟩ := hM.put (g := g) K ht he hn hd hkey hc hg ho
    have := p1.symm.trans hr3
    simp only [Result.ok.injEq, true_and] at this
    rw [this] at p2
    exact p2
theorem MF.slot {f : Value → Int} {b n : Nat} {w : World} (h : MF P k e Kd f b n w) (o : Obj) : (setBlock w b o).heap[b]? = some o := by
  obtain ⟨D, _, ⟨es, c, hb, _⟩, _⟩ := h; exact heap_setBlock_same hb o
theorem MF.apart {f : Value → Int} {b n : Nat} {w : World} (h : MF P k e Kd f b n w) (o : Obj) {i : Nat} (hi : i ≠ b) : (setBlock w b o).heap[i]? = w.heap[i]? := by
  obtain ⟨D, _, ⟨es, c, hb, _⟩, _⟩ := h; exact heap_setBlock_other hb o hi
theorem MF.cell {f : Value → Int} {b n : Nat} {w : World} (h : MF P k e Kd f b n w) (o : Obj) {p : Addr} (hp : p.block ≠ b) : (setBlock w b o).cell? p = w.cell? p := by
  unfold World.cell?; rw [h.apart o hp]
/-- No cell lies in a map's block. -/
theorem MF.cells {f : Value → Int} {b n : Nat} {w : World} (h : MF P k e Kd f b n w) (o : Obj) {p : Addr} {v : Value} (hv : w.cell? p = some v) : (setBlock w b o).cell? p = some v := by
  have hp : p.block ≠ b := fun e1 => by
    obtain ⟨D, _, ⟨es, c, hb, _⟩, _⟩ := h
    unfold World.cell? at hv
    rw [e1, hb] at hv
    simp at hv
  rw [h.cell o hp, hv]
theorem MF.grownC {f : Value → Int} {b n : Nat} {w w' : World} (h : MF P k e Kd f b n w) (hg : w.grownBy w' (some b)) {p : Addr} {v : Value} (hv : w.cell? p = some v) : w'.cell? p = some v := by
  have hp : p.block ≠ b := fun e1 => by
    obtain ⟨D, _, ⟨es, c, hb, _⟩, _⟩ := h
    unfold World.cell? at hv
    rw [e1, hb] at hv
    simp at hv
  have hl : p.block < w.heap.size := by
    apply Nat.lt_of_not_le
    intro hc
    have : w.heap[p.block]? = none := Array.getElem?_eq_none hc
    unfold World.cell? at hv
    simp [this] at hv
  have := hg.block p.block hl (fun e1 => hp (Option.some.inj e1))
  rw [show w'.cell? p = w.cell? p by unfold World.cell?; rw [this]]
  exact hv
theorem set_size (w : World) (b : Nat) (o : Obj) : (setBlock w b o).heap.size = w.heap.size := by simp [setBlock]
end
end Go.Proofs.Yteandjnbcolphaa.Mf
