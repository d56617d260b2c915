/- A map of integers that the call makes, as a function of its keys. Of no program. -/
import Derived.Test.YthecinmekoaphaaGreatQaAB
import Derived.Maps.OwnOps
import Derived.Maps.Views
import Derived.WideKeyEntry
import Derived.DeepKeys4
import Derived.Maps.Range
set_option linter.unusedVariables false
namespace Go.Proofs.YthecinmekoaphaaGreat.Mf
open Go Go.Maps Go.RowKit Go.ChangeMaps Go.MapKept
open Go.WideElems (Fit rd rg pl rd_val elemAt entry_then_store)
open Go.WideMaps (KeyLaw)
section
variable {P : Program} {k e t : TypeId} {Kd : Value → Prop}
def MF (P : Program) (k e : TypeId) (Kd : Value → Prop) (f : Value → Int) (b n : Nat) (w : World) : Prop :=
  ∃ D : DataW Unit, IsMap D ∧ w.ownsMap P k (plainElem P e) b n D ∧ ∀ v kl, Kd v → keyOf P k v = some kl → D.atKey kl (.lit (.int .i64 0)) = .lit (.int .i64 (f v))
theorem MF.lt {f : Value → Int} {b n : Nat} {w : World} (h : MF P k e Kd f b n w) : b < w.heap.size := by
  obtain ⟨D, _, h, _⟩ := h; exact h.lt
theorem MF.same {f : Value → Int} {b n : Nat} {w w' : World} (h : MF P k e Kd f b n w) (hb : w'.heap[b]? = w.heap[b]?) : MF P k e Kd f b n w' := by
  obtain ⟨D, h1, ⟨es, c, h2, h3⟩, h4⟩ := h
  exact ⟨D, h1, ⟨es, c, hb.trans h2, h3⟩, h4⟩
theorem MF.stays {f : Value → Int} {b n : Nat} {w w' : World} (h : MF P k e Kd f b n w) (hb : Below w.heap.size w w') : MF P k e Kd f b n w' := h.same (hb.block b h.lt)
theorem MF.mono {f : Value → Int} {b n m : Nat} {w : World} (h : MF P k e Kd f b n w) (hm : n ≤ m) : MF P k e Kd f b m w := by
  obtain ⟨D, h1, h2, h3⟩ := h; exact ⟨D, h1, h2.mono hm, h3⟩
theorem MF.congr {f g : Value → Int} {b n : Nat} {w : World} (h : MF P k e Kd f b n w) (hf : ∀ v, Kd v → g v = f v) : MF P k e Kd g b n w := by
  obtain ⟨D, h1, h2, h3⟩ := h; exact ⟨D, h1, h2, fun v kl hd hk => by rw [hf v hd]; exact h3 v kl hd hk⟩
theorem MF.made (w : World) : MF P k e Kd (fun _ => 0) w.heap.size 0 (w.alloc (.map #[] 0)) :=
  ⟨.map [], isMap_empty, World.ownsMap_made _ _ _ _, fun _ _ _ _ => rfl⟩
theorem MF.look {f : Value → Int} {b n : Nat} {w : World} (h : MF P k e Kd f b n w) (K : Keyed P k) (ht : P.underlying t = some (.map k e)) (he : P.underlying e = some (.int .i64)) (hz : ∀ u : World, (zeroValue e).run P u = .ok (.int .i64 0) u) {key : Value} {kl : Lit} (hd : Kd key) (hkey : keyOf P k key = some kl) :
    (Instr.lookup t (.map (some b)) key false).run P w = .ok (.int .i64 (f key)) w ∧ (Lit.int .i64 (f key)).wf = true := by
  obtain ⟨D, _, h1, h2⟩ := h
  obtain ⟨c, hr, ha, hw⟩ := h1.lookup_int K ht he (hz w) hkey
  have e1 := (h2 key kl hd hkey).symm.trans ha
  have e2 : f key = c := by simpa using e1
  rw [e2]; exact ⟨hr, hw⟩
theorem MF.put {f g : Value → Int} {b n : Nat} {w : World} (h : MF P k e Kd f b n w) (K : Keyed P k) (ht : P.underlying t = some (.map k e)) (he : P.underlying e = some (.int .i64)) (hn : n < maxLen) {key : Value} {kl : Lit} (hd : Kd key) (hkey : keyOf P k key = some kl)
    {c : Int} (hc : (Lit.int .i64 c).wf = true) (hg : g key = c) (ho : ∀ u, Kd u → u ≠ key → g u = f u) :
    ∃ w', (Instr.mapUpdate t (.map (some b)) key (.int .i64 c)).run P w = .ok () w' ∧ MF P k e Kd g b (n + 1) w' ∧ w.grownBy w' (some b) := by
  obtain ⟨D, hD, h1, h2⟩ := h
  obtain ⟨w', hr, h3, h4⟩ := h1.update K ht hn hkey (plainElem_int he hc)
  refine ⟨w', hr, ⟨_, hD.put _ _, h3, fun u ku hd' hu => ?_⟩, h4⟩
  by_cases hk : ku = kl
  · subst hk
    have : u = key := K.inj hu hkey
    subst this
    rw [atKey_put_same hD (K.key hkey), hg]
  · rw [atKey_put_other hk, ho u hd' (fun e1 => hk (by subst e1; rw [hkey] at hu; exact (Option.some.inj hu).symm))]
    exact h2 u ku hd' hu
/-- 'm[k] op= c': the entry is laid, then written; a look-up between the two reads as before. -/
theorem MF.entry {f g : Value → Int} {b n : Nat} {w : World} (h : MF P k e Kd f b n w) (L : KeyLaw P k) (K : Keyed P k) (ht : P.underlying t = some (.map k e)) (he : P.underlying e = some (.int .i64)) (hz : ∀ u : World, (zeroValue e).run P u = .ok (.int .i64 0) u) (hn : n < maxLen) {key : Value} {kl : Lit} (hd : Kd key) (hkey : keyOf P k key = some kl)
    {c : Int} (hc : (Lit.int .i64 c).wf = true) (hg : g key = c) (ho : ∀ u, Kd u → u ≠ key → g u = f u) :
    ∃ (st : Nat) (v0 : Value) (o1 o2 : Obj), (Instr.mapEntry t (.map (some b)) key).run P w = .ok (.tuple #[v0, goInt st]) (setBlock w b o1) ∧
      (∀ w2 : World, w2.heap[b]? = some o1 → MF P k e Kd f b (n + 1) w2 ∧ (Instr.entryStore t (.map (some b)) (goInt st) (.int .i64 c)).run P w2 = .ok () (setBlock w2 b o2)) ∧ MF P k e Kd g b (n + 1) (setBlock w b o2) := by
  have hM := h
  obtain ⟨D, hD, ⟨es, clock, hb, F, hs, hDe⟩, h2⟩ := h
  have hsame : ∀ (w2 : World) (o : Obj), w2.heap[b]? = some o → w2.heap[b]? = (setBlock w b o).heap[b]? := fun w2 o h => by rw [h, heap_setBlock_same hb]
  obtain ⟨v0, st, es1, clock1, hr1, hv, hst⟩ := entry_then_store L ht hz hb F hkey
  have h0 := hst (setBlock w b (.map es1 clock1)) (.int .i64 c) (heap_setBlock_same hb _)
  obtain ⟨es', clock', hr2, hr3⟩ := h0
  refine ⟨st, v0, .map es1 clock1, .map es' clock', hr1, ?_, ?_⟩
  · have hf1 : MF P k e Kd f b (n + 1) (setBlock w b (.map es1 clock1)) := by
      rcases L.find w hkey es.toList F.keys with ⟨q1, q2⟩ | ⟨j, e0, q1, q2, q3⟩
      · obtain ⟨hl, _⟩ := hM.look K ht he hz hd hkey
        have hf0 : f key = 0 := by
          simp [Instr.lookup, run_underlying ht, MapKept.run_getObj_map hb, K.check w _ hkey, q1, hz, Result.andThen] at hl
          exact hl.symm
        obtain ⟨w', p1, p2, _⟩ := hM.put (g := f) K ht he hn hd hkey (c := 0) (by decide) hf0 (fun _ _ _ => rfl)
        simp [Instr.mapUpdate, run_underlying ht, MapKept.run_getObj_map hb, L.check w false hkey, q1, MapKept.run_setObj_map _ hb, Result.andThen] at p1
        simp [Instr.mapEntry, run_underlying ht, MapKept.run_getObj_map hb, L.check w false hkey, q1, hz, MapKept.run_setObj_map _ hb, Result.andThen] at hr1
        rw [show setBlock w b (.map es1 clock1) = w' from hr1.2.symm.trans p1]; exact p2
      · have hj : es[j]? = some e0 := by simpa using q2
        have hmod : es.modify j (fun x => { x with key := key }) = es := by
          apply Array.ext_getElem?
          intro i
          rw [Array.getElem?_modify]
          split
          · rename_i hi; subst hi; rw [hj, ← q3]; rfl
          · rfl
        simp [Instr.mapEntry, run_underlying ht, MapKept.run_getObj_map hb, L.check w false hkey, q1, hj, q3, L.stays w hkey, hmod, MapKept.run_setObj_map _ hb, Result.andThen] at hr1
        rw [show setBlock w b (.map es1 clock1) = setBlock w b (.map es clock) from hr1.2.symm]
        exact (hM.mono (Nat.le_succ n)).same ((heap_setBlock_same hb _).trans hb.symm)
    intro w2 hw2
    obtain ⟨es2, clock2, k1, k2⟩ := hst w2 (.int .i64 c) hw2
    have e1 : setBlock w b (.map es2 clock2) = setBlock w b (.map es' clock') := by
      have := k2.symm.trans hr3
      simpa using this
    have e2 : Obj.map es2 clock2 = .map es' clock' := by
      have := congrArg (fun u : World => u.heap[b]?) e1
      simpa [heap_setBlock_same hb] using this
    rw [e2] at k1
    exact ⟨hf1.same (hsame _ _ hw2), k1⟩
  · obtain ⟨w', p1, p2, _⟩ := hM.put (g := g) K ht he hn hd hkey hc hg ho
    have := p1.symm.trans hr3
    simp only [Result.ok.injEq, true_and] at this
    rw [this] at p2
    exact p2
theorem MF.apart {f : Value → Int} {b n : Nat} {w : World} (h : MF P k e Kd f b n w) (o : Obj) {i : Nat} (hi : i ≠ b) : (setBlock w b o).heap[i]? = w.heap[i]? := by
  obtain ⟨D, _, ⟨es, c, hb, _⟩, _⟩ := h; exact heap_setBlock_other hb o hi
theorem MF.cell {f : Value → Int} {b n : Nat} {w : World} (h : MF P k e Kd f b n w) (o : Obj) {p : Addr} (hp : p.block ≠ b) : (setBlock w b o).cell? p = w.cell? p := by
  unfold World.cell?; rw [h.apart o hp]
/-- No cell lies in a map's block. -/
theorem MF.cells {f : Value → Int} {b n : Nat} {w : World} (h : MF P k e Kd f b n w) (o : Obj) {p : Addr} {v : Value} (hv : w.cell? p = some v) : (setBlock w b o).cell? p = some v := by
  have hp : p.block ≠ b := fun e1 => by
    obtain ⟨D, _, ⟨es, c, hb, _⟩, _⟩ := h
    unfold World.cell? at hv
    rw [e1, hb] at hv
    simp at hv
  rw [h.cell o hp, hv]
end
end Go.Proofs.YthecinmekoaphaaGreat.Mf
namespace Go.Proofs.YthecinmekoaphaaGreat.Mg
open Go Go.Maps Go.RowKit Go.Proofs.YthecinmekoaphaaGreat.Mf
section
variable {P : Program} {k e t : TypeId} {Kd : Value → Prop}
/-- The map in block b reads as f on the keys of Kd, and has no others. -/
def MK (P : Program) (k e : TypeId) (Kd : Value → Prop) (f : Value → Int) (b n : Nat) (D : DataW Unit) (w : World) : Prop :=
  IsMap D ∧ w.ownsMap P k (plainElem P e) b n D ∧ (∀ v kl, Kd v → keyOf P k v = some kl → D.atKey kl (.lit (.int .i64 0)) = .lit (.int .i64 (f v))) ∧ ∀ kl, has D kl = true → ∃ v, Kd v ∧ keyOf P k v = some kl
theorem MK.mf {f : Value → Int} {b n : Nat} {D : DataW Unit} {w : World} (h : MK P k e Kd f b n D w) : MF P k e Kd f b n w := ⟨D, h.1, h.2.1, h.2.2.1⟩
theorem MK.lt {f : Value → Int} {b n : Nat} {D : DataW Unit} {w : World} (h : MK P k e Kd f b n D w) : b < w.heap.size := h.2.1.lt
theorem MK.same {f : Value → Int} {b n : Nat} {D : DataW Unit} {w w' : World} (h : MK P k e Kd f b n D w) (hb : w'.heap[b]? = w.heap[b]?) : MK P k e Kd f b n D w' := by
  obtain ⟨h1, ⟨es, c, h2, h3⟩, h4⟩ := h
  exact ⟨h1, ⟨es, c, hb.trans h2, h3⟩, h4⟩
theorem MK.stays {f : Value → Int} {b n : Nat} {D : DataW Unit} {w w' : World} (h : MK P k e Kd f b n D w) (hb : Below w.heap.size w w') : MK P k e Kd f b n D w' := h.same (hb.block b h.lt)
theorem MK.congr {f g : Value → Int} {b n : Nat} {D : DataW Unit} {w : World} (h : MK P k e Kd f b n D w) (hf : ∀ v, Kd v → g v = f v) : MK P k e Kd g b n D w :=
  ⟨h.1, h.2.1, fun v kl hd hk => by rw [hf v hd]; exact h.2.2.1 v kl hd hk, h.2.2.2⟩
theorem MK.made (w : World) : MK P k e Kd (fun _ => 0) w.heap.size 0 (.map []) (w.alloc (.map #[] 0)) :=
  ⟨isMap_empty, World.ownsMap_made _ _ _ _, fun _ _ _ _ => rfl, fun kl h => by simp [has] at h⟩
theorem MK.put {f g : Value → Int} {b n : Nat} {D : DataW Unit} {w : World} (h : MK P k e Kd f b n D w) (K : Keyed P k) (ht : P.underlying t = some (.map k e)) (he : P.underlying e = some (.int .i64)) (hn : n < maxLen) {key : Value} {kl : Lit} (hd : Kd key) (hkey : keyOf P k key = some kl)
    {c : Int} (hc : (Lit.int .i64 c).wf = true) (hg : g key = c) (ho : ∀ u, Kd u → u ≠ key → g u = f u) :
    ∃ D' w', (Instr.mapUpdate t (.map (some b)) key (.int .i64 c)).run P w = .ok () w' ∧ MK P k e Kd g b (n + 1) D' w' ∧ w.grownBy w' (some b) := by
  obtain ⟨hD, h1, h2, h3⟩ := h
  obtain ⟨w', hr, h4, h5⟩ := h1.update K ht hn hkey (plainElem_int he hc)
  refine ⟨_, w', hr, ⟨hD.put kl _, h4, fun u ku hd' hu => ?_, fun ku hu => ?_⟩, h5⟩
  · by_cases hk : ku = kl
    · subst hk
      have : u = key := K.inj hu hkey
      subst this
      rw [atKey_put_same hD (K.key hkey), hg]
    · rw [atKey_put_other hk, ho u hd' (fun e1 => hk (by subst e1; rw [hkey] at hu; exact (Option.some.inj hu).symm))]
      exact h2 u ku hd' hu
  · by_cases hk : ku = kl
    · exact ⟨key, hd, hk ▸ hkey⟩
    · rw [has_put_other hk] at hu
      exact h3 ku hu
/-- The key is one of Kd, where an entry has come. -/
theorem MK.isKey {f : Value → Int} {b n : Nat} {D : DataW Unit} {w : World} (h : MK P k e Kd f b n D w) (K : Keyed P k) {v : Value} {kl : Lit} (hv : keyOf P k v = some kl) (hh : has D kl = true) : Kd v := by
  obtain ⟨u, hu, hk⟩ := h.2.2.2 kl hh
  rw [K.inj hv hk]; exact hu
/-- Where there is no entry it reads 0. -/
theorem MK.none {f : Value → Int} {b n : Nat} {D : DataW Unit} {w : World} (h : MK P k e Kd f b n D w) {v : Value} {kl : Lit} (hd : Kd v) (hv : keyOf P k v = some kl) (hh : has D kl = false) : f v = 0 := by
  have := h.2.2.1 v kl hd hv
  rw [atKey_of_not_has hh] at this
  simpa using this.symm
end
section
variable {P : Program} {k : TypeId} {α : Type} {enc : α → Value} {D : DataW Unit} {left : Lit → Bool} {ss : List α}
/-- No key twice; what is on the list the map has, and it has come; what has come is on the list. -/
def Coll (P : Program) (k : TypeId) (enc : α → Value) (D : DataW Unit) (left : Lit → Bool) (ss : List α) : Prop :=
  ss.Nodup ∧ (∀ x ∈ ss, ∃ kl, keyOf P k (enc x) = some kl ∧ has D kl = true ∧ left kl = false) ∧ ∀ kl, has D kl = true → left kl = false → ∃ x ∈ ss, keyOf P k (enc x) = some kl
theorem Coll.start (P : Program) (k : TypeId) (enc : α → Value) (D : DataW Unit) : Coll P k enc D (has D) [] :=
  ⟨List.nodup_nil, by simp, fun kl h1 h2 => by rw [h1] at h2; cases h2⟩
theorem Coll.step (h : Coll P k enc D left ss) (K : Keyed P k) {x : α} {kl : Lit} {y : DataW Unit} (hkey : keyOf P k (enc x) = some kl) (hlk : left kl = true) (hat : ∀ zd, D.atKey kl zd = y) : Coll P k enc D (fun z => left z && !z.sameKey kl) (ss ++ [x]) := by
  have hhas : has D kl = true := has_true_of_atKey hat
  have hself := WideAt.sameKey_self (K.key hkey)
  have hnew : x ∉ ss := fun hx => by
    obtain ⟨kl', h1, _, h3⟩ := h.2.1 x hx
    rw [hkey] at h1
    obtain rfl := Option.some.inj h1
    rw [hlk] at h3; cases h3
  refine ⟨List.nodup_append.2 ⟨h.1, by simp, fun a ha b hb => by simp at hb; subst hb; exact fun e => hnew (e ▸ ha)⟩, fun z hz => ?_, fun kz h1 h2 => ?_⟩
  · rcases List.mem_append.1 hz with hz | hz
    · obtain ⟨kl', h1, h2, h3⟩ := h.2.1 z hz
      exact ⟨kl', h1, h2, by simp [h3]⟩
    · simp at hz
      subst hz
      exact ⟨kl, hkey, hhas, by simp [hself]⟩
  · rcases Bool.eq_false_or_eq_true (left kz) with hl | hl
    · have hs : kz.sameKey kl = true := by
        rcases Bool.eq_false_or_eq_true (kz.sameKey kl) with hs | hs
        · exact hs
        · simp [hl, hs] at h2
      have : kz = kl := (WideAt.sameKey_iff (K.key hkey)).1 hs
      subst this
      exact ⟨x, by simp, hkey⟩
    · obtain ⟨z, hz, hk⟩ := h.2.2 kz h1 hl
      exact ⟨z, List.mem_append_left _ hz, hk⟩
/-- All that the map has. -/
def Keys (P : Program) (k : TypeId) (enc : α → Value) (D : DataW Unit) (ss : List α) : Prop :=
  ss.Nodup ∧ (∀ x ∈ ss, ∃ kl, keyOf P k (enc x) = some kl ∧ has D kl = true) ∧ ∀ kl, has D kl = true → ∃ x ∈ ss, keyOf P k (enc x) = some kl
theorem Coll.all (h : Coll P k enc D left ss) (hl : ∀ kl, left kl = false) : Keys P k enc D ss :=
  ⟨h.1, fun x hx => by obtain ⟨kl, h1, h2, _⟩ := h.2.1 x hx; exact ⟨kl, h1, h2⟩, fun kl h1 => h.2.2 kl h1 (hl kl)⟩
theorem Keys.perm {ss ts : List α} (h : Keys P k enc D ss) (hp : ts.Perm ss) : Keys P k enc D ts :=
  ⟨hp.nodup_iff.2 h.1, fun x hx => h.2.1 x (hp.mem_iff.1 hx), fun kl h1 => by obtain ⟨x, hx, hk⟩ := h.2.2 kl h1; exact ⟨x, hp.mem_iff.2 hx, hk⟩⟩
end
end Go.Proofs.YthecinmekoaphaaGreat.Mg
