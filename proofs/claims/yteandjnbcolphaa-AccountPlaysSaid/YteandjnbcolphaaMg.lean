/- A map of integers that the call makes, as a function of its keys, with what its keys are; its keys as they come in a range. Of no program. -/
import Derived.Test.YteandjnbcolphaaMf
import Derived.Maps.Range
namespace Go.Proofs.Yteandjnbcolphaa.Mg
open Go Go.Maps Go.RowKit Go.Proofs.Yteandjnbcolphaa.Mf
section
variable {P : Program} {k e t : TypeId} {Kd : Value → Prop}
/-- The map in block b reads as f on the keys of Kd, and has no others. -/
def MK (P : Program) (k e : TypeId) (Kd : Value → Prop) (f : Value → Int) (b n : Nat) (D : DataW Unit) (w : World) : Prop :=
  IsMap D ∧ w.ownsMap P k (plainElem P e) b n D ∧ (∀ v kl, Kd v → keyOf P k v = some kl → D.atKey kl (.lit (.int .i64 0)) = .lit (.int .i64 (f v))) ∧ ∀ kl, has D kl = true → ∃ v, Kd v ∧ keyOf P k v = some kl
theorem MK.mf {f : Value → Int} {b n : Nat} {D : DataW Unit} {w : World} (h : MK P k e Kd f b n D w) : MF P k e Kd f b n w := ⟨D, h.1, h.2.1, h.2.2.1⟩
theorem MK.lt {f : Value → Int} {b n : Nat} {D : DataW Unit} {w : World} (h : MK P k e Kd f b n D w) : b < w.heap.size := h.2.1.lt
theorem MK.same {f : Value → Int} {b n : Nat} {D : DataW Unit} {w w' : World} (h : MK P k e Kd f b n D w) (hb : w'.heap[b]? = w.heap[b]?) : MK P k e Kd f b n D w' := by
  obtain ⟨h1, ⟨es, c, h2, h3⟩, h4⟩ := h
  exact ⟨h1, ⟨es, c, hb.trans h2, h3⟩, h4⟩
theorem MK.stays {f : Value → Int} {b n : Nat} {D : DataW Unit} {w w' : World} (h : MK P k e Kd f b n D w) (hb : Below w.heap.size w w') : MK P k e Kd f b n D w' := h.same (hb.block b h.lt)
theorem MK.congr {f g : Value → Int} {b n : Nat} {D : DataW Unit} {w : World} (h : MK P k e Kd f b n D w) (hf : ∀ v, Kd v → g v = f v) : MK P k e Kd g b n D w :=
  ⟨h.1, h.2.1, fun v kl hd hk => by rw [hf v hd]; exact h.2.2.1 v kl hd hk, h.2.2.2⟩
theorem MK.made (w : World) : MK P k e Kd (fun _ => 0) w.heap.size 0 (.map []) (w.alloc (.map #[] 0)) :=
  ⟨isMap_empty, World.ownsMap_made _ _ _ _, fun _ _ _ _ => rfl, fun kl h => by simp [has] at h⟩
theorem MK.put {f g : Value → Int} {b n : Nat} {D : DataW Unit} {w : World} (h : MK P k e Kd f b n D w) (K : Keyed P k) (ht : P.underlying t = some (.map k e)) (he : P.underlying e = some (.int .i64)) (hn : n < maxLen) {key : Value} {kl : Lit} (hd : Kd key) (hkey : keyOf P k key = some kl)
    {c : Int} (hc : (Lit.int .i64 c).wf = true) (hg : g key = c) (ho : ∀ u, Kd u → u ≠ key → g u = f u) :
    ∃ D' w', (Instr.mapUpdate t (.map (some b)) key (.int .i64 c)).run P w = .ok () w' ∧ MK P k e Kd g b (n + 1) D' w' ∧ w.grownBy w' (some b) := by
  obtain ⟨hD, h1, h2, h3⟩ := h
  obtain ⟨w', hr, h4, h5⟩ := h1.update K ht hn hkey (plainElem_int he hc)
  refine ⟨_, w', hr, ⟨hD.put kl _, h4, fun u ku hd' hu => ?_, fun ku hu => ?_⟩, h5⟩
  · by_cases hk : ku = kl
    · subst hk
      have : u = key := K.inj hu hkey
      subst this
      rw [atKey_put_same hD (K.key hkey), hg]
    · rw [atKey_put_other hk, ho u hd' (fun e1 => hk (by subst e1; rw [hkey] at hu; exact (Option.some.inj hu).symm))]
      exact h2 u ku hd' hu
  · by_cases hk : ku = kl
    · exact ⟨key, hd, hk ▸ hkey⟩
    · rw [has_put_other hk] at hu
      exact h3 ku hu
/-- The key is one of Kd, where an entry has come. -/
theorem MK.isKey {f : Value → Int} {b n : Nat} {D : DataW Unit} {w : World} (h : MK P k e Kd f b n D w) (K : Keyed P k) {v : Value} {kl : Lit} (hv : keyOf P k v = some kl) (hh : has D kl = true) : Kd v := by
  obtain ⟨u, hu, hk⟩ := h.2.2.2 kl hh
  rw [K.inj hv hk]; exact hu
/-- Where there is no entry it reads 0. -/
theorem MK.none {f : Value → Int} {b n : Nat} {D : DataW Unit} {w : World} (h : MK P k e Kd f b n D w) {v : Value} {kl : Lit} (hd : Kd v) (hv : keyOf P k v = some kl) (hh : has D kl = false) : f v = 0 := by
  have := h.2.2.1 v kl hd hv
  rw [atKey_of_not_has hh] at this
  simpa using this.symm
end
section
variable {P : Program} {k : TypeId} {α : Type} {enc : α → Value} {D : DataW Unit} {left : Lit → Bool} {ss : List α}
/-- No key twice; what is on the list the map has, and it has come; what has come is on the list. -/
def Coll (P : Program) (k : TypeId) (enc : α → Value) (D : DataW Unit) (left : Lit → Bool) (ss : List α) : Prop :=
  ss.Nodup ∧ (∀ x ∈ ss, ∃ kl, keyOf P k (enc x) = some kl ∧ has D kl = true ∧ left kl = false) ∧ ∀ kl, has D kl = true → left kl = false → ∃ x ∈ ss, keyOf P k (enc x) = some kl
theorem Coll.start (P : Program) (k : TypeId) (enc : α → Value) (D : DataW Unit) : Coll P k enc D (has D) [] :=
  ⟨List.nodup_nil, by simp, fun kl h1 h2 => by rw [h1] at h2; cases h2⟩
theorem Coll.step (h : Coll P k enc D left ss) (K : Keyed P k) {x : α} {kl : Lit} {y : DataW Unit} (hkey : keyOf P k (enc x) = some kl) (hlk : left kl = true) (hat : ∀ zd, D.atKey kl zd = y) : Coll P k enc D (fun z => left z && !z.sameKey kl) (ss ++ [x]) := by
  have hhas : has D kl = true := has_true_of_atKey hat
  have hself := WideAt.sameKey_self (K.key hkey)
  have hnew : x ∉ ss := fun hx => by
    obtain ⟨kl', h1, _, h3⟩ := h.2.1 x hx
    rw [hkey] at h1
    obtain rfl := Option.some.inj h1
    rw [hlk] at h3; cases h3
  refine ⟨List.nodup_append.2 ⟨h.1, by simp, fun a ha b hb => by simp at hb; subst hb; exact fun e => hnew (e ▸ ha)⟩, fun z hz => ?_, fun kz h1 h2 => ?_⟩
  · rcases List.mem_append.1 hz with hz | hz
    · obtain ⟨kl', h1, h2, h3⟩ := h.2.1 z hz
      exact ⟨kl', h1, h2, by simp [h3]⟩
    · simp at hz
      subst hz
      exact ⟨kl, hkey, hhas, by simp [hself]⟩
  · rcases Bool.eq_false_or_eq_true (left kz) with hl | hl
    · have hs : kz.sameKey kl = true := by
        rcases Bool.eq_false_or_eq_true (kz.sameKey kl) with hs | hs
        · exact hs
        · simp [hl, hs] at h2
      have : kz = kl := (WideAt.sameKey_iff (K.key hkey)).1 hs
      subst this
      exact ⟨x, by simp, hkey⟩
    · obtain ⟨z, hz, hk⟩ := h.2.2 kz h1 hl
      exact ⟨z, List.mem_append_left _ hz, hk⟩
/-- All that the map has. -/
def Keys (P : Program) (k : TypeId) (enc : α → Value) (D : DataW Unit) (ss : List α) : Prop :=
  ss.Nodup ∧ (∀ x ∈ ss, ∃ kl, keyOf P k (enc x) = some kl ∧ has D kl = true) ∧ ∀ kl, has D kl = true → ∃ x ∈ ss, keyOf P k (enc x) = some kl
theorem Coll.all (h : Coll P k enc D left ss) (hl : ∀ kl, left kl = false) : Keys P k enc D ss :=
  ⟨h.1, fun x hx => by obtain ⟨kl, h1, h2, _⟩ := h.2.1 x hx; exact ⟨kl, h1, h2⟩, fun kl h1 => h.2.2 kl h1 (hl kl)⟩
theorem Keys.perm {ss ts : List α} (h : Keys P k enc D ss) (hp : ts.Perm ss) : Keys P k enc D ts :=
  ⟨hp.nodup_iff.2 h.1, fun x hx => h.2.1 x (hp.mem_iff.1 hx), fun kl h1 => by obtain ⟨x, hx, hk⟩ := h.2.2 kl h1; exact ⟨x, hp.mem_iff.2 hx, hk⟩⟩
end
end Go.Proofs.Yteandjnbcolphaa.Mg
