/- Purses as keys of a map. -/
import Derived.Test.YteandjnbcolphaaMg
import Derived.Test.YteandjnbcolphaaAgE
namespace Go.Proofs.Yteandjnbcolphaa.Ac
open Go.RowKit Go.Maps
open Go.ChangeMaps Go.ChangeShapes Go.WideShapes
open Go.Proofs.Yteandjnbcolphaa.Rw
open Go.Proofs.Yteandjnbcolphaa.Mg
def encP (p : Pu) : Value := .agg #[.int .i64 p.1, .int .i64 p.2]
theorem encP_inj {p q : Pu} (h : encP p = encP q) : p = q := by
  obtain ⟨a, b⟩ := p
  obtain ⟨c, d⟩ := q
  simp [encP] at h
  rw [h.1, h.2]
/-- Keys that may be. -/
def KQ (v : Value) : Prop := ∃ p, pmay p = true ∧ v = encP p
theorem laidOutQ : laidOutB Try.prog = true := by kernel_rfl
theorem lawQ : Go.WideMaps.KeyLaw Try.prog 24 := deep_law_laid laidOutQ (m := 2) (by omega) (of_decide_eq_true (by kernel_rfl)) (by kernel_rfl) (by kernel_rfl)
theorem keyedQ : Keyed Try.prog 24 := Keyed.of_law lawQ
theorem zeroQ (w : World) : (zeroValue 3).run Try.prog w = .ok (.int .i64 0) w := by kernel_rfl
noncomputable def litQ (a s : Nat) : Option Lit := keyOf Try.prog 24 (.agg #[.int .i64 a, .int .i64 s])
theorem litQ_all : ((List.range 64).all fun a => (List.range 8).all fun s => (litQ a s).isSome) = true := by kernel_rfl
theorem keyQ {p : Pu} (h : pmay p = true) : ∃ kl, keyOf Try.prog 24 (encP p) = some kl := by
  obtain ⟨h1, h2, h3, h4⟩ := pmay_iff.1 h
  obtain ⟨a, ha⟩ : ∃ a : Nat, p.1 = a := ⟨p.1.toNat, by omega⟩
  obtain ⟨s, hs⟩ : ∃ s : Nat, p.2 = s := ⟨p.2.toNat, by omega⟩
  have e1 := List.all_eq_true.1 litQ_all a (List.mem_range.2 (by omega))
  have e2 := List.all_eq_true.1 e1 s (List.mem_range.2 (by omega))
  unfold encP
  rw [ha, hs]
  exact Option.isSome_iff_exists.1 e2
theorem cellsQ : Try.prog.cellsOf 24 = 2 := by kernel_rfl
theorem cellsI : Try.prog.cellsOf 3 = 1 := by kernel_rfl
/-- What reads as a key is a purse. -/
theorem keyQ_inv {v : Value} {kl : Lit} (h : keyOf Try.prog 24 v = some kl) : ∃ p, v = encP p := by
  unfold keyOf at h
  rw [fieldsP] at h
  simp only at h
  split at h
  · rename_i hc
    rw [Bool.and_eq_true] at hc
    cases v with
    | agg cs =>
      have h2 := hc.2
      unfold Value.formed at h2
      rw [fieldsP] at h2
      simp only [cellsQ, beq_iff_eq] at h2
      obtain ⟨ls, hls, _⟩ := Option.map_eq_some_iff.1 h
      unfold Program.keyLits at hls
      rw [Try.underlying24] at hls
      simp only at hls
      split at hls
      · obtain ⟨x, y, hxy⟩ : ∃ x y, cs = #[x, y] := by
          obtain ⟨l⟩ := cs
          match l, h2 with
          | [x, y], _ => exact ⟨x, y, rfl⟩
        subst hxy
        obtain ⟨ls', hls', _⟩ := Option.map_eq_some_iff.1 hls
        simp [cellsI, Value.cells, Option.bind_eq_some_iff] at hls'
        obtain ⟨l1, k1, l2, ⟨l3, k2, _⟩, _⟩ := hls'
        have isInt : ∀ {m : Nat} {z : Value} {l : List Lit}, Program.keyLits Try.prog m 3 [z] = some l → ∃ a, z = .int .i64 a := fun {m z l} hk => by
          cases m with
          | zero => simp [Program.keyLits] at hk
          | succ m =>
            unfold Program.keyLits at hk
            rw [Try.underlying3] at hk
            cases z <;> simp at hk
            rename_i q a
            exact ⟨a, by rw [hk.1.1]⟩
        obtain ⟨a, rfl⟩ := isInt k1
        obtain ⟨b, rfl⟩ := isInt k2
        exact ⟨(a, b), rfl⟩
      · cases hls
    | _ => 
      have h2 := hc.2
      unfold Value.formed at h2
      rw [fieldsP] at h2
      simp at h2
  · cases h
def fQ (g : Pu → Int) : Value → Int
  | .agg #[.int _ a, .int _ b] => g (a, b)
  | _ => 0
theorem fQ_at (g : Pu → Int) (p : Pu) : fQ g (encP p) = g p := rfl
/-- A map of the call's own from purses to amounts; D: what it holds. -/
abbrev MQ (g : Pu → Int) (b n : Nat) (D : DataW Unit) (w : World) : Prop := MK Try.prog 24 3 KQ (fQ g) b n D w
theorem MQ.made (w : World) : MQ (get []) w.heap.size 0 (.map []) (w.alloc (.map #[] 0)) :=
  MK.congr (MK.made w) fun v ⟨p, _, e⟩ => by subst e; rfl
theorem MQ.look {g : Pu → Int} {b n : Nat} {D : DataW Unit} {w : World} (h : MQ g b n D w) {p q : Int} (hp : pmay (p, q) = true) :
    (Instr.lookup 36 (.map (some b)) (.agg #[.int .i64 p, .int .i64 q]) false).run Try.prog w = .ok (.int .i64 (g (p, q))) w := by
  obtain ⟨kl, hk⟩ := keyQ hp
  exact (Mf.MF.look h.mf keyedQ Try.underlying36 Try.underlying3 zeroQ ⟨(p, q), hp, rfl⟩ hk).1
theorem MQ.put {f g : Pu → Int} {b n : Nat} {D : DataW Unit} {w : World} (h : MQ f b n D w) (hn : n < maxLen) {p q : Int} (hp : pmay (p, q) = true) {c : Int} (hc : (Lit.int .i64 c).wf = true) (hg : g (p, q) = c) (ho : ∀ u : Pu, u ≠ (p, q) → g u = f u) :
    ∃ D' w', (Instr.mapUpdate 36 (.map (some b)) (.agg #[.int .i64 p, .int .i64 q]) (.int .i64 c)).run Try.prog w = .ok () w' ∧ MQ g b (n + 1) D' w' ∧ w.grownBy w' (some b) := by
  obtain ⟨kl, hk⟩ := keyQ hp
  refine MK.put h keyedQ Try.underlying36 Try.underlying3 hn (key := encP (p, q)) ⟨(p, q), hp, rfl⟩ hk hc hg fun u ⟨x, hx, e⟩ hne => ?_
  subst e
  exact ho x fun e => hne (by rw [e])
end Go.Proofs.Yteandjnbcolphaa.Ac
