/- The two maps of AccountPlays: what lies in a purse, what there is of an asset. -/
import Derived.Test.YteandjnbcolphaaMf
import Derived.Test.YteandjnbcolphaaAcPl
import Derived.Test.YteandjnbcolphaaAcFr
namespace Go.Proofs.Yteandjnbcolphaa.Ac
open Go.RowKit Go.Maps
open Go.ChangeMaps Go.ChangeShapes Go.WideShapes
open Go.Proofs.Yteandjnbcolphaa.Sl
open Go.Proofs.Yteandjnbcolphaa.Mf
theorem laidOutA : laidOutB Try.prog = true := by kernel_rfl
theorem lawP : Go.WideMaps.KeyLaw Try.prog 24 := deep_law_laid laidOutA (m := 2) (by omega) (of_decide_eq_true (by kernel_rfl)) (by kernel_rfl) (by kernel_rfl)
theorem keyedP : Keyed Try.prog 24 := Keyed.of_law lawP
theorem keyedI : Keyed Try.prog 3 := int_keyed Try.underlying3
theorem zeroI (w : World) : (zeroValue 3).run Try.prog w = .ok (.int .i64 0) w := by kernel_rfl
def KP (v : Value) : Prop := ∃ a s : Nat, a < 5 ∧ s < 3 ∧ v = .agg #[.int .i64 a, .int .i64 s]
def KI (v : Value) : Prop := ∃ s : Nat, s < 3 ∧ v = .int .i64 s
noncomputable def litP (a s : Nat) : Option Lit := keyOf Try.prog 24 (.agg #[.int .i64 a, .int .i64 s])
theorem litP_all : ((List.range 5).all fun a => (List.range 3).all fun s => (litP a s).isSome) = true := by kernel_rfl
theorem keyP {v : Value} (h : KP v) : ∃ kl, keyOf Try.prog 24 v = some kl := by
  obtain ⟨a, s, ha, hs, rfl⟩ := h
  have h1 := List.all_eq_true.1 litP_all a (List.mem_range.2 ha)
  have h2 := List.all_eq_true.1 h1 s (List.mem_range.2 hs)
  exact Option.isSome_iff_exists.1 h2
theorem keyI {v : Value} (h : KI v) : ∃ kl, keyOf Try.prog 3 v = some kl := by
  obtain ⟨s, hs, rfl⟩ := h
  exact ⟨_, keyOf_int_mk Try.underlying3 (Go.WalkArith.wf_i64 (by omega))⟩
def intOf : Option Value → Int
  | some (.int _ a) => a
  | _ => 0
def fP (g : Pu → Int) : Value → Int
  | .agg cs => g (intOf cs[0]?, intOf cs[1]?)
  | _ => 0
def fI (g : Int → Int) : Value → Int
  | .int _ s => g s
  | _ => 0
theorem fP_at (g : Pu → Int) (a s : Int) : fP g (.agg #[.int .i64 a, .int .i64 s]) = g (a, s) := rfl
abbrev MP (g : Pu → Int) (b n : Nat) (w : World) : Prop := MF Try.prog 24 3 KP (fP g) b n w
abbrev MI (g : Int → Int) (b n : Nat) (w : World) : Prop := MF Try.prog 3 3 KI (fI g) b n w
theorem maps_made (w : World) : MP (get []) w.heap.size 0 ((w.alloc (.map #[] 0)).alloc (.map #[] 0)) ∧ MI (fun s => tot s []) (w.heap.size + 1) 0 ((w.alloc (.map #[] 0)).alloc (.map #[] 0)) := by
  constructor
  · exact MF.congr (MF.stays (MF.made w) (Below.refl _ _ |>.alloc (Nat.le_refl _) _)) fun v ⟨a, s, _, _, e⟩ => by subst e; rfl
  · have h : MF Try.prog 3 3 KI (fun _ => 0) (w.alloc (.map #[] 0)).heap.size 0 ((w.alloc (.map #[] 0)).alloc (.map #[] 0)) := MF.made _
    have e : (w.alloc (.map #[] 0)).heap.size = w.heap.size + 1 := by simp
    rw [e] at h
    exact MF.congr h fun v ⟨s, _, e⟩ => by subst e; rfl
theorem MP.look {g : Pu → Int} {b n : Nat} {w : World} (h : MP g b n w) (a s : Nat) (ha : a < 5) (hs : s < 3) :
    (Instr.lookup 36 (.map (some b)) (.agg #[.int .i64 a, .int .i64 s]) false).run Try.prog w = .ok (.int .i64 (g (a, s))) w := by
  have hd : KP (.agg #[.int .i64 a, .int .i64 s]) := ⟨a, s, ha, hs, rfl⟩
  obtain ⟨kl, hk⟩ := keyP hd
  exact (MF.look h keyedP Try.underlying36 Try.underlying3 zeroI hd hk).1
theorem MI.look {g : Int → Int} {b n : Nat} {w : World} (h : MI g b n w) (s : Nat) (hs : s < 3) :
    (Instr.lookup 37 (.map (some b)) (.int .i64 s) false).run Try.prog w = .ok (.int .i64 (g s)) w := by
  have hd : KI (.int .i64 s) := ⟨s, hs, rfl⟩
  obtain ⟨kl, hk⟩ := keyI hd
  exact (MF.look h keyedI Try.underlying37 Try.underlying3 zeroI hd hk).1
theorem MI.put {f g : Int → Int} {b n : Nat} {w : World} (h : MI f b n w) (hn : n < maxLen) (s : Nat) (hs : s < 3) {c : Int} (hc : (Lit.int .i64 c).wf = true) (hg : g s = c) (ho : ∀ u : Int, u ≠ s → g u = f u) :
    ∃ w', (Instr.mapUpdate 37 (.map (some b)) (.int .i64 s) (.int .i64 c)).run Try.prog w = .ok () w' ∧ MI g b (n + 1) w' ∧ w.grownBy w' (some b) := by
  have hd : KI (.int .i64 s) := ⟨s, hs, rfl⟩
  obtain ⟨kl, hk⟩ := keyI hd
  refine MF.put h keyedI Try.underlying37 Try.underlying3 hn hd hk hc hg fun u ⟨x, hx, e⟩ hne => ?_
  subst e
  exact ho x fun e => hne (by rw [e])
theorem MP.entry {f g : Pu → Int} {b n : Nat} {w : World} (h : MP f b n w) (hn : n < maxLen) (a s : Nat) (ha : a < 5) (hs : s < 3) {c : Int} (hc : (Lit.int .i64 c).wf = true) (hg : g (a, s) = c) (ho : ∀ u : Pu, u ≠ ((a : Int), (s : Int)) → g u = f u) :
    ∃ (st : Nat) (v0 : Value) (o1 o2 : Obj), (Instr.mapEntry 36 (.map (some b)) (.agg #[.int .i64 a, .int .i64 s])).run Try.prog w = .ok (.tuple #[v0, goInt st]) (setBlock w b o1) ∧
      (∀ w2 : World, w2.heap[b]? = some o1 → MP f b (n + 1) w2 ∧ (Instr.entryStore 36 (.map (some b)) (goInt st) (.int .i64 c)).run Try.prog w2 = .ok () (setBlock w2 b o2)) ∧ MP g b (n + 1) (setBlock w b o2) := by
  have hd : KP (.agg #[.int .i64 a, .int .i64 s]) := ⟨a, s, ha, hs, rfl⟩
  obtain ⟨kl, hk⟩ := keyP hd
  refine MF.entry h lawP keyedP Try.underlying36 Try.underlying3 zeroI hn hd hk hc hg fun u ⟨x, y, hx, hy, e⟩ hne => ?_
  subst e
  exact ho (x, y) fun e => hne (by rw [(Prod.mk.inj e).1, (Prod.mk.inj e).2])
theorem hl_cells {l : List Hd} {v : Value} {w w' : World} (h : HL l v w) (hs : w.heap.size ≤ w'.heap.size) (hc : ∀ p u, w.cell? p = some u → w'.cell? p = some u) : HL l v w' := by
  obtain ⟨a, c, hv, h⟩ := h
  refine ⟨a, c, hv, h.imp id fun ⟨b, off, ha, hb, hx⟩ => ⟨b, off, ha, Nat.lt_of_lt_of_le hb hs, fun i x hi j u hu => hc _ _ (hx i x hi j u hu)⟩⟩
theorem below_set {n b : Nat} {w w' : World} (h : Below n w w') (hb : n ≤ b) (o : Obj) : Below n w (setBlock w' b o) :=
  ⟨h.os, h.tape, h.output, by rw [set_size]; exact h.size, fun i hi => by
    rw [← h.block i hi]
    simp only [setBlock]
    rw [Array.getElem?_setIfInBounds_ne (by omega)]⟩
end Go.Proofs.Yteandjnbcolphaa.Ac
