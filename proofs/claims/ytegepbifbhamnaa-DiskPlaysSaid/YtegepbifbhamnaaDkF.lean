/- Package disk as it landed: after. -/
import Derived.Test.YtegepbifbhamnaaDkE
import Derived.Test.YtegepbifbhamnaaBy
import Derived.Test.YtegepbifbhamnaaRo
import Derived.RegionTactic
namespace Go.Proofs.Ytegepbifbhamnaa.Dk
open Go.RowKit
set_option linter.unusedVariables false
open Go.Proofs.Ytegepbifbhamnaa.Rw
open Go.Proofs.Ytegepbifbhamnaa.Da
open Go.Proofs.Ytegepbifbhamnaa.By
abbrev BB (B : Nat) (v : Value) (s : ByteArray) (w : World) : Prop := OwnB 5 B v s w
theorem infoU : (Try.prog.info? 5).map (fun i => (i.zero, i.size, i.bytes)) = some (some (.int .u8 0), 1, 1) := by kernel_rfl
theorem apps_any {B : Nat} {v : Value} {s : ByteArray} {w : World} (h : BB B v s w) (ty : TypeId) (d : ByteArray) (hl : s.size + d.size ≤ 1000000000) (hB : B ≤ w.heap.size) :
    ∃ v' w', Ro.appzRun Try.prog 60 9 ty v (.string d) w = .ok v' w' ∧ BB B v' (s ++ d) w' ∧ w.grownBy w' v.ownBlock ∧ (v'.ownBlock = v.ownBlock ∨ v'.ownBlock = some w.heap.size) := by
  obtain ⟨i0, hi, hz0, hz1, hz2⟩ := info_parts infoU
  exact OwnB.append (P := Try.prog) w _ _ _ _ i0 Try.underlying60 Try.underlying9 hi hz0 hz1 hz2 h d hl hB
theorem bx_own {B b : Nat} {v : Value} {s : ByteArray} {w w' : World} {cs : Array Value} {t : TypeId} (hb : Bx w b cs t) (ht : t ≠ 5) (h : BB B v s w) (hg : w.grownBy w' v.ownBlock) : Bx w' b cs t := by
  refine (hg.block b hb.lt fun e => ?_).trans hb
  obtain ⟨_, _, cur, fz, h2⟩ := h.lt b e.symm
  have h3 : w.heap[b]? = some (.cells cs t (0, 0)) := hb
  rw [h3] at h2
  simp at h2
  exact ht h2.2.1
theorem ol_own {n B : Nat} {l : List Do} {o v : Value} {s : ByteArray} {w w' : World} (ho : OL n l o w) (hn : n ≤ B) (h : BB B v s w) (hg : w.grownBy w' v.ownBlock) : OL n l o w' := by
  refine ho.keep ⟨hg.size, fun b ob hb hx => (hg.block b (Array.getElem?_eq_some_iff.1 hb).1 fun e => ?_).trans hb⟩
  obtain ⟨h1, _, cur, fz, h2⟩ := h.lt b e.symm
  rw [hb] at h2
  rcases hx with hx | ⟨_, t, _, rfl, ht, _⟩
  · have hx : b < n := hx
    omega
  · simp at h2 ht
    rw [ht] at h2
    exact absurd h2.2.1 (by decide)
/-- The two zones' bytes, in the variable b, in rows of the call's own from B on, which are not one. -/
def Hel (B b : Nat) (s : ByteArray × ByteArray) (w : World) : Prop :=
  ∃ va vb, Bx w b #[va, vb] 61 ∧ BB B va s.1 w ∧ BB B vb s.2 w ∧ ∀ g, va.ownBlock = some g → vb.ownBlock ≠ some g
theorem Hel.stays {B b : Nat} {s : ByteArray × ByteArray} {w w' : World} (h : Hel B b s w) (k : Below w.heap.size w w') : Hel B b s w' := by
  obtain ⟨va, vb, h1, h2, h3, h4⟩ := h
  exact ⟨va, vb, h1.stays k, h2.stays k, h3.stays k, h4⟩
end Go.Proofs.Ytegepbifbhamnaa.Dk
