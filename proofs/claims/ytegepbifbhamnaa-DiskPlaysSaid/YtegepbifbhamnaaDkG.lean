/- Package disk as it landed: after. -/
import Derived.Test.YtegepbifbhamnaaDkF
namespace Go.Proofs.Ytegepbifbhamnaa.Dk
open Go.RowKit
set_option linter.unusedVariables false
open Go.Proofs.Ytegepbifbhamnaa.Rw
open Go.Proofs.Ytegepbifbhamnaa.Da
open Go.Proofs.Ytegepbifbhamnaa.By
@[go_sem] theorem index0 (x y : Value) (w : World) : (Instr.index 25 (.agg #[x, y]) (.int .i64 0)).run Try.prog w = .ok x w := by kernel_rfl
@[go_sem] theorem index1 (x y : Value) (w : World) : (Instr.index 25 (.agg #[x, y]) (.int .i64 1)).run Try.prog w = .ok y w := by kernel_rfl
abbrev zz2 : Array Value := #[.string ⟨#[]⟩, .string ⟨#[]⟩]
/-- Both zones, the first i of them as they came. -/
def sel (a b : ByteArray) (i : Nat) : ByteArray × ByteArray := (if 0 < i then a else nul, if 1 < i then b else nul)
structure Aft (n : Nat) (l : List Do) (o : Value) (w0 : World) (s : ByteArray × ByteArray) (wr : World) : Prop where
  r : Bx wr (w0.heap.size + 1) zz2 25
  h : Hel w0.heap.size (w0.heap.size + 2) s wr
  b : Below w0.heap.size w0 wr
  o : OL n l o wr
theorem Aft.stays {n : Nat} {l : List Do} {o : Value} {w0 : World} {s : ByteArray × ByteArray} {w w' : World} (h : Aft n l o w0 s w) (k : Below w.heap.size w w') : Aft n l o w0 s w' :=
  ⟨h.r.stays k, h.h.stays k, nx h.b k, h.o.stays k⟩
theorem Aft.set0 {n : Nat} {l : List Do} {o : Value} {w0 : World} {s : ByteArray × ByteArray} {w w1 : World} {va vb v' : Value} {x : ByteArray} (hn : n ≤ w0.heap.size) (h : Aft n l o w0 s w) (hx : Bx w (w0.heap.size + 2) #[va, vb] 61)
    (r1 : Bx w1 (w0.heap.size + 1) zz2 25) (hx1 : Bx w1 (w0.heap.size + 2) #[va, vb] 61) (b1 : Below w0.heap.size w0 w1) (o1 : OL n l o w1) (hv : BB w0.heap.size v' x w1) (hb : BB w0.heap.size vb s.2 w1) (hne : ∀ g, v'.ownBlock = some g → vb.ownBlock ≠ some g) :
    Aft n l o w0 (x, s.2) (w1.setCell ⟨w0.heap.size + 2, 0, none⟩ v') := by
  have hk : ∀ {v : Value} {y : ByteArray}, BB w0.heap.size v y w1 → BB w0.heap.size v y (w1.setCell ⟨w0.heap.size + 2, 0, none⟩ v') := fun {v y} k => k.same fun g hg => Below.heap_setCell w1 _ _ g (by
    rintro rfl
    obtain ⟨_, _, cur, fz, h2⟩ := k.lt _ hg
    have h3 : w1.heap[w0.heap.size + 2]? = _ := hx1
    simp only at h2
    rw [h3] at h2; simp at h2)
  exact ⟨r1.set' (by omega) _ _, ⟨v', vb, (show Bx _ _ #[v', vb] _ from hx1.set 0 v'), hk hv, hk hb, hne⟩, b1.trans (low_setCell _ _ (by omega)), o1.keep (keeps_setCell _ _ hx1 (by decide) (by show n ≤ _; omega))⟩
theorem Aft.set1 {n : Nat} {l : List Do} {o : Value} {w0 : World} {s : ByteArray × ByteArray} {w1 : World} {va vb v' : Value} {x : ByteArray} (hn : n ≤ w0.heap.size)
    (r1 : Bx w1 (w0.heap.size + 1) zz2 25) (hx1 : Bx w1 (w0.heap.size + 2) #[va, vb] 61) (b1 : Below w0.heap.size w0 w1) (o1 : OL n l o w1) (hv : BB w0.heap.size v' x w1) (ha : BB w0.heap.size va s.1 w1) (hne : ∀ g, va.ownBlock = some g → v'.ownBlock ≠ some g) :
    Aft n l o w0 (s.1, x) (w1.setCell ⟨w0.heap.size + 2, 1, none⟩ v') := by
  have hk : ∀ {v : Value} {y : ByteArray}, BB w0.heap.size v y w1 → BB w0.heap.size v y (w1.setCell ⟨w0.heap.size + 2, 1, none⟩ v') := fun {v y} k => k.same fun g hg => Below.heap_setCell w1 _ _ g (by
    rintro rfl
    obtain ⟨_, _, cur, fz, h2⟩ := k.lt _ hg
    have h3 : w1.heap[w0.heap.size + 2]? = _ := hx1
    simp only at h2
    rw [h3] at h2; simp at h2)
  exact ⟨r1.set' (by omega) _ _, ⟨va, v', (show Bx _ _ #[va, v'] _ from hx1.set 1 v'), hk ha, hk hv, hne⟩, b1.trans (low_setCell _ _ (by omega)), o1.keep (keeps_setCell _ _ hx1 (by decide) (by show n ≤ _; omega))⟩
end Go.Proofs.Ytegepbifbhamnaa.Dk
