/- Of the statements of layer 14: awake. -/
import Derived.Test.YtnnbjhpkgndclaaGreatDoorQsZZ
import Derived.Test.YtnnbjhpkgndclaaGreatDoorQsBL
import Derived.Test.YtnnbjhpkgndclaaGreatDoorQsBP
import Derived.Deep.Slices
import Derived.Deep.Fields
import Derived.ChangeSame
import Derived.OpenShut
set_option linter.unusedVariables false
namespace Go.Proofs.YtnnbjhpkgndclaaGreatDoor.Dk
open Go.RowKit
open Go.Proofs.YtnnbjhpkgndclaaGreatDoor.Rw
open Go.Proofs.YtnnbjhpkgndclaaGreatDoor.Da
abbrev sAB : ByteArray := ⟨#[97,98]⟩
abbrev sCD : ByteArray := ⟨#[99,100]⟩
abbrev sABC : ByteArray := ⟨#[97,98,99]⟩
abbrev e0 : ByteArray := ⟨#[]⟩
abbrev d1 : Ds := ⟨e0,e0,[],50,-1,false⟩
abbrev d2 : Ds := ⟨e0,e0,[(false,sAB,false)],50,-1,false⟩
abbrev d3 : Ds := ⟨sAB,e0,[],50,-1,false⟩
abbrev d4 : Ds := ⟨sAB,e0,[(false,sCD,false)],50,-1,false⟩
abbrev d5 : Ds := ⟨sABC,e0,[],50,-1,true⟩
abbrev d6 : Ds := ⟨sABC,e0,[],50,-1,false⟩
end Go.Proofs.YtnnbjhpkgndclaaGreatDoor.Dk
namespace Go.Proofs.YtnnbjhpkgndclaaGreatDoor.Dk
open Go.RowKit
open Go.ChangeShapes Go.WideShapes Go.Deep
open Go.Proofs.YtnnbjhpkgndclaaGreatDoor.Rw
open Go.Proofs.YtnnbjhpkgndclaaGreatDoor.Da
def cellsC (o : Op5) : List Value := [.int .i64 o.1,.int .i64 o.2.1,.int .i64 o.2.2.1,.int .i64 o.2.2.2.1,.string o.2.2.2.2]
def eC : Enc Op5 := Enc.flat 5 cellsC (fun _ => rfl) (fun o u hu => by simp [cellsC] at hu;rcases hu with rfl | rfl | rfl | rfl | rfl <;> rfl)
theorem cellsI : Tryz.prog.cellsOf 3 = 1 := by kernel_rfl
theorem add_eq (b off j : Nat) : (⟨b,off,none⟩ : Addr).add j = ⟨b,off + j,none⟩ := by
  unfold Addr.add
  split
  · rename_i h;rw [h];rfl
  · rfl
theorem cell_block {w : World} {p : Addr} {v : Value} (h : w.cell? p = some v) : p.block < w.heap.size := by
  apply Nat.lt_of_not_le
  intro hc
  have : w.heap[p.block]? = none := Array.getElem?_eq_none hc
  unfold World.cell? at h
  simp [this] at h
theorem is_of {α : Type} [Inhabited α] (e : Enc α) (T : TypeId) (h0 : 0 < e.k) (w : World) (a : Addr) (len c : Nat) (good : α → Prop)
    (h : ∀ i,i < len → ∃ x cs,good x ∧ e.R (Bs.of w.heap.size) x cs w ∧ ∀ j u,cs[j]? = some u → w.cell? ((a.add (i * e.k)).add j) = some u) : ∃ l,Is e T (Bs.of w.heap.size) l (.slice (some a) len c) w ∧ l.length = len ∧ ∀ x ∈ l,good x := by
  classical
  have hg : ∀ i,∃ x,i < len → good x ∧ ∃ cs,e.R (Bs.of w.heap.size) x cs w ∧ ∀ j u,cs[j]? = some u → w.cell? ((a.add (i * e.k)).add j) = some u := fun i => by
    by_cases hi : i < len
    · obtain ⟨x,cs,h1,h2,h3⟩ := h i hi;exact ⟨x,fun _ => ⟨h1,cs,h2,h3⟩⟩
    · exact ⟨default,fun e => absurd e hi⟩
  let f := fun i => Classical.choose (hg i)
  have hf : ∀ i,i < len → good (f i) ∧ ∃ cs,e.R (Bs.of w.heap.size) (f i) cs w ∧ ∀ j u,cs[j]? = some u → w.cell? ((a.add (i * e.k)).add j) = some u := fun i => Classical.choose_spec (hg i)
  have hlen : ((List.range len).map f).length = len := by simp
  refine ⟨(List.range len).map f,⟨some a,c,by rw [hlen],?_⟩,hlen,fun x hx => ?_⟩
  · by_cases e0 : len = 0
    · left;subst e0;exact ⟨rfl,fun e => by cases e⟩
    · right
      obtain ⟨_,cs,hR,hu⟩ := hf 0 (by omega)
      have h1 : 0 < cs.length := by rw [e.len hR];exact h0
      have h2 := hu 0 _ (List.getElem?_eq_getElem h1)
      have h3 := World.cell?_spot h2
      obtain ⟨b,off,spot⟩ := a
      obtain rfl : spot = none := by simpa [Addr.add] using h3
      have h4 := cell_block h2
      rw [add_eq,add_eq] at h4
      refine ⟨b,off,rfl,h4,.inl h4,fun i x hx => ?_⟩
      have hi : i < len := by
        rcases Nat.lt_or_ge i len with h | h
        · exact h
        · rw [List.getElem?_eq_none (by rw [hlen];exact h)] at hx;cases hx
      have e2 : f i = x := by simpa [hi] using hx
      subst e2
      obtain ⟨_,ds,hR2,hu2⟩ := hf i hi
      refine ⟨ds,hR2,fun j u hj => ?_⟩
      have := hu2 j u hj
      rwa [add_eq,add_eq] at this
  · obtain ⟨i,hi,rfl⟩ := List.mem_map.1 hx
    exact (hf i (List.mem_range.1 hi)).1
theorem one_of {H : Type} {en : TypeId × Value → H} {w : World} {base n : Nat} {sp : Nat → Bool} {held : Bool} {cs : List Value} {y : DataW H × List MemPlace} {t : TypeId} (ht : Tryz.prog.underlying t = some (.int .i64)) (j : Nat)
    (h : DataW.trod en Tryz.prog w base sp held n t ((cs.drop j).take 1) = some y) : ∃ x,cs[j]? = some (.int .i64 x) ∧ (Lit.int .i64 x).wf = true := by
  obtain ⟨x,e,_,hw⟩ := DataW.trod_int ht h
  refine ⟨x,?_,hw⟩
  have e2 : ((cs.drop j).take 1)[0]? = some (.int .i64 x) := by rw [e];rfl
  simpa using e2
theorem fld {H : Type} {en : TypeId × Value → H} {w : World} {base n o k : Nat} {sp : Nat → Bool} {held : Bool} {t : TypeId} {cs : List Value} {y : DataW H × List MemPlace} {f : Field} (ht : f.type = t) (ho : f.offset = o) (hk : Tryz.prog.cellsOf t = k)
    (h : DataW.trod en Tryz.prog w base sp held n f.type ((cs.drop f.offset).take (Tryz.prog.cellsOf f.type)) = some y) : DataW.trod en Tryz.prog w base sp held n t ((cs.drop o).take k) = some y := by
  subst ht ho hk;exact h
def wfI (x : Int) : Prop := (Lit.int .i64 x).wf = true
instance : Inhabited Op5 := ⟨(0,0,0,0,nul)⟩
end Go.Proofs.YtnnbjhpkgndclaaGreatDoor.Dk
