/- An append of zero elements, whatever value they are, to no slice at all (slices.Grow). Of no program. -/
import Derived.Test.YtnnbjhpkgndclaaGreatDoorQsZZ
import Derived.Test.YtnnbjhpkgndclaaGreatDoorQsAU
set_option linter.unusedVariables false
namespace Go.Proofs.YtnnbjhpkgndclaaGreatDoor.Ro
open Go.RowKit
open Go.Proofs.YtnnbjhpkgndclaaGreatDoor.Rw
open Go.Proofs.YtnnbjhpkgndclaaGreatDoor.Da
theorem growz_val {α : Type} {e : Flat α} {T : TypeId} {P : Program} {t u : TypeId} {bytes : Nat} {ik : IntKind} (E : Elem P t T e.k bytes) (hu : P.underlying u = some (.int ik)) (ty : TypeId) {Z : Value} {z : Array Value} (hZ : Z.cells = z) (hzv : ∀ w,(zeroValue T).run P w = .ok Z w) {x0 : α} (hx0 : z.toList = e.f x0) {w : World} {m : Nat} (hm : 0 < m) (h6 : m ≤ 1000000000) (hby : bytes ≤ 100000) :
    ∃ c' w',appzRun P t u ty (.slice none 0 0) (.int .i64 (m : Nat)) w = .ok (.slice (some ⟨w.heap.size,0,none⟩) m c') w' ∧ Row e T w.heap.size c' (List.replicate m x0) w' ∧ Below w.heap.size w w' ∧ c' ≤ maxLen := by
  obtain ⟨i,z',hi,hz',hs,hb,hzs⟩ := E.ex
  have hzz : z' = Z := by
    have := hzv w
    simpa [zeroValue,typeInfo,hi,hz'] using this
  subst hzz
  subst hb
  have hbytes : m * i.bytes ≤ 140737488355328 := Nat.le_trans (Nat.mul_le_mul h6 hby) (by decide)
  have hne0 : ¬ (m = 0) := by omega
  have h63 : ¬ (9223372036854775807 < (m : Int)) := by omega
  have hfit : Builtin.nextslicecap m 0 * i.bytes ≤ 281474976710656 := by
    have := growslice_fits (need := m) (old := 0) (by omega) hbytes
    simpa using this
  have h48 : ¬ (281474976710656 < Builtin.nextslicecap m 0 * i.bytes) := by omega
  have hw : IntKind.i64.wrap (m : Int) = m := by rw [IntKind.wrap_i64];omega
  have hm0 : ¬ ((m : Int) < 0) := by omega
  have hmb2 : ¬ (281474976710656 < (m : Int) * (i.bytes : Int)) := by
    have : ((m * i.bytes : Nat) : Int) ≤ 140737488355328 := by omega
    rw [Int.natCast_mul] at this;omega
  have hge := grownCap_ge w m 0 T
  refine ⟨grownCap w m 0 T,w.drew.alloc (.cells (((List.replicate m x0).map e.f).flatten ++ ((List.replicate (grownCap w m 0 T - m) x0).map e.f).flatten).toArray T),?_,?_,?_,grownCap_le_maxLen w m 0 T (by unfold maxLen;omega)⟩
  rotate_left
  · refine ⟨⟨_,heap_alloc_new w.drew _,?_,?_⟩,?_⟩
    · simp only [List.length_append,flat_length,List.length_replicate]
      rw [← Nat.add_mul];congr 1;omega
    · have := says_flat (e := e) (List.replicate m x0 ++ List.replicate (grownCap w m 0 T - m) x0)
      rw [List.map_append,List.flatten_append] at this
      intro i' x hx j u hu
      have hi' : i' < (List.replicate m x0).length := (List.getElem?_eq_some_iff.1 hx).1
      exact this i' x (by rw [List.getElem?_append_left hi'];exact hx) j u hu
    · simp only [List.length_replicate];exact hge
  · exact ((Below.refl _ _).drew).alloc (Nat.le_refl _) _
  · have hz1 := zeroCells_says (e := e) hx0 m
    have hz2 := zeroCells_says (e := e) hx0 (grownCap w m 0 T - m)
    have hz1' : Builtin.zeroCells z m = ((List.replicate m x0).map e.f).flatten.toArray := by rw [← hz1]
    have hz2' : Builtin.zeroCells z (grownCap w m 0 T - m) = ((List.replicate (grownCap w m 0 T - m) x0).map e.f).flatten.toArray := by rw [← hz2]
    have hmz : m * i.size = 0 → ((List.replicate m x0).map e.f).flatten.toArray = #[] := fun hh => by
      have : ((List.replicate m x0).map e.f).flatten.length = 0 := by rw [flat_length,List.length_replicate,← hs];exact hh
      rw [List.eq_nil_of_length_eq_zero this]
    clear hz1 hz2
    generalize ((List.replicate m x0).map e.f).flatten = F2 at hz1' hmz ⊢
    generalize ((List.replicate (grownCap w m 0 T - m) x0).map e.f).flatten = F3 at hz2' ⊢
    have hgc : (Question.appendCap m 0 T).cut (w.tape w.drawn (Question.appendCap m 0 T)) = grownCap w m 0 T := rfl
    by_cases hmm : m * i.size = 0
    · have := hmz hmm
      simp [appzRun,Builtin.append_,run_underlying E.ht,run_underlying hu,sizeOf,typeInfo,zeroValue,hi,hz',Builtin.lenOf,Builtin.firstCells,hne0,h63,h48,hw,hm0,hmb2,asInt,asIntOf,Question.forced,newRow,hmm,hZ]
      rw [hgc,hz2']
      have hF2 : F2 = [] := by simpa using this
      subst hF2
      simp
    · simp [appzRun,Builtin.append_,run_underlying E.ht,run_underlying hu,sizeOf,typeInfo,zeroValue,hi,hz',Builtin.lenOf,Builtin.firstCells,hne0,h63,h48,hw,hm0,hmb2,asInt,asIntOf,Question.forced,newRow,hmm,hZ,hz1']
      rw [hgc,hz2']
      simp
end Go.Proofs.YtnnbjhpkgndclaaGreatDoor.Ro
