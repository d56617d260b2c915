/- Slices of bytes of the call's own, none of whose cells is frozen (what '[]byte(s)' lays bears a mark behind its last cell): made, appended to, told as a string. Of no program. -/
import Derived.Test.YtnnbjhpkgndclaaGreatDoorQsZZ
import Derived.Test.YtnnbjhpkgndclaaGreatDoorQsAT
import Derived.Lib.AppendStr
import Derived.Laws.IdiomStrings
import Derived.Laws.CopyRow
set_option linter.unusedVariables false
namespace Go.Proofs.YtnnbjhpkgndclaaGreatDoor.By
open Go.RowKit Go.Lib
def OwnB (e : TypeId) (B : Nat) (v : Value) (s : ByteArray) (w : World) : Prop :=
  (v = .slice none 0 0 ∧ s = ⟨#[]⟩) ∨ ∃ g cap cur fz,v = .slice (some ⟨g,0,none⟩) s.size cap ∧ B ≤ g ∧ w.heap[g]? = some (.cells cur e fz) ∧ (∀ j,j < cur.size → ¬ (fz.1 ≤ j ∧ j < fz.2)) ∧ s.size ≤ cap ∧ cap ≤ maxLen ∧ cur.size = cap ∧ cur.toList.take s.size = strCells s
theorem OwnB.nil (e : TypeId) (B : Nat) (w : World) : OwnB e B (.slice none 0 0) ⟨#[]⟩ w := .inl ⟨rfl,rfl⟩
theorem OwnB.slice {e : TypeId} {B : Nat} {v : Value} {s : ByteArray} {w : World} (h : OwnB e B v s w) : ∃ a c,v = .slice a s.size c := by
  rcases h with ⟨rfl,rfl⟩ | ⟨g,cap,cur,fz,rfl,_⟩
  · exact ⟨none,0,rfl⟩
  · exact ⟨_,_,rfl⟩
theorem OwnB.same {e : TypeId} {B : Nat} {v : Value} {s : ByteArray} {w w' : World} (h : OwnB e B v s w) (hk : ∀ g,v.ownBlock = some g → w'.heap[g]? = w.heap[g]?) : OwnB e B v s w' := by
  rcases h with h | ⟨g,cap,cur,fz,rfl,h1,h2,h3⟩
  · exact .inl h
  · exact .inr ⟨g,cap,cur,fz,rfl,h1,(hk g rfl).trans h2,h3⟩
theorem OwnB.lt {e : TypeId} {B : Nat} {v : Value} {s : ByteArray} {w : World} (h : OwnB e B v s w) (g : Nat) (hg : v.ownBlock = some g) : B ≤ g ∧ g < w.heap.size ∧ ∃ cur fz,w.heap[g]? = some (.cells cur e fz) := by
  rcases h with ⟨rfl,_⟩ | ⟨g',cap,cur,fz,rfl,h1,h2,_⟩
  · simp [Value.ownBlock] at hg
  · obtain rfl : g' = g := by simpa [Value.ownBlock] using hg
    exact ⟨h1,(Array.getElem?_eq_some_iff.1 h2).1,cur,fz,h2⟩
theorem OwnB.stays {e : TypeId} {B : Nat} {v : Value} {s : ByteArray} {w w' : World} (h : OwnB e B v s w) (k : Below w.heap.size w w') : OwnB e B v s w' := h.same fun g hg => k.block g (h.lt g hg).2.1
section
variable {P : Program} (w : World)
theorem storeCells_free (g o : Nat) (t : TypeId) (fz : Nat × Nat) : ∀ (vs : List Value) (i : Nat) (cur : Array Value) (w : World),w.heap[g]? = some (.cells cur t fz) → (∀ j,j < cur.size → ¬ (fz.1 ≤ j ∧ j < fz.2)) → o + i + vs.length ≤ cur.size → (∀ v ∈ vs,v.oneCell' = true) →
    (storeCells ⟨g,o,none⟩ vs i).run P w = .ok () (w.setRow g (cur.toList.take (o + i) ++ vs ++ cur.toList.drop (o + i + vs.length)).toArray)
  | [],i,cur,w,hg,_,_,_ => by
    simp only [storeCells,List.append_nil,List.length_nil,Nat.add_zero,List.take_append_drop,Array.toArray_toList]
    rw [setRow_self w g cur t fz hg]
    rfl
  | v :: rest,i,cur,w,hg,hfz,hl,h1 => by
    have hi : o + i < cur.size := by simp at hl;omega
    have hadd : (⟨g,o,none⟩ : Addr).add i = ⟨g,o + i,none⟩ := by unfold Addr.add;split <;> simp_all
    have hcell : w.cell? ⟨g,o + i,none⟩ = some cur[o + i] := by simp [World.cell?,hg,hi]
    have hfro : w.frozen? ⟨g,o + i,none⟩ = false := by
      have := hfz (o + i) hi
      obtain ⟨lo,hi'⟩ := fz
      simp only [World.frozen?,hg,Bool.and_eq_false_iff,decide_eq_false_iff_not]
      simp only at this
      omega
    have hst : (store ((⟨g,o,none⟩ : Addr).add i) v).run P w = .ok () (w.setRow g (cur.setIfInBounds (o + i) v)) := by
      rw [hadd,run_store P w _ v _ (h1 v (by simp)),hcell]
      simp [hfro,setCell_eq_setRow w g (o + i) cur t fz v hg]
    have ih := storeCells_free g o t fz rest (i + 1) (cur.setIfInBounds (o + i) v) (w.setRow g (cur.setIfInBounds (o + i) v)) (setRow_heap w g cur _ t _ hg) (fun j hj => hfz j (by simpa using hj)) (by simp at hl ⊢;omega) (fun x hx => h1 x (by simp [hx]))
    simp only [storeCells,Sem.run_bind,hst,Result.andThen_ok,ih,setRow_setRow]
    congr 3
    have e := list_seg_step cur.toList (o + i) v rest (by simp at hl ⊢;omega)
    simpa [Array.toList_setIfInBounds,Nat.add_assoc] using e
theorem cells_append (a b : ByteArray) : strCells (a ++ b) = strCells a ++ strCells b := by
  simp [strCells,ByteArray.data_append]
theorem OwnB.append (t u ty e : TypeId) (i : TypeInfo) (ht : P.underlying t = some (.slice e)) (hu : P.underlying u = some .string) (hi : P.info? e = some i) (hz : i.zero = some (.int .u8 0)) (hsize : i.size = 1) (hby : i.bytes = 1)
    {B : Nat} {v : Value} {s : ByteArray} (h : OwnB e B v s w) (d : ByteArray) (hl : s.size + d.size ≤ 1000000000) (hB : B ≤ w.heap.size) :
    ∃ v' w',(Builtin.append_ #[t,u] ty #[v,.string d]).run P w = .ok v' w' ∧ OwnB e B v' (s ++ d) w' ∧ w.grownBy w' v.ownBlock ∧ (v'.ownBlock = v.ownBlock ∨ v'.ownBlock = some w.heap.size) := by
  have hsz : (s ++ d).size = s.size + d.size := by simp [ByteArray.size_append]
  have grown : ∀ (xs : List Value) (old : Nat),xs = strCells s → ∀ (row : Option Nat),
      OwnB e B (.slice (some ⟨w.heap.size,0,none⟩) (s.size + d.size) (grownCap w (s.size + d.size) old e)) (s ++ d) (w.drew.alloc (.cells (xs.toArray ++ (strCells d).toArray ++ Builtin.zeroCells (Value.int .u8 0).cells (grownCap w (s.size + d.size) old e - (s.size + d.size))) e)) ∧
      w.grownBy (w.drew.alloc (.cells (xs.toArray ++ (strCells d).toArray ++ Builtin.zeroCells (Value.int .u8 0).cells (grownCap w (s.size + d.size) old e - (s.size + d.size))) e)) row := by
    intro xs old hx row
    subst hx
    have hge := grownCap_ge w (s.size + d.size) old e
    have hcm : grownCap w (s.size + d.size) old e ≤ maxLen := grownCap_le_maxLen w (s.size + d.size) old e (by unfold maxLen;omega)
    refine ⟨.inr ⟨w.heap.size,_,_,(0,0),by rw [hsz],hB,heap_alloc_new w.drew _,fun j _ => by simp,by rw [hsz];exact hge,hcm,?_,?_⟩,⟨rfl,rfl,rfl,by simp,fun k hk _ => Below.heap_alloc w.drew _ k hk⟩⟩
    · have hz1 : (Value.int IntKind.u8 0).cells.size = 1 := rfl
      simp only [Array.size_append,List.size_toArray,size_zeroCells,hz1,strCells_length]
      omega
    · rw [hsz,cells_append]
      simp only [Array.toList_append,List.append_assoc]
      rw [← List.append_assoc,show s.size + d.size = (strCells s ++ strCells d).length by simp [strCells_length]]
      exact List.take_left
  rcases h with ⟨rfl,rfl⟩ | ⟨g,cap,cur,fz,rfl,hbg,hg,hfz,hnc,hcm,hcs,htake⟩
  · by_cases hm : d.size = 0
    · have hd : d = ⟨#[]⟩ := by
        obtain ⟨a⟩ := d
        have : a = #[] := Array.eq_empty_of_size_eq_zero hm
        rw [this]
      subst hd
      have hf := run_firstCells_string (P := P) w 1 ⟨#[]⟩
      refine ⟨.slice none 0 0,w,?_,.inl ⟨rfl,rfl⟩,⟨rfl,rfl,rfl,Nat.le_refl _,fun _ _ _ => rfl⟩,.inl rfl⟩
      have h0 : (⟨#[]⟩ : ByteArray).size = 0 := rfl
      rw [h0] at hf
      simp [Builtin.append_,run_underlying ht,run_underlying hu,sizeOf,typeInfo,hi,hsize,Builtin.lenOf,h0,hf]
    · have hr := run_append_nil_string (P := P) w t u ty e i (.int .u8 0) ht hu hi hz d (by omega) (by have h0 : (⟨#[]⟩ : ByteArray).size = 0 := rfl;omega) (by rw [hby];have h0 : (⟨#[]⟩ : ByteArray).size = 0 := rfl;omega)
      have h0 : (⟨#[]⟩ : ByteArray).size = 0 := rfl
      have hgr := grown [] 0 rfl (Value.ownBlock (.slice none 0 0))
      rw [h0,Nat.zero_add] at hgr
      have e1 : (d.data.map fun b => Value.int .u8 b.toNat) = ([] : List Value).toArray ++ (strCells d).toArray := by
        apply Array.ext'
        simp [strCells]
      rw [e1] at hr
      exact ⟨_,_,hr,hgr.1,hgr.2,.inr rfl⟩
  · by_cases hroom : s.size + d.size ≤ cap
    · have hf := run_firstCells_string (P := P) w 1 d
      have hst := storeCells_free (P := P) g s.size e fz (strCells d) 0 cur w hg hfz (by rw [strCells_length];omega) (strCells_oneCell d)
      simp only [Nat.add_zero,strCells_length] at hst
      have hr : (Builtin.append_ #[t,u] ty #[.slice (some ⟨g,0,none⟩) s.size cap,.string d]).run P w = .ok (.slice (some ⟨g,0,none⟩) (s.size + d.size) cap) (w.setRow g (cur.toList.take s.size ++ strCells d ++ cur.toList.drop (s.size + d.size)).toArray) := by
        simp [Builtin.append_,run_underlying ht,run_underlying hu,sizeOf,typeInfo,hi,hsize,Builtin.lenOf,hroom,hf,Addr.add_lit,hst]
      have hl2 : (cur.toList.take s.size ++ strCells d ++ cur.toList.drop (s.size + d.size)).toArray.size = cur.size := by
        simp only [List.size_toArray,List.length_append,List.length_take,List.length_drop,Array.length_toList,strCells_length];omega
      refine ⟨_,_,hr,.inr ⟨g,cap,_,fz,by rw [hsz],hbg,setRow_heap w g cur _ e _ hg,fun j hj => hfz j (by rw [hl2] at hj;exact hj),by rw [hsz];exact hroom,hcm,by rw [hl2];exact hcs,?_⟩,⟨rfl,rfl,rfl,by simp,fun k _ hk => setRow_other w g k _ (fun e => hk (by simp [Value.ownBlock,e]))⟩,.inl rfl⟩
      rw [hsz,htake,cells_append,show s.size + d.size = (strCells s ++ strCells d).length by simp [strCells_length]]
      exact List.take_left
    · have holds : ∀ j u,(strCells s)[j]? = some u → w.cell? ((⟨g,0,none⟩ : Addr).add j) = some u := fun j u hu => by
        rw [← htake,List.getElem?_take] at hu
        split at hu
        · have ha : (⟨g,0,none⟩ : Addr).add j = ⟨g,j,none⟩ := by unfold Addr.add;split <;> simp_all
          rw [ha];simp only [World.cell?,hg];simpa using hu
        · cases hu
      have hr := run_append_grow_string (P := P) w t u ty e i (.int .u8 0) ht hu hi hz ⟨g,0,none⟩ s.size cap (strCells s) (by rw [hsize,strCells_length,Nat.mul_one]) holds d (by omega) (by omega) (by rw [hby];exact growslice_fits (by omega) (by omega))
      have hgr := grown (strCells s) cap rfl (Value.ownBlock (.slice (some ⟨g,0,none⟩) s.size cap))
      exact ⟨_,_,hr,hgr.1,hgr.2,.inr rfl⟩
theorem OwnB.made (src dst e : TypeId) (s : ByteArray) (hs : P.underlying src = some .string) (hd : P.underlying dst = some (.slice e)) (he : P.underlying e = some (.int .u8)) (hl : s.size ≤ 1000000000) {B : Nat} (hB : B ≤ w.heap.size) :
    ∃ v' w',(convert src dst (.string s)).run P w = .ok v' w' ∧ OwnB e B v' s w' ∧ Below w.heap.size w w' ∧ v'.ownBlock = some w.heap.size := by
  refine ⟨_,_,run_bytes_of_string w src dst e s hs hd he,?_,((Below.refl _ _).drew).alloc (Nat.le_refl _) _,rfl⟩
  have hge := grownCap_ge w s.size 0 e
  have hsz : (bytesRow s (grownCap w s.size 0 e)).size = grownCap w s.size 0 e := by
    have : s.data.size = s.size := rfl
    simp only [bytesRow,Array.size_append,Array.size_map,Array.size_replicate];omega
  refine .inr ⟨w.heap.size,_,bytesRow s (grownCap w s.size 0 e),((bytesRow s (grownCap w s.size 0 e)).size,(bytesRow s (grownCap w s.size 0 e)).size + 1),rfl,hB,?_,fun j hj => by show ¬ (_ ≤ j ∧ j < _);omega,hge,grownCap_le_maxLen w s.size 0 e (by unfold maxLen;omega),hsz,?_⟩
  · show (w.heap.push _)[w.heap.size]? = _
    simp
  · have h2 : (bytesRow s (grownCap w s.size 0 e)).toList = strCells s ++ (Array.replicate (grownCap w s.size 0 e - s.size) (Value.int .u8 0)).toList := by simp [bytesRow,strCells]
    rw [h2]
    have : s.size = (strCells s).length := (strCells_length s).symm
    rw [this]
    exact List.take_left
theorem OwnB.told (src dst e : TypeId) (hs : P.underlying src = some (.slice e)) (he : P.underlying e = some (.int .u8)) (hd : P.underlying dst = some .string) {B : Nat} {v : Value} {s : ByteArray} (h : OwnB e B v s w) :
    (convert src dst v).run P w = .ok (.string s) w := by
  rcases h with ⟨rfl,rfl⟩ | ⟨g,cap,cur,fz,rfl,_,hg,_,hnc,_,_,htake⟩
  · rw [run_convert_bytes_string w src dst e none 0 0 hs he hd];rfl
  · have hlen : s.data.toList.length = s.size := by simp
    have := run_convert_bytes_back (P := P) w src dst e ⟨g,0,none⟩ cap s.data.toList hs he hd (fun j hj => by
      have ha : (⟨g,0,none⟩ : Addr).add j = ⟨g,j,none⟩ := by unfold Addr.add;split <;> simp_all
      have hc : (strCells s)[j]? = some (.int .u8 (s.data.toList[j].toNat : Int)) := by
        rw [strCells,List.getElem?_map,List.getElem?_eq_getElem hj];rfl
      rw [← htake,List.getElem?_take] at hc
      split at hc
      · rw [ha];simp only [World.cell?,hg];simpa using hc
      · cases hc)
    rw [hlen] at this
    rw [this]
end
end Go.Proofs.YtnnbjhpkgndclaaGreatDoor.By
