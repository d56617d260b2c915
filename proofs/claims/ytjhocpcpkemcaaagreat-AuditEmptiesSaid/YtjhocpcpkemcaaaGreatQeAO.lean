/- own; same of the statements. -/
import Derived.Test.YtjhocpcpkemcaaaGreatQeZZ
import Derived.Test.YtjhocpcpkemcaaaGreatQeAL
import Derived.Test.YtjhocpcpkemcaaaGreatQeAD
set_option linter.unusedVariables false
set_option maxRecDepth 16000
set_option maxHeartbeats 32000000
namespace Go.Proofs.YtjhocpcpkemcaaaGreat.Ac
open Go.RowKit
open Rw
open Sl
variable {lo:Nat}
theorem flat_inv (l:List Hd):∀ (j:Nat) (u:Value),(l.flatMap enc)[j]?=some u→∃ i x j',l[i]?=some x∧(enc x)[j']?=some u∧j=i*3+j':=by
 induction l with
 | nil=>intro j u h;simp at h
 | cons y l ih =>
  intro j u h
  rw [List.flatMap_cons] at h
  by_cases hj:j<3
  ·rw [List.getElem?_append_left (by rw [enc_len];exact hj)] at h
   exact ⟨0,y,j,rfl,h,by omega⟩
  ·rw [List.getElem?_append_right (by rw [enc_len];omega),enc_len] at h
   obtain ⟨i,x,j',h1,h2,h3⟩:=ih _ _ h
   exact ⟨i+1,x,j',by simpa using h1,h2,by omega⟩
theorem flat_one (l:List Hd):∀ u∈l.flatMap enc,u.oneCell'=true:=by
 intro u hu
 obtain ⟨x,_,hx⟩:=List.mem_flatMap.1 hu
 simp [enc] at hx
 rcases hx with rfl | rfl | rfl<;>rfl
end Go.Proofs.YtjhocpcpkemcaaaGreat.Ac
namespace Go.Proofs.YtjhocpcpkemcaaaGreat.Ac
open Go.RowKit
open Rw
open Sl
variable {lo:Nat}
theorem grown_cell {w w':World} {v:Value} {b:Nat} (hg:w.grownBy w' v.ownBlock) (hne:v.ownBlock≠some b) (hb:b<w.heap.size) (o:Nat):w'.cell? ⟨b,o,none⟩=w.cell? ⟨b,o,none⟩ :=
 World.cell?_of_block (w:=w) (hg.block b hb (fun e=>hne e.symm))
end Go.Proofs.YtjhocpcpkemcaaaGreat.Ac
namespace Go.Proofs.YtjhocpcpkemcaaaGreat.Ac
open Go.RowKit
open Rw
open Sl
open Mo (may addS addE subS subE rAdd_any rSub_any)
variable {lo:Nat}
def Post2 (F:Value→World→Prop) (x:Int) (w:World) (e:Ending) (w':World):Prop:=∃ v,e=.returned (.tuple #[v,.int .i64 x])∧Below w.heap.size w w'∧F v w'
end Go.Proofs.YtjhocpcpkemcaaaGreat.Ac
