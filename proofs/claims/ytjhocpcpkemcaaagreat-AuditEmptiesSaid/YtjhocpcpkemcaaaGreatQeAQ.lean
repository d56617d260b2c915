/- The document's own: own, with what it says of the rows: each level's orders lie in a row of the call's own, no two in one. -/
import Derived.Test.YtjhocpcpkemcaaaGreatQeZZ
import Derived.Test.YtjhocpcpkemcaaaGreatQeAP
set_option linter.unusedVariables false
set_option maxRecDepth 16000
set_option maxHeartbeats 32000000
namespace Go.Proofs.YtjhocpcpkemcaaaGreat.Le
open Go.RowKit
open Rw
open Da
theorem Own.lower {α:Type} {e:Enc α} {T:TypeId} {B:Bs} {Bo n:Nat} {l:List α} {v:Value} {w:World} (h:Own e T B Bo l v w) (hn:n≤Bo):Own e T B n l v w:=by
 obtain ⟨css,hl,hc,hr⟩:=h
 refine ⟨css,hl,hc,hr.1,?_⟩
 rcases hr.2 with h | ⟨g,cap,cur,hv,hb,hr⟩
 ·exact .inl h
 ·exact .inr ⟨g,cap,cur,hv,Nat.le_trans hn hb,hr⟩
abbrev Hw:=Int × Option Addr × Nat × Nat
def hv (h:Hw):Value:=.slice h.2.1 h.2.2.1 h.2.2.2
def eF:Enc Hw:=Enc.flat 2 (fun h=>[.int .i64 h.1,hv h]) (fun _=>rfl) (fun h u hu=>by simp [hv] at hu;rcases hu with rfl | rfl<;>rfl)
theorem elemF:Elem Tryz.prog 55 106 eF.k 32:=elem_of Tryz.underlying55 infoL rfl (by decide)
theorem typesF:106 ∉ eF.ts:=by decide
structure Mine (B:Bs) (Bo:Nat) (l:List Lv) (hs:List Hw) (w:World):Prop where
 len:hs.length=l.length
 own:∀ (i:Nat) (x:Lv) (y:Hw),l[i]?=some x→hs[i]?=some y→y.1=x.1∧OwnO B Bo x.2 (hv y) w
 apart:∀ (i j:Nat) (y z:Hw) (g:Nat),i<j→hs[i]?=some y→hs[j]?=some z→(hv y).ownBlock=some g→(hv z).ownBlock≠some g
theorem Mine.nil (B:Bs) (Bo:Nat) (w:World):Mine B Bo [] [] w:=⟨rfl,by simp,by simp⟩
theorem Mine.keep {B:Bs} {Bo:Nat} {l:List Lv} {hs:List Hw} {w w':World} (hB:B.le Bo) (h:Mine B Bo l hs w) (hk:Keeps B [74] w w'):Mine B Bo l hs w' :=
 ⟨h.len,fun i x y hx hy=>⟨(h.own i x y hx hy).1,Own.keep hB (h.own i x y hx hy).2 hk⟩,h.apart⟩
theorem Mine.stays {B:Bs} {Bo:Nat} {l:List Lv} {hs:List Hw} {w w':World} (h:Mine B Bo l hs w) (hk:Below w.heap.size w w'):Mine B Bo l hs w' :=
 ⟨h.len,fun i x y hx hy=>⟨(h.own i x y hx hy).1,(h.own i x y hx hy).2.stays hk⟩,h.apart⟩
theorem Mine.snoc {B:Bs} {Bo Bo':Nat} {l:List Lv} {hs:List Hw} {x:Lv} {y:Hw} {w V:World} (h:Mine B Bo l hs w) (hV:Mine B Bo l hs V) (hz:V.heap.size≤Bo') (hBo:Bo≤Bo') (hp:y.1=x.1) (hy:OwnO B Bo' x.2 (hv y) w):Mine B Bo (l++[x]) (hs++[y]) w:=by
 refine ⟨by rw [List.length_append,List.length_append,h.len];rfl,fun i a b ha hb=>?_,fun i j a b g hij ha hb hga hgb=>?_⟩
 ·by_cases hi:i<l.length
  ·rw [List.getElem?_append_left hi] at ha
   rw [List.getElem?_append_left (by rw [h.len];exact hi)] at hb
   exact h.own i a b ha hb
  ·rw [List.getElem?_append_right (by omega)] at ha
   rw [List.getElem?_append_right (by rw [h.len];omega),h.len] at hb
   rcases hd:i - l.length with _ | m
   ·rw [hd] at ha hb
    simp at ha hb
    subst ha hb
    exact ⟨hp,Own.lower hy hBo⟩
   ·rw [hd] at ha
    simp at ha
 ·by_cases hj:j<hs.length
  ·rw [List.getElem?_append_left (by omega)] at ha
   rw [List.getElem?_append_left hj] at hb
   exact h.apart i j a b g hij ha hb hga hgb
  ·rw [List.getElem?_append_right (by omega)] at hb
   rcases hd:j - hs.length with _ | m
   ·rw [hd] at hb
    simp at hb
    subst hb
    have hi:i<hs.length:=by omega
    rw [List.getElem?_append_left hi] at ha
    have h1:=(Own.block (hV.own i _ _ (List.getElem?_eq_getElem (by rw [← h.len];exact hi)) ha).2 g hga).2
    have h2:=(Own.block hy g hgb).1
    omega
   ·rw [hd] at hb
    simp at hb
end Go.Proofs.YtjhocpcpkemcaaaGreat.Le
