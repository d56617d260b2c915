/- The document's own: own, with what it says of the rows: each level's orders lie in a row of the call's own, no two in one. -/
import Derived.Test.YthecinmekoaphaaGreatQbZZ
import Derived.Test.YthecinmekoaphaaGreatQbAF
set_option linter.unusedVariables false
set_option maxRecDepth 16000
set_option maxHeartbeats 32000000
namespace Go.Proofs.YthecinmekoaphaaGreat.Le
open Go.RowKit
open Rw
open Da
theorem Own.lower {α : Type} {e : Enc α} {T : TypeId} {B : Bs} {Bo n : Nat} {l : List α} {v : Value} {w : World} (h : Own e T B Bo l v w) (hn : n≤Bo) : Own e T B n l v w:=by
 obtain ⟨css,hl,hc,hr⟩:=h
 refine ⟨css,hl,hc,hr.1,?_⟩
 rcases hr.2 with h | ⟨g,cap,cur,hv,hb,hr⟩
 ·exact .inl h
 ·exact .inr ⟨g,cap,cur,hv,Nat.le_trans hn hb,hr⟩
abbrev Hw:=Int × Option Addr × Nat × Nat
def hv (h : Hw) : Value:=.slice h.2.1 h.2.2.1 h.2.2.2
def eF : Enc Hw:=Enc.flat 2 (fun h=>[.int .i64 h.1,hv h]) (fun _=>rfl) (fun h u hu=>by simp [hv] at hu;rcases hu with rfl | rfl<;>rfl)
theorem elemF : Elem Tryz.prog 23 98 eF.k 32:=elem_of Tryz.underlying23 infoL rfl (by decide)
abbrev OwnF (B : Bs) (Bo : Nat) (l : List Hw) (v : Value) (w : World) : Prop:=Own eF 98 B Bo l v w
theorem typesF : 98 ∉ eF.ts:=by decide
structure Mine (B : Bs) (Bo : Nat) (l : List Lv) (hs : List Hw) (w : World) : Prop where
 len : hs.length=l.length
 own : ∀ (i : Nat) (x : Lv) (y : Hw),l[i]?=some x→hs[i]?=some y→y.1=x.1∧OwnO B Bo x.2 (hv y) w
 apart : ∀ (i j : Nat) (y z : Hw) (g : Nat),i<j→hs[i]?=some y→hs[j]?=some z→(hv y).ownBlock=some g→(hv z).ownBlock≠some g
theorem Mine.nil (B : Bs) (Bo : Nat) (w : World) : Mine B Bo [] [] w:=⟨rfl,by simp,by simp⟩
theorem Mine.keep {B : Bs} {Bo : Nat} {l : List Lv} {hs : List Hw} {w w' : World} (hB : B.le Bo) (h : Mine B Bo l hs w) (hk : Keeps B [70] w w') : Mine B Bo l hs w' :=
 ⟨h.len,fun i x y hx hy=>⟨(h.own i x y hx hy).1,Own.keep hB (h.own i x y hx hy).2 hk⟩,h.apart⟩
theorem Mine.stays {B : Bs} {Bo : Nat} {l : List Lv} {hs : List Hw} {w w' : World} (h : Mine B Bo l hs w) (hk : Below w.heap.size w w') : Mine B Bo l hs w' :=
 ⟨h.len,fun i x y hx hy=>⟨(h.own i x y hx hy).1,(h.own i x y hx hy).2.stays hk⟩,h.apart⟩
theorem Mine.snoc {B : Bs} {Bo Bo' : Nat} {l : List Lv} {hs : List Hw} {x : Lv} {y : Hw} {w V : World} (h : Mine B Bo l hs w) (hV : Mine B Bo l hs V) (hz : V.heap.size≤Bo') (hBo : Bo≤Bo') (hp : y.1=x.1) (hy : OwnO B Bo' x.2 (hv y) w) : Mine B Bo (l++[x]) (hs++[y]) w:=by
 refine ⟨by rw [List.length_append,List.length_append,h.len];rfl,fun i a b ha hb=>?_,fun i j a b g hij ha hb hga hgb=>?_⟩
 ·by_cases hi : i<l.length
  ·rw [List.getElem?_append_left hi] at ha
   rw [List.getElem?_append_left (by rw [h.len];exact hi)] at hb
   exact h.own i a b ha hb
  ·rw [List.getElem?_append_right (by omega)] at ha
   rw [List.getElem?_append_right (by rw [h.len];omega),h.len] at hb
   rcases hd : i - l.length with _ | m
   ·rw [hd] at ha hb
    simp at ha hb
    subst ha hb
    exact ⟨hp,Own.lower hy hBo⟩
   ·rw [hd] at ha
    simp at ha
 ·by_cases hj : j<hs.length
  ·rw [List.getElem?_append_left (by omega)] at ha
   rw [List.getElem?_append_left hj] at hb
   exact h.apart i j a b g hij ha hb hga hgb
  ·rw [List.getElem?_append_right (by omega)] at hb
   rcases hd : j - hs.length with _ | m
   ·rw [hd] at hb
    simp at hb
    subst hb
    have hi : i<hs.length:=by omega
    rw [List.getElem?_append_left hi] at ha
    have h1:=(Own.block (hV.own i _ _ (List.getElem?_eq_getElem (by rw [← h.len];exact hi)) ha).2 g hga).2
    have h2:=(Own.block hy g hgb).1
    omega
   ·rw [hd] at hb
    simp at hb
theorem rOwn2_any (B : Bs) (l : List Lv) (v : Value) (w : World) (h : LL B l v w) (hB : B.le w.heap.size) (hm : l.length≤1000000) (hf : (flat l).length≤1000000) :
  Calls Tryz.prog 127 #[v] w (Post (fun v w'=>∃ hs,Is eF 98 B hs v w'∧Mine B w.heap.size l hs w') w):=by
 rcases h.cases with ⟨rfl,a,c,rfl⟩ | ⟨hne,b,off,c,rfl,hat⟩
 ·clear h
  go_enter Tryz.func127,Tryz.ntmps127
  go_wp2
  go_loopw [3,8] (fun t i wr=>i=.int .i64 0∧t=.slice none 0 0∧Below w.heap.size w wr) (fun _ i _=>0)
  case atStart=>exact ⟨rfl,rfl,Below.refl _ _⟩
  case round =>
   obtain ⟨rfl,rfl,hb⟩:=hrel
   go_wp2
   go_ret
   exact ⟨_,rfl,hb,[],Is.nil _ _ _ _,Mine.nil _ _ _⟩
 ·have hbb : b<w.heap.size:=hat.1
  have HA:=lH hat
  have HF:=lH hf
  obtain ⟨n,hn⟩ : ∃ n,n=l.length:=⟨_,rfl⟩
  rw [← hn] at hm ⊢
  have HN:=lH hn
  clear h hat hn hne hf
  go_enter Tryz.func127,Tryz.ntmps127
  go_wp2
  go_loopw [3,8] (fun t i wr=>∃ k : Nat,k≤n∧i=.int .i64 k∧Below w.heap.size w wr∧∃ hs,OwnF B w.heap.size hs t wr∧Mine B w.heap.size (l.take k) hs wr) (fun _ i _=>n - (intOf i).toNat)
  case atStart=>exact ⟨0,Nat.zero_le _,rfl,Below.refl _ _,[],Own.nil _ _ _,Mine.nil _ _ _⟩
  case round =>
   obtain ⟨k,hk,rfl,hb,hs,hown,hmine⟩:=hrel
   have HO:=lH hown
   have HM:=lH hmine
   clear hown hmine
   by_cases hlt : k<n
   ·have hlt2 : (k : Int)<n:=by omega
    have hkl : k<l.length:=by rw [← HN.out];exact hlt
    obtain ⟨x,q0,q1,hx⟩:=atL HA.out k hkl
    obtain ⟨c1,f1,r1,p1⟩:=bcell hb
    obtain ⟨⟨pr,os⟩,hlk⟩ : ∃ y,l[k]=y:=⟨_,rfl⟩
    have ht:=take_all hkl
    have hle:=flat_take_le l (k+1)
    rw [flat_take_snoc hkl,List.length_append] at hle
    rw [hlk] at q0 hx ht hle
    simp only at q0 hx ht hle
    have HT:=lH ht
    have HS : Hid (os.length≤1000000):=lH (by have:=HF.out;omega)
    clear ht hle hlk
    obtain ⟨a2,c2,rfl⟩:=hx.len
    obtain ⟨V,hV⟩ : ∃ V,V=wr.alloc (.cells #[.int .i64 pr,.slice a2 os.length c2] 98):=⟨_,rfl⟩
    have hbV : Below wr.heap.size wr V:=hV ▸ below1 wr _
    have hsz:=hb.size
    have hzV : wr.heap.size<V.heap.size:=by rw [hV];simp
    have s0 : V.cell? ⟨wr.heap.size,0,none⟩=some (.int .i64 pr):=by rw [hV];simp [go_sem]
    have s1 : V.cell? ⟨wr.heap.size,1,none⟩=some (.slice a2 os.length c2):=by rw [hV];simp [go_sem]
    have hbw:=nx hb hbV
    have HX:=lH (Is.stays eO 70 (Is.stays eO 70 hx hb) hbV)
    have HOV:=lH (HO.out.stays hbV)
    have HMV:=lH (HM.out.stays hbV)
    have hne : some wr.heap.size≠u3.ownBlock:=fun e=>by have:=(Own.block HO.out _ e.symm).2;omega
    have hF : ∀ u,V.grownBy u u3.ownBlock→u.cell? ⟨wr.heap.size,0,none⟩=some (.int .i64 pr)∧u.cell? ⟨wr.heap.size,1,none⟩=some (.slice a2 os.length c2):=fun u hu =>
     ⟨by rw [grown_cell hu hzV hne];exact s0,by rw [grown_cell hu hzV hne];exact s1⟩
    clear hx
    go_wp2
    rw [← hV]
    clear s0 s1 hV
    refine Rh.rg (fun u=>V.grownBy u u3.ownBlock) (fun u=>Below V.heap.size V u) (grown_stays V _) (fun _ _ h k=>nx h k) (grown_drew V _) ((Below.refl _ _).drew) [0,1,2,4,5,3,6,7,8,9,10] ?_
    repeat (first | (refine Rh.Steps.sk ?_;simp only [Act.put,sA,sB,sC]) | (refine Rh.Steps.pu (v:=?_) ?_ ?_;rotate_left;(intro w_ hS_;have hk_:=hF w_ hS_;go_simp<;>with_reducible rfl);simp only [Act.put,sA,sB,sC]))
    refine Rh.Steps.forced (i:=3) (by kernel_rfl) ?_
    refine Rh.One.val (fun v u=>OwnO B V.heap.size [] v u) (fun v _ _ h k=>h.stays k) (by rfl) (by rfl) ?_ ?_
    ·intro w_ hS_ hG_
     refine ⟨_,_,?_,below1 w_ (.cells #[] 70),Own.made B w_ V.heap.size hS_.size⟩
     go_simp
    intro v1 u1 hv1
    simp only [Act.put,sA,sB,sC]
    refine Rh.Steps.forced (i:=6) (by kernel_rfl) ?_
    refine Rh.One.new (fun v u=>Below V.heap.size V u∧OwnO B V.heap.size os v u) (fun v _ _ h k=>⟨nx h.1 k,h.2.stays k⟩) (by rfl) (by rfl) ?_ ?_
    ·intro w_ hS_ hG_
     obtain ⟨v2,w2,hrun,hown2,hg2,hbl,_⟩:=Own.append elemO 64 typesO (hB.mono hbw.size) hS_.size hG_.2 (Is.stays eO 70 HX.out hG_.1) (by have:=HS.out;simp;omega) (by omega)
     have hb2:=hbl _ _ (Nat.le_refl _) hG_.1
     refine ⟨v2,w2,?_,grown_below _ hb2,hb2,by simpa using hown2⟩
     go_simp
    intro v2 u2 hv2
    simp only [Act.put,sA,sB,sC]
    obtain ⟨a3,n3,c3,rfl⟩ : ∃ a n c,v2=.slice a n c:=by obtain ⟨a,c,h⟩:=(hv2.2.is (by decide) (hB.mono hbw.size)).len;exact ⟨a,_,c,h⟩
    repeat (first | (refine Rh.Steps.sk ?_;simp only [Act.put,sA,sB,sC]) | (refine Rh.Steps.pu (v:=?_) ?_ ?_;rotate_left;(intro w_ hS_;have hk_:=hF w_ hS_;go_simp<;>with_reducible rfl);simp only [Act.put,sA,sB,sC]))
    refine Rh.Steps.forced (i:=8) (by kernel_rfl) ?_
    refine Rh.One.val (fun v u=>Is eF 98 B [(pr,a3,n3,c3)] v u) (fun v _ _ h k=>Is.stays eF 98 h k) (by rfl) (by rfl) ?_ ?_
    ·intro w_ hS_ hG_
     refine ⟨_,_,?_,below1 w_ (.cells #[.int .i64 pr,.slice a3 n3 c3] 98),Is.one (e:=eF) (x:=(pr,a3,n3,c3)) (cs:=[.int .i64 pr,.slice a3 n3 c3]) (hB.mono (Nat.le_trans hbw.size hS_.size)) rfl⟩
     go_simp
    intro v3 u4 hv3
    simp only [Act.put,sA,sB,sC]
    refine Rh.Steps.forced (i:=9) (by kernel_rfl) ?_
    refine Rh.One.new (fun v u=>Below w.heap.size w u∧OwnF B w.heap.size (hs++[(pr,a3,n3,c3)]) v u∧Mine B w.heap.size (l.take (k+1)) (hs++[(pr,a3,n3,c3)]) u) (fun v _ _ h k=>⟨nx h.1 k,h.2.1.stays k,h.2.2.stays k⟩) (by rfl) (by rfl) ?_ ?_
    ·intro w_ hS_ hG_
     have hbu:=hG_.1.1
     obtain ⟨v2,w2,hrun,hown2,hg2,hbl,hkp⟩:=Own.append elemF 23 typesF hB (Nat.le_trans hbw.size hS_.size) (HOV.out.stays hbu) hG_.2 (by have:=HM.out.len;have:=List.length_take_le k l;simp only [List.length_singleton];omega) (by omega)
     have hk2:=hkp [70] (by decide)
     refine ⟨v2,w2,?_,grown_trans hS_ hg2,hbl _ _ (Nat.le_refl _) (nx hbw hbu),hown2,?_⟩
     ·go_simp
     ·rw [HT.out]
      exact Mine.snoc ((HMV.out.stays hbu).keep hB hk2) HMV.out (Nat.le_refl _) hbw.size rfl (Own.keep (hB.mono hbw.size) hG_.1.2 hk2)
    intro v4 u5 hv4
    simp only [Act.put,sA,sB,sC]
    repeat (first | (refine Rh.Steps.sk ?_;simp only [Act.put,sA,sB,sC]) | (refine Rh.Steps.pu (v:=?_) ?_ ?_;rotate_left;(intro w_ hS_;have hk_:=hF w_ hS_;go_simp<;>with_reducible rfl);simp only [Act.put,sA,sB,sC]))
    refine Rh.Steps.nil (by kernel_rfl) ?_
    intro w4 _ hG4
    have HG:=lH hG4
    clear hG4
    go_wp2
    go_roundw
    case rel=>exact ⟨k+1,by omega,by go_num,HG.out.1,_,HG.out.2.1,HG.out.2.2⟩
    case measure=>simp [intOf];omega
   ·obtain rfl : k=n:=by omega
    have e1 : l.take k=l:=by rw [HN.out,List.take_length]
    have HZ:=HO
    have hm9:=HM.out
    rw [e1] at hm9
    have HM9:=lH hm9
    clear hm9 e1
    go_wp2
    go_ret
    exact ⟨_,rfl,hb,_,HZ.out.is (by decide) hB,HM9.out⟩
end Go.Proofs.YthecinmekoaphaaGreat.Le
