/- Pure: Put as a loop over the levels. -/
import Derived.Test.YthecinmekoaphaaGreatQbZZ
import Derived.Test.YthecinmekoaphaaGreatQbAK
import Derived.Test.YthecinmekoaphaaGreatQbAL
set_option linter.unusedVariables false
set_option maxRecDepth 16000
set_option maxHeartbeats 32000000
namespace Go.Proofs.YthecinmekoaphaaGreat.Le
def stepW (s : Int) (o : Od) (p : List Lv × Bool) (v : Lv) : List Lv × Bool :=
 if p.2=true then (p.1++[v],true) else if v.1=opr o then (p.1++[(v.1,v.2++[o])],true) else if ahead s (opr o) v.1=true then (p.1++[(opr o,[o]),v],true) else (p.1++[v],false)
def putW (s : Int) (o : Od) (l : List Lv) : List Lv × Bool:=l.foldl (stepW s o) ([],false)
theorem putW_snoc (s : Int) (o : Od) (l : List Lv) (v : Lv) : putW s o (l++[v])=stepW s o (putW s o l) v:=by unfold putW;rw [List.foldl_append];rfl
theorem stepW_done {s : Int} {o : Od} (a : List Lv) (v : Lv) : stepW s o (a,true) v=(a++[v],true):=by unfold stepW;rw [if_pos rfl]
theorem stepW_hit {s : Int} {o : Od} (a : List Lv) {v : Lv} (h : v.1=opr o) : stepW s o (a,false) v=(a++[(v.1,v.2++[o])],true):=by unfold stepW;rw [if_neg (by simp),if_pos h]
theorem stepW_new {s : Int} {o : Od} (a : List Lv) {v : Lv} (h : ¬ v.1=opr o) (k : ahead s (opr o) v.1=true) : stepW s o (a,false) v=(a++[(opr o,[o]),v],true):=by unfold stepW;rw [if_neg (by simp),if_neg h,if_pos k]
theorem stepW_on {s : Int} {o : Od} (a : List Lv) {v : Lv} (h : ¬ v.1=opr o) (k : ahead s (opr o) v.1=false) : stepW s o (a,false) v=(a++[v],false):=by unfold stepW;rw [if_neg (by simp),if_neg h,if_neg (by simp [k])]
theorem foldW_done (s : Int) (o : Od) : ∀ (l acc : List Lv),l.foldl (stepW s o) (acc,true)=(acc++l,true)
 | [],acc=>by simp
 | v :: r,acc=>by rw [List.foldl_cons,stepW_done,foldW_done];simp
theorem foldW (s : Int) (o : Od) : ∀ (l acc : List Lv),(if (l.foldl (stepW s o) (acc,false)).2=true then (l.foldl (stepW s o) (acc,false)).1 else (l.foldl (stepW s o) (acc,false)).1++[(opr o,[o])])=acc++putL s o l
 | [],acc=>by simp [putL]
 | v :: r,acc=>by
  rw [putL]
  by_cases h1 : v.1=opr o
  ·rw [List.foldl_cons,stepW_hit acc h1,if_pos h1,foldW_done,if_pos rfl];simp
  ·rw [if_neg h1]
   cases h2 : ahead s (opr o) v.1
   ·rw [List.foldl_cons,stepW_on acc h1 h2,foldW s o r (acc++[v]),if_neg (by decide)];simp
   ·rw [List.foldl_cons,stepW_new acc h1 h2,if_pos rfl,foldW_done,if_pos rfl];simp
theorem putW_put (s : Int) (o : Od) (l : List Lv) : putL s o l=if (putW s o l).2=true then (putW s o l).1 else (putW s o l).1++[(opr o,[o])]:=by
 rw [putW,foldW];simp
theorem foldW_no (s : Int) (o : Od) : ∀ (l acc : List Lv),(l.foldl (stepW s o) (acc,false)).2=false→(l.foldl (stepW s o) (acc,false)).1=acc++l
 | [],acc,_=>by simp
 | v :: r,acc,h=>by
  by_cases h1 : v.1=opr o
  ·rw [List.foldl_cons,stepW_hit acc h1,foldW_done] at h;cases h
  ·cases h2 : ahead s (opr o) v.1
   ·rw [List.foldl_cons,stepW_on acc h1 h2] at h ⊢
    rw [foldW_no s o r _ h];simp
   ·rw [List.foldl_cons,stepW_new acc h1 h2,foldW_done] at h;cases h
theorem putW_no {s : Int} {o : Od} {l : List Lv} (h : (putW s o l).2=false) : (putW s o l).1=l:=by
 have:=foldW_no s o l [] h
 rwa [List.nil_append] at this
theorem putW_len (s : Int) (o : Od) (l : List Lv) : (putW s o l).1.length≤l.length+1:=by
 suffices ∀ (l acc : List Lv) (d : Bool),(l.foldl (stepW s o) (acc,d)).1.length≤acc.length+l.length+(if d then 0 else 1) by
  have:=this l [] false;simpa [putW] using this
 intro l
 induction l with
 | nil=>intro acc d;simp
 | cons v r ih =>
  intro acc d
  rw [List.foldl_cons]
  cases d
  ·by_cases h1 : v.1=opr o
   ·rw [stepW_hit acc h1]
    have:=ih (acc++[(v.1,v.2++[o])]) true;simp at this ⊢;omega
   ·cases h2 : ahead s (opr o) v.1
    ·rw [stepW_on acc h1 h2]
     have:=ih (acc++[v]) false;simp at this ⊢;omega
    ·rw [stepW_new acc h1 h2]
     have:=ih (acc++[(opr o,[o]),v]) true;simp at this ⊢;omega
  ·rw [stepW_done]
   have:=ih (acc++[v]) true;simp at this ⊢;omega
end Go.Proofs.YthecinmekoaphaaGreat.Le
namespace Go.Proofs.YthecinmekoaphaaGreat.Le
open Go.RowKit
open Rw
open Da
theorem ownO_grown {B : Bs} {Bo : Nat} {l : List Od} {v : Value} {w w' : World} {ob : Option Nat} (h : OwnO B Bo l v w) (hg : w.grownBy w' ob) (ho : ∀ g,v.ownBlock=some g→ob≠some g) : OwnO B Bo l v w':=by
 obtain ⟨css,hl,hc,hr⟩:=h
 refine ⟨css,hl,hc,hr.1,?_⟩
 rcases hr.2 with h | ⟨g,cap,cur,rfl,h2,h3,h4⟩
 ·exact .inl h
 ·exact .inr ⟨g,cap,cur,rfl,h2,(hg.block g (Array.getElem?_eq_some_iff.1 h3).1 fun e=>ho g rfl e.symm).trans h3,h4⟩
structure LvS (B : Bs) (L : List Lv) (ms : List Hw) (w : World) : Prop where
 len : ms.length=L.length
 at' : ∀ (i : Nat) (x : Lv) (y : Hw),L[i]?=some x→ms[i]?=some y→y.1=x.1∧OL B x.2 (hv y) w
theorem LvS.keep {B : Bs} {L : List Lv} {ms : List Hw} {w w' : World} (h : LvS B L ms w) (hk : Keeps B [70] w w') : LvS B L ms w' :=
 ⟨h.len,fun i x y hx hy=>⟨(h.at' i x y hx hy).1,Is.keep eO 70 (h.at' i x y hx hy).2 hk⟩⟩
theorem LvS.nil (B : Bs) (w : World) : LvS B [] [] w:=⟨rfl,by simp⟩
theorem LvS.snoc {B : Bs} {L : List Lv} {ms : List Hw} {w : World} {x : Lv} {y : Hw} (h : LvS B L ms w) (hp : y.1=x.1) (hy : OL B x.2 (hv y) w) : LvS B (L++[x]) (ms++[y]) w:=by
 refine ⟨by rw [List.length_append,List.length_append,h.len];rfl,fun i a b ha hb=>?_⟩
 by_cases hi : i<L.length
 ·rw [List.getElem?_append_left hi] at ha
  rw [List.getElem?_append_left (by rw [h.len];exact hi)] at hb
  exact h.at' i a b ha hb
 ·rw [List.getElem?_append_right (by omega)] at ha
  rw [List.getElem?_append_right (by rw [h.len];omega),h.len] at hb
  rcases hd : i - L.length with _ | m
  ·rw [hd] at ha hb
   simp at ha hb
   subst ha hb
   exact ⟨hp,hy⟩
  ·rw [hd] at ha
   simp at ha
theorem LvS.ll {B : Bs} {L : List Lv} {ms : List Hw} {t : Value} {w : World} (h : LvS B L ms w) (ht : Is eF 98 B ms t w) : LL B L t w:=by
 obtain ⟨a,c,rfl,hc⟩:=ht
 refine ⟨a,c,by rw [h.len],?_⟩
 rcases hc with ⟨rfl,hc⟩ | ⟨b,off,rfl,hb,hb2,hat⟩
 ·exact .inl ⟨List.length_eq_zero_iff.1 h.len.symm,hc⟩
 ·refine .inr ⟨b,off,rfl,hb,hb2,fun i x hx=>?_⟩
  have hi : i<ms.length:=by rw [h.len];exact (List.getElem?_eq_some_iff.1 hx).1
  obtain ⟨cs,hcs,hu⟩:=hat i _ (List.getElem?_eq_getElem hi)
  obtain ⟨hp,hy⟩:=h.at' i x _ hx (List.getElem?_eq_getElem hi)
  refine ⟨cs,?_,hu⟩
  rw [show cs=[.int .i64 ms[i].1,hv ms[i]] from hcs,hp]
  exact eL_mk hy
theorem rowF {B : Bs} {hs : List Hw} {a : Option Addr} {n c : Nat} {w4 : World} (hF : Is eF 98 B hs (.slice a n c) w4) {i : Nat} {y : Hw} (hy : hs[i]?=some y) :
  ∃ b off,a=some ⟨b,off,none⟩∧b<w4.heap.size∧(∀ wr w' : World,wr.heap[b]?=w4.heap[b]?→Keeps B [98] wr w'→w'.heap[b]?=w4.heap[b]?) ∧
   ∀ wr : World,wr.heap[b]?=w4.heap[b]?→wr.cell? ⟨b,off+i*2,none⟩=some (.int .i64 y.1)∧wr.cell? ⟨b,off+i*2+1,none⟩=some (hv y):=by
 rcases hF.cases with ⟨rfl,_⟩ | ⟨_,b,off,c',e,hb,hb2,hat⟩
 ·simp at hy
 ·simp only [Value.slice.injEq] at e
  obtain ⟨rfl,_,_⟩:=e
  refine ⟨b,off,rfl,hb,fun wr w' h1 hk=>?_,fun wr h1=>?_⟩
  ·have h2 : w4.heap[b]?=some w4.heap[b]:=Array.getElem?_eq_getElem hb
   rw [h2]
   refine hk.block b _ (h1.trans h2) ?_
   rcases hb2 with h | ⟨⟨cur,h⟩,hx⟩
   ·exact .inl h
   ·refine .inr ⟨cur,98,(0,0),?_,by simp,hx⟩
    rw [h2] at h;exact Option.some.inj h
  ·obtain ⟨cs,rfl,hu⟩:=hat i y hy
   exact ⟨(World.cell?_of_block (w:=w4) h1).trans (hu 0 _ rfl),(World.cell?_of_block (w:=w4) h1).trans (hu 1 _ rfl)⟩
structure Pc (B : Bs) (w3 w4 : World) (l : List Lv) (hs : List Hw) (a : Option Addr) (k : Nat) (L : List Lv) (ms : List Hw) (d : Bool) (u : World) : Prop where
 lv : LvS B L ms u
 mine : d=false→Mine B w3.heap.size l hs u
 rest : ∀ (i : Nat) (x : Lv) (y : Hw),k≤i→l[i]?=some x→hs[i]?=some y→y.1=x.1∧OL B x.2 (hv y) u
 row : ∀ (i : Nat) (y : Hw),hs[i]?=some y→∀ b off,a=some ⟨b,off,none⟩→b<w4.heap.size∧u.heap[b]?=w4.heap[b]?
 low : Below w3.heap.size w3 u
 sz : w4.heap.size≤u.heap.size
section
variable {B : Bs} {w3 w4 : World} {l : List Lv} {hs : List Hw} {a : Option Addr} {k : Nat} {L : List Lv} {ms : List Hw} {d : Bool} {u u' : World}
theorem Pc.keep (hB : B.le w3.heap.size) (h34 : w3.heap.size≤w4.heap.size) (h : Pc B w3 w4 l hs a k L ms d u) (hk : Keeps B [70] u u') (hb : Below w4.heap.size u u') : Pc B w3 w4 l hs a k L ms d u' :=
 ⟨h.lv.keep hk,fun e=>(h.mine e).keep hB hk,fun i x y hi hx hy=>⟨(h.rest i x y hi hx hy).1,Is.keep eO 70 (h.rest i x y hi hx hy).2 hk⟩,
  fun i y hy b off ha=>⟨(h.row i y hy b off ha).1,(hb.block b (h.row i y hy b off ha).1).trans (h.row i y hy b off ha).2⟩,h.low.trans (hb.mono h34),Nat.le_trans h.sz hb.size⟩
theorem Pc.stays (hB : B.le w3.heap.size) (h34 : w3.heap.size≤w4.heap.size) (h : Pc B w3 w4 l hs a k L ms d u) (hb : Below u.heap.size u u') : Pc B w3 w4 l hs a k L ms d u' :=
 h.keep hB h34 (Keeps.of_below hb) (hb.mono h.sz)
theorem Pc.add (h : Pc B w3 w4 l hs a k L ms d u) {x : Lv} {y : Hw} (hp : y.1=x.1) (hy : OL B x.2 (hv y) u) : Pc B w3 w4 l hs a k (L++[x]) (ms++[y]) d u :=
 ⟨h.lv.snoc hp hy,h.mine,h.rest,h.row,h.low,h.sz⟩
theorem Pc.next (h : Pc B w3 w4 l hs a k L ms d u) : Pc B w3 w4 l hs a (k+1) L ms d u :=
 ⟨h.lv,h.mine,fun i x y hi=>h.rest i x y (by omega),h.row,h.low,h.sz⟩
theorem Pc.done (h : Pc B w3 w4 l hs a k L ms d u) : Pc B w3 w4 l hs a k L ms true u :=
 ⟨h.lv,fun e=>(by cases e),h.rest,h.row,h.low,h.sz⟩
theorem appF (hB : B.le w3.heap.size) (h34 : w3.heap.size≤w4.heap.size) (h : Pc B w3 w4 l hs a k L ms d u) {t : Value} (ho : OwnF B w4.heap.size ms t u) (hm : ms.length≤2000000) (y : Hw) :
  ∃ t' w',appRun Tryz.prog 23 23 t (.slice (some ⟨u.heap.size,0,none⟩) 1 1) (u.alloc (.cells #[.int .i64 y.1,hv y] 98))=.ok t' w'∧OwnF B w4.heap.size (ms++[y]) t' w'∧Pc B w3 w4 l hs a k L ms d w'∧Keeps B [70] u w'∧Below w4.heap.size u w'∧u.grownBy w' t.ownBlock:=by
 have hb1:=below1 u (.cells #[.int .i64 y.1,hv y] 98)
 have hz:=h.sz
 have hsrc : Is eF 98 B [y] (.slice (some ⟨u.heap.size,0,none⟩) 1 1) (u.alloc (.cells #[.int .i64 y.1,hv y] 98)) :=
  Is.one (e:=eF) (x:=y) (cs:=[.int .i64 y.1,hv y]) (hB.mono (by omega)) rfl
 obtain ⟨t',w',hrun,hown,hg,hbl,hkp⟩:=Own.append elemF 23 typesF (hB.mono h34) (by simp;omega) (ho.stays hb1) hsrc (by simp only [List.length_singleton];omega) (by omega)
 have hk:=(Keeps.of_below (B:=B) (ts:=[70]) hb1).trans (hkp _ (by decide))
 have hl:=hbl _ u (Nat.le_refl _) (hb1.mono hz)
 exact ⟨t',w',hrun,hown,h.keep hB h34 hk hl,hk,hl,grown_trans (grown_below _ hb1) hg⟩
theorem appO (hB : B.le w3.heap.size) (h34 : w3.heap.size≤w4.heap.size) {n c : Nat} (hF : Is eF 98 B hs (.slice a n c) w4) (h : Pc B w3 w4 l hs a k (l.take k) (hs.take k) false u) {x : Lv} {y : Hw} (hx : l[k]?=some x) (hy : hs[k]?=some y) (hm : x.2.length≤1000000) (o : Od) :
  ∃ a' n' c' w',appRun Tryz.prog 64 64 (hv y) (.slice (some ⟨u.heap.size,0,none⟩) 1 1) (u.alloc (.cells #[.int .i64 o.1,.int .i64 o.2.1,.int .i64 o.2.2.1,.int .i64 o.2.2.2.1,.int .i64 o.2.2.2.2] 70))=.ok (.slice a' n' c') w'∧OL B (x.2++[o]) (.slice a' n' c') w' ∧
   Pc B w3 w4 l hs a (k+1) (l.take k) (hs.take k) true w'∧Keeps B [98] u w'∧Below w3.heap.size u w':=by
 have hb1:=below1 u (.cells #[.int .i64 o.1,.int .i64 o.2.1,.int .i64 o.2.2.1,.int .i64 o.2.2.2.1,.int .i64 o.2.2.2.2] 70)
 have hz:=h.sz
 have h1:=h.stays hB h34 hb1
 have hM:=h1.mine rfl
 have hsrc : Is eO 70 B [o] (.slice (some ⟨u.heap.size,0,none⟩) 1 1) (u.alloc (.cells #[.int .i64 o.1,.int .i64 o.2.1,.int .i64 o.2.2.1,.int .i64 o.2.2.2.1,.int .i64 o.2.2.2.2] 70)) :=
  Is.one (e:=eO) (x:=o) (cs:=cellsO o) (hB.mono (by omega)) rfl
 obtain ⟨v',w',hrun,hown,hg,hbl,hkp⟩:=Own.append elemO 64 typesO hB (by simp;omega) (hM.own k x y hx hy).2 hsrc (by simp only [List.length_singleton];omega) (by omega)
 obtain ⟨a',c',rfl⟩:=(hown.is (by decide) hB).len
 have hkL:=(Keeps.of_below (B:=B) (ts:=[98]) hb1).trans (hkp _ (by decide))
 have hlow:=hbl _ u (Nat.le_refl _) (hb1.mono (Nat.le_trans h34 hz))
 have hoth : ∀ (i : Nat) (x' : Lv) (y' : Hw),i≠k→l[i]?=some x'→hs[i]?=some y'→y'.1=x'.1∧OL B x'.2 (hv y') w':=by
  intro i x' y' hi hx' hy'
  obtain ⟨h1,h2⟩:=hM.own i x' y' hx' hy'
  refine ⟨h1,(ownO_grown h2 hg fun g hg1 hg2=>?_).is (by decide) hB⟩
  rcases Nat.lt_or_gt_of_ne hi with hi | hi
  ·exact hM.apart i k y' y g hi hy' hy hg1 hg2
  ·exact hM.apart k i y y' g hi hy hy' hg2 hg1
 refine ⟨a',_,c',w',hrun,hown.is (by decide) hB,⟨⟨h.lv.len,fun i x' y' hx' hy'=>?_⟩,fun e=>(by cases e),fun i x' y' hi hx' hy'=>hoth i x' y' (by omega) hx' hy',fun i y' hy' b off ha=>?_,h.low.trans hlow,Nat.le_trans hz hlow.size⟩,hkL,hlow⟩
 ·rw [List.getElem?_take] at hx' hy'
  split at hx'
  ·rename_i hik
   rw [if_pos hik] at hy'
   exact hoth i x' y' (by omega) hx' hy'
  ·cases hx'
 ·obtain ⟨b',off',ha',hb',hk',_⟩:=rowF hF hy'
  rw [ha] at ha'
  simp only [Option.some.injEq,Addr.mk.injEq] at ha'
  obtain ⟨rfl,_⟩:=ha'
  exact ⟨hb',hk' u w' (h.row i y' hy' b off ha).2 hkL⟩
end
def RelP (B : Bs) (w3 w4 : World) (l : List Lv) (hs : List Hw) (a : Option Addr) (o : Od) (k : Nat) (t : Value) (d : Bool) (wr : World) : Prop :=
 ∃ ms,d=(putW o.2.2.1 o (l.take k)).2∧OwnF B w4.heap.size ms t wr∧(d=false→ms=hs.take k)∧Pc B w3 w4 l hs a k (putW o.2.2.1 o (l.take k)).1 ms d wr
theorem relP_start {B : Bs} {w3 w4 : World} {l : List Lv} {hs : List Hw} {a : Option Addr} {n c : Nat} {o : Od} (hB : B.le w3.heap.size) (hF : Is eF 98 B hs (.slice a n c) w4) (hM : Mine B w3.heap.size l hs w4) (hb : Below w3.heap.size w3 w4) : RelP B w3 w4 l hs a o 0 (.slice none 0 0) false w4 :=
 ⟨[],rfl,Own.nil _ _ _,fun _=>rfl,LvS.nil _ _,fun _=>hM,fun i x y _ hx hy=>⟨(hM.own i x y hx hy).1,(hM.own i x y hx hy).2.is (by decide) hB⟩,fun i y hy b off ha=>by
  obtain ⟨b',off',ha',hb',_⟩:=rowF hF hy
  rw [ha] at ha'
  simp only [Option.some.injEq,Addr.mk.injEq] at ha'
  obtain ⟨rfl,_⟩:=ha'
  exact ⟨hb',rfl⟩,hb,Nat.le_refl _⟩
theorem ownF_same {B : Bs} {Bo : Nat} {l : List Hw} {v : Value} {w w' : World} (h : OwnF B Bo l v w) (hs : ∀ g,v.ownBlock=some g→w'.heap[g]?=w.heap[g]?) : OwnF B Bo l v w':=by
 obtain ⟨css,hl,hc,hr⟩:=h
 refine ⟨css,hl,hc,hr.1,?_⟩
 rcases hr.2 with h | ⟨g,cap,cur,rfl,h2,h3,h4⟩
 ·exact .inl h
 ·exact .inr ⟨g,cap,cur,rfl,h2,(hs g rfl).trans h3,h4⟩
theorem fV_is (q : Option Od) : fV q=.tuple #[.agg (cO q),.bool q.isSome]:=by cases q<;>rfl
def PostP (B : Bs) (l : List Lv) (o : Od) (w : World) (e : Ending) (w' : World) : Prop:=∃ t,e=.returned (.tuple #[t,.int .i64 (putE l o)])∧Below w.heap.size w w'∧LL B (put l o) t w'
theorem rPut_any (B : Bs) (l : List Lv) (v : Value) (o1 o2 o3 o4 o5 : Int) (w : World) (h : LL B l v w) (hB : B.le w.heap.size) (hm : l.length≤1000000) (hf : (flat l).length≤1000000) :
  Calls Tryz.prog 98 #[v,.agg #[.int .i64 o1,.int .i64 o2,.int .i64 o3,.int .i64 o4,.int .i64 o5]] w (PostP B l (o1,o2,o3,o4,o5) w):=by
 obtain ⟨q,hq⟩ : ∃ q,fnd (flat l) o1=q:=⟨_,rfl⟩
 obtain ⟨rr,hrr⟩ : ∃ r,rightL o3 l=r:=⟨_,rfl⟩
 obtain ⟨mm,hmm⟩ : ∃ r,omay (o1,o2,o3,o4,o5) o3=r:=⟨_,rfl⟩
 have H:=lH h
 have HQ:=lH hq
 have HR:=lH hrr
 have HM:=lH hmm
 have hcs:=cO_size q
 have h1c : oneAll (.agg (cO q))=true:=by cases q<;>exact one5 _ _ _ _ _
 obtain ⟨V,hV⟩ : ∃ V,V=w.alloc (.cells #[.int .i64 o1,.int .i64 o2,.int .i64 o3,.int .i64 o4,.int .i64 o5] 70):=⟨_,rfl⟩
 have hbV : Below w.heap.size w V:=hV ▸ below1 w _
 have hzV : V.heap.size=w.heap.size+1:=by rw [hV];simp
 have HV:=lH hV
 have hKV : ∀ u,Below V.heap.size V u→u.cell? ⟨w.heap.size,2,none⟩=some (.int .i64 o3)∧u.cell? ⟨w.heap.size,3,none⟩=some (.int .i64 o4)∧row u w.heap.size=#[.int .i64 o1,.int .i64 o2,.int .i64 o3,.int .i64 o4,.int .i64 o5]∧w.heap.size<u.heap.size:=by
  intro u hu
  have hz:=hu.size
  refine ⟨?_,?_,?_,by omega⟩
  ·rw [hu.cell (p:=⟨w.heap.size,2,none⟩) (by show w.heap.size<_;omega),hV];simp [go_sem]
  ·rw [hu.cell (p:=⟨w.heap.size,3,none⟩) (by show w.heap.size<_;omega),hV];simp [go_sem]
  ·rw [(bcell hu).2.2.1 w.heap.size (by omega),hV];simp [go_sem]
 have HK:=lH hKV
 clear h hq hrr hmm hV hKV
 go_enter Tryz.func98,Tryz.ntmps98
 go_wp2_with fail
 rw [← HV.out]
 refine (rFind_any B l v o1 V (Is.stays eL 98 H.out hbV) hm hf).mono ?_
 rintro e w1 ⟨rfl,hb1⟩
 rw [fV_is,HQ.out]
 obtain ⟨m2,m3,mr,mz⟩:=HK.out _ hb1
 go_wp2_with fail
 have hb2:=nx hb1 (below1 w1 (.cells (cO q) 70))
 clear m2 m3 mr mz
 obtain ⟨W1,hW1⟩ : ∃ W1,W1=w1.alloc (.cells (cO q) 70):=⟨_,rfl⟩
 rw [← hW1] at hb2 ⊢
 clear hW1
 have hBW : B.le W1.heap.size:=hB.mono (by have:=hb2.size;omega)
 refine (rRight_any B l v o3 W1 (Is.stays eL 98 H.out (nx hbV hb2)) hBW hm hf).mono ?_
 rintro e w2 ⟨rfl,hb3⟩
 rw [HR.out]
 have hb4:=nx hb2 hb3
 by_cases hok : rr=true∧mm=true∧q=none
 ·obtain ⟨rfl,rfl,rfl⟩:=hok
  have HE : Hid (putE l (o1,o2,o3,o4,o5)=0):=lH (by unfold putE;rw [HQ.out];simp only;rw [HR.out,HM.out];rfl)
  obtain ⟨m2,m3,mr,mz⟩:=HK.out _ hb4
  go_wp2_with fail
  refine (rOmay_is HM _).mono ?_
  rintro e w3 ⟨rfl,hb5⟩
  have hb6:=nx hb4 hb5
  clear m2 m3 mr mz
  obtain ⟨m2,m3,mr,mz⟩:=HK.out _ hb6
  go_wp2_with fail
  have hW3:=nx hbV hb6
  have hB3 : B.le w3.heap.size:=hB.mono hW3.size
  refine (rOwn2_any B l v w3 (Is.stays eL 98 H.out hW3) hB3 hm hf).mono ?_
  rintro e w4 ⟨v4,rfl,hb7,hs,hF,hM⟩
  obtain ⟨a,c,rfl⟩:=hF.len
  have HF:=lH hF
  have HMi:=lH hM
  have HSt:=lH (relP_start (o:=(o1,o2,o3,o4,o5)) hB3 hF hM hb7)
  obtain ⟨n,hn⟩ : ∃ n,hs.length=n:=⟨_,rfl⟩
  rw [hn]
  rw [← hM.len,hn] at hm
  have HN:=lH hn
  have HL:=lH (hM.len.symm.trans hn)
  clear hF hM hn m2 m3 mr mz
  go_wp2
  go_loopw [8,9,39] (fun t d i wr=>∃ (k : Nat) (d' : Bool),k≤n∧i=.int .i64 k∧d=.bool d'∧RelP B w3 w4 l hs a (o1,o2,o3,o4,o5) k t d' wr) (fun _ _ i _=>n - (intOf i).toNat)
  case atStart=>exact ⟨0,false,Nat.zero_le _,rfl,rfl,HSt.out⟩
  case round =>
   obtain ⟨k,d,hk,rfl,rfl,hrel⟩:=hrel
   obtain ⟨ms,hd,hown,hms,hpc⟩:=hrel
   have hlow:=hpc.low
   have hsz:=hpc.sz
   have hml : ms.length≤k+1:=by rw [hpc.lv.len];exact Nat.le_trans (putW_len _ _ _) (by rw [List.length_take];omega)
   obtain ⟨m2,m3,mr,mz⟩:=HK.out _ ((hb6.trans (hlow.mono (by have:=hb6.size;omega))))
   have HD:=lH hd
   have HO:=lH hown
   have HMs:=lH hms
   have HPc:=lH hpc
   by_cases hlt : k<n
   ·have hlt2 : (k : Int)<n:=by omega
    have hkl : k<l.length:=by rw [HL.out];exact hlt
    have hkh : k<hs.length:=by rw [HN.out];exact hlt
    obtain ⟨b,off,ha,hbb,hrow1,hcells⟩:=rowF HF.out (List.getElem?_eq_getElem hkh)
    subst ha
    have hrk:=hpc.row k _ (List.getElem?_eq_getElem hkh) b off rfl
    obtain ⟨q0,q1⟩:=hcells wr hrk.2
    have hbz : b<wr.heap.size:=by omega
    obtain ⟨hp,hol⟩:=hpc.rest k _ _ (Nat.le_refl _) (List.getElem?_eq_getElem hkl) (List.getElem?_eq_getElem hkh)
    have hsn:=putW_snoc o3 (o1,o2,o3,o4,o5) (l.take k) l[k]
    rw [← take_all hkl] at hsn
    have hpe : putW o3 (o1,o2,o3,o4,o5) (l.take k)=((putW o3 (o1,o2,o3,o4,o5) (l.take k)).1,d):=by rw [hd]
    rw [hpe] at hsn
    obtain ⟨⟨yp,ya,yn,yc⟩,hy⟩ : ∃ y,hs[k]=y:=⟨_,rfl⟩
    obtain ⟨⟨pr,os⟩,hx⟩ : ∃ x,l[k]=x:=⟨_,rfl⟩
    rw [hy,hx] at hp hol
    rw [hx] at hsn
    obtain rfl : yp=pr:=hp
    rw [hy] at q0 q1
    simp only [hv] at q0 q1
    have HY:=lH hy
    have HX:=lH hx
    have HS:=lH hsn
    have HOl : Hid (OL B os (hv (yp,ya,yn,yc)) wr):=lH hol
    have HB1:=lH (below1 wr (.cells #[.int .i64 yp,.slice ya yn yc] 98))
    clear hd hown hms hpc hcells hol hy hx hrow1 hrk hpe hsn
    cases d
    ·have hms : ms=hs.take k:=HMs.out rfl
     have hpw : (putW o3 (o1,o2,o3,o4,o5) (l.take k)).1=l.take k:=putW_no HD.out.symm
     have HW:=lH hpw
     have HM2:=lH hms
     have hbu : ∀ g,u8.ownBlock=some g→g<wr.heap.size:=fun g hg=>(Own.block HO.out g hg).2
     have HBu:=lH hbu
     clear hms hpw hbu
     by_cases h1 : yp=o4
     ·have d1 : (yp==o4)=true:=by simpa using h1
      have HE1:=lH h1
      clear h1
      obtain ⟨U,hU⟩ : ∃ U,U=wr.alloc (.cells #[.int .i64 yp,.slice ya yn yc] 98):=⟨_,rfl⟩
      have hzU : U.heap.size=wr.heap.size+1:=by rw [hU];simp
      have hUb : U.heap[wr.heap.size]?=some (.cells #[.int .i64 yp,.slice ya yn yc] 98 (0,0)):=by rw [hU];exact heap_alloc_new _ _
      have hpcU : Pc B w3 w4 l hs (some ⟨b,off,none⟩) k (l.take k) (hs.take k) false U:=by
       have:=HPc.out.stays hB3 hb7.size HB1.out
       rw [HW.out,HM2.out] at this;rw [hU];exact this
      have hosl : os.length≤1000000:=by
       have h1:=flat_take_le l (k+1)
       rw [flat_take_snoc hkl,HX.out,List.length_append] at h1
       simp only at h1;omega
      obtain ⟨a6,n6,c6,w6,hrun6,hol6,hpc6,hk6,hl6⟩:=appO hB3 hb7.size HF.out hpcU (x:=(yp,os)) (y:=(yp,ya,yn,yc)) (by rw [← HX.out];exact List.getElem?_eq_getElem hkl) (by rw [← HY.out];exact List.getElem?_eq_getElem hkh) hosl (o1,o2,o3,o4,o5)
      have hb6x : w6.heap[wr.heap.size]?=some (.cells #[.int .i64 yp,.slice ya yn yc] 98 (0,0)) :=
       hk6.block _ _ hUb (.inr ⟨_,_,_,rfl,by simp,fun h=>by have:=hB3.2 _ h;have:=hb7.size;omega⟩)
      obtain ⟨S,hS⟩ : ∃ S,S=w6.setCell ⟨wr.heap.size,1,none⟩ (.slice a6 n6 c6):=⟨_,rfl⟩
      have hSb : S.heap[wr.heap.size]?=some (.cells #[.int .i64 yp,.slice a6 n6 c6] 98 (0,0)):=by rw [hS];exact set2 hb6x
      have hS1 : Keeps B [70] w6 S:=by rw [hS];exact keeps_setCell 1 _ hb6x (by decide) (by have:=hB3.1;have:=hb7.size;omega)
      have hS2 : Below wr.heap.size w6 S:=by rw [hS];exact low_setCell 1 _ (Nat.le_refl _)
      have hpcS:=hpc6.keep hB3 hb7.size hS1 (hS2.mono hsz)
      have hownS : OwnF B w4.heap.size ms u8 S:=ownF_same (Own.keep (e:=eF) (hB3.mono hb7.size) (hU ▸ HO.out.stays HB1.out : OwnF B w4.heap.size ms u8 U) hk6) (fun g hg=>hS2.block g (HBu.out g hg))
      have hlmk : (hs.take k).length≤2000000:=by rw [List.length_take];omega
      rw [HM2.out] at hownS
      obtain ⟨t9,w9,hrun,hown9,hpc9,hk9,hl9,_⟩:=appF hB3 hb7.size hpcS hownS hlmk (yp,a6,n6,c6)
      have HNx : Hid (RelP B w3 w4 l hs (some ⟨b,off,none⟩) (o1,o2,o3,o4,o5) (k+1) t9 true w9):=lH
       ⟨_,by simp only;rw [HS.out,stepW_hit _ HE1.out],hown9,fun e=>by (cases e),by
        simp only;rw [HS.out,stepW_hit _ HE1.out,HW.out]
        exact hpc9.add rfl (Is.keep eO 70 (Is.keep eO 70 hol6 hS1) hk9)⟩
      have k1 : w6.cell? ⟨wr.heap.size,1,none⟩=some (.slice ya yn yc):=by simp [World.cell?,hb6x]
      have k2 : w6.frozen? ⟨wr.heap.size,1,none⟩=false:=by simp [World.frozen?,hb6x]
      have k3 : S.cell? ⟨wr.heap.size,0,none⟩=some (.int .i64 yp):=by simp [World.cell?,hSb]
      have k4 : S.cell? ⟨wr.heap.size,1,none⟩=some (.slice a6 n6 c6):=by simp [World.cell?,hSb]
      have hzS : wr.heap.size<S.heap.size:=(Array.getElem?_eq_some_iff.1 hSb).1
      rw [hU,World.size_alloc] at hrun6
      simp only [hv] at hrun hrun6
      rw [hS] at k3 k4 hrun
      rw [World.size_setCell] at hrun
      clear hU hUb hpcU hol6 hpc6 hk6 hl6 hb6x hS hSb hS1 hS2 hpcS hownS hown9 hpc9 hk9 hl9 hlmk hosl hzU
      go_wp2
      go_roundw
      case rel=>exact ⟨k+1,true,by omega,by go_num,rfl,HNx.out⟩
      case measure=>simp [intOf];omega
     ·have d1 : (yp==o4)=false:=by simpa using h1
      have HE1 : Hid (¬ (yp,os).1=opr (o1,o2,o3,o4,o5)):=lH h1
      clear h1
      cases hah : ahead o3 o4 yp
      ·have HA:=lH hah
       obtain ⟨t9,w9,hrun,hown9,hpc9,hk9,hl9,_⟩:=appF hB3 hb7.size (HPc.out.stays hB3 hb7.size HB1.out) (HO.out.stays HB1.out) (by omega) (yp,ya,yn,yc)
       have HNx : Hid (RelP B w3 w4 l hs (some ⟨b,off,none⟩) (o1,o2,o3,o4,o5) (k+1) t9 false w9):=lH
        ⟨_,by simp only;rw [HS.out,stepW_on _ HE1.out HA.out],hown9,fun _=>by rw [HM2.out,take_all hkh,HY.out],by
         simp only;rw [HS.out,stepW_on _ HE1.out HA.out]
         exact (hpc9.next).add rfl (Is.keep eO 70 (Is.stays eO 70 HOl.out HB1.out) hk9)⟩
       rw [World.size_alloc] at hrun
       simp only [hv] at hrun
       clear hown9 hpc9 hk9 hl9 hah
       go_wp2_with fail
       refine (rAhead_any _ _ _ _).mono ?_
       rintro e w5 ⟨rfl,rfl⟩
       rw [HA.out]
       go_wp2
       go_roundw
       case rel=>exact ⟨k+1,false,by omega,by go_num,rfl,HNx.out⟩
       case measure=>simp [intOf];omega
      ·have HA:=lH hah
       clear hah
       obtain ⟨U,hU⟩ : ∃ U,U=wr.alloc (.cells #[.int .i64 yp,.slice ya yn yc] 98):=⟨_,rfl⟩
       have hbU : Below wr.heap.size wr U:=hU ▸ HB1.out
       have hzU : U.heap.size=wr.heap.size+1:=by rw [hU];simp
       obtain ⟨U2,hU2⟩ : ∃ U2,U2=U.alloc (.cells #[.int .i64 o1,.int .i64 o2,.int .i64 o3,.int .i64 o4,.int .i64 o5] 70):=⟨_,rfl⟩
       have hbU2 : Below U.heap.size U U2:=hU2 ▸ below1 U _
       have hzU2 : U2.heap.size=wr.heap.size+2:=by rw [hU2];simp;omega
       have hbx2 : U2.heap[wr.heap.size]?=some (.cells #[.int .i64 yp,.slice ya yn yc] 98 (0,0)):=by
        rw [hbU2.block _ (by omega),hU];exact heap_alloc_new _ _
       have hbb2:=nx hbU hbU2
       have hon : OL B [(o1,o2,o3,o4,o5)] (.slice (some ⟨U.heap.size,0,none⟩) 1 1) U2:=by
        rw [hU2];exact Is.one (e:=eO) (x:=(o1,o2,o3,o4,o5)) (cs:=[.int .i64 o1,.int .i64 o2,.int .i64 o3,.int .i64 o4,.int .i64 o5]) (hB3.mono (by have:=hb7.size;omega)) rfl
       obtain ⟨t8,w8,hrun8,hown8,hpc8,hk8,hl8,hg8⟩:=appF hB3 hb7.size (HPc.out.stays hB3 hb7.size hbb2) (HO.out.stays hbb2) (by omega) (o4,some ⟨U.heap.size,0,none⟩,1,1)
       have hne : some wr.heap.size≠u8.ownBlock:=fun e=>by have:=HBu.out _ e.symm;omega
       have hbx8 : w8.heap[wr.heap.size]?=some (.cells #[.int .i64 yp,.slice ya yn yc] 98 (0,0)):=(hg8.block _ (by omega) hne).trans hbx2
       have hpc8':=hpc8.add (x:=(o4,[(o1,o2,o3,o4,o5)])) (y:=(o4,some ⟨U.heap.size,0,none⟩,1,1)) rfl (Is.keep eO 70 hon hk8)
       obtain ⟨t9,w9,hrun,hown9,hpc9,hk9,hl9,_⟩:=appF hB3 hb7.size hpc8' hown8 (by simp only [List.length_append,List.length_singleton];omega) (yp,ya,yn,yc)
       have HNx : Hid (RelP B w3 w4 l hs (some ⟨b,off,none⟩) (o1,o2,o3,o4,o5) (k+1) t9 true w9):=lH
        ⟨_,by simp only;rw [HS.out,stepW_new _ HE1.out HA.out],hown9,fun e=>by (cases e),by
         simp only;rw [HS.out,stepW_new _ HE1.out HA.out,List.append_cons]
         exact ((hpc9.next).done).add rfl (Is.keep eO 70 (Is.keep eO 70 (Is.stays eO 70 HOl.out hbb2) hk8) hk9)⟩
       have k3 : w8.cell? ⟨wr.heap.size,0,none⟩=some (.int .i64 yp):=by simp [World.cell?,hbx8]
       have k4 : w8.cell? ⟨wr.heap.size,1,none⟩=some (.slice ya yn yc):=by simp [World.cell?,hbx8]
       rw [hU] at hU2
       rw [hU2,hU] at hrun8
       simp only [hv,World.size_alloc] at hrun hrun8
       clear hbU hzU hbU2 hzU2 hbx2 hbb2 hon hown8 hpc8 hk8 hl8 hg8 hne hbx8 hpc8' hown9 hpc9 hk9 hl9 hU hU2
       go_wp2_with fail
       refine (rAhead_any _ _ _ _).mono ?_
       rintro e w5 ⟨rfl,rfl⟩
       rw [HA.out]
       go_wp2
       go_roundw
       case rel=>exact ⟨k+1,true,by omega,by go_num,rfl,HNx.out⟩
       case measure=>simp [intOf];omega
    ·obtain ⟨t9,w9,hrun,hown9,hpc9,hk9,hl9,_⟩:=appF hB3 hb7.size (HPc.out.stays hB3 hb7.size HB1.out) (HO.out.stays HB1.out) (by omega) (yp,ya,yn,yc)
     have HNx : Hid (RelP B w3 w4 l hs (some ⟨b,off,none⟩) (o1,o2,o3,o4,o5) (k+1) t9 true w9):=lH
      ⟨_,by simp only;rw [HS.out,stepW_done],hown9,fun e=>by (cases e),by
       simp only;rw [HS.out,stepW_done]
       exact (hpc9.next).add rfl (Is.keep eO 70 (Is.stays eO 70 HOl.out HB1.out) hk9)⟩
     rw [World.size_alloc] at hrun
     simp only [hv] at hrun
     clear hown9 hpc9 hk9 hl9
     go_wp2
     go_roundw
     case rel=>exact ⟨k+1,true,by omega,by go_num,rfl,HNx.out⟩
     case measure=>simp [intOf];omega
   ·obtain rfl : k=n:=by omega
    have e1 : l.take k=l:=by rw [← HL.out,List.take_length]
    have hpt : put l (o1,o2,o3,o4,o5)=putL o3 (o1,o2,o3,o4,o5) l:=by unfold put;rw [HE.out,if_pos rfl]
    rw [putW_put] at hpt
    simp only [e1] at hpc hd
    rw [← hd] at hpt
    clear hms
    cases d
    ·rw [if_neg (by decide)] at hpt
     obtain ⟨U,hU⟩ : ∃ U,U=wr.alloc (.cells #[.int .i64 o1,.int .i64 o2,.int .i64 o3,.int .i64 o4,.int .i64 o5] 70):=⟨_,rfl⟩
     have hbU : Below wr.heap.size wr U:=hU ▸ below1 wr _
     have hon : OL B [(o1,o2,o3,o4,o5)] (.slice (some ⟨wr.heap.size,0,none⟩) 1 1) U:=by
      rw [hU];exact Is.one (e:=eO) (x:=(o1,o2,o3,o4,o5)) (cs:=[.int .i64 o1,.int .i64 o2,.int .i64 o3,.int .i64 o4,.int .i64 o5]) (hB3.mono (by have:=hb7.size;omega)) rfl
     obtain ⟨t9,w9,hrun,hown9,hpc9,hk9,hl9,_⟩:=appF hB3 hb7.size (hpc.stays hB3 hb7.size hbU) (hown.stays hbU) (by omega) (o4,some ⟨wr.heap.size,0,none⟩,1,1)
     have hpz:=hpc9.add (x:=(o4,[(o1,o2,o3,o4,o5)])) (y:=(o4,some ⟨wr.heap.size,0,none⟩,1,1)) rfl (Is.keep eO 70 hon hk9)
     have HZ : Hid (PostP B l (o1,o2,o3,o4,o5) w (.returned (.tuple #[t9,.int .i64 0])) w9):=lH
      ⟨t9,by rw [HE.out],nx hW3 hpz.low,by rw [hpt];exact hpz.lv.ll (hown9.is (by decide) (hB3.mono hb7.size))⟩
     rw [hU] at hrun
     simp only [hv,World.size_alloc] at hrun
     clear hpt hbU hon hown9 hpc9 hk9 hl9 hpz hU hpc hown hd e1
     go_wp2
     go_wp2
     go_ret2
     exact HZ.out
    ·rw [if_pos rfl] at hpt
     have HZ : Hid (PostP B l (o1,o2,o3,o4,o5) w (.returned (.tuple #[u8,.int .i64 0])) wr):=lH
      ⟨u8,by rw [HE.out],nx hW3 hlow,by rw [hpt];exact hpc.lv.ll (hown.is (by decide) (hB3.mono hb7.size))⟩
     clear hpt hpc hown hd e1
     go_wp2
     go_wp2
     go_ret2
     exact HZ.out
 ·have HE : Hid (putE l (o1,o2,o3,o4,o5)=1):=lH (by
   unfold putE;rw [HQ.out];simp only;rw [HR.out,HM.out]
   refine if_neg fun h=>hok ?_
   cases rr<;>cases mm<;>cases q<;>simp at h ⊢)
  have HP : Hid (put l (o1,o2,o3,o4,o5)=l):=lH (by unfold put;rw [HE.out];rfl)
  have hown : ∀ u,Below V.heap.size V u→Calls Tryz.prog 127 #[v] u (Post (LL B l) u):=fun u hu =>
   rOwn_any B l v u (Is.stays eL 98 H.out (nx hbV hu)) (hB.mono (by have:=hu.size;omega)) hm hf
  have hend : ∀ t u u',Below V.heap.size V u→Below u.heap.size u u'→LL B l t u'→PostP B l (o1,o2,o3,o4,o5) w (.returned (.tuple #[t,.int .i64 1])) u':=fun t u u' hu hu' ht =>
   ⟨t,by rw [HE.out],nx (nx hbV hu) hu',by rw [HP.out];exact ht⟩
  have HO:=lH hown
  have HN:=lH hend
  clear hown hend
  obtain ⟨m2,m3,mr,mz⟩:=HK.out _ hb4
  cases rr
  ·go_wp2_with fail
   refine (HO.out _ hb4).mono ?_
   rintro e w9 ⟨t,rfl,hb9,ht⟩
   go_wp2
   go_wp2
   go_ret2
   exact HN.out t _ _ hb4 hb9 ht
  ·go_wp2_with fail
   refine (rOmay_is HM _).mono ?_
   rintro e w3 ⟨rfl,hb5⟩
   have hb6:=nx hb4 hb5
   cases mm
   ·go_wp2_with fail
    refine (HO.out _ hb6).mono ?_
    rintro e w9 ⟨t,rfl,hb9,ht⟩
    go_wp2
    go_wp2
    go_ret2
    exact HN.out t _ _ hb6 hb9 ht
   ·rcases q with _ | q
    ·exact absurd (by simp) hok
    ·clear hok
     go_wp2_with fail
     refine (HO.out _ hb6).mono ?_
     rintro e w9 ⟨t,rfl,hb9,ht⟩
     go_wp2
     go_wp2
     go_ret2
     exact HN.out t _ _ hb6 hb9 ht
end Go.Proofs.YthecinmekoaphaaGreat.Le
