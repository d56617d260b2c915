/- The document's own of layer 10: own. -/
import Derived.Test.YthecinmekoaphaaGreatQbZZ
import Derived.Test.YthecinmekoaphaaGreatQbAT
import Derived.Test.YthecinmekoaphaaGreatQbBL
import Derived.Test.YthecinmekoaphaaGreatQbBB
import Derived.Deep.DeepCutAuto
set_option linter.unusedVariables false
set_option maxRecDepth 16000
set_option maxHeartbeats 32000000
namespace Go.Proofs.YthecinmekoaphaaGreat.La
open Go.RowKit
open Rw
open Da
open Le
open Bk
open Ac (Hd Pu HL pmay pmay_iff tot total giveE giveL takeE takeL)
theorem rOwn10_any (B : Bs) (l : Ln) (v : Value) (w : World) (h : LN B l v w) (hB : B.le w.heap.size) (h1 : l.2.2.1.1.length≤1000000) (h2 : (flat l.2.2.1.1).length≤1000000) (h3 : l.2.2.1.2.1.length≤1000000) (h4 : (flat l.2.2.1.2.1).length≤1000000) (h5 : l.2.2.2.length≤1000000) :
  Calls Tryz.prog 40 #[v] w (Post (LN B l) w):=by
 obtain ⟨lb,lq,⟨bu,se,nn⟩,od⟩:=l
 obtain ⟨a1,n1,c1,a2,n2,c2,a3,n3,c3,rfl,e1,e2,e3,hl1,hl2,hl3⟩:=h.open'
 simp only at e1 e2 e3 hl1 hl2 hl3 h1 h2 h3 h4 h5 ⊢
 obtain ⟨s,hs⟩ : ∃ s,s=w.heap.size:=⟨_,rfl⟩
 obtain ⟨V,hV⟩ : ∃ V,V=(w.alloc (.cells (cN lb lq (.slice a1 n1 c1) (.slice a2 n2 c2) nn (.slice a3 n3 c3)) 28)).alloc (.cells (nilN 0 0 0) 28):=⟨_,rfl⟩
 have hbV : Below w.heap.size w V:=hV ▸ below2 w _ _
 have hzV : V.heap.size=s+2:=by rw [hV,hs];simp
 have hx0 : LB B (lb,lq,(bu,se,nn),od) (.slice a1 n1 c1) (.slice a2 n2 c2) (.slice a3 n3 c3) s V:=by rw [hV,hs];exact (LB.made hl1 hl2 hl3 hB.1).stays (below1 _ _)
 have hg0 : V.heap[s+1]?=some (.cells (nilN 0 0 0) 28 (0,0)):=by
  have:=heap_alloc_new (w.alloc (.cells (cN lb lq (.slice a1 n1 c1) (.slice a2 n2 c2) nn (.slice a3 n3 c3)) 28)) (.cells (nilN 0 0 0) 28)
  rw [World.size_alloc,← hs] at this
  rw [hV];exact this
 have hlo : B.lo≤s:=by rw [hs];exact hB.1
 have HBs:=lH (show ∀ u,Below w.heap.size w u→B.le u.heap.size from fun u hu=>hB.mono hu.size)
 obtain ⟨a4,c4,w1,hrun,hh1,hb1⟩:=own_h (w:=V) hx0.l3 (by omega) h5
 rw [e3] at hrun hh1
 have hz1:=hb1.size
 have hx1:=hx0.stays hb1
 have hg1:=(hb1.block _ (by omega)).trans hg0
 obtain ⟨q0,q1,q2,q3,q4,q5⟩:=hx0.cells
 obtain ⟨p0,p1,p2,p3,p4,p5⟩:=hx1.cells
 simp only at q0 q1 q2 q3 q4 q5 p0 p1 p2 p3 p4 p5
 have f5:=hx1.free 5
 obtain ⟨W,hW⟩ : ∃ W,W=w1.setCell ⟨s,5,none⟩ (.slice a4 n3 c4):=⟨_,rfl⟩
 have hxW : LB B (lb,lq,(bu,se,nn),od) (.slice a1 n1 c1) (.slice a2 n2 c2) (.slice a4 n3 c4) s W:=by rw [hW];exact hx1.set (m:=(lb,lq,(bu,se,nn),od)) 5 _ rfl hx1.l1 hx1.l2 hh1
 have hlW : Below w.heap.size w1 W:=by rw [hW,← hs];exact low_setCell 5 _ (Nat.le_refl _)
 have hbW : Below w.heap.size w W:=(nx hbV hb1).trans hlW
 have hzW : W.heap.size=w1.heap.size:=by rw [hW];simp
 have hgW : W.heap[s+1]?=some (.cells (nilN 0 0 0) 28 (0,0)):=by
  rw [hW,Below.heap_setCell w1 ⟨s,5,none⟩ _ (s+1) (by show s+1≠s;omega)];exact hg1
 have HW:=lH hW
 have HXW:=lH hxW
 have HGW:=lH hgW
 have hsw : s<V.heap.size:=by omega
 have hzs : V.heap.size=s+2:=hzV
 rw [hV] at hrun
 simp only [World.size_alloc] at hrun
 have HR:=lH hh1
 subst hs
 clear hx0 hx1 hg0 hg1 hh1 hW hxW hgW hl1 hl2 hl3 h hB hV e1 e2 e3 q0 q1 q2 q3 q4
 go_enter Tryz.func40,Tryz.ntmps40
 go_wp2_with fail
 rw [← HW.out]
 refine (rLevels10_any B bu _ W HXW.out.l1 (HBs.out W hbW) h1 h2).mono ?_
 rintro e w2 ⟨x2,rfl,hb2,hsx,hi2,hm2⟩
 obtain ⟨a5,c5,rfl⟩:=hi2.len
 obtain ⟨n5,hn5⟩ : ∃ n5,hsx.length=n5:=⟨_,rfl⟩
 rw [hn5] at hi2 ⊢
 have hl2 : LL B bu (.slice a5 n5 c5) w2:=(mine_lvs (HBs.out W hbW) hm2).ll hi2
 have hx2:=HXW.out.stays hb2
 have hg2:=(hb2.block _ (by omega)).trans HGW.out
 have hz2:=hb2.size
 clear p0 p1 p2 p3 p4 p5 f5 q5
 obtain ⟨p0,p1,p2,p3,p4,p5⟩:=hx2.cells
 simp only at p0 p1 p2 p3 p4 p5
 have f2:=hx2.free 2
 obtain ⟨X,hX⟩ : ∃ X,X=w2.setCell ⟨w.heap.size,2,none⟩ (.slice a5 n5 c5):=⟨_,rfl⟩
 have hxX : LB B (lb,lq,(bu,se,nn),od) (.slice a5 n5 c5) (.slice a2 n2 c2) (.slice a4 n3 c4) w.heap.size X:=by rw [hX];exact hx2.set (m:=(lb,lq,(bu,se,nn),od)) 2 _ rfl hl2 hx2.l2 hx2.l3
 have hbX : Below w.heap.size w X:=(nx hbW hb2).trans (hX ▸ low_setCell 2 _ (Nat.le_refl _))
 have hzX : X.heap.size=w2.heap.size:=by rw [hX];simp
 have hgX : X.heap[w.heap.size+1]?=some (.cells (nilN 0 0 0) 28 (0,0)):=by
  rw [hX,Below.heap_setCell w2 ⟨w.heap.size,2,none⟩ _ (w.heap.size+1) (by show w.heap.size+1≠w.heap.size;omega)];exact hg2
 have HX:=lH hX
 have HXX:=lH hxX
 have HGX:=lH hgX
 clear hX hxX hgX hx2 hg2 hl2 hi2 hm2 hn5
 go_wp2_with fail
 rw [← HX.out]
 refine (rLevels10_any B se _ X HXX.out.l2 (HBs.out X hbX) h3 h4).mono ?_
 rintro e w3 ⟨x3,rfl,hb3,hsy,hi3,hm3⟩
 obtain ⟨a6,c6,rfl⟩:=hi3.len
 obtain ⟨n6,hn6⟩ : ∃ n6,hsy.length=n6:=⟨_,rfl⟩
 rw [hn6] at hi3 ⊢
 have hl3 : LL B se (.slice a6 n6 c6) w3:=(mine_lvs (HBs.out X hbX) hm3).ll hi3
 have hx3:=HXX.out.stays hb3
 have hg3:=(hb3.block _ (by omega)).trans HGX.out
 have hz3:=hb3.size
 clear p0 p1 p2 p3 p4 p5 f2
 obtain ⟨p0,p1,p2,p3,p4,p5⟩:=hx3.cells
 simp only at p0 p1 p2 p3 p4 p5
 have f3:=hx3.free 3
 obtain ⟨Y,hY⟩ : ∃ Y,Y=w3.setCell ⟨w.heap.size,3,none⟩ (.slice a6 n6 c6):=⟨_,rfl⟩
 have hxY : LB B (lb,lq,(bu,se,nn),od) (.slice a5 n5 c5) (.slice a6 n6 c6) (.slice a4 n3 c4) w.heap.size Y:=by rw [hY];exact hx3.set (m:=(lb,lq,(bu,se,nn),od)) 3 _ rfl hx3.l1 hl3 hx3.l3
 have hbY : Below w.heap.size w Y:=(nx hbX hb3).trans (hY ▸ low_setCell 3 _ (Nat.le_refl _))
 have hzY : Y.heap.size=w3.heap.size:=by rw [hY];simp
 have hgY : Y.heap[w.heap.size+1]?=some (.cells (nilN 0 0 0) 28 (0,0)):=by
  rw [hY,Below.heap_setCell w3 ⟨w.heap.size,3,none⟩ _ (w.heap.size+1) (by show w.heap.size+1≠w.heap.size;omega)];exact hg3
 have hrY:=hxY.row
 have hpY : plain 6 Y (w.heap.size+1)=true:=by simp [Rw.plain,hgY]
 obtain ⟨Z,hZ⟩ : ∃ Z,Z=Y.setRow (w.heap.size+1) (cN lb lq (.slice a5 n5 c5) (.slice a6 n6 c6) nn (.slice a4 n3 c4)):=⟨_,rfl⟩
 have hln : LN B (lb,lq,(bu,se,nn),od) (.agg (cN lb lq (.slice a5 n5 c5) (.slice a6 n6 c6) nn (.slice a4 n3 c4))) Z:=by rw [hZ];exact (hxY.other (by omega) (by omega) hgY _).ln
 have hbZ : Below w.heap.size w Z:=by rw [hZ];exact below_setRow hbY (Nat.le_succ _) _
 have hrZ : row Z (w.heap.size+1)=cN lb lq (.slice a5 n5 c5) (.slice a6 n6 c6) nn (.slice a4 n3 c4):=by rw [hZ];exact row_set _ hpY
 have HLn:=lH hln
 have HBz:=lH hbZ
 have hszY : w.heap.size+1<Y.heap.size:=by omega
 rw [hY] at hrY hpY hszY
 simp only [plain_setCell] at hpY
 have HY:=lH hY
 have HZ:=lH hZ
 clear hY hZ hxY hgY hx3 hg3 hl3 hi3 hm3 hn6 hln hbZ
 go_wp2
 rw [← HY.out,← HZ.out]
 refine bodyPost_ret (v:=.agg (cN lb lq (.slice a5 n5 c5) (.slice a6 n6 c6) nn (.slice a4 n3 c4))) (ret_N1 Tryz.results40 _ _ rfl ?c1) rfl ⟨_,rfl,HBz.out,HLn.out⟩
 case c1=>simp [go_sem,hrZ]
theorem LB.book {B : Bs} {lb lq : Int} {bk bk' : Bk} {od : List Hd} {x y o x' y' : Value} {n' : Int} {m : Nat} {w : World} (h : LB B (lb,lq,bk,od) x y o m w) (h1 : LL B bk'.1 x' w) (h2 : LL B bk'.2.1 y' w) (hn : bk'.2.2=n') :
  LB B (lb,lq,bk',od) x' y' o m (((w.setCell ⟨m,2,none⟩ x').setCell ⟨m,3,none⟩ y').setCell ⟨m,4,none⟩ (.int .i64 n')) ∧
  (∀ ts,28 ∉ ts→∀ A : Bs,A.lo≤m→Da.Keeps A ts w (((w.setCell ⟨m,2,none⟩ x').setCell ⟨m,3,none⟩ y').setCell ⟨m,4,none⟩ (.int .i64 n'))) ∧
  (∀ k,k≠m→(((w.setCell ⟨m,2,none⟩ x').setCell ⟨m,3,none⟩ y').setCell ⟨m,4,none⟩ (.int .i64 n')).heap[k]?=w.heap[k]?) ∧
  ∀ n,n≤m→Below n w (((w.setCell ⟨m,2,none⟩ x').setCell ⟨m,3,none⟩ y').setCell ⟨m,4,none⟩ (.int .i64 n')):=by
 obtain ⟨bu,se,nn⟩:=bk
 obtain ⟨bu',se',nn'⟩:=bk'
 simp only at h1 h2 hn
 subst hn
 have k1:=h.set (m:=(lb,lq,(bu',se,nn),od)) 2 x' rfl h1 h.l2 h.l3
 have kp1 : ∀ ts,28 ∉ ts→∀ A : Bs,A.lo≤m→Da.Keeps A ts w (w.setCell ⟨m,2,none⟩ x'):=fun ts ht A hA=>keeps_setCell 2 x' h.bk ht hA
 have k2:=k1.set (m:=(lb,lq,(bu',se',nn),od)) 3 y' rfl k1.l1 (Is.keep eL 98 h2 (kp1 _ (by decide) B h.lo)) k1.l3
 have kp2 : ∀ ts,28 ∉ ts→∀ A : Bs,A.lo≤m→Da.Keeps A ts w ((w.setCell ⟨m,2,none⟩ x').setCell ⟨m,3,none⟩ y'):=fun ts ht A hA=>(kp1 ts ht A hA).trans (keeps_setCell 3 y' k1.bk ht hA)
 have k3:=k2.set (m:=(lb,lq,(bu',se',nn'),od)) 4 (.int .i64 nn') rfl k2.l1 k2.l2 k2.l3
 refine ⟨k3,fun ts ht A hA=>(kp2 ts ht A hA).trans (keeps_setCell 4 _ k2.bk ht hA),fun k hk=>?_,fun n hn=>?_⟩
 ·rw [Below.heap_setCell _ ⟨m,4,none⟩ _ k hk,Below.heap_setCell _ ⟨m,3,none⟩ _ k hk,Below.heap_setCell _ ⟨m,2,none⟩ _ k hk]
 ·exact ((low_setCell 2 x' hn).trans (low_setCell 3 y' hn)).trans (low_setCell 4 _ hn)
theorem sum_bd {s : Int} : ∀ {fs : List Fl},(∀ f∈fs,okF f)→0≤sumP s fs∧sumP s fs≤fs.length*1099511627776∧0≤sumG s fs∧sumG s fs≤fs.length*1099511627776
 | [],_=>by simp [sumP,sumG]
 | f :: r,h=>by
  have h1:=pay_bd (s:=s) (h f List.mem_cons_self)
  have h2:=sum_bd (s:=s) (fs:=r) fun x hx=>h x (List.mem_cons_of_mem _ hx)
  rw [sumP,sumG,List.length_cons]
  have e : ((r.length+1 : Nat) : Int)*1099511627776=r.length*1099511627776+1099511627776:=by rw [Int.natCast_add,Int.add_mul];omega
  rw [e]
  omega
def PostPN (B : Bs) (c : PN) (w : World) (e : Ending) (w' : World) : Prop :=
 ∃ v fv gv,e=.returned (.tuple #[v,fv,gv,.int .i64 c.2.2.2.1,.int .i64 c.2.2.2.2])∧Below w.heap.size w w'∧LN B c.1 v w'∧HL B.lo c.2.1 fv w'∧FL B c.2.2.1 gv w'
structure St0 (B : Bs) (l : Ln) (x y o : Value) (s : Nat) (fr : List Hd) (fv : Value) (w wr : World) : Prop where
 lb : LB B l x y o s wr
 g : wr.heap[s+1]?=some (.cells (nilN 0 0 0) 28 (0,0))
 fr : HL B.lo fr fv wr
 bel : Below s w wr
theorem St0.stays {B : Bs} {l : Ln} {x y o : Value} {s : Nat} {fr : List Hd} {fv : Value} {w wr u : World} (h : St0 B l x y o s fr fv w wr) (hb : Below wr.heap.size wr u) : St0 B l x y o s fr fv w u :=
 ⟨h.lb.stays hb,(hb.block _ (Array.getElem?_eq_some_iff.1 h.g).1).trans h.g,hl_stays h.fr hb,h.bel.trans (hb.mono (Nat.le_of_lt h.lb.lt))⟩
theorem St0.lt {B : Bs} {l : Ln} {x y o : Value} {s : Nat} {fr : List Hd} {fv : Value} {w wr : World} (h : St0 B l x y o s fr fv w wr) : s<wr.heap.size∧s+1<wr.heap.size:=⟨h.lb.lt,(Array.getElem?_eq_some_iff.1 h.g).1⟩
theorem St0.pl {B : Bs} {l : Ln} {x y o : Value} {s : Nat} {fr : List Hd} {fv : Value} {w wr : World} (h : St0 B l x y o s fr fv w wr) : plain 6 wr (s+1)=true:=by simp [Rw.plain,h.g]
theorem St0.ret {B : Bs} {l : Ln} {x y o : Value} {s : Nat} {fr : List Hd} {fv : Value} {w wr : World} (h : St0 B l x y o s fr fv w wr) :
  Below s w (wr.setRow (s+1) (cN l.1 l.2.1 x y l.2.2.1.2.2 o))∧LN B l (.agg (cN l.1 l.2.1 x y l.2.2.1.2.2 o)) (wr.setRow (s+1) (cN l.1 l.2.1 x y l.2.2.1.2.2 o))∧HL B.lo fr fv (wr.setRow (s+1) (cN l.1 l.2.1 x y l.2.2.1.2.2 o)) :=
 ⟨below_setRow h.bel (Nat.le_succ _) _,(h.lb.other (by omega) (by have:=h.lb.lo;omega) h.g _).ln,hl_keep h.fr (keeps_setRow _ h.g (by decide) (by have:=h.lb.lo;show B.lo≤s+1;omega))⟩
def PlR (B : Bs) (b : Bk) (fs : List Fl) (lf id er : Int) (w : World) (e : Ending) (w' : World) : Prop :=
 ∃ a1 n1 c1 a2 n2 c2 n fa fn fc,e=.returned (.tuple #[.agg #[.slice a1 n1 c1,.slice a2 n2 c2,.int .i64 n],.slice fa fn fc,.int .i64 lf,.int .i64 id,.int .i64 er])∧b.2.2=n∧fs.length=fn∧Below w.heap.size w w'∧LL B b.1 (.slice a1 n1 c1) w'∧LL B b.2.1 (.slice a2 n2 c2) w'∧FL B fs (.slice fa fn fc) w'
theorem rPlaceB_is {b : Bk} {ow s p q : Int} {rest : Bool} {c : Pl} (h : Hid (place b ow s p q rest=c)) (h1 : b.1.length≤1000) (h2 : (flat b.1).length≤1000) (h3 : b.2.1.length≤1000) (h4 : (flat b.2.1).length≤1000) (B : Bs) (v : Value) (w : World) (hb : BL B b v w) (hB : B.le w.heap.size) :
  Calls Tryz.prog 53 #[v,.int .i64 ow,.int .i64 s,.int .i64 p,.int .i64 q,.bool rest] w (PlR B c.1 c.2.1 c.2.2.1 c.2.2.2.1 c.2.2.2.2 w):=by
 rw [← h.out]
 refine (rPlace_any B b v ow s p q rest w hb hB (by omega) (by omega) (by omega) (by omega)).mono fun e w' h=>?_
 obtain ⟨bv,fv,rfl,hb,⟨x,y,rfl,h1,h2⟩,h3⟩:=h
 obtain ⟨a1,c1,rfl⟩:=h1.len
 obtain ⟨a2,c2,rfl⟩:=h2.len
 obtain ⟨fa,fc,rfl⟩:=h3.len
 exact ⟨a1,_,c1,a2,_,c2,_,fa,_,fc,rfl,rfl,rfl,hb,h1,h2,h3⟩
theorem rPlace10_any (B : Bs) (l : Ln) (v : Value) (fr : List Hd) (fv : Value) (ow s p q : Int) (rest : Bool) (w : World) (h : LN B l v w) (hfr : HL B.lo fr fv w) (hB : B.le w.heap.size) (hs : Sm l) (hfm : fr.length≤1000) :
  Calls Tryz.prog 17 #[v,fv,.int .i64 ow,.int .i64 s,.int .i64 p,.int .i64 q,.bool rest] w (PostPN B (placeN l fr ow s p q rest) w):=by
 have HSm:=lH hs
 obtain ⟨R,hR⟩ : ∃ R,placeN l fr ow s p q rest=R:=⟨_,rfl⟩
 have HR:=lH hR
 rw [hR]
 obtain ⟨r1,hr1⟩ : ∃ r,rightN l=r:=⟨_,rfl⟩
 obtain ⟨r2,hr2⟩ : ∃ r,Ac.right fr=r:=⟨_,rfl⟩
 have HR1:=lH hr1
 have HR2:=lH hr2
 clear hR hr1 hr2
 have hm1:=hs.m1
 have hm2:=hs.m2
 have hm3:=hs.m3
 have hm4:=hs.m4
 have hm5:=hs.m5
 obtain ⟨lb,lq,⟨bu,se,nn⟩,od⟩:=l
 simp only at hm1 hm2 hm3 hm4 hm5
 obtain ⟨a1,n1,c1,a2,n2,c2,a3,n3,c3,rfl,e1,e2,e3,hl1,hl2,hl3⟩:=h.open'
 simp only at e1 e2 e3 hl1 hl2 hl3
 obtain ⟨V,hV⟩ : ∃ V,V=(w.alloc (.cells (cN lb lq (.slice a1 n1 c1) (.slice a2 n2 c2) nn (.slice a3 n3 c3)) 28)).alloc (.cells (nilN 0 0 0) 28):=⟨_,rfl⟩
 have hbV : Below w.heap.size w V:=hV ▸ below2 w _ _
 have hzV : V.heap.size=w.heap.size+2:=by rw [hV];simp
 have hx0 : LB B (lb,lq,(bu,se,nn),od) (.slice a1 n1 c1) (.slice a2 n2 c2) (.slice a3 n3 c3) w.heap.size V:=by rw [hV];exact (LB.made hl1 hl2 hl3 hB.1).stays (below1 _ _)
 have hg0 : V.heap[w.heap.size+1]?=some (.cells (nilN 0 0 0) 28 (0,0)):=by
  have:=heap_alloc_new (w.alloc (.cells (cN lb lq (.slice a1 n1 c1) (.slice a2 n2 c2) nn (.slice a3 n3 c3)) 28)) (.cells (nilN 0 0 0) 28)
  rw [World.size_alloc] at this
  rw [hV];exact this
 have HB:=lH (show ∀ u,Below w.heap.size w u→B.le u.heap.size from fun u hu=>hB.mono hu.size)
 have HSt0:=lH (show St0 B (lb,lq,(bu,se,nn),od) (.slice a1 n1 c1) (.slice a2 n2 c2) (.slice a3 n3 c3) w.heap.size fr fv w V from ⟨hx0,hg0,hl_stays hfr hbV,hbV⟩)
 obtain ⟨fa,fc,rfl⟩:=hl_slice hfr
 obtain ⟨fn,hfn⟩ : ∃ fn,fr.length=fn:=⟨_,rfl⟩
 rw [hfn] at HSt0 ⊢
 have HFn:=lH hfn
 have r0:=hx0.row
 simp only at r0
 rw [hV] at r0
 have HV:=lH hV
 clear hx0 hg0 hl1 hl2 hl3 h hfr hB e1 e2 e3 hV hfn hs
 go_enter Tryz.func17,Tryz.ntmps17
 go_wp2_with fail
 rw [← HV.out]
 refine (rOwn10_any B (lb,lq,(bu,se,nn),od) _ V HSt0.out.lb.ln (HB.out V hbV) (by show bu.length≤_;omega) (by show (flat bu).length≤_;omega) (by show se.length≤_;omega) (by show (flat se).length≤_;omega) (by show od.length≤_;omega)).mono ?_
 rintro e w1 ⟨v1,rfl,hb1,hln1⟩
 clear r0
 obtain ⟨a4,n4,c4,a5,n5,c5,a6,n6,c6,ev,e1,e2,e3,hl1,hl2,hl3⟩:=hln1.open'
 simp only at ev e1 e2 e3 hl1 hl2 hl3
 subst ev
 have hst1:=HSt0.out.stays hb1
 obtain ⟨X,hX⟩ : ∃ X,X=w1.setRow w.heap.size (cN lb lq (.slice a4 n4 c4) (.slice a5 n5 c5) nn (.slice a6 n6 c6)):=⟨_,rfl⟩
 have hpl1:=hst1.lb.plain
 have hxX : LB B (lb,lq,(bu,se,nn),od) (.slice a4 n4 c4) (.slice a5 n5 c5) (.slice a6 n6 c6) w.heap.size X:=by rw [hX];exact LB.put (m:=(lb,lq,(bu,se,nn),od)) hst1.lb.bk hst1.lb.lo hl1 hl2 hl3
 have hlo:=hst1.lb.lo
 have hbX : Below w.heap.size w X:=by rw [hX];exact below_setRow hst1.bel (Nat.le_refl _) _
 have hgX : X.heap[w.heap.size+1]?=some (.cells (nilN 0 0 0) 28 (0,0)):=by rw [hX,setRow_other _ _ _ _ (by omega)];exact hst1.g
 have hfX : HL B.lo fr (.slice fa fn fc) X:=by rw [hX];exact hl_keep hst1.fr (keeps_setRow _ hst1.lb.bk (by decide) hlo)
 have hzX : X.heap.size=w1.heap.size:=by rw [hX];exact setRow_size _ _ _
 have hz1 : w.heap.size<w1.heap.size:=hst1.lt.1
 have HX:=lH hX
 have HXX:=lH hxX
 have HGX:=lH hgX
 obtain ⟨a7,c7,w2,hrun,hh2,hb2⟩:=own_h (w:=X) hfX (by omega) (by omega)
 rw [HFn.out] at hrun hh2
 have HStA:=lH (show St0 B (lb,lq,(bu,se,nn),od) (.slice a4 n4 c4) (.slice a5 n5 c5) (.slice a6 n6 c6) w.heap.size fr (.slice a7 fn c7) w w2 from ⟨hxX.stays hb2,(hb2.block _ (Array.getElem?_eq_some_iff.1 hgX).1).trans hgX,hh2,nx hbX hb2⟩)
 rw [hzX] at hrun
 clear e1 e2 e3 hl1 hl2 hl3 hst1 hX hxX hgX hfX hh2 hln1
 go_upto_region 2 with fail
 rw [← HX.out]
 have r0:=HStA.out.lb.row
 simp only at r0
 have hbA : Below w.heap.size w w2:=HStA.out.bel
 go_wp2_with fail
 refine (rRight10_is HR1 HStA.out.lb.ln (HB.out w2 hbA) HSm.out).mono ?_
 rintro e w3 ⟨rfl,hb3⟩
 have HSt3:=lH (HStA.out.stays hb3)
 clear r0 hrun hpl1
 cases r1
 ·have HZ : Hid (R=((lb,lq,(bu,se,nn),od),fr,[],0,1)):=lH (by rw [← HR.out];unfold placeN;rw [HR1.out,Bool.false_and,if_neg (by decide)])
  have hrow:=HSt3.out.lb.row
  simp only at hrow
  have hpl:=HSt3.out.pl
  obtain ⟨z1,z2⟩:=HSt3.out.lt
  go_wp2
  refine bodyPost_ret (v:=.tuple #[.agg (cN lb lq (.slice a4 n4 c4) (.slice a5 n5 c5) nn (.slice a6 n6 c6)),.slice a7 fn c7,.slice none 0 0,.int .i64 0,.int .i64 1]) (ret_N5 Tryz.results17 _ _ rfl ?c1) rfl ⟨_,_,_,by rw [HZ.out],?c2⟩
  case c1=>exact row_set _ hpl
  case c2 =>
   rw [HZ.out]
   obtain ⟨q1,q2,q3⟩:=HSt3.out.ret
   exact ⟨q1,q2,q3,Is.nil _ _ _ _⟩
 go_wp2_with fail
 refine (Ac.rRight_is HR2 w3 HSt3.out.fr (by unfold maxLen;omega)).mono ?_
 rintro e w4 ⟨rfl,hb4⟩
 have HSt4:=lH (HSt3.out.stays hb4)
 cases r2
 ·have HZ : Hid (R=((lb,lq,(bu,se,nn),od),fr,[],0,1)):=lH (by rw [← HR.out];unfold placeN;rw [HR1.out,HR2.out,Bool.and_false,if_neg (by decide)])
  have hrow:=HSt4.out.lb.row
  simp only at hrow
  have hpl:=HSt4.out.pl
  obtain ⟨z1,z2⟩:=HSt4.out.lt
  go_wp2
  refine bodyPost_ret (v:=.tuple #[.agg (cN lb lq (.slice a4 n4 c4) (.slice a5 n5 c5) nn (.slice a6 n6 c6)),.slice a7 fn c7,.slice none 0 0,.int .i64 0,.int .i64 1]) (ret_N5 Tryz.results17 _ _ rfl ?c1) rfl ⟨_,_,_,by rw [HZ.out],?c2⟩
  case c1=>exact row_set _ hpl
  case c2 =>
   rw [HZ.out]
   obtain ⟨q1,q2,q3⟩:=HSt4.out.ret
   exact ⟨q1,q2,q3,Is.nil _ _ _ _⟩
 obtain ⟨C,hC⟩ : ∃ C,place (bu,se,nn) ow s p q rest=C:=⟨_,rfl⟩
 have HC:=lH hC
 have HPl : Hid (R=if C.2.2.2.2=0 then (if (stl lb lq s C.2.1 od 0 0).2.2.2=0 then fin (lb,lq,(bu,se,nn),od) fr ow s p C (stl lb lq s C.2.1 od 0 0) else ((lb,lq,(bu,se,nn),od),fr,[],0,(stl lb lq s C.2.1 od 0 0).2.2.2)) else ((lb,lq,(bu,se,nn),od),fr,[],0,C.2.2.2.2)):=lH (by
  rw [← HR.out];unfold placeN;rw [HR1.out,HR2.out,if_pos (by rfl)];simp only;rw [hC])
 clear hC
 obtain ⟨_,_,r2,r3,r4,_⟩:=HSt4.out.lb.cells
 simp only at r2 r3 r4
 have hbw4 : Below w.heap.size w w4:=HSt4.out.bel
 go_wp2_with fail
 refine (rPlaceB_is HC hm1 hm2 hm3 hm4 B _ w4 HSt4.out.lb.bl (HB.out w4 hbw4)).mono ?_
 rintro e w5 ⟨b1,k1,d1,b2,k2,d2,n',ga,gn,gc,rfl,hnn',hgn,hb5,hlb1,hlb2,hfl⟩
 clear r2 r3 r4
 obtain ⟨lf,hlf⟩ : ∃ lf,C.2.2.1=lf:=⟨_,rfl⟩
 obtain ⟨id,hid⟩ : ∃ id,C.2.2.2.1=id:=⟨_,rfl⟩
 obtain ⟨er,her⟩ : ∃ er,C.2.2.2.2=er:=⟨_,rfl⟩
 rw [hlf,hid,her]
 have HQ:=lH (show C.2.2.1=lf∧C.2.2.2.1=id∧C.2.2.2.2=er∧C.1.2.2=n'∧C.2.1.length=gn from ⟨hlf,hid,her,hnn',hgn⟩)
 obtain ⟨M5,hM5⟩ : ∃ M,M=w5.alloc (.cells #[.slice b1 k1 d1,.slice b2 k2 d2,.int .i64 n'] 25):=⟨_,rfl⟩
 have hbM5 : Below w5.heap.size w5 M5:=hM5 ▸ below1 w5 _
 have HSt5:=lH ((HSt4.out.stays hb5).stays hbM5)
 have hst5':=HSt4.out.stays hb5
 have HBk:=lH (show M5.heap[w5.heap.size]?=some (.cells #[.slice b1 k1 d1,.slice b2 k2 d2,.int .i64 n'] 25 (0,0))∧LL B C.1.1 (.slice b1 k1 d1) M5∧LL B C.1.2.1 (.slice b2 k2 d2) M5∧FL B C.2.1 (.slice ga gn gc) M5 from ⟨by rw [hM5];exact heap_alloc_new w5 _,Is.stays eL 98 hlb1 hbM5,Is.stays eL 98 hlb2 hbM5,Is.stays eFl 91 hfl hbM5⟩)
 have hz5 : w.heap.size<w5.heap.size∧w.heap.size+1<w5.heap.size:=hst5'.lt
 have HM5:=lH hM5
 clear hlf hid her hnn' hgn hlb1 hlb2 hfl hM5 hst5' hz5
 go_upto_region 6 with fail
 rw [← HM5.out]
 by_cases hne : er≠0
 ·have hde : (er != 0)=true:=by simpa using hne
  have HZ : Hid (R=((lb,lq,(bu,se,nn),od),fr,[],0,er)):=lH (by rw [HPl.out,HQ.out.2.2.1,if_neg hne])
  clear hne
  have hrow:=HSt5.out.lb.row
  simp only at hrow
  have hpl:=HSt5.out.pl
  obtain ⟨z1,z2⟩:=HSt5.out.lt
  go_wp2
  refine bodyPost_ret (v:=.tuple #[.agg (cN lb lq (.slice a4 n4 c4) (.slice a5 n5 c5) nn (.slice a6 n6 c6)),.slice a7 fn c7,.slice none 0 0,.int .i64 0,.int .i64 er]) (ret_N5 Tryz.results17 _ _ rfl ?c1) rfl ⟨_,_,_,by rw [HZ.out],?c2⟩
  case c1=>exact row_set _ hpl
  case c2 =>
   rw [HZ.out]
   obtain ⟨q1,q2,q3⟩:=HSt5.out.ret
   exact ⟨q1,q2,q3,Is.nil _ _ _ _⟩
 obtain rfl : 0=er:=by have : er=0:=(by simpa using hne);exact this.symm
 clear hne
 have hrt:=rightN_iff.1 HR1.out
 have hPN : PlN lb lq (bu,se,nn) ow s p C:=by rw [← HC.out];exact place_n hrt.book (by rw [HC.out];exact HQ.out.2.2.1)
 have hod : Ac.Right od:=hrt.owed
 have HPN:=lH hPN
 obtain ⟨S,hS⟩ : ∃ S,stl lb lq s C.2.1 od 0 0=S:=⟨_,rfl⟩
 have HS:=lH hS
 have HP2 : Hid (R=if S.2.2.2=0 then fin (lb,lq,(bu,se,nn),od) fr ow s p C S else ((lb,lq,(bu,se,nn),od),fr,[],0,S.2.2.2)):=lH (by rw [HPl.out,HQ.out.2.2.1,if_pos rfl,hS])
 have r0:=HSt5.out.lb.row
 simp only at r0
 have hbw5 : Below w.heap.size w M5:=HSt5.out.bel
 have HGn:=lH HQ.out.2.2.2.2
 clear hS hrt hPN
 go_wp2_with fail
 refine (rSettle_any B (lb,lq,(bu,se,nn),od) _ s C.2.1 _ M5 HSt5.out.lb.ln (HB.out M5 hbw5) HBk.out.2.2.2 (fun f hf=>HPN.out.fills f hf) (Nat.le_trans HPN.out.cnt (by decide)) hm5).mono ?_
 rw [show stl (lb,lq,(bu,se,nn),od).1 (lb,lq,(bu,se,nn),od).2.1 s C.2.1 (lb,lq,(bu,se,nn),od).2.2.2 0 0=S from HS.out]
 rintro e w6 ⟨v6,rfl,hb6,hln6⟩
 obtain ⟨a8,n8,c8,a9,n9,c9,ax,nx',cx,ev,-,-,-,hk1,hk2,hk3⟩:=hln6.open'
 simp only at ev hk1 hk2 hk3
 subst ev
 obtain ⟨pa,hpa⟩ : ∃ x,S.2.1=x:=⟨_,rfl⟩
 obtain ⟨ge,hge⟩ : ∃ x,S.2.2.1=x:=⟨_,rfl⟩
 obtain ⟨es,hes⟩ : ∃ x,S.2.2.2=x:=⟨_,rfl⟩
 rw [hpa,hge,hes]
 have HSv:=lH (show S.2.1=pa∧S.2.2.1=ge∧S.2.2.2=es from ⟨hpa,hge,hes⟩)
 obtain ⟨M6,hM6⟩ : ∃ M,M=w6.alloc (.cells (cN lb lq (.slice a8 n8 c8) (.slice a9 n9 c9) nn (.slice ax nx' cx)) 28):=⟨_,rfl⟩
 have hbM6 : Below w6.heap.size w6 M6:=hM6 ▸ below1 w6 _
 have hb56:=nx hb6 hbM6
 have HSt6:=lH (HSt5.out.stays hb56)
 have hloB : B.lo≤w6.heap.size:=(HB.out w6 (nx hbw5 hb6)).1
 have HMx:=lH (show LB B (lb,lq,(bu,se,nn),S.1) (.slice a8 n8 c8) (.slice a9 n9 c9) (.slice ax nx' cx) w6.heap.size M6 from by rw [hM6];exact LB.made (l:=(lb,lq,(bu,se,nn),S.1)) hk1 hk2 hk3 hloB)
 have HBk6:=lH (show M6.heap[w5.heap.size]?=some (.cells #[.slice b1 k1 d1,.slice b2 k2 d2,.int .i64 n'] 25 (0,0))∧LL B C.1.1 (.slice b1 k1 d1) M6∧LL B C.1.2.1 (.slice b2 k2 d2) M6∧FL B C.2.1 (.slice ga gn gc) M6 from ⟨(hb56.block _ (Array.getElem?_eq_some_iff.1 HBk.out.1).1).trans HBk.out.1,Is.stays eL 98 HBk.out.2.1 hb56,Is.stays eL 98 HBk.out.2.2.1 hb56,Is.stays eFl 91 HBk.out.2.2.2 hb56⟩)
 have HM6:=lH hM6
 have HZ6:=lH (HSt5.out.stays hb6).lt.2
 clear r0 hk1 hk2 hk3 hM6 hpa hge hes hln6
 go_upto_region 9 with fail
 rw [← HM6.out]
 by_cases hne : es≠0
 ·have hde : (es != 0)=true:=by simpa using hne
  have HZ : Hid (R=((lb,lq,(bu,se,nn),od),fr,[],0,es)):=lH (by rw [HP2.out,HSv.out.2.2,if_neg hne])
  clear hne
  have hrow:=HSt6.out.lb.row
  simp only at hrow
  have hpl:=HSt6.out.pl
  obtain ⟨z1,z2⟩:=HSt6.out.lt
  go_wp2
  refine bodyPost_ret (v:=.tuple #[.agg (cN lb lq (.slice a4 n4 c4) (.slice a5 n5 c5) nn (.slice a6 n6 c6)),.slice a7 fn c7,.slice none 0 0,.int .i64 0,.int .i64 es]) (ret_N5 Tryz.results17 _ _ rfl ?c1) rfl ⟨_,_,_,by rw [HZ.out],?c2⟩
  case c1=>exact row_set _ hpl
  case c2 =>
   rw [HZ.out]
   obtain ⟨q1,q2,q3⟩:=HSt6.out.ret
   exact ⟨q1,q2,q3,Is.nil _ _ _ _⟩
 obtain rfl : 0=es:=by have : es=0:=(by simpa using hne);exact this.symm
 have HP3 : Hid (R=fin (lb,lq,(bu,se,nn),od) fr ow s p C S):=lH (by rw [HP2.out,HSv.out.2.2,if_pos rfl])
 clear hne
 have hStS : StS lb lq s C.2.1 od 0 0 S:=by rw [← HS.out];exact stl_ok hod (by rw [HS.out];exact HSv.out.2.2)
 have hokf : ∀ f∈C.2.1,okF f:=fun f hf=>HPN.out.fills f hf
 have hpb:=sum_bd (s:=s) hokf
 have hcn:=HPN.out.cnt
 have hpy:=hStS.pays
 have hgt:=hStS.gets
 rw [HSv.out.1] at hpy
 rw [HSv.out.2.1] at hgt
 have hpab : 0≤pa∧pa≤43980465111040∧0≤ge∧ge≤43980465111040:=by omega
 have hpr:=HPN.out.price
 have hlf:=HPN.out.left
 rw [HQ.out.1] at hlf
 have hnd:=ndN_bd (s:=s) (p:=p) (n:=lf) (by omega) hpr.2 hlf.1 hlf.2
 have hF : ∀ u,Below M6.heap.size M6 u→u.cell? ⟨w.heap.size,0,none⟩=some (.int .i64 lb)∧u.cell? ⟨w.heap.size,1,none⟩=some (.int .i64 lq)∧w.heap.size<u.heap.size:=fun u hu=>by
  obtain ⟨j0,j1,_⟩:=(HSt6.out.stays hu).lb.cells
  exact ⟨j0,j1,(HSt6.out.stays hu).lb.lt⟩
 have HFr:=lH (show fr.length≤1000000 from by omega)
 have hsd:=HPN.out.side
 clear hokf hpb hcn hpy hgt hStS
 rcases hsd with hsd | hsd
 ·obtain rfl : s=1:=hsd
  go_wp2
  refine Rf.rg [0,1,2,3,4,5] ?_
  repeat (first | (refine Rf.Steps.sk ?_;simp only [Act.put,sA,sB,sC]) | (refine Rf.Steps.pu (v:=?_) ?_ ?_;rotate_left;(intro w_ hS_;have hk_:=hF w_ hS_;go_simp<;>with_reducible rfl);simp only [Act.put,sA,sB,sC]))
  refine Rf.Steps.nil (by kernel_rfl) ?_
  intro w7 hb67
  have HSt7:=lH (HSt6.out.stays hb67)
  by_cases hid : 0<id
  ·have hdi : decide (0<id)=true:=decide_eq_true hid
   obtain ⟨nd,hndq⟩ : ∃ nd,ndN 1 p lf=nd:=⟨_,rfl⟩
   rw [hndq] at hnd
   obtain ⟨P,hP⟩ : ∃ P,pa+nd=P:=⟨_,rfl⟩
   have hPb : 0≤P∧P≤54980465111040:=by omega
   have HP4 : Hid (R=if takeE fr (ow,lq) P=0 then (if giveE (takeL fr (ow,lq) P) (ow,lb) ge=0 then ((lb,lq,C.1,S.1),giveL (takeL fr (ow,lq) P) (ow,lb) ge,C.2.1,id,0) else ((lb,lq,(bu,se,nn),od),fr,[],0,giveE (takeL fr (ow,lq) P) (ow,lb) ge)) else ((lb,lq,(bu,se,nn),od),fr,[],0,takeE fr (ow,lq) P)):=lH (by
    rw [HP3.out]
    unfold fin
    simp only
    rw [HSv.out.1,HSv.out.2.1,HQ.out.1,HQ.out.2.1,if_pos hid,hndq,hP]
    rw [show (if (1 : Int)=2 then lb else lq)=lq from if_neg (by decide),show (if (1 : Int)=2 then lq else lb)=lb from if_neg (by decide)])
   have hrow7:=HSt7.out.lb.row
   simp only at hrow7
   have hz7:=HSt7.out.lt.1
   have hw1 : IntKind.i64.wrap (pa+nd)=P:=by rw [hP];exact IntWalk.i64_in _ (by omega)
   have HNd:=lH hndq
   clear hid hndq
   go_wp2_with fail
   refine (rNeeds_any lb lq 1 p lf _ _ _ nn w7 (by omega) hlf).mono ?_
   rintro e w8 ⟨rfl,hb8⟩
   rw [HNd.out]
   have HSt8:=lH (HSt7.out.stays hb8)
   have hb78:=nx hb67 hb8
   clear hrow7 hz7
   obtain ⟨E1,hE1⟩ : ∃ E,takeE fr (ow,lq) P=E:=⟨_,rfl⟩
   have HE1:=lH hE1
   clear hE1 hF
   go_wp2_with fail
   refine (Ac.rTake_any fr _ ow lq P w8 HSt8.out.fr HFr.out).mono ?_
   rintro e w9 ⟨f1,rfl,hb9,hf1⟩
   rw [HE1.out]
   have HSt9:=lH (HSt8.out.stays hb9)
   obtain ⟨a10,n10,c10,rfl⟩ : ∃ a n c,f1=.slice a n c:=by obtain ⟨a,c,e⟩:=hl_slice hf1;exact ⟨a,_,c,e⟩
   by_cases hne1 : E1≠0
   ·have hde1 : (E1 != 0)=true:=by simpa using hne1
    have HZ : Hid (R=((lb,lq,(bu,se,nn),od),fr,[],0,E1)):=lH (by rw [HP4.out,HE1.out,if_neg hne1])
    clear hne1
    have hrow:=HSt9.out.lb.row
    simp only at hrow
    have hpl:=HSt9.out.pl
    obtain ⟨z1,z2⟩:=HSt9.out.lt
    go_wp2
    refine bodyPost_ret (v:=.tuple #[.agg (cN lb lq (.slice a4 n4 c4) (.slice a5 n5 c5) nn (.slice a6 n6 c6)),.slice a7 fn c7,.slice none 0 0,.int .i64 0,.int .i64 E1]) (ret_N5 Tryz.results17 _ _ rfl ?c1) rfl ⟨_,_,_,by rw [HZ.out],?c2⟩
    case c1=>exact row_set _ hpl
    case c2 =>
     rw [HZ.out]
     obtain ⟨q1,q2,q3⟩:=HSt9.out.ret
     exact ⟨q1,q2,q3,Is.nil _ _ _ _⟩
   have hE10 : E1=0:=by simpa using hne1
   have hde1 : (E1 != 0)=false:=by simpa using hE10
   have hfl1 : (takeL fr (ow,lq) P).length≤1000000:=by
    obtain ⟨t1,t2,_⟩:=take_ok (HE1.out.trans hE10)
    have:=Ac.right_512 (Ac.take_done t1 t2 (HE1.out.trans hE10)).1
    omega
   obtain ⟨E2,hE2⟩ : ∃ E,giveE (takeL fr (ow,lq) P) (ow,lb) ge=E:=⟨_,rfl⟩
   have HE2:=lH hE2
   have HP5 : Hid (R=if E2=0 then ((lb,lq,C.1,S.1),giveL (takeL fr (ow,lq) P) (ow,lb) ge,C.2.1,id,0) else ((lb,lq,(bu,se,nn),od),fr,[],0,E2)):=lH (by rw [HP4.out,HE1.out,if_pos hE10,hE2])
   have HFl1:=lH (And.intro hf1 hfl1)
   clear hne1 hE10 hE2 hf1 hfl1
   go_wp2_with fail
   refine (Ac.rGive_any (takeL fr (ow,lq) P) _ ow lb ge w9 HFl1.out.1 HFl1.out.2).mono ?_
   rintro e w10 ⟨f2,rfl,hb10,hf2⟩
   rw [HE2.out]
   have HSt10:=lH (HSt9.out.stays hb10)
   obtain ⟨a11,n11,c11,rfl⟩ : ∃ a n c,f2=.slice a n c:=by obtain ⟨a,c,e⟩:=hl_slice hf2;exact ⟨a,_,c,e⟩
   by_cases hne2 : E2≠0
   ·have hde2 : (E2 != 0)=true:=by simpa using hne2
    have HZ : Hid (R=((lb,lq,(bu,se,nn),od),fr,[],0,E2)):=lH (by rw [HP5.out,if_neg hne2])
    clear hne2
    have hrow:=HSt10.out.lb.row
    simp only at hrow
    have hpl:=HSt10.out.pl
    obtain ⟨z1,z2⟩:=HSt10.out.lt
    go_wp2
    refine bodyPost_ret (v:=.tuple #[.agg (cN lb lq (.slice a4 n4 c4) (.slice a5 n5 c5) nn (.slice a6 n6 c6)),.slice a7 fn c7,.slice none 0 0,.int .i64 0,.int .i64 E2]) (ret_N5 Tryz.results17 _ _ rfl ?c1) rfl ⟨_,_,_,by rw [HZ.out],?c2⟩
    case c1=>exact row_set _ hpl
    case c2 =>
     rw [HZ.out]
     obtain ⟨q1,q2,q3⟩:=HSt10.out.ret
     exact ⟨q1,q2,q3,Is.nil _ _ _ _⟩
   have hE20 : E2=0:=by simpa using hne2
   have hde2 : (E2 != 0)=false:=by simpa using hE20
   have HP6 : Hid (R=((lb,lq,C.1,S.1),giveL (takeL fr (ow,lq) P) (ow,lb) ge,C.2.1,id,0)):=lH (by rw [HP5.out,if_pos hE20])
   have hb610:=nx hb78 (nx hb9 hb10)
   have hmx:=HMx.out.stays hb610
   have hbk10:=(hb610.block _ (Array.getElem?_eq_some_iff.1 HBk6.out.1).1).trans HBk6.out.1
   have hrow10 : row w10 w5.heap.size=#[.slice b1 k1 d1,.slice b2 k2 d2,.int .i64 n']:=by unfold Rw.row;rw [hbk10]
   obtain ⟨m0,m1,m2,m3,m4,m5⟩:=hmx.cells
   simp only at m0 m1 m2 m3 m4 m5
   have mf2:=hmx.free 2
   have mf3:=hmx.free 3
   have mf4:=hmx.free 4
   clear hne2 hE20
   go_upto_region 24 with fail
   obtain ⟨Z,hZ⟩ : ∃ Z,Z=((w10.setCell ⟨w6.heap.size,2,none⟩ (.slice b1 k1 d1)).setCell ⟨w6.heap.size,3,none⟩ (.slice b2 k2 d2)).setCell ⟨w6.heap.size,4,none⟩ (.int .i64 n'):=⟨_,rfl⟩
   rw [← hZ]
   have hlz:=hmx.book (bk':=C.1) (n':=n') (Is.stays eL 98 HBk6.out.2.1 hb610) (Is.stays eL 98 HBk6.out.2.2.1 hb610) HQ.out.2.2.2.1
   rw [← hZ] at hlz
   obtain ⟨hz1,hz2,hz3,hz4⟩:=hlz
   have hgz : Z.heap[w.heap.size+1]?=some (.cells (nilN 0 0 0) 28 (0,0)):=(hz3 _ (by have:=HZ6.out;omega)).trans HSt10.out.g
   have hplz : plain 6 Z (w.heap.size+1)=true:=by simp [Rw.plain,hgz]
   have hrowz:=hz1.row
   simp only at hrowz
   rw [HQ.out.2.2.2.1] at hrowz
   have hz6:=hz1.lt
   have hzs : w.heap.size+1<Z.heap.size:=(Array.getElem?_eq_some_iff.1 hgz).1
   have hloz:=hz1.lo
   have HF2:=lH (hl_keep hf2 (hz2 [55] (by decide) (Bs.of B.lo) hloz))
   have HFz:=lH (Is.keep eFl 91 (Is.stays eFl 91 HBk6.out.2.2.2 hb610) (hz2 _ (by decide) B hloz))
   have HBz:=lH (HSt10.out.bel.trans (hz4 _ (by have:=HZ6.out;omega)))
   have HLz:=lH hz1
   have HGz:=lH hgz
   have hlo1 : B.lo≤w.heap.size+1:=by have:=HSt10.out.lb.lo;omega
   clear hZ hz1 hz2 hz3 hz4 hgz hf2 hmx hbk10 hrow10 m0 m1 m2 m3 m4 m5 mf2 mf3 mf4
   go_wp2
   refine bodyPost_ret (v:=.tuple #[.agg (cN lb lq (.slice b1 k1 d1) (.slice b2 k2 d2) n' (.slice ax nx' cx)),.slice a11 n11 c11,.slice ga gn gc,.int .i64 id,.int .i64 0]) (ret_N5 Tryz.results17 _ _ rfl ?c1) rfl ⟨_,_,_,by rw [HP6.out],?c2⟩
   case c1=>exact row_set _ hplz
   case c2 =>
    rw [HP6.out]
    have hln:=(HLz.out.other (k:=w.heap.size+1) (by have:=HZ6.out;omega) hlo1 HGz.out (cN lb lq (.slice b1 k1 d1) (.slice b2 k2 d2) n' (.slice ax nx' cx))).ln
    simp only at hln
    rw [HQ.out.2.2.2.1] at hln
    exact ⟨below_setRow HBz.out (Nat.le_succ _) _,hln,hl_keep HF2.out (keeps_setRow _ HGz.out (by decide) hlo1),Is.keep eFl 91 HFz.out (keeps_setRow _ HGz.out (by decide) hlo1)⟩
  ·have hdi : decide (0<id)=false:=decide_eq_false hid
   obtain ⟨P,hP⟩ : ∃ P,pa=P:=⟨_,rfl⟩
   have hPb : 0≤P∧P≤54980465111040:=by omega
   have HP4 : Hid (R=if takeE fr (ow,lq) P=0 then (if giveE (takeL fr (ow,lq) P) (ow,lb) ge=0 then ((lb,lq,C.1,S.1),giveL (takeL fr (ow,lq) P) (ow,lb) ge,C.2.1,id,0) else ((lb,lq,(bu,se,nn),od),fr,[],0,giveE (takeL fr (ow,lq) P) (ow,lb) ge)) else ((lb,lq,(bu,se,nn),od),fr,[],0,takeE fr (ow,lq) P)):=lH (by
    rw [HP3.out]
    unfold fin
    simp only
    rw [HSv.out.1,HSv.out.2.1,HQ.out.2.1,if_neg hid,Int.add_zero,hP]
    rw [show (if (1 : Int)=2 then lb else lq)=lq from if_neg (by decide),show (if (1 : Int)=2 then lq else lb)=lb from if_neg (by decide)])
   obtain ⟨w8,hw8⟩ : ∃ w8,w8=w7:=⟨_,rfl⟩
   have HSt8:=lH (show St0 B (lb,lq,(bu,se,nn),od) (.slice a4 n4 c4) (.slice a5 n5 c5) (.slice a6 n6 c6) w.heap.size fr (.slice a7 fn c7) w w8 from hw8 ▸ HSt7.out)
   have hb78 : Below M6.heap.size M6 w8:=hw8 ▸ hb67
   rw [← hw8]
   clear hid hw8
   obtain ⟨E1,hE1⟩ : ∃ E,takeE fr (ow,lq) P=E:=⟨_,rfl⟩
   have HE1:=lH hE1
   clear hE1 hF
   go_wp2_with fail
   refine (Ac.rTake_any fr _ ow lq P w8 HSt8.out.fr HFr.out).mono ?_
   rintro e w9 ⟨f1,rfl,hb9,hf1⟩
   rw [HE1.out]
   have HSt9:=lH (HSt8.out.stays hb9)
   obtain ⟨a10,n10,c10,rfl⟩ : ∃ a n c,f1=.slice a n c:=by obtain ⟨a,c,e⟩:=hl_slice hf1;exact ⟨a,_,c,e⟩
   by_cases hne1 : E1≠0
   ·have hde1 : (E1 != 0)=true:=by simpa using hne1
    have HZ : Hid (R=((lb,lq,(bu,se,nn),od),fr,[],0,E1)):=lH (by rw [HP4.out,HE1.out,if_neg hne1])
    clear hne1
    have hrow:=HSt9.out.lb.row
    simp only at hrow
    have hpl:=HSt9.out.pl
    obtain ⟨z1,z2⟩:=HSt9.out.lt
    go_wp2
    refine bodyPost_ret (v:=.tuple #[.agg (cN lb lq (.slice a4 n4 c4) (.slice a5 n5 c5) nn (.slice a6 n6 c6)),.slice a7 fn c7,.slice none 0 0,.int .i64 0,.int .i64 E1]) (ret_N5 Tryz.results17 _ _ rfl ?c1) rfl ⟨_,_,_,by rw [HZ.out],?c2⟩
    case c1=>exact row_set _ hpl
    case c2 =>
     rw [HZ.out]
     obtain ⟨q1,q2,q3⟩:=HSt9.out.ret
     exact ⟨q1,q2,q3,Is.nil _ _ _ _⟩
   have hE10 : E1=0:=by simpa using hne1
   have hde1 : (E1 != 0)=false:=by simpa using hE10
   have hfl1 : (takeL fr (ow,lq) P).length≤1000000:=by
    obtain ⟨t1,t2,_⟩:=take_ok (HE1.out.trans hE10)
    have:=Ac.right_512 (Ac.take_done t1 t2 (HE1.out.trans hE10)).1
    omega
   obtain ⟨E2,hE2⟩ : ∃ E,giveE (takeL fr (ow,lq) P) (ow,lb) ge=E:=⟨_,rfl⟩
   have HE2:=lH hE2
   have HP5 : Hid (R=if E2=0 then ((lb,lq,C.1,S.1),giveL (takeL fr (ow,lq) P) (ow,lb) ge,C.2.1,id,0) else ((lb,lq,(bu,se,nn),od),fr,[],0,E2)):=lH (by rw [HP4.out,HE1.out,if_pos hE10,hE2])
   have HFl1:=lH (And.intro hf1 hfl1)
   clear hne1 hE10 hE2 hf1 hfl1
   go_wp2_with fail
   refine (Ac.rGive_any (takeL fr (ow,lq) P) _ ow lb ge w9 HFl1.out.1 HFl1.out.2).mono ?_
   rintro e w10 ⟨f2,rfl,hb10,hf2⟩
   rw [HE2.out]
   have HSt10:=lH (HSt9.out.stays hb10)
   obtain ⟨a11,n11,c11,rfl⟩ : ∃ a n c,f2=.slice a n c:=by obtain ⟨a,c,e⟩:=hl_slice hf2;exact ⟨a,_,c,e⟩
   by_cases hne2 : E2≠0
   ·have hde2 : (E2 != 0)=true:=by simpa using hne2
    have HZ : Hid (R=((lb,lq,(bu,se,nn),od),fr,[],0,E2)):=lH (by rw [HP5.out,if_neg hne2])
    clear hne2
    have hrow:=HSt10.out.lb.row
    simp only at hrow
    have hpl:=HSt10.out.pl
    obtain ⟨z1,z2⟩:=HSt10.out.lt
    go_wp2
    refine bodyPost_ret (v:=.tuple #[.agg (cN lb lq (.slice a4 n4 c4) (.slice a5 n5 c5) nn (.slice a6 n6 c6)),.slice a7 fn c7,.slice none 0 0,.int .i64 0,.int .i64 E2]) (ret_N5 Tryz.results17 _ _ rfl ?c1) rfl ⟨_,_,_,by rw [HZ.out],?c2⟩
    case c1=>exact row_set _ hpl
    case c2 =>
     rw [HZ.out]
     obtain ⟨q1,q2,q3⟩:=HSt10.out.ret
     exact ⟨q1,q2,q3,Is.nil _ _ _ _⟩
   have hE20 : E2=0:=by simpa using hne2
   have hde2 : (E2 != 0)=false:=by simpa using hE20
   have HP6 : Hid (R=((lb,lq,C.1,S.1),giveL (takeL fr (ow,lq) P) (ow,lb) ge,C.2.1,id,0)):=lH (by rw [HP5.out,if_pos hE20])
   have hb610:=nx hb78 (nx hb9 hb10)
   have hmx:=HMx.out.stays hb610
   have hbk10:=(hb610.block _ (Array.getElem?_eq_some_iff.1 HBk6.out.1).1).trans HBk6.out.1
   have hrow10 : row w10 w5.heap.size=#[.slice b1 k1 d1,.slice b2 k2 d2,.int .i64 n']:=by unfold Rw.row;rw [hbk10]
   obtain ⟨m0,m1,m2,m3,m4,m5⟩:=hmx.cells
   simp only at m0 m1 m2 m3 m4 m5
   have mf2:=hmx.free 2
   have mf3:=hmx.free 3
   have mf4:=hmx.free 4
   clear hne2 hE20
   go_upto_region 24 with fail
   obtain ⟨Z,hZ⟩ : ∃ Z,Z=((w10.setCell ⟨w6.heap.size,2,none⟩ (.slice b1 k1 d1)).setCell ⟨w6.heap.size,3,none⟩ (.slice b2 k2 d2)).setCell ⟨w6.heap.size,4,none⟩ (.int .i64 n'):=⟨_,rfl⟩
   rw [← hZ]
   have hlz:=hmx.book (bk':=C.1) (n':=n') (Is.stays eL 98 HBk6.out.2.1 hb610) (Is.stays eL 98 HBk6.out.2.2.1 hb610) HQ.out.2.2.2.1
   rw [← hZ] at hlz
   obtain ⟨hz1,hz2,hz3,hz4⟩:=hlz
   have hgz : Z.heap[w.heap.size+1]?=some (.cells (nilN 0 0 0) 28 (0,0)):=(hz3 _ (by have:=HZ6.out;omega)).trans HSt10.out.g
   have hplz : plain 6 Z (w.heap.size+1)=true:=by simp [Rw.plain,hgz]
   have hrowz:=hz1.row
   simp only at hrowz
   rw [HQ.out.2.2.2.1] at hrowz
   have hz6:=hz1.lt
   have hzs : w.heap.size+1<Z.heap.size:=(Array.getElem?_eq_some_iff.1 hgz).1
   have hloz:=hz1.lo
   have HF2:=lH (hl_keep hf2 (hz2 [55] (by decide) (Bs.of B.lo) hloz))
   have HFz:=lH (Is.keep eFl 91 (Is.stays eFl 91 HBk6.out.2.2.2 hb610) (hz2 _ (by decide) B hloz))
   have HBz:=lH (HSt10.out.bel.trans (hz4 _ (by have:=HZ6.out;omega)))
   have HLz:=lH hz1
   have HGz:=lH hgz
   have hlo1 : B.lo≤w.heap.size+1:=by have:=HSt10.out.lb.lo;omega
   clear hZ hz1 hz2 hz3 hz4 hgz hf2 hmx hbk10 hrow10 m0 m1 m2 m3 m4 m5 mf2 mf3 mf4
   go_wp2
   refine bodyPost_ret (v:=.tuple #[.agg (cN lb lq (.slice b1 k1 d1) (.slice b2 k2 d2) n' (.slice ax nx' cx)),.slice a11 n11 c11,.slice ga gn gc,.int .i64 id,.int .i64 0]) (ret_N5 Tryz.results17 _ _ rfl ?c1) rfl ⟨_,_,_,by rw [HP6.out],?c2⟩
   case c1=>exact row_set _ hplz
   case c2 =>
    rw [HP6.out]
    have hln:=(HLz.out.other (k:=w.heap.size+1) (by have:=HZ6.out;omega) hlo1 HGz.out (cN lb lq (.slice b1 k1 d1) (.slice b2 k2 d2) n' (.slice ax nx' cx))).ln
    simp only at hln
    rw [HQ.out.2.2.2.1] at hln
    exact ⟨below_setRow HBz.out (Nat.le_succ _) _,hln,hl_keep HF2.out (keeps_setRow _ HGz.out (by decide) hlo1),Is.keep eFl 91 HFz.out (keeps_setRow _ HGz.out (by decide) hlo1)⟩
 ·obtain rfl : s=2:=hsd
  go_wp2
  refine Rf.rg [0,1,2,3,4,5] ?_
  repeat (first | (refine Rf.Steps.sk ?_;simp only [Act.put,sA,sB,sC]) | (refine Rf.Steps.pu (v:=?_) ?_ ?_;rotate_left;(intro w_ hS_;have hk_:=hF w_ hS_;go_simp<;>with_reducible rfl);simp only [Act.put,sA,sB,sC]))
  refine Rf.Steps.nil (by kernel_rfl) ?_
  intro w7' hb67'
  have hF' : ∀ u,Below w7'.heap.size w7' u→u.cell? ⟨w.heap.size,0,none⟩=some (.int .i64 lb)∧u.cell? ⟨w.heap.size,1,none⟩=some (.int .i64 lq)∧w.heap.size<u.heap.size:=fun u hu=>hF u (nx hb67' hu)
  go_wp2
  refine Rf.rg [0,1,2,3,4,5] ?_
  repeat (first | (refine Rf.Steps.sk ?_;simp only [Act.put,sA,sB,sC]) | (refine Rf.Steps.pu (v:=?_) ?_ ?_;rotate_left;(intro w_ hS_;have hk_:=hF' w_ hS_;go_simp<;>with_reducible rfl);simp only [Act.put,sA,sB,sC]))
  refine Rf.Steps.nil (by kernel_rfl) ?_
  intro w7 hb77
  have hb67:=nx hb67' hb77
  have HSt7:=lH (HSt6.out.stays hb67)
  by_cases hid : 0<id
  ·have hdi : decide (0<id)=true:=decide_eq_true hid
   obtain ⟨nd,hndq⟩ : ∃ nd,ndN 2 p lf=nd:=⟨_,rfl⟩
   rw [hndq] at hnd
   obtain ⟨P,hP⟩ : ∃ P,pa+nd=P:=⟨_,rfl⟩
   have hPb : 0≤P∧P≤54980465111040:=by omega
   have HP4 : Hid (R=if takeE fr (ow,lb) P=0 then (if giveE (takeL fr (ow,lb) P) (ow,lq) ge=0 then ((lb,lq,C.1,S.1),giveL (takeL fr (ow,lb) P) (ow,lq) ge,C.2.1,id,0) else ((lb,lq,(bu,se,nn),od),fr,[],0,giveE (takeL fr (ow,lb) P) (ow,lq) ge)) else ((lb,lq,(bu,se,nn),od),fr,[],0,takeE fr (ow,lb) P)):=lH (by
    rw [HP3.out]
    unfold fin
    simp only
    rw [HSv.out.1,HSv.out.2.1,HQ.out.1,HQ.out.2.1,if_pos hid,hndq,hP]
    simp only [if_true])
   have hrow7:=HSt7.out.lb.row
   simp only at hrow7
   have hz7:=HSt7.out.lt.1
   have hw1 : IntKind.i64.wrap (pa+nd)=P:=by rw [hP];exact IntWalk.i64_in _ (by omega)
   have HNd:=lH hndq
   clear hid hndq
   go_wp2_with fail
   refine (rNeeds_any lb lq 2 p lf _ _ _ nn w7 (by omega) hlf).mono ?_
   rintro e w8 ⟨rfl,hb8⟩
   rw [HNd.out]
   have HSt8:=lH (HSt7.out.stays hb8)
   have hb78:=nx hb67 hb8
   clear hrow7 hz7
   obtain ⟨E1,hE1⟩ : ∃ E,takeE fr (ow,lb) P=E:=⟨_,rfl⟩
   have HE1:=lH hE1
   clear hE1 hF
   go_wp2_with fail
   refine (Ac.rTake_any fr _ ow lb P w8 HSt8.out.fr HFr.out).mono ?_
   rintro e w9 ⟨f1,rfl,hb9,hf1⟩
   rw [HE1.out]
   have HSt9:=lH (HSt8.out.stays hb9)
   obtain ⟨a10,n10,c10,rfl⟩ : ∃ a n c,f1=.slice a n c:=by obtain ⟨a,c,e⟩:=hl_slice hf1;exact ⟨a,_,c,e⟩
   by_cases hne1 : E1≠0
   ·have hde1 : (E1 != 0)=true:=by simpa using hne1
    have HZ : Hid (R=((lb,lq,(bu,se,nn),od),fr,[],0,E1)):=lH (by rw [HP4.out,HE1.out,if_neg hne1])
    clear hne1
    have hrow:=HSt9.out.lb.row
    simp only at hrow
    have hpl:=HSt9.out.pl
    obtain ⟨z1,z2⟩:=HSt9.out.lt
    go_wp2
    refine bodyPost_ret (v:=.tuple #[.agg (cN lb lq (.slice a4 n4 c4) (.slice a5 n5 c5) nn (.slice a6 n6 c6)),.slice a7 fn c7,.slice none 0 0,.int .i64 0,.int .i64 E1]) (ret_N5 Tryz.results17 _ _ rfl ?c1) rfl ⟨_,_,_,by rw [HZ.out],?c2⟩
    case c1=>exact row_set _ hpl
    case c2 =>
     rw [HZ.out]
     obtain ⟨q1,q2,q3⟩:=HSt9.out.ret
     exact ⟨q1,q2,q3,Is.nil _ _ _ _⟩
   have hE10 : E1=0:=by simpa using hne1
   have hde1 : (E1 != 0)=false:=by simpa using hE10
   have hfl1 : (takeL fr (ow,lb) P).length≤1000000:=by
    obtain ⟨t1,t2,_⟩:=take_ok (HE1.out.trans hE10)
    have:=Ac.right_512 (Ac.take_done t1 t2 (HE1.out.trans hE10)).1
    omega
   obtain ⟨E2,hE2⟩ : ∃ E,giveE (takeL fr (ow,lb) P) (ow,lq) ge=E:=⟨_,rfl⟩
   have HE2:=lH hE2
   have HP5 : Hid (R=if E2=0 then ((lb,lq,C.1,S.1),giveL (takeL fr (ow,lb) P) (ow,lq) ge,C.2.1,id,0) else ((lb,lq,(bu,se,nn),od),fr,[],0,E2)):=lH (by rw [HP4.out,HE1.out,if_pos hE10,hE2])
   have HFl1:=lH (And.intro hf1 hfl1)
   clear hne1 hE10 hE2 hf1 hfl1
   go_wp2_with fail
   refine (Ac.rGive_any (takeL fr (ow,lb) P) _ ow lq ge w9 HFl1.out.1 HFl1.out.2).mono ?_
   rintro e w10 ⟨f2,rfl,hb10,hf2⟩
   rw [HE2.out]
   have HSt10:=lH (HSt9.out.stays hb10)
   obtain ⟨a11,n11,c11,rfl⟩ : ∃ a n c,f2=.slice a n c:=by obtain ⟨a,c,e⟩:=hl_slice hf2;exact ⟨a,_,c,e⟩
   by_cases hne2 : E2≠0
   ·have hde2 : (E2 != 0)=true:=by simpa using hne2
    have HZ : Hid (R=((lb,lq,(bu,se,nn),od),fr,[],0,E2)):=lH (by rw [HP5.out,if_neg hne2])
    clear hne2
    have hrow:=HSt10.out.lb.row
    simp only at hrow
    have hpl:=HSt10.out.pl
    obtain ⟨z1,z2⟩:=HSt10.out.lt
    go_wp2
    refine bodyPost_ret (v:=.tuple #[.agg (cN lb lq (.slice a4 n4 c4) (.slice a5 n5 c5) nn (.slice a6 n6 c6)),.slice a7 fn c7,.slice none 0 0,.int .i64 0,.int .i64 E2]) (ret_N5 Tryz.results17 _ _ rfl ?c1) rfl ⟨_,_,_,by rw [HZ.out],?c2⟩
    case c1=>exact row_set _ hpl
    case c2 =>
     rw [HZ.out]
     obtain ⟨q1,q2,q3⟩:=HSt10.out.ret
     exact ⟨q1,q2,q3,Is.nil _ _ _ _⟩
   have hE20 : E2=0:=by simpa using hne2
   have hde2 : (E2 != 0)=false:=by simpa using hE20
   have HP6 : Hid (R=((lb,lq,C.1,S.1),giveL (takeL fr (ow,lb) P) (ow,lq) ge,C.2.1,id,0)):=lH (by rw [HP5.out,if_pos hE20])
   have hb610:=nx hb78 (nx hb9 hb10)
   have hmx:=HMx.out.stays hb610
   have hbk10:=(hb610.block _ (Array.getElem?_eq_some_iff.1 HBk6.out.1).1).trans HBk6.out.1
   have hrow10 : row w10 w5.heap.size=#[.slice b1 k1 d1,.slice b2 k2 d2,.int .i64 n']:=by unfold Rw.row;rw [hbk10]
   obtain ⟨m0,m1,m2,m3,m4,m5⟩:=hmx.cells
   simp only at m0 m1 m2 m3 m4 m5
   have mf2:=hmx.free 2
   have mf3:=hmx.free 3
   have mf4:=hmx.free 4
   clear hne2 hE20
   go_upto_region 24 with fail
   obtain ⟨Z,hZ⟩ : ∃ Z,Z=((w10.setCell ⟨w6.heap.size,2,none⟩ (.slice b1 k1 d1)).setCell ⟨w6.heap.size,3,none⟩ (.slice b2 k2 d2)).setCell ⟨w6.heap.size,4,none⟩ (.int .i64 n'):=⟨_,rfl⟩
   rw [← hZ]
   have hlz:=hmx.book (bk':=C.1) (n':=n') (Is.stays eL 98 HBk6.out.2.1 hb610) (Is.stays eL 98 HBk6.out.2.2.1 hb610) HQ.out.2.2.2.1
   rw [← hZ] at hlz
   obtain ⟨hz1,hz2,hz3,hz4⟩:=hlz
   have hgz : Z.heap[w.heap.size+1]?=some (.cells (nilN 0 0 0) 28 (0,0)):=(hz3 _ (by have:=HZ6.out;omega)).trans HSt10.out.g
   have hplz : plain 6 Z (w.heap.size+1)=true:=by simp [Rw.plain,hgz]
   have hrowz:=hz1.row
   simp only at hrowz
   rw [HQ.out.2.2.2.1] at hrowz
   have hz6:=hz1.lt
   have hzs : w.heap.size+1<Z.heap.size:=(Array.getElem?_eq_some_iff.1 hgz).1
   have hloz:=hz1.lo
   have HF2:=lH (hl_keep hf2 (hz2 [55] (by decide) (Bs.of B.lo) hloz))
   have HFz:=lH (Is.keep eFl 91 (Is.stays eFl 91 HBk6.out.2.2.2 hb610) (hz2 _ (by decide) B hloz))
   have HBz:=lH (HSt10.out.bel.trans (hz4 _ (by have:=HZ6.out;omega)))
   have HLz:=lH hz1
   have HGz:=lH hgz
   have hlo1 : B.lo≤w.heap.size+1:=by have:=HSt10.out.lb.lo;omega
   clear hZ hz1 hz2 hz3 hz4 hgz hf2 hmx hbk10 hrow10 m0 m1 m2 m3 m4 m5 mf2 mf3 mf4
   go_wp2
   refine bodyPost_ret (v:=.tuple #[.agg (cN lb lq (.slice b1 k1 d1) (.slice b2 k2 d2) n' (.slice ax nx' cx)),.slice a11 n11 c11,.slice ga gn gc,.int .i64 id,.int .i64 0]) (ret_N5 Tryz.results17 _ _ rfl ?c1) rfl ⟨_,_,_,by rw [HP6.out],?c2⟩
   case c1=>exact row_set _ hplz
   case c2 =>
    rw [HP6.out]
    have hln:=(HLz.out.other (k:=w.heap.size+1) (by have:=HZ6.out;omega) hlo1 HGz.out (cN lb lq (.slice b1 k1 d1) (.slice b2 k2 d2) n' (.slice ax nx' cx))).ln
    simp only at hln
    rw [HQ.out.2.2.2.1] at hln
    exact ⟨below_setRow HBz.out (Nat.le_succ _) _,hln,hl_keep HF2.out (keeps_setRow _ HGz.out (by decide) hlo1),Is.keep eFl 91 HFz.out (keeps_setRow _ HGz.out (by decide) hlo1)⟩
  ·have hdi : decide (0<id)=false:=decide_eq_false hid
   obtain ⟨P,hP⟩ : ∃ P,pa=P:=⟨_,rfl⟩
   have hPb : 0≤P∧P≤54980465111040:=by omega
   have HP4 : Hid (R=if takeE fr (ow,lb) P=0 then (if giveE (takeL fr (ow,lb) P) (ow,lq) ge=0 then ((lb,lq,C.1,S.1),giveL (takeL fr (ow,lb) P) (ow,lq) ge,C.2.1,id,0) else ((lb,lq,(bu,se,nn),od),fr,[],0,giveE (takeL fr (ow,lb) P) (ow,lq) ge)) else ((lb,lq,(bu,se,nn),od),fr,[],0,takeE fr (ow,lb) P)):=lH (by
    rw [HP3.out]
    unfold fin
    simp only
    rw [HSv.out.1,HSv.out.2.1,HQ.out.2.1,if_neg hid,Int.add_zero,hP]
    simp only [if_true])
   obtain ⟨w8,hw8⟩ : ∃ w8,w8=w7:=⟨_,rfl⟩
   have HSt8:=lH (show St0 B (lb,lq,(bu,se,nn),od) (.slice a4 n4 c4) (.slice a5 n5 c5) (.slice a6 n6 c6) w.heap.size fr (.slice a7 fn c7) w w8 from hw8 ▸ HSt7.out)
   have hb78 : Below M6.heap.size M6 w8:=hw8 ▸ hb67
   rw [← hw8]
   clear hid hw8
   obtain ⟨E1,hE1⟩ : ∃ E,takeE fr (ow,lb) P=E:=⟨_,rfl⟩
   have HE1:=lH hE1
   clear hE1 hF
   go_wp2_with fail
   refine (Ac.rTake_any fr _ ow lb P w8 HSt8.out.fr HFr.out).mono ?_
   rintro e w9 ⟨f1,rfl,hb9,hf1⟩
   rw [HE1.out]
   have HSt9:=lH (HSt8.out.stays hb9)
   obtain ⟨a10,n10,c10,rfl⟩ : ∃ a n c,f1=.slice a n c:=by obtain ⟨a,c,e⟩:=hl_slice hf1;exact ⟨a,_,c,e⟩
   by_cases hne1 : E1≠0
   ·have hde1 : (E1 != 0)=true:=by simpa using hne1
    have HZ : Hid (R=((lb,lq,(bu,se,nn),od),fr,[],0,E1)):=lH (by rw [HP4.out,HE1.out,if_neg hne1])
    clear hne1
    have hrow:=HSt9.out.lb.row
    simp only at hrow
    have hpl:=HSt9.out.pl
    obtain ⟨z1,z2⟩:=HSt9.out.lt
    go_wp2
    refine bodyPost_ret (v:=.tuple #[.agg (cN lb lq (.slice a4 n4 c4) (.slice a5 n5 c5) nn (.slice a6 n6 c6)),.slice a7 fn c7,.slice none 0 0,.int .i64 0,.int .i64 E1]) (ret_N5 Tryz.results17 _ _ rfl ?c1) rfl ⟨_,_,_,by rw [HZ.out],?c2⟩
    case c1=>exact row_set _ hpl
    case c2 =>
     rw [HZ.out]
     obtain ⟨q1,q2,q3⟩:=HSt9.out.ret
     exact ⟨q1,q2,q3,Is.nil _ _ _ _⟩
   have hE10 : E1=0:=by simpa using hne1
   have hde1 : (E1 != 0)=false:=by simpa using hE10
   have hfl1 : (takeL fr (ow,lb) P).length≤1000000:=by
    obtain ⟨t1,t2,_⟩:=take_ok (HE1.out.trans hE10)
    have:=Ac.right_512 (Ac.take_done t1 t2 (HE1.out.trans hE10)).1
    omega
   obtain ⟨E2,hE2⟩ : ∃ E,giveE (takeL fr (ow,lb) P) (ow,lq) ge=E:=⟨_,rfl⟩
   have HE2:=lH hE2
   have HP5 : Hid (R=if E2=0 then ((lb,lq,C.1,S.1),giveL (takeL fr (ow,lb) P) (ow,lq) ge,C.2.1,id,0) else ((lb,lq,(bu,se,nn),od),fr,[],0,E2)):=lH (by rw [HP4.out,HE1.out,if_pos hE10,hE2])
   have HFl1:=lH (And.intro hf1 hfl1)
   clear hne1 hE10 hE2 hf1 hfl1
   go_wp2_with fail
   refine (Ac.rGive_any (takeL fr (ow,lb) P) _ ow lq ge w9 HFl1.out.1 HFl1.out.2).mono ?_
   rintro e w10 ⟨f2,rfl,hb10,hf2⟩
   rw [HE2.out]
   have HSt10:=lH (HSt9.out.stays hb10)
   obtain ⟨a11,n11,c11,rfl⟩ : ∃ a n c,f2=.slice a n c:=by obtain ⟨a,c,e⟩:=hl_slice hf2;exact ⟨a,_,c,e⟩
   by_cases hne2 : E2≠0
   ·have hde2 : (E2 != 0)=true:=by simpa using hne2
    have HZ : Hid (R=((lb,lq,(bu,se,nn),od),fr,[],0,E2)):=lH (by rw [HP5.out,if_neg hne2])
    clear hne2
    have hrow:=HSt10.out.lb.row
    simp only at hrow
    have hpl:=HSt10.out.pl
    obtain ⟨z1,z2⟩:=HSt10.out.lt
    go_wp2
    refine bodyPost_ret (v:=.tuple #[.agg (cN lb lq (.slice a4 n4 c4) (.slice a5 n5 c5) nn (.slice a6 n6 c6)),.slice a7 fn c7,.slice none 0 0,.int .i64 0,.int .i64 E2]) (ret_N5 Tryz.results17 _ _ rfl ?c1) rfl ⟨_,_,_,by rw [HZ.out],?c2⟩
    case c1=>exact row_set _ hpl
    case c2 =>
     rw [HZ.out]
     obtain ⟨q1,q2,q3⟩:=HSt10.out.ret
     exact ⟨q1,q2,q3,Is.nil _ _ _ _⟩
   have hE20 : E2=0:=by simpa using hne2
   have hde2 : (E2 != 0)=false:=by simpa using hE20
   have HP6 : Hid (R=((lb,lq,C.1,S.1),giveL (takeL fr (ow,lb) P) (ow,lq) ge,C.2.1,id,0)):=lH (by rw [HP5.out,if_pos hE20])
   have hb610:=nx hb78 (nx hb9 hb10)
   have hmx:=HMx.out.stays hb610
   have hbk10:=(hb610.block _ (Array.getElem?_eq_some_iff.1 HBk6.out.1).1).trans HBk6.out.1
   have hrow10 : row w10 w5.heap.size=#[.slice b1 k1 d1,.slice b2 k2 d2,.int .i64 n']:=by unfold Rw.row;rw [hbk10]
   obtain ⟨m0,m1,m2,m3,m4,m5⟩:=hmx.cells
   simp only at m0 m1 m2 m3 m4 m5
   have mf2:=hmx.free 2
   have mf3:=hmx.free 3
   have mf4:=hmx.free 4
   clear hne2 hE20
   go_upto_region 24 with fail
   obtain ⟨Z,hZ⟩ : ∃ Z,Z=((w10.setCell ⟨w6.heap.size,2,none⟩ (.slice b1 k1 d1)).setCell ⟨w6.heap.size,3,none⟩ (.slice b2 k2 d2)).setCell ⟨w6.heap.size,4,none⟩ (.int .i64 n'):=⟨_,rfl⟩
   rw [← hZ]
   have hlz:=hmx.book (bk':=C.1) (n':=n') (Is.stays eL 98 HBk6.out.2.1 hb610) (Is.stays eL 98 HBk6.out.2.2.1 hb610) HQ.out.2.2.2.1
   rw [← hZ] at hlz
   obtain ⟨hz1,hz2,hz3,hz4⟩:=hlz
   have hgz : Z.heap[w.heap.size+1]?=some (.cells (nilN 0 0 0) 28 (0,0)):=(hz3 _ (by have:=HZ6.out;omega)).trans HSt10.out.g
   have hplz : plain 6 Z (w.heap.size+1)=true:=by simp [Rw.plain,hgz]
   have hrowz:=hz1.row
   simp only at hrowz
   rw [HQ.out.2.2.2.1] at hrowz
   have hz6:=hz1.lt
   have hzs : w.heap.size+1<Z.heap.size:=(Array.getElem?_eq_some_iff.1 hgz).1
   have hloz:=hz1.lo
   have HF2:=lH (hl_keep hf2 (hz2 [55] (by decide) (Bs.of B.lo) hloz))
   have HFz:=lH (Is.keep eFl 91 (Is.stays eFl 91 HBk6.out.2.2.2 hb610) (hz2 _ (by decide) B hloz))
   have HBz:=lH (HSt10.out.bel.trans (hz4 _ (by have:=HZ6.out;omega)))
   have HLz:=lH hz1
   have HGz:=lH hgz
   have hlo1 : B.lo≤w.heap.size+1:=by have:=HSt10.out.lb.lo;omega
   clear hZ hz1 hz2 hz3 hz4 hgz hf2 hmx hbk10 hrow10 m0 m1 m2 m3 m4 m5 mf2 mf3 mf4
   go_wp2
   refine bodyPost_ret (v:=.tuple #[.agg (cN lb lq (.slice b1 k1 d1) (.slice b2 k2 d2) n' (.slice ax nx' cx)),.slice a11 n11 c11,.slice ga gn gc,.int .i64 id,.int .i64 0]) (ret_N5 Tryz.results17 _ _ rfl ?c1) rfl ⟨_,_,_,by rw [HP6.out],?c2⟩
   case c1=>exact row_set _ hplz
   case c2 =>
    rw [HP6.out]
    have hln:=(HLz.out.other (k:=w.heap.size+1) (by have:=HZ6.out;omega) hlo1 HGz.out (cN lb lq (.slice b1 k1 d1) (.slice b2 k2 d2) n' (.slice ax nx' cx))).ln
    simp only at hln
    rw [HQ.out.2.2.2.1] at hln
    exact ⟨below_setRow HBz.out (Nat.le_succ _) _,hln,hl_keep HF2.out (keeps_setRow _ HGz.out (by decide) hlo1),Is.keep eFl 91 HFz.out (keeps_setRow _ HGz.out (by decide) hlo1)⟩
end Go.Proofs.YthecinmekoaphaaGreat.La
