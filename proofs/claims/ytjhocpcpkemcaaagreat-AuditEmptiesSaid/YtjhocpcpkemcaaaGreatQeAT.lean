/- The document's own Remove, with what it says of the rows. -/
import Derived.Test.YtjhocpcpkemcaaaGreatQeZZ
import Derived.Test.YtjhocpcpkemcaaaGreatQeAR
import Derived.Test.YtjhocpcpkemcaaaGreatQeAQ
import Derived.Test.YtjhocpcpkemcaaaGreatQeAN
import Derived.Test.YtjhocpcpkemcaaaGreatQeAC
import Derived.Test.YtjhocpcpkemcaaaGreatQeAS
import Derived.RegionTactic
import Derived.ChangeAlike
import Derived.BigRegion
set_option linter.unusedVariables false
set_option maxRecDepth 16000
set_option maxHeartbeats 32000000
namespace Go.Proofs.YtjhocpcpkemcaaaGreat.Bk
open Go.RowKit
open Rw
open Da
open Le
theorem row_setCell (w:World) (b o:Nat) (v:Value):row (w.setCell ⟨b,o,none⟩ v) b=(row w b).setIfInBounds o v:=by
 unfold row
 simp only [World.setCell,Array.getElem?_modify,if_true]
 cases w.heap[b]? with
 | none=>simp
 | some x=>cases x<;>simp
theorem plain_setCell (m:Nat) (w:World) (b c o:Nat) (v:Value):plain m (w.setCell ⟨b,o,none⟩ v) c=plain m w c:=by
 unfold plain
 simp only [World.setCell,Array.getElem?_modify]
 by_cases h:b=c
 ·subst h
  simp only [if_true]
  cases w.heap[b]? with
  | none=>rfl
  | some x=>cases x<;>simp
 ·simp only [h,if_false]
section
variable (ρ:Operand→Value) (dst:Option Tmp) (ty:TypeId) (pos:String) (after:Array Edge) (guard:Option (Nat × Bool)) (w:World)
theorem loadB (x:Operand) (h:(rowOf w (ρ x)).size=3):(execOp ρ { dst,op:=.load 57 x,type:=ty,pos,after,guard }).run Tryz.prog w=.ok (.value (.agg (rowOf w (ρ x)))) w :=
 exec_load (n:=2) ρ dst ty pos after guard w Tryz.underlying57 rfl (by kernel_rfl) x h
theorem storeB (p x:Operand) (h:plainAt 3 w (ρ p)=true) (hs:(ρ x).cells.size=3) (h1:oneAll (ρ x)=true) (ha:ρ x=.agg (ρ x).cells):(execOp ρ { dst,op:=.store 57 p x,type:=ty,pos,after,guard }).run Tryz.prog w=.ok .skip (putRow w (ρ p) (ρ x).cells) :=
 exec_store (n:=2) ρ dst ty pos after guard w (by kernel_rfl) p x h hs h1 ha
end
theorem one3 (a c:Option Addr) (n m d e:Nat) (x:Int):oneAll (.agg #[.slice a n d,.slice c m e,.int .i64 x])=true:=by simp [oneAll,Value.cells,Value.oneCell']
theorem size3 (a b c:Value):(#[a,b,c]:Array Value).size=3:=rfl
attribute [go_sem ↓] loadB storeB
attribute [go_sem] one3 size3 plain_setCell
theorem ret_B1 {fn:Func} {p:Tmp} (h:fn.results=#[.cell p 57]) (tmps:Array Value) (w:World) {cs:Array Value} (hs:cs.size=3) (hr:rowOf w (tmps.getD p undef)=cs):(results fn tmps).run Tryz.prog w=.ok (.agg cs) w :=
 ret1 (n:=2) h Tryz.underlying57 rfl (by kernel_rfl) tmps w hs hr
def BL (B:Bs) (b:Bk) (v:Value) (w:World):Prop:=∃ x y,v=.agg #[x,y,.int .i64 b.2.2]∧LL B b.1 x w∧LL B b.2.1 y w
theorem BL.stays {B:Bs} {b:Bk} {v:Value} {w w':World} (h:BL B b v w) (hb:Below w.heap.size w w'):BL B b v w':=by
 obtain ⟨x,y,e,h1,h2⟩:=h
 exact ⟨x,y,e,Is.stays eL 106 h1 hb,Is.stays eL 106 h2 hb⟩
def cellsF (f:Fl):List Value:=[.int .i64 f.1,.int .i64 f.2.1,.int .i64 f.2.2.1,.int .i64 f.2.2.2.1,.bool f.2.2.2.2]
def eFl:Enc Fl:=Enc.flat 5 cellsF (fun _=>rfl) (fun o u hu=>by simp [cellsF] at hu;rcases hu with rfl | rfl | rfl | rfl | rfl<;>rfl)
abbrev FL (B:Bs) (l:List Fl) (v:Value) (w:World):Prop:=Is eFl 159 B l v w
abbrev OwnFl (B:Bs) (Bo:Nat) (l:List Fl) (v:Value) (w:World):Prop:=Own eFl 159 B Bo l v w
theorem typesFl:159 ∉ eFl.ts:=by decide
theorem infoFl:(Tryz.prog.info? 159).map (fun i=>(i.zero,i.size,i.bytes))=some (some (.agg #[.int .i64 0,.int .i64 0,.int .i64 0,.int .i64 0,.bool false]),5,40):=by kernel_rfl
theorem elemFl:Elem Tryz.prog 122 159 eFl.k 40:=elem_of Tryz.underlying122 infoFl rfl (by decide)
theorem atFl {B:Bs} {l:List Fl} {b off:Nat} {w:World} (h:Lies eFl 159 B l b off w) (i:Nat) (hi:i<l.length) :
  w.cell? ⟨b,off+i*5,none⟩=some (.int .i64 l[i].1)∧w.cell? ⟨b,off+i*5+1,none⟩=some (.int .i64 l[i].2.1)∧w.cell? ⟨b,off+i*5+2,none⟩=some (.int .i64 l[i].2.2.1)∧w.cell? ⟨b,off+i*5+3,none⟩=some (.int .i64 l[i].2.2.2.1)∧w.cell? ⟨b,off+i*5+4,none⟩=some (.bool l[i].2.2.2.2):=by
 obtain ⟨cs,rfl,hu⟩:=h.at i hi
 exact ⟨hu 0 _ rfl,hu 1 _ rfl,hu 2 _ rfl,hu 3 _ rfl,hu 4 _ rfl⟩
def prO (q:Option Od):Int:=match q with
 | some o=>opr o
 | none=>0
theorem cO_3 (q:Option Od):(cO q)[3]?=some (.int .i64 (prO q)):=by cases q<;>rfl
theorem bestP_is (l:List Lv):bestP l=prO (flat l).head?:=by unfold bestP prO;cases (flat l).head?<;>rfl
theorem rNew_any (w:World):Calls Tryz.prog 79 #[] w fun e w'=>e=.returned (.agg #[.slice none 0 0,.slice none 0 0,.int .i64 1])∧Below w.heap.size w w':=by
 go_enter Tryz.func79,Tryz.ntmps79
 go_wp2
 refine bodyPost_ret (v:=.agg #[.slice none 0 0,.slice none 0 0,.int .i64 1]) (ret_B1 Tryz.results79 _ _ rfl ?c1) rfl ⟨rfl,below1 _ _⟩
 case c1=>simp [go_sem]
theorem rTop_any (B:Bs) (b:Bk) (v:Value) (w:World) (h:BL B b v w) (h1:b.1.length≤1000000) (h2:(flat b.1).length≤1000000) (h3:b.2.1.length≤1000000) (h4:(flat b.2.1).length≤1000000) :
  Calls Tryz.prog 76 #[v] w fun e w'=>e=.returned (.tuple #[.int .i64 (bestP b.1),.int .i64 (bestP b.2.1)])∧Below w.heap.size w w':=by
 obtain ⟨x,y,rfl,hx,hy⟩:=h
 rw [bestP_is,bestP_is]
 obtain ⟨q1,hq1⟩:∃ q,(flat b.1).head?=q:=⟨_,rfl⟩
 obtain ⟨q2,hq2⟩:∃ q,(flat b.2.1).head?=q:=⟨_,rfl⟩
 rw [hq1,hq2]
 have HQ1:=lH hq1
 have HQ2:=lH hq2
 obtain ⟨n,hn⟩:∃ n,b.2.2=n:=⟨_,rfl⟩
 rw [hn]
 obtain ⟨V,hV⟩:∃ V,V=w.alloc (.cells #[x,y,.int .i64 n] 57):=⟨_,rfl⟩
 have hbV:Below w.heap.size w V:=hV ▸ below1 w _
 have hzV:w.heap.size<V.heap.size:=by rw [hV];simp
 obtain ⟨a1,c1,rfl⟩:=hx.len
 obtain ⟨a2,c2,rfl⟩:=hy.len
 have HX:=lH (show ∀ u,Below V.heap.size V u→LL B b.1 (.slice a1 b.1.length c1) u∧LL B b.2.1 (.slice a2 b.2.1.length c2) u from fun u hu=>⟨Is.stays eL 106 hx (nx hbV hu),Is.stays eL 106 hy (nx hbV hu)⟩)
 have HC:=lH (show ∀ u,Below V.heap.size V u→u.cell? ⟨w.heap.size,0,none⟩=some (.slice a1 b.1.length c1)∧u.cell? ⟨w.heap.size,1,none⟩=some (.slice a2 b.2.1.length c2)∧w.heap.size<u.heap.size from fun u hu=>by
  refine ⟨?_,?_,Nat.lt_of_lt_of_le hzV hu.size⟩
  ·rw [hu.cell (p:=⟨w.heap.size,0,none⟩) hzV,hV];simp [go_sem]
  ·rw [hu.cell (p:=⟨w.heap.size,1,none⟩) hzV,hV];simp [go_sem])
 have HV:=lH hV
 have hcs1:=cO_size q1
 have h1c1:oneAll (.agg (cO q1))=true:=by cases q1<;>exact one5 _ _ _ _ _
 have hcs2:=cO_size q2
 have h1c2:oneAll (.agg (cO q2))=true:=by cases q2<;>exact one5 _ _ _ _ _
 have ho1:=cO_3 q1
 have ho2:=cO_3 q2
 have ho2':∀ h,(cO q2)[3]'h=.int .i64 (prO q2):=fun h=>by cases q2<;>rfl
 have HB1:=lH h1
 have HB2:=lH h2
 have HB3:=lH h3
 have HB4:=lH h4
 clear hx hy hV hq1 hq2 hn h1 h2 h3 h4
 obtain ⟨m0,m1,mz⟩:=HC.out V (Below.refl _ _)
 go_enter Tryz.func76,Tryz.ntmps76
 go_wp2_with fail
 rw [← HV.out]
 refine (rBest_any B b.1 _ V (HX.out V (Below.refl _ _)).1 HB1.out HB2.out).mono ?_
 rintro e w1 ⟨rfl,hb1⟩
 rw [HQ1.out,fV_is]
 clear m0 m1 mz
 have hbx:=below1 w1 (.cells (cO q1) 74)
 obtain ⟨X,hX⟩:∃ X,X=w1.alloc (.cells (cO q1) 74):=⟨_,rfl⟩
 have hzX:w1.heap.size<X.heap.size:=by rw [hX];simp
 have hcX:X.cell? ⟨w1.heap.size,3,none⟩=some (.int .i64 (prO q1)):=by rw [hX];simp [go_sem,ho1]
 have hc1:=lH (show ∀ u,Below X.heap.size X u→u.cell? ⟨w1.heap.size,3,none⟩=some (.int .i64 (prO q1))∧w1.heap.size<u.heap.size from fun u hu=>⟨(hu.cell (p:=⟨w1.heap.size,3,none⟩) hzX).trans hcX,Nat.lt_of_lt_of_le hzX hu.size⟩)
 rw [← hX] at hbx
 have HX1:=lH hX
 have hb2:=nx hb1 hbx
 obtain ⟨m0,m1,mz⟩:=HC.out w1 hb1
 clear hX hcX
 go_wp2_with fail
 rw [← HX1.out]
 clear m0 m1 mz
 refine (rBest_any B b.2.1 _ X (HX.out X hb2).2 HB3.out HB4.out).mono ?_
 rintro e w2 ⟨rfl,hb3⟩
 rw [HQ2.out,fV_is]
 obtain ⟨k0,k1⟩:=hc1.out w2 hb3
 go_wp2
 go_region
 go_wp2
 go_ret2
 exact ⟨rfl,(nx hbV (nx hb2 (nx hb3 (below1 _ _)))).drew⟩
end Go.Proofs.YtjhocpcpkemcaaaGreat.Bk
namespace Go.Proofs.YtjhocpcpkemcaaaGreat.Bk
open Go.RowKit
open Rw
open Da
open Ro
open Le
def fOd:Flat Od:=⟨5,cellsO,fun _=>rfl,fun o u hu=>by simp [cellsO] at hu;rcases hu with rfl | rfl | rfl | rfl | rfl<;>rfl⟩
abbrev RowOd (g cap:Nat) (os:List Od) (w:World):Prop:=Row fOd 74 g cap os w
theorem rowOd_of {B:Bs} {Bo:Nat} {os:List Od} {v:Value} {w:World} (h:OwnO B Bo os v w) {a:Nat} (ha:a<os.length):∃ g cap,v=.slice (some ⟨g,0,none⟩) os.length cap∧Bo≤g∧cap≤maxLen∧RowOd g cap os w:=by
 rcases Row.ofOwn (e:=fOd) (show Own fOd.enc 74 B Bo os v w from h) with ⟨_,e⟩ | ⟨g,cap,h1,h2,h3,h4⟩
 ·rw [e] at ha;cases ha
 ·exact ⟨g,cap,h1,h2,h3,h4⟩
def MiL (B:Bs) (Bo:Nat) (l:List Lv) (v:Value) (w:World):Prop:=∃ hs,Is eF 106 B hs v w∧Mine B Bo l hs w
theorem MiL.stays {B:Bs} {Bo:Nat} {l:List Lv} {v:Value} {w w':World} (h:MiL B Bo l v w) (hb:Below w.heap.size w w'):MiL B Bo l v w':=by
 obtain ⟨hs,h1,h2⟩:=h
 exact ⟨hs,Is.stays eF 106 h1 hb,h2.stays hb⟩
theorem mine_lvs {B:Bs} {Bo:Nat} {l:List Lv} {hs:List Hw} {w:World} (hB:B.le Bo) (h:Mine B Bo l hs w):LvS B l hs w :=
 ⟨h.len,fun i x y hx hy=>⟨(h.own i x y hx hy).1,(h.own i x y hx hy).2.is (by decide) hB⟩⟩
def Blk (hs:List Hw) (b:Nat):Prop:=∃ (i:Nat) (y:Hw),hs[i]?=some y∧(hv y).ownBlock=some b
theorem mine_set {B:Bs} {Bo g cap:Nat} {L:List Lv} {hs:List Hw} {W:World} (hB:B.le Bo) (hM:Mine B Bo L hs W) {i k:Nat} {p:Int} {os:List Od} {y:Hw} {o:Od} (hx:L[i]?=some (p,os)) (hy:hs[i]?=some y) (hgv:hv y=.slice (some ⟨g,0,none⟩) os.length cap) (hBg:Bo≤g) (hcap:cap≤maxLen) (hr:RowOd g cap os W) (hk:os[k]?=some o) (n:Int) :
  Mine B Bo (L.set i (p,os.set k (less o n))) hs (W.setCell ⟨g,k*5+4,none⟩ (.int .i64 (olf o - n)))∧Keeps B [106] W (W.setCell ⟨g,k*5+4,none⟩ (.int .i64 (olf o - n))):=by
 have hset:=hr.setCell (i:=k) (j:=4) (x:=o) (y:=less o n) (u:=.int .i64 (olf o - n)) hk (by decide) rfl
 have hgr:=setCell_grown W g (k*5+4) (.int .i64 (olf o - n))
 refine ⟨⟨by rw [List.length_set];exact hM.len,fun j u z hu hz=>?_,hM.apart⟩,hr.keeps (by have:=hB.1;omega) (by decide) hgr⟩
 by_cases e:i=j
 ·subst e
  have hil:i<L.length:=(List.getElem?_eq_some_iff.1 hx).1
  rw [List.getElem?_set_self hil] at hu
  obtain rfl:=Option.some.inj hu
  rw [hy] at hz
  obtain rfl:=Option.some.inj hz
  refine ⟨(hM.own i _ y hx hy).1,?_⟩
  have h2:OwnO B Bo (os.set k (less o n)) (.slice (some ⟨g,0,none⟩) (os.set k (less o n)).length cap) _:=Row.own (e:=fOd) hset hBg hcap
  rw [List.length_set,← hgv] at h2
  exact h2
 ·rw [List.getElem?_set_ne e] at hu
  obtain ⟨h1,h2⟩:=hM.own j u z hu hz
  refine ⟨h1,ownO_grown h2 hgr fun g' hg1 hg2=>?_⟩
  obtain rfl:g=g':=Option.some.inj hg2
  have hyo:(hv y).ownBlock=some g:=by rw [hgv];rfl
  rcases Nat.lt_or_gt_of_ne e with hi | hi
  ·exact hM.apart i j y z g hi hy hz hyo hg1
  ·exact hM.apart j i z y g hi hz hy hg1 hyo
structure FS (B:Bs) (Bo:Nat) (hs0 hs:List Hw) (w:World) (fs:List Fl) (fv t:Value) (L:List Lv) (u:World):Prop where
 is:Is eF 106 B hs t u
 mine:Mine B Bo L hs u
 fl:FL B fs fv u
 alt:Alt (Blk hs0) w u
 new:∀ b,Blk hs b→Blk hs0 b∨w.heap.size≤b
 le:Bo≤u.heap.size
theorem FS.stays {B:Bs} {Bo:Nat} {hs0 hs:List Hw} {w:World} {fs:List Fl} {fv t:Value} {L:List Lv} {u u':World} (h:FS B Bo hs0 hs w fs fv t L u) (hb:Below u.heap.size u u'):FS B Bo hs0 hs w fs fv t L u' :=
 ⟨Is.stays eF 106 h.is hb,h.mine.stays hb,Is.stays eFl 159 h.fl hb,h.alt.trans (Alt.of_below hb),h.new,Nat.le_trans h.le hb.size⟩
theorem FS.set {B:Bs} {Bo g cap:Nat} {hs0 hs:List Hw} {w:World} {fs:List Fl} {fv t:Value} {L:List Lv} {u:World} (hB:B.le Bo) (h:FS B Bo hs0 hs w fs fv t L u) {i k:Nat} {p:Int} {os:List Od} {y:Hw} {o:Od} (hx:L[i]?=some (p,os)) (hy:hs[i]?=some y) (hgv:hv y=.slice (some ⟨g,0,none⟩) os.length cap) (hBg:Bo≤g) (hcap:cap≤maxLen) (hr:RowOd g cap os u) (hk:os[k]?=some o) (n:Int) :
  FS B Bo hs0 hs w fs fv t (L.set i (p,os.set k (less o n))) (u.setCell ⟨g,k*5+4,none⟩ (.int .i64 (olf o - n)))∧∀ q,q≠g→(u.setCell ⟨g,k*5+4,none⟩ (.int .i64 (olf o - n))).heap[q]?=u.heap[q]?:=by
 obtain ⟨m1,m2⟩:=mine_set hB h.mine hx hy hgv hBg hcap hr hk n
 have hgr:=setCell_grown u g (k*5+4) (.int .i64 (olf o - n))
 have hbk:Blk hs g:=⟨i,y,hy,by rw [hgv];rfl⟩
 refine ⟨⟨Is.keep eF 106 h.is m2,m1,Is.keep eFl 159 h.fl (hr.keeps (by have:=hB.1;omega) (by decide) hgr),?_,h.new,by rw [show (u.setCell ⟨g,k*5+4,none⟩ (.int .i64 (olf o - n))).heap.size=u.heap.size by simp];exact h.le⟩,fun q hq=>Below.heap_setCell u ⟨g,k*5+4,none⟩ _ q hq⟩
 refine ⟨h.alt.os,h.alt.tape,h.alt.output,by have:=h.alt.size;simp;omega,fun b hb hx=>?_⟩
 have hne:b≠g:=fun e=>by
  subst e
  rcases h.new b hbk with h1 | h1
  ·exact hx h1
  ·omega
 rw [Below.heap_setCell u ⟨g,k*5+4,none⟩ _ b hne]
 exact h.alt.block b hb hx
theorem atF {B:Bs} {hs:List Hw} {b off:Nat} {w:World} (h:Lies eF 106 B hs b off w) (i:Nat) (hi:i<hs.length) :
  w.cell? ⟨b,off+i*2,none⟩=some (.int .i64 hs[i].1)∧w.cell? ⟨b,off+i*2+1,none⟩=some (hv hs[i]):=by
 obtain ⟨cs,rfl,hu⟩:=h.at i hi
 exact ⟨hu 0 _ rfl,hu 1 _ rfl⟩
theorem FS.anew {B:Bs} {Bo:Nat} {hs0 hs hs2:List Hw} {w V V2:World} {fs:List Fl} {fv t v2:Value} {L L2:List Lv} (h:FS B Bo hs0 hs w fs fv t L V) (hb:Below V.heap.size V V2) (hi:Is eF 106 B hs2 v2 V2) (hm:Mine B V.heap.size L2 hs2 V2):FS B V.heap.size hs0 hs2 w fs fv v2 L2 V2 :=
 ⟨hi,hm,Is.stays eFl 159 h.fl hb,h.alt.trans (Alt.of_below hb),fun b hx=>by
  obtain ⟨i,y,hy,hg⟩:=hx
  have hl:=hm.len
  have hil:i<L2.length:=by have:=(List.getElem?_eq_some_iff.1 hy).1;omega
  have:=(Own.block (hm.own i _ y (List.getElem?_eq_getElem hil) hy).2 _ hg).1
  exact .inr (Nat.le_trans h.alt.size this),hb.size⟩
theorem rem_flat_sub (l:List Lv) (id:Int):(flat (rem l id)).Sublist (flat l):=by
 unfold rem
 rw [flat_rem]
 exact remO_sub id _ _
def FilP (B:Bs) (l:List Lv) (fs:List Fl) (hs0:List Hw) (w:World) (e:Ending) (w':World):Prop:=∃ v,e=.returned v∧LL B (fil l fs) v w'∧Alt (Blk hs0) w w'
theorem fil_snoc {l:List Lv} {fs:List Fl} {j:Nat} (h:j<fs.length):fil l (fs.take (j+1))=fil1 (fil l (fs.take j)) fs[j]:=by
 unfold fil
 rw [Da.take_snoc h,List.foldl_append];rfl
end Go.Proofs.YtjhocpcpkemcaaaGreat.Bk
namespace Go.Proofs.YtjhocpcpkemcaaaGreat.Bk
open Go.RowKit
open Rw
open Da
open Le
theorem set3 {w:World} {b o:Nat} {x y z v:Value} {t:TypeId} (h:w.heap[b]?=some (.cells #[x,y,z] t (0,0))):(w.setCell ⟨b,o,none⟩ v).heap[b]?=some (.cells (#[x,y,z].setIfInBounds o v) t (0,0)):=by
 simp [World.setCell,Array.getElem?_modify,h]
theorem blk_ge {B:Bs} {Bo:Nat} {l:List Lv} {hs:List Hw} {w:World} (h:Mine B Bo l hs w):∀ b,Blk hs b→Bo≤b∧b<w.heap.size:=fun b hx=>by
 obtain ⟨i,y,hy,hg⟩:=hx
 have hl:=h.len
 have hil:i<l.length:=by have:=(List.getElem?_eq_some_iff.1 hy).1;omega
 exact Own.block (h.own i _ y (List.getElem?_eq_getElem hil) hy).2 _ hg
theorem keeps_setRow {B:Bs} {ts:List TypeId} {w:World} {b:Nat} {cur:Array Value} {t:TypeId} {fr:Nat × Nat} (c:Array Value) (h:w.heap[b]?=some (.cells cur t fr)) (ht:t ∉ ts) (hB:B.lo≤b):Keeps B ts w (w.setRow b c) :=
 ⟨by rw [setRow_size];exact Nat.le_refl _,fun i ob hi ho=>by
  by_cases e:i=b
  ·subst e
   rw [h] at hi
   obtain rfl:=Option.some.inj hi
   rcases ho with ho | ⟨_,_,_,he,hm,_⟩
   ·omega
   ·simp only [Obj.cells.injEq] at he
    exact absurd (he.2.1 ▸ hm) ht
  ·exact (setRow_other w b i c e).trans hi⟩
structure MyB (B:Bs) (Bo:Nat) (b:Bk) (x y:Value) (hs1 hs2:List Hw) (w:World):Prop where
 i1:Is eF 106 B hs1 x w
 m1:Mine B Bo b.1 hs1 w
 i2:Is eF 106 B hs2 y w
 m2:Mine B Bo b.2.1 hs2 w
 o1:LL (B.but (Blk hs2)) b.1 x w
 o2:LL (B.but (Blk hs1)) b.2.1 y w
theorem MyB.stays {B:Bs} {Bo:Nat} {b:Bk} {x y:Value} {hs1 hs2:List Hw} {w w':World} (h:MyB B Bo b x y hs1 hs2 w) (hb:Below w.heap.size w w'):MyB B Bo b x y hs1 hs2 w' :=
 ⟨Is.stays eF 106 h.i1 hb,h.m1.stays hb,Is.stays eF 106 h.i2 hb,h.m2.stays hb,Is.stays eL 106 h.o1 hb,Is.stays eL 106 h.o2 hb⟩
theorem MyB.bl {B:Bs} {Bo:Nat} {b:Bk} {x y:Value} {hs1 hs2:List Hw} {w:World} (h:MyB B Bo b x y hs1 hs2 w):BL B b (.agg #[x,y,.int .i64 b.2.2]) w :=
 ⟨x,y,rfl,Is.up eL 106 (Bs.sub_but _ _) h.o1,Is.up eL 106 (Bs.sub_but _ _) h.o2⟩
end Go.Proofs.YtjhocpcpkemcaaaGreat.Bk
