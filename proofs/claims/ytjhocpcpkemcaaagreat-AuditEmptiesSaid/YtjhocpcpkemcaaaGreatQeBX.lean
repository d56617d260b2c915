/- What awake's calls of layer 10 come to; a step. -/
import Derived.Test.YtjhocpcpkemcaaaGreatQeZZ
import Derived.Test.YtjhocpcpkemcaaaGreatQeAF
import Derived.Test.YtjhocpcpkemcaaaGreatQeBB
import Derived.Test.YtjhocpcpkemcaaaGreatQeBQ
import Derived.Test.YtjhocpcpkemcaaaGreatQeBU
import Derived.Test.YtjhocpcpkemcaaaGreatQeAY
import Derived.Test.YtjhocpcpkemcaaaGreatQeBW
import Derived.Test.YtjhocpcpkemcaaaGreatQeBI
import Derived.Great.BuildSlice
set_option linter.unusedVariables false
set_option maxRecDepth 16000
set_option maxHeartbeats 32000000
namespace Go.Proofs.YtjhocpcpkemcaaaGreat.La
open Le
open Bk
open Ac (Hd Pu pmay pmay_iff tot total giveE giveL takeE takeL)
def placeC (l:Ln) (fr:List Hd) (ow s p q:Int) (rest:Bool):PN :=
 let C:=plRes l.2.2.1 ow s p rest (tr ow s p (flat (oth l.2.2.1 s)) q)
 if C.2.2.2.2=0 then
  let S:=stl l.1 l.2.1 s C.2.1 l.2.2.2 0 0
  if S.2.2.2=0 then fin l fr ow s p C S else (l,fr,[],0,S.2.2.2)
 else (l,fr,[],0,C.2.2.2.2)
theorem placeN_eval {l:Ln} {fr:List Hd} {ow s p q:Int} {rest:Bool} (h:RightN l) (hf:Ac.Right fr) (ha:argOk ow s p q=true):placeN l fr ow s p q rest=placeC l fr ow s p q rest:=by
 unfold placeN placeC
 rw [rightN_iff.2 h,Ac.right_iff.2 hf,if_pos (by rfl),place_tr h.book ha]
theorem give_right {l:List Hd} {p:Pu} {n:Int} (h:Ac.Right l):Ac.Right (giveL l p n):=by
 by_cases e:giveE l p n=0
 ·exact (Ac.give_done e).1
 ·rw [Ac.give_none e];exact h
theorem right_newN {b q:Int} (h:pairOk b q=true):RightN (newN b q):=by
 unfold newN
 rw [if_pos h]
 exact ⟨h,Bk.right_new,Ac.Right.nil,rfl⟩
abbrev Op5:=Int × Int × Int × Int × Int
end Go.Proofs.YtjhocpcpkemcaaaGreat.La
namespace Go.Proofs.YtjhocpcpkemcaaaGreat.Ex
open Go.RowKit
open Bk (Bk Fl sumQ bestP argOk)
open La (Ln placeN cancelN collectN RightN rightN rightN_iff newN newE pairOk)
open Ac (Hd Pu giveE giveL takeE takeL)
open Se (Rp Sn z5 fnd noteE noteL mk okS okS_iff)
open Cm (chkE laneB v9)
abbrev Cd:=Nat→Int
noncomputable def runX (x:Xc) (l:List Cd):Xc:=l.foldl (fun y c=>(apply y c).1) x
noncomputable def runR (x:Xc):List Cd→List Rp
 | []=>[]
 | c :: r=>(apply x c).2 :: runR (apply x c).1 r
theorem runX_cons (x:Xc) (c:Cd) (l:List Cd):runX x (c :: l)=runX (apply x c).1 l:=rfl
theorem runX_snoc (x:Xc) (l:List Cd) (c:Cd):runX x (l++[c])=(apply (runX x l) c).1:=by unfold runX;rw [List.foldl_append];rfl
theorem runR_snoc:∀ (l:List Cd) (x:Xc) (c:Cd),runR x (l++[c])=runR x l++[(apply (runX x l) c).2]
 | [],_,_=>rfl
 | d :: r,x,c=>by rw [List.cons_append,runR,runR_snoc r,runX_cons];rfl
theorem runR_len:∀ (l:List Cd) (x:Xc),(runR x l).length=l.length
 | [],_=>rfl
 | _ :: r,_=>by rw [runR,List.length_cons,runR_len r,List.length_cons]
theorem runX_take {x:Xc} {l:List Cd} {k:Nat} (h:k<l.length):runX x (l.take (k+1))=(apply (runX x (l.take k)) l[k]).1:=by
 rw [List.take_succ_eq_append_getElem h,runX_snoc]
theorem runR_take {x:Xc} {l:List Cd} {k:Nat} (h:k<l.length):runR x (l.take (k+1))=runR x (l.take k)++[(apply (runX x (l.take k)) l[k]).2]:=by
 rw [List.take_succ_eq_append_getElem h,runR_snoc]
theorem runX_right:∀ (l:List Cd) {x:Xc},RightX x→RightX (runX x l)
 | [],_,h=>h
 | c :: r,_,h=>runX_right r (apply_keep h c).right
theorem runX_len:∀ (l:List Cd) {x:Xc},RightX x→(runX x l).lanes.length=x.lanes.length
 | [],_,_=>rfl
 | c :: r,_,h=>(runX_len r (apply_keep h c).right).trans (apply_keep h c).len
abbrev x0:Xc:=⟨[],[(1,0,([],[],1),[]),(2,0,([],[],1),[])],[],[],[]⟩
abbrev x1:Xc:=⟨[(1,0,100)],[(1,0,([],[],1),[]),(2,0,([],[],1),[])],[(1,1,1,1,0,100,0)],[(1,0,100)],[]⟩
abbrev x2:Xc:=⟨[(1,0,50)],[(1,0,([(10,[(1,1,1,10,5)])],[],2),[]),(2,0,([],[],1),[])],[(1,2,1,2,0,1,0)],[(1,0,100)],[]⟩
abbrev k1:Cd:=v9 1 1 1 0 0 0 0 0 100
abbrev k2:Cd:=v9 1 2 3 0 0 0 1 10 5
abbrev k3:Cd:=v9 1 1 7 0 0 0 0 0 0
theorem r0:RightX x0:=by
 refine ⟨by decide,?_,Ac.Right.nil,Ac.Right.nil,Ac.Right.nil,Se.Right.nil⟩
 intro l hl
 rcases List.mem_cons.1 hl with rfl | hl
 ·exact La.right_newN (b:=1) (q:=0) rfl
 ·obtain rfl:=List.mem_singleton.1 hl
  exact La.right_newN (b:=2) (q:=0) rfl
theorem q0:Quiet x0:=fun _ h=>nomatch h
theorem apply_do {x:Xc} {c:Cd} (hx:RightX x) (h:chkE c=0) (h0:c 2≠0) (hl:(Se.look (c 0) (c 1) x.sess).2=8):apply x c=({ (exec x c).1 with sess:=noteL (exec x c).1.sess (rep c (exec x c).2) },rep c (exec x c).2):=by
 unfold apply
 rw [if_pos ⟨rightX_iff.2 hx,h⟩,if_neg h0,if_neg (by rw [hl];decide),if_neg (by rw [hl];decide)]
theorem a1:apply x0 k1=(x1,(1,1,0,100,0)):=by
 rw [apply_do r0 (by kernel_rfl) (by decide) (by kernel_rfl)]
 have e:exec x0 k1=(⟨[(1,0,100)],[(1,0,([],[],1),[]),(2,0,([],[],1),[])],[],[(1,0,100)],[]⟩,0,100,0):=by
  show execP x0 k1=_
  kernel_rfl
 rw [e]
 have n:noteL [] (rep k1 (0,100,0))=[(1,1,1,1,0,100,0)]:=by kernel_rfl
 show (({ free:=[(1,0,100)],lanes:=[(1,0,([],[],1),[]),(2,0,([],[],1),[])],sess:=noteL [] (rep k1 (0,100,0)),inn:=[(1,0,100)],out:=[] }:Xc),rep k1 (0,100,0))=_
 rw [n];rfl
theorem r1:RightX x1:=by have:=(apply_keep r0 k1).right;rw [a1] at this;exact this
theorem act2:act (1,0,([],[],1),[]) [(1,0,100)] k2=((1,0,([(10,[(1,1,1,10,5)])],[],2),[]),[(1,0,50)],0,1,0):=by
 have e:placeN (1,0,([],[],1),[]) [(1,0,100)] 1 1 10 5 true=((1,0,([(10,[(1,1,1,10,5)])],[],2),[]),[(1,0,50)],[],1,0) :=
  (La.placeN_eval (r1.lane _ List.mem_cons_self) r1.free (by decide)).trans (by kernel_rfl)
 unfold act
 rw [if_pos (.inl rfl)]
 show ((placeN (1,0,([],[],1),[]) [(1,0,100)] 1 1 10 5 true).1,(placeN (1,0,([],[],1),[]) [(1,0,100)] 1 1 10 5 true).2.1,(placeN (1,0,([],[],1),[]) [(1,0,100)] 1 1 10 5 true).2.2.2.2,(placeN (1,0,([],[],1),[]) [(1,0,100)] 1 1 10 5 true).2.2.2.1,sumQ (placeN (1,0,([],[],1),[]) [(1,0,100)] 1 1 10 5 true).2.2.1)=_
 rw [e];rfl
theorem a2:apply x1 k2=(x2,(1,2,0,1,0)):=by
 rw [apply_do r1 (by kernel_rfl) (by decide) (by kernel_rfl)]
 have e:exec x1 k2=(⟨[(1,0,50)],[(1,0,([(10,[(1,1,1,10,5)])],[],2),[]),(2,0,([],[],1),[])],[(1,1,1,1,0,100,0)],[(1,0,100)],[]⟩,0,1,0):=by
  show execL x1 k2=_
  have h:x1.lanes[(k2 3).toNat]?=some (1,0,([],[],1),[]):=rfl
  unfold execL
  rw [h]
  show ({ x1 with lanes:=x1.lanes.set 0 (act (1,0,([],[],1),[]) [(1,0,100)] k2).1,free:=(act (1,0,([],[],1),[]) [(1,0,100)] k2).2.1 },(act (1,0,([],[],1),[]) [(1,0,100)] k2).2.2)=((_,_):Xc × _)
  rw [act2];rfl
 rw [e]
 have n:noteL [(1,1,1,1,0,100,0)] (rep k2 (0,1,0))=[(1,2,1,2,0,1,0)]:=by kernel_rfl
 show (({ free:=[(1,0,50)],lanes:=[(1,0,([(10,[(1,1,1,10,5)])],[],2),[]),(2,0,([],[],1),[])],sess:=noteL [(1,1,1,1,0,100,0)] (rep k2 (0,1,0)),inn:=[(1,0,100)],out:=[] }:Xc),rep k2 (0,1,0))=_
 rw [n];rfl
theorem r2:RightX x2:=by have:=(apply_keep r1 k2).right;rw [a2] at this;exact this
theorem a3:apply x2 k2=(x2,(1,2,0,1,0)):=apply_again r2 (by kernel_rfl) (by decide) (s:=(1,2,1,2,0,1,0)) rfl rfl
theorem a4:apply x2 k3=(x2,(1,1,13,0,0)):=by
 unfold apply
 rw [if_pos ⟨rightX_iff.2 r2,by kernel_rfl⟩,if_neg (by decide),if_neg (by decide),if_pos (by kernel_rfl)]
 rfl
end Go.Proofs.YtjhocpcpkemcaaaGreat.Ex
namespace Go.Proofs.YtjhocpcpkemcaaaGreat.Ex
open Le (Lv flat flat_cons)
open La (Ln RightN)
open Bk (cntB)
open Se (Rp Sn okS_iff)
theorem lv_flat:∀ {l:List Lv},(∀ v∈l,v.2≠[])→l.length≤(flat l).length
 | [],_=>Nat.zero_le _
 | v :: r,h=>by
  have h2:=lv_flat (l:=r) fun x hx=>h x (List.mem_cons_of_mem _ hx)
  have h3:=List.length_pos_iff.2 (h v List.mem_cons_self)
  rw [flat_cons,List.length_append,List.length_cons];omega
theorem smN {l:Ln} (h:RightN l):La.Sm l:=by
 have hb:=h.book
 have hc:=hb.cnt
 unfold cntB at hc
 have h1:l.2.2.1.1.length≤(flat l.2.2.1.1).length:=lv_flat fun v hv=>(hb.buys.2.1 v hv).1
 have h2:l.2.2.1.2.1.length≤(flat l.2.2.1.2.1).length:=lv_flat fun v hv=>(hb.sells.2.1 v hv).1
 have h3:=Ac.right_512 h.owed
 exact ⟨by omega,by omega,by omega,by omega,by omega⟩
theorem sess_len:∀ {l:List Sn} (m:Int),Se.Right l→(∀ s∈l,m≤s.1)→m≤64→(l.length:Int)≤64 - m
 | [],m,_,_,hm=>by simp;omega
 | s :: r,m,hr,hb,_=>by
  obtain ⟨a,b,c⟩:=Se.Right.cons.1 hr
  have g:=okS_iff.1 a
  have g1:0≤s.1∧s.1≤63:=by have:=g.1;omega
  have hm:=hb s List.mem_cons_self
  have:=sess_len (s.1+1) c (fun k hk=>by have:=b k hk;omega) (by omega)
  rw [List.length_cons];omega
theorem sess_64 {l:List Sn} (h:Se.Right l):l.length≤64:=by
 have:=sess_len 0 h (fun s hs=>by have:=(okS_iff.1 (h.1 s hs)).1;omega) (by omega)
 omega
theorem smX_right {x:Xc} (h:RightX x):SmX x :=
 ⟨Nat.le_trans (Ac.right_512 h.free) (by decide),Nat.le_trans h.few (by decide),Nat.le_trans (sess_64 h.sess) (by decide),Nat.le_trans (Ac.right_512 h.inn) (by decide),Nat.le_trans (Ac.right_512 h.out) (by decide),fun l hl=>smN (h.lane l hl)⟩
theorem apply_sm {x:Xc} (h:SmX x) (c:Nat→Int):SmX (apply x c).1:=by
 by_cases hr:rightX x=true
 ·exact smX_right (apply_keep (rightX_iff.1 hr) c).right
 ·unfold apply;rw [if_neg (fun k=>hr k.1)];exact h
end Go.Proofs.YtjhocpcpkemcaaaGreat.Ex
namespace Go.Proofs.YtjhocpcpkemcaaaGreat.Ex
open Go.RowKit
open Rw
open Da
open Ro (Flat Row)
open Le (low_setCell keeps_setCell)
open Cm (fc fc_at v9)
open Se (Rp z5 cR)
def eC:Enc Cd:=Enc.flat 9 (fun c=>(fc c).toList) (fun c=>by simp [Cm.fc_size]) (fun c u hu=>by rw [Cm.fc_list] at hu;simp at hu;rcases hu with rfl | rfl | rfl | rfl | rfl | rfl | rfl | rfl | rfl<;>rfl)
abbrev CL (B:Bs) (l:List Cd) (v:Value) (w:World):Prop:=Is eC 35 B l v w
def fR:Flat Rp:=⟨5,fun r=>[.int .i64 r.1,.int .i64 r.2.1,.int .i64 r.2.2.1,.int .i64 r.2.2.2.1,.int .i64 r.2.2.2.2],fun _=>rfl,fun r u hu=>by simp at hu;rcases hu with rfl | rfl | rfl | rfl | rfl<;>rfl⟩
abbrev eRp:Enc Rp:=fR.enc
def Nine (c:Cd):Prop:=∃ a0 a1 a2 a3 a4 a5 a6 a7 a8,c=v9 a0 a1 a2 a3 a4 a5 a6 a7 a8
theorem atC {B:Bs} {l:List Cd} {b off:Nat} {w:World} (h:Lies eC 35 B l b off w) (i:Nat) (hi:i<l.length) (j:Nat) (hj:j<9):w.cell? ⟨b,off+i*9+j,none⟩=some (.int .i64 (l[i] j)):=by
 obtain ⟨cs,hc,hu⟩:=h.at i hi
 obtain rfl:cs=(fc l[i]).toList:=hc
 exact hu j _ (by rw [Array.getElem?_toList];exact fc_at _ j hj)
theorem Row.lot {α:Type} {e:Flat α} {T:TypeId} {n Bo g cap:Nat} {xs:List α} {w:World} (h:Row e T g cap xs w) (hB:Bo≤g) (hn:n≤g):Lot e.enc T n Bo g xs w:=by
 obtain ⟨cur,hg,_,_⟩:=h.ex
 exact ⟨⟨h.lt,.inr ⟨⟨_,hg⟩,fun h=>h⟩,fun i x hx=>⟨e.f x,rfl,fun j u hu=>by rw [Nat.zero_add];exact h.cell hx hu⟩⟩,⟨_,hg⟩,hB,hn⟩
theorem infoR:(Tryz.prog.info? 37).map (fun i=>(i.zero,i.size,i.bytes))=some (some (.agg #[.int .i64 0,.int .i64 0,.int .i64 0,.int .i64 0,.int .i64 0]),5,40):=by kernel_rfl
theorem make_replies (m:Nat) (hm:m≤1000000) (w:World):(Instr.makeSlice 41 (.int .i64 m) (.int .i64 m)).run Tryz.prog w=.ok (.slice (some ⟨w.heap.size,0,none⟩) m m) (w.alloc (.cells (madeCells #[.int .i64 0,.int .i64 0,.int .i64 0,.int .i64 0,.int .i64 0] (m*5)) 37)):=by
 obtain ⟨i,h1,h2,h3,h4⟩:=info_parts infoR
 have:=run_make (P:=Tryz.prog) w 41 37 i _ Tryz.underlying41 h1 h2 .i64 .i64 m m (by omega) (Int.le_refl _) (by rw [h4];omega) (by omega)
 rw [h3] at this
 simpa [Value.cells] using this
theorem storeMidR (ρ:Operand→Value) (dst:Option Tmp) (ty:TypeId) (pos:String) (after:Array Edge) (guard:Option (Nat × Bool)) (w:World) (p x:Operand) (h:thereOf w (ρ p) 5) (hs:(ρ x).cells.size=5) (h1:oneAll (ρ x)=true) (ha:ρ x=.agg (ρ x).cells) :
  (execOp ρ { dst,op:=.store 37 p x,type:=ty,pos,after,guard }).run Tryz.prog w=.ok .skip (putMid w (ρ p) (ρ x).cells):=by
 generalize hp:ρ p=P at h ⊢
 generalize hv:ρ x=X at hs h1 ha ⊢
 match P,h with
 | .pointer (some ⟨b,o,none⟩),h =>
  have:=run_storeAt_mid (P:=Tryz.prog) w b o 37 X.cells (by rw [hs];exact h) (by rw [hs];kernel_rfl) h1
  rw [← ha] at this
  simp [execOp,hp,hv,this,putMid]
attribute [local go_sem ↓] storeMidR
theorem Lot.put {α:Type} {e:Enc α} {T:TypeId} {n Bo g:Nat} {l:List α} {w:World} (h:Lot e T n Bo g l w) (hT:T ∉ e.ts) {i:Nat} (hi:i<l.length) {x:α} {cs:List Value} (hR:e.R (Bs.of n) x cs w) :
  w.there g (i*e.k) e.k∧Lot e T n Bo g (l.set i x) (w.setCells g (i*e.k) cs)∧∀ ts,T ∉ ts→Da.Keeps (Bs.of n) ts w (w.setCells g (i*e.k) cs):=by
 obtain ⟨cur,hg⟩:=h.ty
 have h1:=Lies.there h.ls hg hi
 have h2:=Lies.setAt h.ls hg (fun h=>h) h.lo hT hi hR
 simp only [Nat.zero_add] at h1 h2
 obtain ⟨cur',hg'⟩:=heap_cells g T (0,0) cs (i*e.k) w cur hg
 exact ⟨h1,⟨h2,⟨cur',hg'⟩,h.bo,h.lo⟩,fun ts ht=>keeps_cells g T (0,0) ht h.lo _ _ w cur hg⟩
def PostRn (n:Nat) (y:Xc) (rs:List Rp) (w:World) (e:Ending) (w':World):Prop:=∃ v g c,e=.returned (.tuple #[v,.slice (some ⟨g,0,none⟩) rs.length c])∧Below w.heap.size w w'∧XV n y v w'∧Lot eRp 37 n w.heap.size g rs w'
theorem set_rep {α:Type} (xs:List α) (z y:α) {N k:Nat} (hk:k<N) (hl:xs.length=k):(xs++List.replicate (N - k) z).set k y=(xs++[y])++List.replicate (N - (k+1)) z:=by
 obtain ⟨m,hm⟩:∃ m,N - k=m+1:=⟨N - k - 1,by omega⟩
 rw [hm,show N - (k+1)=m by omega,List.replicate_succ,List.set_append_right _ _ (by omega),hl,Nat.sub_self]
 simp
structure RunS (n b N g:Nat) (x:Xc) (l:List Cd) (k:Nat) (w u:World):Prop where
 bx:∃ f l' s i o,XB n (runX x (l.take k)) f l' s i o b u
 z:u.heap[b+1]?=some (.cells #[.slice none 0 0,.slice none 0 0,.slice none 0 0,.slice none 0 0,.slice none 0 0] 28 (0,0))
 lot:Lot eRp 37 n b g (runR x (l.take k)++List.replicate (N - k) z5) u
 bel:Below b w u
 ne:g≠b∧g≠b+1
theorem RunS.next {n b N g:Nat} {x:Xc} {l:List Cd} {k:Nat} {w u u2 X Y:World} {A:Xc × Rp} {f l' s i o:Value} (h:RunS n b N g x l k w u) (hn:n≤b) (hkl:k<l.length) (hN:N=l.length) (hA:apply (runX x (l.take k)) l[k]=A) (hb:Below u.heap.size u u2) (d:XD n A.1 f l' s i o u2)
  (hX:X=u2.setRow b #[f,l',s,i,o]) (hY:Y=X.setCells g (k*5) [.int .i64 A.2.1,.int .i64 A.2.2.1,.int .i64 A.2.2.2.1,.int .i64 A.2.2.2.2.1,.int .i64 A.2.2.2.2.2]):Rw.plain 5 u2 b=true∧X.there g (k*5) 5∧RunS n b N g x l (k+1) w Y:=by
 obtain ⟨⟨f0,l0,s0,i0,o0,hx⟩,hz,hlot,hbel,hg1,hg2⟩:=h
 have hx2:=hx.stays hb
 have hz2:=(hb.block _ (lt_of_some hz)).trans hz
 have hl2:=hlot.stays hb
 have hlen:(runR x (l.take k)).length=k:=by rw [runR_len,List.length_take];omega
 have hXb:X.heap[b]?=some (.cells #[f,l',s,i,o] 28 (0,0)):=by rw [hX];exact setRow_heap u2 _ _ _ _ _ hx2.bk
 have hXo:∀ j,j≠b→X.heap[j]?=u2.heap[j]?:=fun j hj=>by rw [hX];exact setRow_other u2 b j _ hj
 have kX:∀ ts,28 ∉ ts→Da.Keeps (Bs.of n) ts u2 X:=fun ts ht=>by rw [hX];exact Bk.keeps_setRow (B:=Bs.of n) _ hx2.bk ht hn
 have hlX:Lot eRp 37 n b g (runR x (l.take k)++List.replicate (N - k) z5) X:=by
  obtain ⟨cur,hc⟩:=hl2.ty
  exact ⟨Lies.keep _ _ hl2.ls (kX _ (by decide)),⟨cur,(hXo g hg1).trans hc⟩,hl2.bo,hl2.lo⟩
 obtain ⟨t1,t2,t3⟩:=hlX.put (by decide) (i:=k) (by rw [List.length_append,List.length_replicate];omega) (x:=A.2) (cs:=[.int .i64 A.2.1,.int .i64 A.2.2.1,.int .i64 A.2.2.2.1,.int .i64 A.2.2.2.2.1,.int .i64 A.2.2.2.2.2]) rfl
 have hYo:∀ j,j≠g→Y.heap[j]?=X.heap[j]?:=fun j hj=>by rw [hY];exact other_cells g j hj _ _ X
 have t1:X.there g (k*5) 5:=t1
 have t2:Lot eRp 37 n b g ((runR x (l.take k)++List.replicate (N - k) z5).set k A.2) Y:=by rw [hY];exact t2
 have t3:∀ ts,37 ∉ ts→Da.Keeps (Bs.of n) ts X Y:=fun ts ht=>by rw [hY];exact t3 ts ht
 refine ⟨plain_is hx2.bk rfl,t1,⟨f,l',s,i,o,?_⟩,?_,?_,?_,hg1,hg2⟩
 ·rw [runX_take hkl,hA]
  exact ⟨(hYo b (Ne.symm hg1)).trans hXb,hn,(d.keep (kX _ (by decide))).keep (t3 _ (by decide))⟩
 ·exact (hYo _ (Ne.symm hg2)).trans ((hXo _ (by omega)).trans hz2)
 ·rw [runR_take hkl,hA,← set_rep _ _ _ (by omega) hlen];exact t2
 ·rw [hY,hX]
  exact ((hbel.trans (hb.mono (Nat.le_of_lt hx.lt))).trans (by exact below_setRow (Below.refl _ _) (Nat.le_refl _) _)).trans (low_cells g b hl2.bo _ _ _)
theorem runX_sm (l:List Cd) {x:Xc} (h:SmX x):SmX (runX x l):=by
 induction l generalizing x with
 | nil=>exact h
 | cons c r ih=>exact ih (apply_sm h c)
theorem runX_any (n:Nat) (x:Xc) (v:Value) (l:List Cd) (u:Value) (w:World) (h:XV n x v w) (hn:n≤w.heap.size) (hs:SmX x) (hl:CL (Bs.of w.heap.size) l u w) (hm:l.length≤100000) (h9:∀ c∈l,Nine c) :
  Calls Tryz.prog 18 #[v,u] w (PostRn n (runX x l) (runR x l) w):=by
 obtain ⟨_,_,_,_,_,rfl,hd⟩:=h
 obtain ⟨a1,d1,a2,d2,a3,d3,a4,d4,a5,d5,rfl,rfl,rfl,rfl,rfl⟩:=hd.open'
 obtain ⟨n1,q1⟩:∃ q,x.free.length=q:=⟨_,rfl⟩
 obtain ⟨n2,q2⟩:∃ q,x.lanes.length=q:=⟨_,rfl⟩
 obtain ⟨n3,q3⟩:∃ q,x.sess.length=q:=⟨_,rfl⟩
 obtain ⟨n4,q4⟩:∃ q,x.inn.length=q:=⟨_,rfl⟩
 obtain ⟨n5,q5⟩:∃ q,x.out.length=q:=⟨_,rfl⟩
 rw [q1,q2,q3,q4,q5] at hd ⊢
 obtain ⟨ca,cc,rfl,hel⟩:=hl
 obtain ⟨N,hN⟩:∃ N,N=l.length:=⟨_,rfl⟩
 rw [← hN] at hm ⊢
 obtain ⟨W,hW⟩:∃ W,W=(w.alloc (.cells #[.slice a1 n1 d1,.slice a2 n2 d2,.slice a3 n3 d3,.slice a4 n4 d4,.slice a5 n5 d5] 28)).alloc (.cells #[.slice none 0 0,.slice none 0 0,.slice none 0 0,.slice none 0 0,.slice none 0 0] 28):=⟨_,rfl⟩
 have hbW:Below w.heap.size w W:=hW ▸ below2 w _ _
 have hzW:W.heap.size=w.heap.size+2:=by rw [hW];simp
 have hmk:=make_replies N (by omega) W
 rw [hzW] at hmk
 obtain ⟨V,hV⟩:∃ V,V=W.alloc (.cells (madeCells #[.int .i64 0,.int .i64 0,.int .i64 0,.int .i64 0,.int .i64 0] (N*5)) 37):=⟨_,rfl⟩
 have hbV:Below w.heap.size w V:=nx hbW (hV ▸ below1 W _)
 rw [← hV] at hmk
 have S0:=lH (show RunS n w.heap.size N (w.heap.size+2) x l 0 w V from by
  have hx0:XB n x (.slice a1 n1 d1) (.slice a2 n2 d2) (.slice a3 n3 d3) (.slice a4 n4 d4) (.slice a5 n5 d5) w.heap.size W:=by rw [hW];exact (XB.made hd hn).stays (below1 _ _)
  refine ⟨⟨_,_,_,_,_,hx0.stays (hV ▸ below1 W _)⟩,?_,?_,hbV,by omega,by omega⟩
  ·rw [hV,heap_al,if_neg (by omega),hW,heap_al,if_pos (by simp)]
  ·have:=Ro.Row.made (e:=fR) (T:=37) (w:=W) (n:=N) (z:=#[.int .i64 0,.int .i64 0,.int .i64 0,.int .i64 0,.int .i64 0]) z5 rfl (by decide)
   rw [hzW] at this
   rw [hV]
   exact Row.lot this (Nat.le_add_right _ _) (by omega))
 have HEl:=lH hel
 have HN:=lH hN
 have H9:=lH h9
 have HS:=lH hs
 have Hn:=lH hn
 rw [hW] at hmk
 have HV:=lH hV
 clear hd hs hel hN h9 hV hW hbW hzW hbV q1 q2 q3 q4 q5 hn
 go_enter Tryz.func18,Tryz.ntmps18
 go_wp2
 clear hmk
 go_loopw [7,14] (fun _ i wr=>∃ k:Nat,k≤N∧i=.int .i64 k∧RunS n w.heap.size N (w.heap.size+2) x l k w wr) (fun _ i _=>N - (intOf i).toNat)
 case atStart=>exact ⟨0,Nat.zero_le _,rfl,S0.out⟩
 case round =>
  obtain ⟨k,hk,rfl,hS⟩:=hrel
  obtain ⟨⟨f,l',s,i,o,hx⟩,hz,hlot,hbel,_⟩:=hS
  obtain ⟨b1,c1,b2,c2,b3,c3,b4,c4,b5,c5,rfl,rfl,rfl,rfl,rfl⟩:=hx.d.open'
  obtain ⟨y,hy⟩:∃ y,runX x (l.take k)=y:=⟨_,rfl⟩
  rw [hy] at hx
  obtain ⟨n1,q1⟩:∃ q,y.free.length=q:=⟨_,rfl⟩
  obtain ⟨n2,q2⟩:∃ q,y.lanes.length=q:=⟨_,rfl⟩
  obtain ⟨n3,q3⟩:∃ q,y.sess.length=q:=⟨_,rfl⟩
  obtain ⟨n4,q4⟩:∃ q,y.inn.length=q:=⟨_,rfl⟩
  obtain ⟨n5,q5⟩:∃ q,y.out.length=q:=⟨_,rfl⟩
  rw [q1,q2,q3,q4,q5] at hx
  have HX:=lH hx
  have Hz:=lH hz
  have HLt:=lH hlot
  have HB:=lH hbel
  have Hy:=lH hy
  clear hx hz hlot hbel hy q1 q2 q3 q4 q5
  by_cases hlt:k<N
  ·have hlt2:(k:Int)<N:=by omega
   have hkl:k<l.length:=by rw [← HN.out];exact hlt
   rcases HEl.out with ⟨e,_⟩ | ⟨cb,off,rfl,hat⟩
   ·rw [e] at hkl;cases hkl
   have hat2:=Lies.keep eC 35 hat (Keeps.of_below (B:=Bs.of w.heap.size) (HB.out.trans (Below.refl _ _)))
   have hcb:=hat2.1
   obtain ⟨e0,e1,e2,e3,e4,e5,e6,e7,e8,hc⟩:=H9.out _ (List.getElem_mem hkl)
   have q0:wr.cell? ⟨cb,off+k*9,none⟩=some (.int .i64 e0):=by have:=atC hat2 k hkl 0 (by decide);rw [hc] at this;exact this
   have q1:wr.cell? ⟨cb,off+k*9+1,none⟩=some (.int .i64 e1):=by have:=atC hat2 k hkl 1 (by decide);rw [hc] at this;exact this
   have q2:wr.cell? ⟨cb,off+k*9+2,none⟩=some (.int .i64 e2):=by have:=atC hat2 k hkl 2 (by decide);rw [hc] at this;exact this
   have q3:wr.cell? ⟨cb,off+k*9+3,none⟩=some (.int .i64 e3):=by have:=atC hat2 k hkl 3 (by decide);rw [hc] at this;exact this
   have q4:wr.cell? ⟨cb,off+k*9+4,none⟩=some (.int .i64 e4):=by have:=atC hat2 k hkl 4 (by decide);rw [hc] at this;exact this
   have q5:wr.cell? ⟨cb,off+k*9+5,none⟩=some (.int .i64 e5):=by have:=atC hat2 k hkl 5 (by decide);rw [hc] at this;exact this
   have q6:wr.cell? ⟨cb,off+k*9+6,none⟩=some (.int .i64 e6):=by have:=atC hat2 k hkl 6 (by decide);rw [hc] at this;exact this
   have q7:wr.cell? ⟨cb,off+k*9+7,none⟩=some (.int .i64 e7):=by have:=atC hat2 k hkl 7 (by decide);rw [hc] at this;exact this
   have q8:wr.cell? ⟨cb,off+k*9+8,none⟩=some (.int .i64 e8):=by have:=atC hat2 k hkl 8 (by decide);rw [hc] at this;exact this
   obtain ⟨A,hA⟩:∃ A,apply y (v9 e0 e1 e2 e3 e4 e5 e6 e7 e8)=A:=⟨_,rfl⟩
   obtain ⟨V2,hV2⟩:∃ V,V=wr.alloc (.cells (fc (v9 e0 e1 e2 e3 e4 e5 e6 e7 e8)) 35):=⟨_,rfl⟩
   have hbV2:Below wr.heap.size wr V2:=hV2 ▸ below1 wr _
   have hrb:row V2 w.heap.size=#[.slice b1 n1 c1,.slice b2 n2 c2,.slice b3 n3 c3,.slice b4 n4 c4,.slice b5 n5 c5]:=(HX.out.stays hbV2).row
   have hrc:row V2 wr.heap.size=fc (v9 e0 e1 e2 e3 e4 e5 e6 e7 e8):=by rw [hV2];exact row_is (heap_alloc_new _ _)
   have hlb:w.heap.size<wr.heap.size:=HX.out.lt
   have HAp:=lH (hA ▸ applyX_any n y _ (v9 e0 e1 e2 e3 e4 e5 e6 e7 e8) V2 ⟨_,_,_,_,_,rfl,(HX.out.stays hbV2).d⟩ (by have:=hbV2.size;have:=Hn.out;omega) (by rw [← Hy.out];exact runX_sm _ HS.out))
   have HA:=lH (show apply (runX x (l.take k)) l[k]=A from by rw [Hy.out,hc,hA])
   have HS2:=lH (show RunS n w.heap.size N (w.heap.size+2) x l k w wr from ⟨⟨_,_,_,_,_,by rw [Hy.out];exact HX.out⟩,Hz.out,HLt.out,HB.out,by omega,by omega⟩)
   have HKl:=lH hkl
   have HBV2:=lH hbV2
   have HV2:=lH hV2
   rw [hV2] at hrb hrc
   clear hA hc hat hat2 hV2 hbV2
   go_wp2_with fail
   rw [← HV2.out]
   clear q0 q1 q2 q3 q4 q5 q6 q7 q8 hrb hrc
   refine HAp.out.mono ?_
   rintro e w2 ⟨v2,rfl,hb2,hx2⟩
   obtain ⟨_,_,_,_,_,rfl,dy⟩:=hx2
   obtain ⟨u1,k1,u2,k2,u3,k3,u4,k4,u5,k5,rfl,rfl,rfl,rfl,rfl⟩:=dy.open'
   obtain ⟨X,hX⟩:∃ X,X=w2.setRow w.heap.size #[.slice u1 A.1.free.length k1,.slice u2 A.1.lanes.length k2,.slice u3 A.1.sess.length k3,.slice u4 A.1.inn.length k4,.slice u5 A.1.out.length k5]:=⟨_,rfl⟩
   obtain ⟨Y,hY⟩:∃ Y,Y=X.setCells (w.heap.size+2) (k*5) [.int .i64 A.2.1,.int .i64 A.2.2.1,.int .i64 A.2.2.2.1,.int .i64 A.2.2.2.2.1,.int .i64 A.2.2.2.2.2]:=⟨_,rfl⟩
   obtain ⟨p1,p2,p3⟩:=HS2.out.next Hn.out hkl HN.out HA.out (nx HBV2.out hb2) dy hX hY
   have HF:=lH p3
   have HY:=lH (show Y=(w2.setRow w.heap.size #[.slice u1 A.1.free.length k1,.slice u2 A.1.lanes.length k2,.slice u3 A.1.sess.length k3,.slice u4 A.1.inn.length k4,.slice u5 A.1.out.length k5]).setCells (w.heap.size+2) (k*5) [.int .i64 A.2.1,.int .i64 A.2.2.1,.int .i64 A.2.2.2.1,.int .i64 A.2.2.2.2.1,.int .i64 A.2.2.2.2.2] from by rw [hY,hX])
   rw [hX] at p2
   clear p3 hX hY dy hb2
   go_wp2
   go_roundw
   case rel=>exact ⟨k+1,by omega,by go_num,by first | exact HF.out | (rw [← HY.out];exact HF.out)⟩
   case measure=>simp [intOf];omega
  ·obtain rfl:k=N:=by omega
   have r1:=HX.out.row
   have p1:plain 5 wr (w.heap.size+1)=true:=plain_is Hz.out rfl
   obtain ⟨Z,hZ⟩:∃ Z,Z=wr.setRow (w.heap.size+1) #[.slice b1 n1 c1,.slice b2 n2 c2,.slice b3 n3 c3,.slice b4 n4 c4,.slice b5 n5 c5]:=⟨_,rfl⟩
   have kZ:∀ ts,28 ∉ ts→Da.Keeps (Bs.of n) ts wr Z:=fun ts ht=>by rw [hZ];exact Bk.keeps_setRow (B:=Bs.of n) _ Hz.out ht (Nat.le_succ_of_le Hn.out)
   have ht:l.take k=l:=by rw [HN.out,List.take_length]
   have hlot:=HLt.out
   rw [ht,Nat.sub_self,List.replicate_zero,List.append_nil] at hlot
   have hyl:runX x l=y:=by rw [← Hy.out,ht]
   have HF:=lH (show Below w.heap.size w Z∧XV n (runX x l) (.agg #[.slice b1 n1 c1,.slice b2 n2 c2,.slice b3 n3 c3,.slice b4 n4 c4,.slice b5 n5 c5]) Z∧Lot eRp 37 n w.heap.size (w.heap.size+2) (runR x l) Z∧row Z (w.heap.size+1)=#[.slice b1 n1 c1,.slice b2 n2 c2,.slice b3 n3 c3,.slice b4 n4 c4,.slice b5 n5 c5] from
    ⟨by rw [hZ];exact below_setRow HB.out (Nat.le_succ _) _,by rw [hyl];exact ⟨_,_,_,_,_,rfl,HX.out.d.keep (kZ _ (by decide))⟩,by
     obtain ⟨cur,hc⟩:=hlot.ty
     exact ⟨Lies.keep _ _ hlot.ls (kZ _ (by decide)),⟨cur,by rw [hZ];exact (setRow_other wr _ _ _ (by omega)).trans hc⟩,hlot.bo,hlot.lo⟩,by rw [hZ];exact row_set _ p1⟩)
   have HZ:=lH hZ
   have HL:=lH (show (runR x l).length=k from by rw [runR_len,HN.out])
   clear hZ kZ ht hlot hyl
   go_wp2
   rw [← HZ.out]
   refine bodyPost_ret (v:=.tuple #[.agg #[.slice b1 n1 c1,.slice b2 n2 c2,.slice b3 n3 c3,.slice b4 n4 c4,.slice b5 n5 c5],.slice (some ⟨w.heap.size+2,0,none⟩) k k]) (ret_X2 Tryz.results18 _ _ rfl ?c1) rfl ⟨_,_,_,by rw [HL.out],HF.out.1,HF.out.2.1,HF.out.2.2.1⟩
   case c1=>exact HF.out.2.2.2
end Go.Proofs.YtjhocpcpkemcaaaGreat.Ex
namespace Go.Proofs.YtjhocpcpkemcaaaGreat.Ex
open Go.RowKit
open Rw
open Da
open Le (low_setCell keeps_setCell)
open La (Ln LN cN newN newE pairOk eH hl_is is_hl)
open Ac (Hd Pu HL)
def eU:Enc Pu:=Enc.flat 2 (fun p=>[.int .i64 p.1,.int .i64 p.2]) (fun _=>rfl) (fun p u hu=>by simp at hu;rcases hu with rfl | rfl<;>rfl)
abbrev UL (B:Bs) (l:List Pu) (v:Value) (w:World):Prop:=Is eU 50 B l v w
theorem atU {B:Bs} {l:List Pu} {b off:Nat} {w:World} (h:Lies eU 50 B l b off w) (i:Nat) (hi:i<l.length):w.cell? ⟨b,off+i*2,none⟩=some (.int .i64 l[i].1)∧w.cell? ⟨b,off+i*2+1,none⟩=some (.int .i64 l[i].2):=by
 obtain ⟨cs,rfl,hu⟩:=h.at i hi
 exact ⟨hu 0 _ rfl,hu 1 _ rfl⟩
def okP (p:Pu):Bool:=pairOk p.1 p.2
def nwP (p:Pu):Ln:=newN p.1 p.2
def newXE (l:List Pu):Int:=if 6<l.length then 5 else if l.all okP=true then 0 else 1
def newXX (l:List Pu):Xc:=if newXE l=0 then ⟨[],l.map nwP,[],[],[]⟩ else ⟨[],[],[],[],[]⟩
theorem newP_0:newXX [(1,0),(2,0)]=x0:=by kernel_rfl
abbrev nil5:Array Value:=#[.slice none 0 0,.slice none 0 0,.slice none 0 0,.slice none 0 0,.slice none 0 0]
def PostNx (n:Nat) (x:Xc) (k:Int) (w:World) (e:Ending) (w':World):Prop:=∃ v,e=.returned (.tuple #[v,.int .i64 k])∧Below w.heap.size w w'∧XV n x v w'
theorem xv_nil (n:Nat) (w:World):XV n ⟨[],[],[],[],[]⟩ (.agg nil5) w:=⟨_,_,_,_,_,rfl,is_hl (Is.nil _ _ _ _),Is.nil _ _ _ _,Is.nil _ _ _ _,is_hl (Is.nil _ _ _ _),is_hl (Is.nil _ _ _ _),Nat.le_refl 0⟩
structure NwS (n b:Nat) (ls:List Ln) (a:Option Addr) (m c:Nat) (w u:World):Prop where
 rb:u.heap[b]?=some (.cells nil5 28 (0,0))
 xb:u.heap[b+1]?=some (.cells #[.slice none 0 0,.slice a m c,.slice none 0 0,.slice none 0 0,.slice none 0 0] 28 (0,0))
 own:Da.Own eN 59 (Bs.of n) (b+2) ls (.slice a m c) u
 len:m=ls.length
 bel:Below b w u
theorem NwS.stays {n b:Nat} {ls:List Ln} {a:Option Addr} {m c:Nat} {w u u':World} (h:NwS n b ls a m c w u) (k:Below u.heap.size u u'):NwS n b ls a m c w u' :=
 ⟨(k.block _ (lt_of_some h.rb)).trans h.rb,(k.block _ (lt_of_some h.xb)).trans h.xb,h.own.stays k,h.len,h.bel.trans (k.mono (Nat.le_of_lt (lt_of_some h.rb)))⟩
theorem newX_any (n:Nat) (l:List Pu) (v:Value) (w:World) (h:UL (Bs.of w.heap.size) l v w) (hn:n≤w.heap.size) (hm:l.length≤1000000) :
  Calls Tryz.prog 11 #[v] w (PostNx n (newXX l) (newXE l) w):=by
 obtain ⟨ca,cc,rfl,hel⟩:=h
 obtain ⟨N,hN⟩:∃ N,N=l.length:=⟨_,rfl⟩
 rw [← hN] at hm ⊢
 by_cases h6:6<N
 ·have HQ:=lH (show newXE l=5∧newXX l=⟨[],[],[],[],[]⟩ from by
   have:newXE l=5:=by unfold newXE;rw [if_pos (by omega)]
   exact ⟨this,by unfold newXX;rw [if_neg (by rw [this];decide)]⟩)
  have hd:decide ((6:Int)<N)=true:=decide_eq_true (by omega)
  obtain ⟨Z,hZ⟩:∃ Z,Z=w.alloc (.cells nil5 28):=⟨_,rfl⟩
  have hb0:=heap_alloc_new w (.cells nil5 28)
  have HF:=lH (show Below w.heap.size w Z∧row Z w.heap.size=nil5 from ⟨by rw [hZ];exact below1 _ _,by rw [hZ];exact row_is hb0⟩)
  have HZ:=lH hZ
  clear hZ hb0 hN hel h6
  go_enter Tryz.func11,Tryz.ntmps11
  go_wp2
  rw [← HZ.out]
  refine bodyPost_ret (v:=.tuple #[.agg nil5,.int .i64 5]) (ret_X2 Tryz.results11 _ _ rfl ?c1) rfl ⟨_,by rw [HQ.out.1],HF.out.1,by rw [HQ.out.2];exact xv_nil _ _⟩
  case c1=>exact HF.out.2
 have h6:N≤6:=by omega
 have hd:decide ((6:Int)<N)=false:=decide_eq_false (by omega)
 have HE:=lH hel
 have HN:=lH hN
 have Hn:=lH hn
 obtain ⟨V,hV⟩:∃ V,V=(w.alloc (.cells nil5 28)).alloc (.cells nil5 28):=⟨_,rfl⟩
 have S0:=lH (show NwS n w.heap.size [] none 0 0 w V from ⟨by rw [hV,heap_al,if_neg (by simp),heap_al,if_pos rfl],by rw [hV,heap_al,if_pos (by simp)],Da.Own.nil _ _ _,rfl,hV ▸ below2 w _ _⟩)
 have HV:=lH hV
 clear hel hN hn hV
 go_enter Tryz.func11,Tryz.ntmps11
 go_wp2
 go_loopw [16] (fun i wr=>∃ k:Nat,k≤N∧i=.int .i64 k∧(l.take k).all okP=true∧∃ a m c,NwS n w.heap.size ((l.take k).map nwP) a m c w wr) (fun i _=>N - (intOf i).toNat)
 case atStart=>exact ⟨0,Nat.zero_le _,rfl,rfl,none,0,0,by first | exact S0.out | (rw [← HV.out];exact S0.out)⟩
 case round =>
  obtain ⟨k,hk,rfl,hall,a,m,c,hS⟩:=hrel
  have HL:=lH hall
  have HS:=lH hS
  clear hall hS
  by_cases hlt:k<N
  ·have hlt2:(k:Int)<N:=by omega
   have hkl:k<l.length:=by rw [← HN.out];exact hlt
   rcases HE.out with ⟨e,_⟩ | ⟨cb,off,rfl,hat⟩
   ·rw [e] at hkl;cases hkl
   have hat2:=Lies.keep eU 50 hat (Keeps.of_below (B:=Bs.of w.heap.size) (HS.out.bel.trans (Below.refl _ _)))
   have hcb:=hat2.1
   obtain ⟨c0,c1⟩:=atU hat2 k hkl
   obtain ⟨⟨p,q⟩,hpq⟩:∃ y,l[k]=y:=⟨_,rfl⟩
   rw [hpq] at c0 c1
   simp only at c0 c1
   obtain ⟨E,hE⟩:∃ E,newE p q=E:=⟨_,rfl⟩
   obtain ⟨G,hG⟩:∃ G,newN p q=G:=⟨_,rfl⟩
   have HG:=lH (show (E=0∧okP l[k]=true∧nwP l[k]=G)∨(E=1∧okP l[k]=false) from by
    rw [hpq,← hE,← hG];unfold okP nwP newE
    by_cases h:pairOk p q=true
    ·exact .inl ⟨if_pos h,h,rfl⟩
    ·exact .inr ⟨if_neg h,by simpa using h⟩)
   obtain ⟨U,hU⟩:∃ U,U=wr.alloc (.cells #[.int .i64 p,.int .i64 q] 50):=⟨_,rfl⟩
   have hbU:Below wr.heap.size wr U:=hU ▸ below1 wr _
   have HC:=lH (La.lnew_any p q U)
   unfold La.PostNw at HC
   rw [hE,hG] at HC
   have HSU:=lH (HS.out.stays hbU)
   have HU:=lH hU
   clear hU hbU hat hat2 hpq hE hG
   go_wp2_with fail
   rw [← HU.out]
   refine HC.out.mono ?_
   rintro e w2 ⟨v2,rfl,hb2,hln⟩
   have hS2:=HSU.out.stays hb2
   have hln:=hln (Bs.of n) ⟨Nat.le_trans Hn.out HSU.out.bel.size,fun _ h=>h.elim⟩
   obtain ⟨a1,n1,d1,a2,n2,d2,a3,n3,d3,rfl,_,_,_,g1,g2,g3⟩:=hln.open'
   obtain ⟨M,hM⟩:∃ M,M=w2.alloc (.cells (cN G.1 G.2.1 (.slice a1 n1 d1) (.slice a2 n2 d2) G.2.2.1.2.2 (.slice a3 n3 d3)) 59):=⟨_,rfl⟩
   have hbM:Below w2.heap.size w2 M:=hM ▸ below1 w2 _
   have HSM:=lH (hS2.stays hbM)
   have hS9:=hS2.stays hbM
   clear c0 c1
   rcases HG.out with ⟨rfl,ok,hnw⟩ | ⟨rfl,no⟩
   ·have hR:eN.R (Bs.of n) G [.int .i64 G.1,.int .i64 G.2.1,.slice a1 n1 d1,.slice a2 n2 d2,.int .i64 G.2.2.1.2.2,.slice a3 n3 d3] M:=eN.stays (eN_mk g1 g2 (hl_is g3)) hbM
    have hle:(Bs.of n).le M.heap.size:=⟨Nat.le_trans Hn.out hS9.bel.size,fun _ h=>h.elim⟩
    obtain ⟨P,hP⟩:∃ P,P=M.alloc (.cells #[.int .i64 G.1,.int .i64 G.2.1,.slice a1 n1 d1,.slice a2 n2 d2,.int .i64 G.2.2.1.2.2,.slice a3 n3 d3] 59):=⟨_,rfl⟩
    have hbP:Below M.heap.size M P:=hP ▸ below1 M _
    have h1:Is eN 59 (Bs.of n) [G] (.slice (some ⟨M.heap.size,0,none⟩) 1 1) P:=by rw [hP];exact Is.one hle hR
    have hSP:=hS9.stays hbP
    have hsz:w.heap.size+2≤P.heap.size:=by have:=lt_of_some hSP.xb;omega
    obtain ⟨v',w',hrun,hown',_,hbl,hkp⟩:=Da.Own.append elemN 25 typesN (B:=Bs.of n) ⟨Nat.le_trans Hn.out (Nat.le_add_right _ _),fun _ h=>h.elim⟩ hsz hSP.own h1 (by rw [List.length_map,List.length_take];simp;omega) (by decide)
    have hbl2:=hbl (w.heap.size+2) P (Nat.le_refl _) (Below.refl _ _)
    obtain ⟨a9,c9,rfl⟩:=(hown'.is (by decide) (show (Bs.of n).le (w.heap.size+2) from ⟨Nat.le_trans Hn.out (Nat.le_add_right _ _),fun _ h=>h.elim⟩)).len
    have hxb':w'.heap[w.heap.size+1]?=_:=(hbl2.block _ (by omega)).trans hSP.xb
    have hrb':w'.heap[w.heap.size]?=_:=(hbl2.block _ (by omega)).trans hSP.rb
    obtain ⟨m9,hm9⟩:∃ m,((l.take k).map nwP++[G]).length=m:=⟨_,rfl⟩
    rw [hm9] at hrun hown'
    have HF:=lH (show NwS n w.heap.size ((l.take (k+1)).map nwP) a9 m9 c9 w (w'.setCell ⟨w.heap.size+1,1,none⟩ (.slice a9 m9 c9)) from by
     have e:(l.take (k+1)).map nwP=(l.take k).map nwP++[G]:=by rw [Da.take_snoc hkl,List.map_append,List.map_cons,hnw];rfl
     have kp:Da.Keeps (Bs.of n) (59 :: eN.ts) w' (w'.setCell ⟨w.heap.size+1,1,none⟩ (.slice a9 m9 c9)):=keeps_setCell 1 _ hxb' (by decide) (Nat.le_succ_of_le Hn.out)
     refine ⟨(Below.heap_setCell w' ⟨w.heap.size+1,1,none⟩ _ _ (by show w.heap.size≠w.heap.size+1;omega)).trans hrb',La.setN 1 (.slice a9 m9 c9) hxb',?_,by rw [e,hm9],?_⟩
     ·rw [e];exact Da.Own.keep ⟨Nat.le_trans Hn.out (Nat.le_add_right _ _),fun _ h=>h.elim⟩ hown' kp
     ·exact ((hSP.bel.trans (hbl2.mono (by omega)))).trans (low_setCell _ _ (Nat.le_succ _)))
    have HA:=lH (show (l.take (k+1)).all okP=true from by rw [Da.take_snoc hkl,List.all_append,HL.out];simp [ok])
    have x1:M.cell? ⟨w.heap.size+1,1,none⟩=some (.slice a m c):=cell_is hS9.xb
    have x2:w'.cell? ⟨w.heap.size+1,1,none⟩=some (.slice a m c):=cell_is hxb'
    have x3:w'.frozen? ⟨w.heap.size+1,1,none⟩=false:=thawed_is hxb'
    have x4:row M w2.heap.size=cN G.1 G.2.1 (.slice a1 n1 d1) (.slice a2 n2 d2) G.2.2.1.2.2 (.slice a3 n3 d3):=by rw [hM];exact row_is (heap_alloc_new _ _)
    have hzM:M.heap.size=w2.heap.size+1:=by rw [hM];simp
    rw [hP,hzM,hM] at hrun
    rw [hM] at x1 x4
    clear hS9 hS2 hln g1 g2 g3 hM hbM hR hle hP hbP h1 hSP hsz hown' hbl hkp hbl2 hxb' hrb' hm9 hzM hnw ok
    go_wp2
    go_roundw
    case rel=>exact ⟨k+1,by omega,by go_num,HA.out,_,_,_,HF.out⟩
    case measure=>simp [intOf];omega
   ·have HQ:=lH (show newXE l=1∧newXX l=⟨[],[],[],[],[]⟩ from by
     have:newXE l=1:=by
      unfold newXE
      rw [if_neg (by rw [← HN.out];omega),if_neg (by
       intro h
       have:=List.all_eq_true.1 h l[k] (List.getElem_mem hkl)
       rw [no] at this;cases this)]
     exact ⟨this,by unfold newXX;rw [if_neg (by rw [this];decide)]⟩)
    have p1:plain 5 M w.heap.size=true:=plain_is hS9.rb rfl
    obtain ⟨Z,hZ⟩:∃ Z,Z=M.setRow w.heap.size nil5:=⟨_,rfl⟩
    have HF:=lH (show Below w.heap.size w Z∧row Z w.heap.size=nil5 from ⟨by rw [hZ];exact below_setRow hS9.bel (Nat.le_refl _) _,by rw [hZ];exact row_set _ p1⟩)
    rw [hM] at p1 hZ
    have HZ:=lH hZ
    clear hS9 hS2 hln g1 g2 g3 hM hbM hZ no
    go_wp2
    rw [← HZ.out]
    refine bodyPost_ret (v:=.tuple #[.agg nil5,.int .i64 1]) (ret_X2 Tryz.results11 _ _ rfl ?c1) rfl ⟨_,by rw [HQ.out.1],HF.out.1,by rw [HQ.out.2];exact xv_nil _ _⟩
    case c1=>exact HF.out.2
  ·obtain rfl:k=N:=by omega
   have ht:l.take k=l:=by rw [HN.out,List.take_length]
   have HQ:=lH (show newXE l=0∧newXX l=⟨[],l.map nwP,[],[],[]⟩ from by
    have:newXE l=0:=by unfold newXE;rw [if_neg (by rw [← HN.out];omega),if_pos (by rw [← ht];exact HL.out)]
    exact ⟨this,by unfold newXX;rw [if_pos this]⟩)
   have hS:=HS.out
   rw [ht] at hS
   have p1:plain 5 wr w.heap.size=true:=plain_is hS.rb rfl
   have r1:row wr (w.heap.size+1)=#[.slice none 0 0,.slice a m c,.slice none 0 0,.slice none 0 0,.slice none 0 0]:=row_is hS.xb
   obtain ⟨Z,hZ⟩:∃ Z,Z=wr.setRow w.heap.size #[.slice none 0 0,.slice a m c,.slice none 0 0,.slice none 0 0,.slice none 0 0]:=⟨_,rfl⟩
   have HF:=lH (show Below w.heap.size w Z∧XV n ⟨[],l.map nwP,[],[],[]⟩ (.agg #[.slice none 0 0,.slice a m c,.slice none 0 0,.slice none 0 0,.slice none 0 0]) Z∧row Z w.heap.size=#[.slice none 0 0,.slice a m c,.slice none 0 0,.slice none 0 0,.slice none 0 0] from
    ⟨by rw [hZ];exact below_setRow hS.bel (Nat.le_refl _) _,⟨_,_,_,_,_,rfl,is_hl (Is.nil _ _ _ _),Is.keep _ _ (hS.own.is (by decide) (show (Bs.of n).le (w.heap.size+2) from ⟨Nat.le_trans Hn.out (Nat.le_add_right _ _),fun _ h=>h.elim⟩)) (by rw [hZ];exact Bk.keeps_setRow (B:=Bs.of n) _ hS.rb (by decide) Hn.out),Is.nil _ _ _ _,is_hl (Is.nil _ _ _ _),is_hl (Is.nil _ _ _ _),hS.own.cap⟩,by rw [hZ];exact row_set _ p1⟩)
   have HZ:=lH hZ
   clear hS hZ ht
   go_wp2
   rw [← HZ.out]
   refine bodyPost_ret (v:=.tuple #[.agg #[.slice none 0 0,.slice a m c,.slice none 0 0,.slice none 0 0,.slice none 0 0],.int .i64 0]) (ret_X2 Tryz.results11 _ _ rfl ?c1) rfl ⟨_,by rw [HQ.out.1],HF.out.1,by rw [HQ.out.2];exact HF.out.2.1⟩
   case c1=>exact HF.out.2.2
end Go.Proofs.YtjhocpcpkemcaaaGreat.Ex
namespace Go.Proofs.YtjhocpcpkemcaaaGreat.Au
open Go.RowKit
open Rw
open Da
open Le (low_setCell keeps_setCell)
open La (Ln LN cN)
open Ac (Hd Pu HL)
open Cm (fc fc_at v9)
open Se (Rp z5 cR)
open Ex
theorem pairs_any (w:World):Calls Tryz.prog 66 #[] w fun e w'=>∃ v,e=.returned v∧Below w.heap.size w w'∧UL (Bs.of w'.heap.size) [(1,0),(2,0)] v w':=by
 have HF:=lH (show UL (Bs.of (w.alloc (.cells #[.int .i64 1,.int .i64 0,.int .i64 2,.int .i64 0] 50)).heap.size) [(1,0),(2,0)] (.slice (some ⟨w.heap.size,0,none⟩) 2 2) (w.alloc (.cells #[.int .i64 1,.int .i64 0,.int .i64 2,.int .i64 0] 50)) from by
  have hb:=heap_alloc_new w (.cells #[.int .i64 1,.int .i64 0,.int .i64 2,.int .i64 0] 50)
  refine ⟨_,2,rfl,.inr ⟨w.heap.size,0,rfl,lt_of_some hb,.inl (lt_of_some hb),fun i x hx=>⟨_,rfl,fun j u hu=>?_⟩⟩⟩
  rw [Nat.zero_add,cell_is hb]
  match i,hx with
  | 0,hx=>obtain rfl:=Option.some.inj hx;match j,hu with
   | 0,hu=>exact hu
   | 1,hu=>exact hu
  | 1,hx=>obtain rfl:=Option.some.inj hx;match j,hu with
   | 0,hu=>exact hu
   | 1,hu=>exact hu)
 go_enter Tryz.func66,Tryz.ntmps66
 go_wp2
 go_ret
 exact ⟨_,rfl,below1 _ _,HF.out⟩
theorem fresh_any (n:Nat) (w:World) (hn:n≤w.heap.size):Calls Tryz.prog 27 #[] w fun e w'=>∃ v,e=.returned v∧Below w.heap.size w w'∧XV n x0 v w':=by
 obtain ⟨V,hV⟩:∃ V,V=w.alloc (.cells nil5 28):=⟨_,rfl⟩
 have hbV:Below w.heap.size w V:=hV ▸ below1 w _
 have hb0:V.heap[w.heap.size]?=some (.cells nil5 28 (0,0)):=by rw [hV];exact heap_alloc_new _ _
 have HB0:=lH hb0
 have HBV:=lH hbV
 have Hn:=lH hn
 have HV:=lH hV
 clear hV hbV hb0 hn
 go_enter Tryz.func27,Tryz.ntmps27
 go_wp2_with fail
 rw [← HV.out]
 refine (pairs_any V).mono ?_
 rintro e w2 ⟨v2,rfl,hb2,hu⟩
 have hw2:=nx HBV.out hb2
 have HN:=lH (newX_any n _ _ w2 hu (Nat.le_trans Hn.out hw2.size) (by decide))
 rw [newP_0,show newXE [(1,0),(2,0)]=0 from by kernel_rfl] at HN
 obtain ⟨a9,m9,c9,rfl⟩:∃ a m c,v2=.slice a m c:=by obtain ⟨a,c,h⟩:=hu.len;exact ⟨a,_,c,h⟩
 clear hu
 go_wp2_with fail
 refine HN.out.mono ?_
 rintro e w3 ⟨v3,rfl,hb3,hx3⟩
 obtain ⟨_,_,_,_,_,rfl,hd⟩:=hx3
 obtain ⟨a1,d1,a2,d2,a3,d3,a4,d4,a5,d5,rfl,rfl,rfl,rfl,rfl⟩:=hd.open'
 have hw3:=nx hw2 hb3
 obtain ⟨M,hM⟩:∃ M,M=w3.alloc (.cells #[.slice a1 0 d1,.slice a2 2 d2,.slice a3 0 d3,.slice a4 0 d4,.slice a5 0 d5] 28):=⟨_,rfl⟩
 have hbM:Below w3.heap.size w3 M:=hM ▸ below1 w3 _
 have hbb:M.heap[w.heap.size]?=some (.cells nil5 28 (0,0)):=((nx (nx hb2 hb3) hbM).block _ (lt_of_some HB0.out)).trans HB0.out
 have r1:row M w3.heap.size=#[.slice a1 0 d1,.slice a2 2 d2,.slice a3 0 d3,.slice a4 0 d4,.slice a5 0 d5]:=by rw [hM];exact row_is (heap_alloc_new _ _)
 have p1:plain 5 M w.heap.size=true:=plain_is hbb rfl
 obtain ⟨Z,hZ⟩:∃ Z,Z=M.setRow w.heap.size #[.slice a1 0 d1,.slice a2 2 d2,.slice a3 0 d3,.slice a4 0 d4,.slice a5 0 d5]:=⟨_,rfl⟩
 have HF:=lH (show Below w.heap.size w Z∧XV n x0 (.agg #[.slice a1 0 d1,.slice a2 2 d2,.slice a3 0 d3,.slice a4 0 d4,.slice a5 0 d5]) Z∧row Z w.heap.size=#[.slice a1 0 d1,.slice a2 2 d2,.slice a3 0 d3,.slice a4 0 d4,.slice a5 0 d5] from
  ⟨by rw [hZ];exact below_setRow (nx hw3 hbM) (Nat.le_refl _) _,⟨_,_,_,_,_,rfl,(hd.stays hbM).keep (by rw [hZ];exact Bk.keeps_setRow (B:=Bs.of n) _ hbb (by decide) Hn.out)⟩,by rw [hZ];exact row_set _ p1⟩)
 rw [hM] at r1 p1 hZ
 have HZ:=lH hZ
 clear hM hbM hbb hZ hd hw3 hw2 hb3 hb2
 go_wp2
 rw [← HZ.out]
 refine bodyPost_ret (v:=.agg #[.slice a1 0 d1,.slice a2 2 d2,.slice a3 0 d3,.slice a4 0 d4,.slice a5 0 d5]) (ret_X1 Tryz.results27 _ _ rfl ?c1) rfl ⟨_,rfl,HF.out.1,HF.out.2.1⟩
 case c1=>exact HF.out.2.2
theorem infoC:(Tryz.prog.info? 35).map (fun i=>(i.zero,i.size,i.bytes))=some (some (.agg (fc Cm.zeroF)),9,72):=by kernel_rfl
abbrev cells2:Array Value:=fc k1++fc k2
theorem buildK1 (w:World):(Instr.build 35 #[(0,.int .i64 1),(1,.int .i64 1),(2,.int .i64 1),(8,.int .i64 100)]).run Tryz.prog w=.ok (.agg (fc k1)) w:=run_build w _ _ _ (by kernel_rfl)
theorem buildK2 (w:World):(Instr.build 35 #[(0,.int .i64 1),(1,.int .i64 2),(2,.int .i64 3),(6,.int .i64 1),(7,.int .i64 10),(8,.int .i64 5)]).run Tryz.prog w=.ok (.agg (fc k2)) w:=run_build w _ _ _ (by kernel_rfl)
theorem build2 (w:World):(Instr.buildSlice 22 2 #[(0,.agg (fc k1)),(1,.agg (fc k2))]).run Tryz.prog w=.ok (.slice (some ⟨w.heap.size,0,none⟩) 2 2) (w.alloc (.cells cells2 35)):=by
 obtain ⟨i,h1,h2,h3,h4⟩:=info_parts infoC
 exact run_buildSlice w 22 35 2 _ cells2 i _ Tryz.underlying22 h1 h2 (by rw [h3];decide) (by rw [h3];decide) (by rw [h3];kernel_rfl)
section
variable (ρ:Operand→Value) (dst:Option Tmp) (ty:TypeId) (pos:String) (after:Array Edge) (guard:Option (Nat × Bool)) (w:World)
theorem exK1 (p0 p1 p2 p8:Operand) (h0:ρ p0=.int .i64 1) (h1:ρ p1=.int .i64 1) (h2:ρ p2=.int .i64 1) (h8:ρ p8=.int .i64 100) :
  (execOp ρ { dst,op:=.build 35 #[(0,p0),(1,p1),(2,p2),(8,p8)],type:=ty,pos,after,guard }).run Tryz.prog w=.ok (.value (.agg (fc k1))) w:=by
 simp [execOp,h0,h1,h2,h8,buildK1]
theorem exK2 (p0 p1 p2 p6 p7 p8:Operand) (h0:ρ p0=.int .i64 1) (h1:ρ p1=.int .i64 2) (h2:ρ p2=.int .i64 3) (h6:ρ p6=.int .i64 1) (h7:ρ p7=.int .i64 10) (h8:ρ p8=.int .i64 5) :
  (execOp ρ { dst,op:=.build 35 #[(0,p0),(1,p1),(2,p2),(6,p6),(7,p7),(8,p8)],type:=ty,pos,after,guard }).run Tryz.prog w=.ok (.value (.agg (fc k2))) w:=by
 simp [execOp,h0,h1,h2,h6,h7,h8,buildK2]
theorem ex2 (a b:Operand) (h0:ρ a=.agg (fc k1)) (h1:ρ b=.agg (fc k2)) :
  (execOp ρ { dst,op:=.buildSlice 22 2 #[(0,a),(1,b)],type:=ty,pos,after,guard }).run Tryz.prog w=.ok (.value (.slice (some ⟨w.heap.size,0,none⟩) 2 2)) (w.alloc (.cells cells2 35)):=by
 simp [execOp,h0,h1,build2]
end
theorem cl2 (w:World):CL (Bs.of (w.alloc (.cells cells2 35)).heap.size) [k1,k2] (.slice (some ⟨w.heap.size,0,none⟩) 2 2) (w.alloc (.cells cells2 35)):=by
 have hb:=heap_alloc_new w (.cells cells2 35)
 refine ⟨_,2,rfl,.inr ⟨w.heap.size,0,rfl,lt_of_some hb,.inl (lt_of_some hb),fun i x hx=>⟨_,rfl,fun j u hu=>?_⟩⟩⟩
 rw [Nat.zero_add,cell_is hb]
 have hj:j<9:=by have:=(List.getElem?_eq_some_iff.1 hu).1;simpa [Cm.fc_size] using this
 match i,hx with
 | 0,hx=>obtain rfl:=Option.some.inj hx;match j,hj,hu with
  | 0,_,hu | 1,_,hu | 2,_,hu | 3,_,hu | 4,_,hu | 5,_,hu | 6,_,hu | 7,_,hu | 8,_,hu=>exact hu
 | 1,hx=>obtain rfl:=Option.some.inj hx;match j,hj,hu with
  | 0,_,hu | 1,_,hu | 2,_,hu | 3,_,hu | 4,_,hu | 5,_,hu | 6,_,hu | 7,_,hu | 8,_,hu=>exact hu
theorem run2 (l:List Cd) (hl:l=[k1,k2]):runX x0 l=x2:=by
 subst hl;rw [runX_cons,a1,runX_cons,a2];rfl
end Go.Proofs.YtjhocpcpkemcaaaGreat.Au
namespace Go.Proofs.YtjhocpcpkemcaaaGreat.Au
open Go.RowKit
open Rw
open Da
open La (Ln LN cN reserved owedN)
open Ac (Hd Pu HL)
open Cm (fc fc_at v9)
open Se (Rp z5 cR ret_bool)
open Ex
attribute [local go_sem ↓] exK1 exK2 ex2
theorem bal0:Bal x0:=fun a=>by
 have e:∀ l∈x0.lanes,reserved l a=0∧owedN l a=0:=fun l hl=>by
  rw [res_right (r0.lane l hl),owed_right (r0.lane l hl)]
  rcases List.mem_cons.1 hl with rfl | hl
  ·exact ⟨rfl,rfl⟩
  ·obtain rfl:=List.mem_singleton.1 hl;exact ⟨rfl,rfl⟩
 have e1:=e _ List.mem_cons_self
 have e2:=e _ (List.mem_cons_of_mem _ List.mem_cons_self)
 unfold balX
 rw [show Ac.total x0.inn a=0 from rfl,held,held,held,e1.1,e1.2,e2.1,e2.2]
 rfl
theorem bal2:Bal x2:=by
 have h1:=apply_bal r0 bal0 k1
 rw [a1] at h1
 have h2:=apply_bal r1 h1 k2
 rw [a2] at h2
 exact h2
abbrev y2:Xc:=⟨[(1,0,50)],[(1,0,([(10,[(1,1,1,10,5)])],[],2),[]),(2,0,([],[],1),[])],[(1,2,1,2,0,1,0)],[],[]⟩
theorem balY:balX y2 0=-100:=by
 have h:=bal2 0
 unfold balX at h ⊢
 rw [show Ac.total x2.inn 0=100 from by kernel_rfl] at h
 rw [show Ac.total y2.inn 0=0 from by kernel_rfl]
 change 0 - Ac.total x2.out 0 - Ac.total x2.free 0 - held 0 x2.lanes=-100
 omega
theorem soundY:soundX y2=false:=by
 unfold soundX
 rw [all0_le y2 (k:=1) (m:=8) (by decide) (by rw [all0_succ];show (_&&(balX y2 0==0))=false;rw [balY,Bool.and_comm];rfl),Bool.and_false]
theorem rY:RightX y2:=⟨r2.few,r2.lane,r2.free,Ac.Right.nil,r2.out,r2.sess⟩
theorem cross2:crossX x2=false:=by
 unfold crossX;rw [List.any_eq_false];intro l hl;rw [cross_right (r2.lane l hl)];decide
theorem awake_any (w:World):Calls Tryz.prog 26 #[] w fun e w'=>e=.returned (.bool true)∧Below w.heap.size w w':=by
 go_enter Tryz.func26,Tryz.ntmps26
 go_wp2_with fail
 refine (fresh_any w.heap.size w (Nat.le_refl _)).mono ?_
 rintro e w1 ⟨v1,rfl,hb1,hx1⟩
 have HX1:=lH hx1
 have HB1:=lH hb1
 obtain ⟨_,_,_,_,_,rfl,hd⟩:=hx1
 obtain ⟨a1,d1,a2,d2,a3,d3,a4,d4,a5,d5,rfl,rfl,rfl,rfl,rfl⟩:=hd.open'
 obtain ⟨V,hV⟩:∃ V,V=w1.alloc (.cells cells2 35):=⟨_,rfl⟩
 have hbV:Below w1.heap.size w1 V:=hV ▸ below1 w1 _
 have hcl:CL (Bs.of V.heap.size) [k1,k2] (.slice (some ⟨w1.heap.size,0,none⟩) 2 2) V:=by rw [hV];exact cl2 w1
 have HRn:=lH (runX_any w.heap.size x0 _ [k1,k2] _ V (HX1.out.stays hbV) (nx hb1 hbV).size (smX_right r0) hcl (by decide) (fun c hc=>by
  simp only [List.mem_cons,List.not_mem_nil,or_false] at hc
  rcases hc with rfl | rfl<;>exact ⟨_,_,_,_,_,_,_,_,_,rfl⟩))
 rw [run2 _ rfl] at HRn
 have HBV:=lH (nx hb1 hbV)
 have HV:=lH hV
 clear hd hb1 hV hbV hcl
 go_wp2_with fail
 rw [← HV.out]
 refine HRn.out.mono ?_
 rintro e w2 ⟨v2,g,c,rfl,hb2,hx2,-⟩
 obtain ⟨_,_,_,_,_,rfl,hd⟩:=hx2
 obtain ⟨a1,d1,a2,d2,a3,d3,a4,d4,a5,d5,rfl,rfl,rfl,rfl,rfl⟩:=hd.open'
 obtain ⟨W,hW⟩:∃ W,W=w2.alloc (.cells #[.slice a1 1 d1,.slice a2 2 d2,.slice a3 1 d3,.slice a4 1 d4,.slice a5 0 d5] 28):=⟨_,rfl⟩
 have hbW:Below w2.heap.size w2 W:=hW ▸ below1 w2 _
 have HX:=lH (show ∀ u,Below W.heap.size W u→XB w.heap.size x2 (.slice a1 1 d1) (.slice a2 2 d2) (.slice a3 1 d3) (.slice a4 1 d4) (.slice a5 0 d5) w2.heap.size u∧w.heap.size≤u.heap.size from fun u hu=>⟨XB.stays (by rw [hW];exact XB.made hd (nx HBV.out hb2).size) hu,(nx (nx HBV.out hb2) (nx hbW hu)).size⟩)
 have HBW:=lH (nx (nx HBV.out hb2) hbW)
 have x1:=(HX.out W (Below.refl _ _)).1.row
 rw [hW] at x1
 have HW:=lH hW
 clear hd hW hbW hb2
 go_wp2_with fail
 rw [← HW.out]
 refine (uses_is (p:=1) (q:=0) (lH ⟨by kernel_rfl,by kernel_rfl⟩) ⟨_,_,_,_,_,rfl,(HX.out W (Below.refl _ _)).1.d⟩ (HX.out W (Below.refl _ _)).2 (smX_right r2)).mono ?_
 rintro e w3 ⟨rfl,hb3⟩
 clear x1
 obtain ⟨M,hM⟩:∃ M,M=w3.alloc (.cells #[.slice a1 1 d1,.slice a2 2 d2,.slice a3 1 d3,.slice none 0 0,.slice a5 0 d5] 28):=⟨_,rfl⟩
 have hbM:Below w3.heap.size w3 M:=hM ▸ below1 w3 _
 have hWM:=nx hb3 hbM
 obtain ⟨z1,z2⟩:=HX.out w3 hb3
 have x1:=z1.row
 have xl:=z1.lt
 have HY:=lH (show ∀ u,Below M.heap.size M u→(row u w2.heap.size=#[.slice a1 1 d1,.slice a2 2 d2,.slice a3 1 d3,.slice a4 1 d4,.slice a5 0 d5]∧w2.heap.size<u.heap.size)∧(row u w3.heap.size=#[.slice a1 1 d1,.slice a2 2 d2,.slice a3 1 d3,.slice none 0 0,.slice a5 0 d5]∧w3.heap.size<u.heap.size)∧XV w.heap.size x2 (.agg #[.slice a1 1 d1,.slice a2 2 d2,.slice a3 1 d3,.slice a4 1 d4,.slice a5 0 d5]) u∧XV w.heap.size y2 (.agg #[.slice a1 1 d1,.slice a2 2 d2,.slice a3 1 d3,.slice none 0 0,.slice a5 0 d5]) u∧w.heap.size≤u.heap.size from fun u hu=>by
  obtain ⟨k1,k2⟩:=HX.out u (nx hWM hu)
  have hy:XB w.heap.size y2 (.slice a1 1 d1) (.slice a2 2 d2) (.slice a3 1 d3) (.slice none 0 0) (.slice a5 0 d5) w3.heap.size u:=XB.stays (by rw [hM];exact XB.made ⟨z1.d.free,z1.d.lanes,z1.d.sess,La.is_hl (Is.nil _ _ _ _),z1.d.out,z1.d.cap⟩ z2) hu
  exact ⟨⟨k1.row,k1.lt⟩,⟨hy.row,hy.lt⟩,⟨_,_,_,_,_,rfl,k1.d⟩,⟨_,_,_,_,_,rfl,hy.d⟩,k2⟩)
 have HBM:=lH (nx HBW.out hWM)
 obtain ⟨⟨k1,k2⟩,⟨k3,k4⟩,kv,kw,kn⟩:=HY.out M (Below.refl _ _)
 rw [hM] at k1 k2 k3 k4
 have HM:=lH hM
 clear z1 z2 hM hbM hWM hb3
 go_wp2_with fail
 rw [← HM.out]
 refine (sound_is (lH (sound_right r2 bal2)) kv kn (smX_right r2)).mono ?_
 rintro e w4 ⟨rfl,hb4⟩
 clear k1 k2 k3 k4 kv kw kn x1 xl
 obtain ⟨⟨k1,k2⟩,⟨k3,k4⟩,kv,kw,kn⟩:=HY.out w4 hb4
 go_wp2_with fail
 refine (bal_is (lH (bal2 0)) kv kn (smX_right r2) (by decide)).mono ?_
 rintro e w5 ⟨rfl,hb5⟩
 replace hb5:=nx hb4 hb5
 clear k1 k2 k3 k4 kv kw kn hb4
 obtain ⟨⟨k1,k2⟩,⟨k3,k4⟩,kv,kw,kn⟩:=HY.out w5 hb5
 go_wp2_with fail
 refine (bal_is (lH balY) kw kn (smX_right rY) (by decide)).mono ?_
 rintro e w6 ⟨rfl,hb6⟩
 replace hb6:=nx hb5 hb6
 clear k1 k2 k3 k4 kv kw kn hb5
 obtain ⟨⟨k1,k2⟩,⟨k3,k4⟩,kv,kw,kn⟩:=HY.out w6 hb6
 go_wp2_with fail
 refine (sound_is (lH soundY) kw kn (smX_right rY)).mono ?_
 rintro e w7 ⟨rfl,hb7⟩
 replace hb7:=nx hb6 hb7
 clear k1 k2 k3 k4 kv kw kn hb6
 obtain ⟨⟨k1,k2⟩,⟨k3,k4⟩,kv,kw,kn⟩:=HY.out w7 hb7
 go_wp2_with fail
 refine (crossed_is (lH cross2) kv kn (smX_right r2)).mono ?_
 rintro e w8 ⟨rfl,hb8⟩
 have hf:=nx HBM.out (nx hb7 hb8)
 clear k1 k2 k3 k4 kv kw kn hb7 hb8
 go_wp2
 go_ret
 exact ⟨rfl,hf⟩
end Go.Proofs.YtjhocpcpkemcaaaGreat.Au
