/- Package level as it landed: slices.Clone of orders, cloned. -/
import Derived.Test.YtjhocpcpkemcaaaGreatQeZZ
import Derived.Test.YtjhocpcpkemcaaaGreatQeBC
import Derived.Test.YtjhocpcpkemcaaaGreatQeAQ
import Derived.Test.YtjhocpcpkemcaaaGreatQeAS
set_option linter.unusedVariables false
set_option maxRecDepth 16000
set_option maxHeartbeats 32000000
namespace Go.Proofs.YtjhocpcpkemcaaaGreat.Le
open Go.RowKit
open Rw
open Da
open Ro
def fO:Flat Od:=⟨5,cellsO,fun _=>rfl,fun o u hu=>by simp [cellsO] at hu;rcases hu with rfl | rfl | rfl | rfl | rfl<;>rfl⟩
def fF:Flat Hw:=⟨2,fun h=>[.int .i64 h.1,hv h],fun _=>rfl,fun h u hu=>by simp [hv] at hu;rcases hu with rfl | rfl<;>rfl⟩
abbrev RowF (g cap:Nat) (hs:List Hw) (w:World):Prop:=Row fF 106 g cap hs w
abbrev RowO (g cap:Nat) (os:List Od) (w:World):Prop:=Row fO 74 g cap os w
theorem make_levels (m:Nat) (hm:m≤1000000) (w:World):(Instr.makeSlice 55 (.int .i64 m) (.int .i64 m)).run Tryz.prog w=.ok (.slice (some ⟨w.heap.size,0,none⟩) m m) (w.alloc (.cells (madeCells #[.int .i64 0,.slice none 0 0] (m*2)) 106)):=by
 obtain ⟨i,h1,h2,h3,h4⟩:=info_parts infoL
 have:=run_make (P:=Tryz.prog) w 55 106 i _ Tryz.underlying55 h1 h2 .i64 .i64 m m (by omega) (Int.le_refl _) (by rw [h4];omega) (by omega)
 rw [h3] at this
 simpa [Value.cells] using this
theorem row_levels (m:Nat) (w:World):RowF w.heap.size m (List.replicate m (0,none,0,0)) (w.alloc (.cells (madeCells #[.int .i64 0,.slice none 0 0] (m*2)) 106)) :=
 Row.made (e:=fF) (z:=#[.int .i64 0,.slice none 0 0]) (0,none,0,0) rfl (by decide)
theorem eqlN (a:Option Addr) (n c:Nat) (w:World):(binOp .eql 71 (.slice a n c) (.slice none 0 0)).run Tryz.prog w=.ok (.bool a.isNone) w:=Lib.run_eql_slice_nil w _ _ a n c 0 0 Tryz.underlying71
theorem guardN (p q:Operand) (a:Option Addr) (n c:Nat) (w:World):(eqGuard .eql 71 p q (.slice a n c) (.slice none 0 0)).run Tryz.prog w=.ok () w:=rfl
attribute [go_sem ↓] eqlN guardN
theorem cloneO_any (B:Bs) (os:List Od) (x:Value) (w:World) (h:OL B os x w) (hB:B.le w.heap.size) (hm:os.length≤1000000) :
  Calls Tryz.prog 122 #[x] w (Post (fun v u=>OwnO B w.heap.size os v u) w):=by
 obtain ⟨a2,c2,rfl,hel⟩:=id h
 cases a2 with
 | none =>
  rcases hel with ⟨rfl,hc⟩ | ⟨b,off,e,_⟩
  ·obtain rfl:=hc rfl
   clear h
   go_enter Tryz.func122,Tryz.ntmps122
   go_wp2
   go_ret
   exact ⟨_,rfl,Below.refl _ _,Own.nil _ _ _⟩
  ·cases e
 | some ad =>
  have hb1:=below1 w (.cells #[] 74)
  obtain ⟨v2,w2,hrun,hown2,_,hbl,_⟩:=Own.append elemO 71 typesO hB (by simp) (Own.made B w w.heap.size (Nat.le_refl _)) (Is.stays eO 74 h hb1) (by simp;omega) (by omega)
  have hb2:=hbl _ _ (Nat.le_refl _) hb1
  have HO:=lH hown2
  obtain ⟨m,hmm⟩:∃ m,m=os.length:=⟨_,rfl⟩
  rw [← hmm] at hrun ⊢
  clear hown2 hbl h hel hmm
  go_enter Tryz.func122,Tryz.ntmps122
  go_wp2
  go_ret
  exact ⟨_,rfl,hb2,HO.out⟩
def ClF (B:Bs) (Bo:Nat) (l:List Lv) (v:Value) (u:World):Prop:=∃ g hs,v=.slice (some ⟨g,0,none⟩) l.length l.length∧Bo≤g∧hs.length=l.length∧RowF g l.length hs u∧Mine B Bo l hs u
def RelC (B:Bs) (Bo n:Nat) (l:List Lv) (k:Nat) (u:World):Prop:=∃ hs,RowF Bo n (hs++List.replicate (n - k) (0,none,0,0)) u∧Mine B Bo (l.take k) hs u
theorem RelC.stays {B:Bs} {Bo n:Nat} {l:List Lv} {k:Nat} {u u':World} (h:RelC B Bo n l k u) (hb:Below u.heap.size u u'):RelC B Bo n l k u':=by
 obtain ⟨hs,h1,h2⟩:=h
 exact ⟨hs,h1.stays hb,h2.stays hb⟩
theorem rowF_at {g cap:Nat} {hs:List Hw} {u:World} (h:RowF g cap hs u) {i:Nat} {y:Hw} (hy:hs[i]?=some y):u.cell? ⟨g,i*2,none⟩=some (.int .i64 y.1)∧u.cell? ⟨g,i*2+1,none⟩=some (hv y)∧u.frozen? ⟨g,i*2,none⟩=false∧u.frozen? ⟨g,i*2+1,none⟩=false :=
 ⟨h.cell hy (j:=0) rfl,h.cell hy (j:=1) rfl,h.frozen _,h.frozen _⟩
theorem relC_at {B:Bs} {Bo n:Nat} {l:List Lv} {k:Nat} (hn:n=l.length) (hk:k<l.length) {hs:List Hw} {u:World} (hV:Mine B Bo (l.take k) hs u) (hr:RowF Bo n (hs++List.replicate (n - k) (0,none,0,0)) u) :
  u.cell? ⟨Bo,k*2,none⟩=some (.int .i64 0)∧u.cell? ⟨Bo,k*2+1,none⟩=some (.slice none 0 0)∧u.frozen? ⟨Bo,k*2,none⟩=false∧u.frozen? ⟨Bo,k*2+1,none⟩=false:=by
 have hl:hs.length=k:=by rw [hV.len,List.length_take];omega
 have hx:(hs++List.replicate (n - k) ((0,none,0,0):Hw))[k]?=some (0,none,0,0):=by
  rw [List.getElem?_append_right (by omega),hl,Nat.sub_self,List.getElem?_replicate,if_pos (by omega)]
 exact rowF_at hr hx
theorem relC_next {B:Bs} {Bo n:Nat} {l:List Lv} {k:Nat} (hB:B.le Bo) (hn:n=l.length) (hk:k<l.length) {hs:List Hw} {V u:World} (hr:RowF Bo n (hs++List.replicate (n - k) (0,none,0,0)) u) (hV:Mine B Bo (l.take k) hs V) (hVu:Below V.heap.size V u) (hBo:Bo≤V.heap.size)
  {p:Int} {os:List Od} (hlk:l[k]=(p,os)) {a:Option Addr} {m c:Nat} (ho:OwnO B V.heap.size os (.slice a m c) u) :
  RelC B Bo n l (k+1) ((u.setCell ⟨Bo,k*2,none⟩ (.int .i64 p)).setCell ⟨Bo,k*2+1,none⟩ (.slice a m c))∧u.grownBy ((u.setCell ⟨Bo,k*2,none⟩ (.int .i64 p)).setCell ⟨Bo,k*2+1,none⟩ (.slice a m c)) (some Bo):=by
 have hl:hs.length=k:=by rw [hV.len,List.length_take];omega
 have hx:(hs++List.replicate (n - k) ((0,none,0,0):Hw))[k]?=some (0,none,0,0):=by
  rw [List.getElem?_append_right (by omega),hl,Nat.sub_self,List.getElem?_replicate,if_pos (by omega)]
 have h1:=hr.setCell (j:=0) (y:=(p,none,0,0)) (u:=.int .i64 p) hx (by decide) rfl
 have hx2:((hs++List.replicate (n - k) ((0,none,0,0):Hw)).set k (p,none,0,0))[k]?=some (p,none,0,0):=by
  rw [List.getElem?_set_self (by rw [List.length_append,List.length_replicate];omega)]
 have h2:=h1.setCell (j:=1) (y:=(p,a,m,c)) (u:=.slice a m c) hx2 (by decide) rfl
 rw [List.set_set] at h2
 have e1:(hs++List.replicate (n - k) ((0,none,0,0):Hw)).set k (p,a,m,c)=(hs++[(p,a,m,c)])++List.replicate (n - (k+1)) (0,none,0,0):=by
  rw [List.set_append_right _ _ (by omega),hl,Nat.sub_self]
  rw [show n - k=(n - (k+1))+1 by omega,List.replicate_succ,List.set_cons_zero,List.append_assoc,List.singleton_append]
 rw [e1] at h2
 have hg:=grown_trans (setCell_grown u Bo (k*2) (.int .i64 p)) (setCell_grown _ Bo (k*2+1) (.slice a m c))
 have hkp:Keeps B [74] u ((u.setCell ⟨Bo,k*2,none⟩ (.int .i64 p)).setCell ⟨Bo,k*2+1,none⟩ (.slice a m c)):=hr.keeps hB.1 (by decide) hg
 refine ⟨⟨hs++[(p,a,m,c)],h2,?_⟩,hg⟩
 rw [take_all hk,hlk]
 exact Mine.snoc ((hV.stays hVu).keep hB hkp) hV (Nat.le_refl _) hBo rfl (Own.keep (hB.mono hBo) ho hkp)
theorem cloned_any (B:Bs) (l:List Lv) (v:Value) (w:World) (h:LL B l v w) (hB:B.le w.heap.size) (hm:l.length≤1000000) (hf:(flat l).length≤1000000) :
  Calls Tryz.prog 210 #[v] w (Post (ClF B w.heap.size l) w):=by
 obtain ⟨a1,c1,rfl,h1⟩:=h
 have HA:=lH h1
 have HFl:=lH hf
 obtain ⟨n,hn⟩:∃ n,n=l.length:=⟨_,rfl⟩
 rw [← hn] at hm ⊢
 have HN:=lH hn
 have hmk':=make_levels n hm
 clear h1 hn hf
 go_enter Tryz.func210,Tryz.ntmps210
 go_wp2
 clear hmk'
 obtain ⟨W,hW⟩:∃ W,W=w.alloc (.cells (madeCells #[.int .i64 0,.slice none 0 0] (n*2)) 106):=⟨_,rfl⟩
 have hbW:Below w.heap.size w W:=hW ▸ below1 w _
 have hI:RowF w.heap.size n (List.replicate n (0,none,0,0)) W:=hW ▸ row_levels n w
 rw [← hW]
 clear hW
 have HI:=lH hI
 clear hI
 go_loopw [4,11] (fun _ i wr=>∃ k:Nat,k≤n∧i=.int .i64 k∧Below w.heap.size w wr∧RelC B w.heap.size n l k wr) (fun _ i _=>n - (intOf i).toNat)
 case atStart=>exact ⟨0,Nat.zero_le _,rfl,hbW,[],HI.out,Mine.nil _ _ _⟩
 case round =>
  obtain ⟨k,hk,rfl,hb,hs,hrow,hmine⟩:=hrel
  have HR:=lH hrow
  have HM:=lH hmine
  clear hrow hmine
  by_cases hlt:k<n
  ·have hlt2:(k:Int)<n:=by omega
   have hkl:k<l.length:=by rw [← HN.out];exact hlt
   rcases HA.out with ⟨e,_⟩ | ⟨b,off,rfl,hat⟩
   ·rw [e] at hkl;cases hkl
   have hat2:=Lies.keep eL 106 hat (Keeps.of_below hb)
   have hbb:=hat2.1
   obtain ⟨x,q0,q1,hx⟩:=atL hat2 k hkl
   have hle:=flat_take_le l (k+1)
   rw [flat_take_snoc hkl,List.length_append] at hle
   obtain ⟨⟨pr,os⟩,hlk⟩:∃ y,l[k]'hkl=y:=⟨_,rfl⟩
   rw [hlk] at q0 hx hle
   simp only at q0 hx hle
   have hosl:os.length≤1000000:=by have:=HFl.out;omega
   have HX0:=lH hx
   obtain ⟨a2,c2,rfl⟩:=hx.len
   have hgz:=HR.out.lt
   obtain ⟨V,hV⟩:∃ V,V=wr.alloc (.cells #[.int .i64 pr,.slice a2 os.length c2] 106):=⟨_,rfl⟩
   have hbV:Below wr.heap.size wr V:=hV ▸ below1 wr _
   have hzV:wr.heap.size<V.heap.size:=by rw [hV];simp
   have s0:V.cell? ⟨wr.heap.size,0,none⟩=some (.int .i64 pr):=by rw [hV];simp [go_sem]
   have s1:V.cell? ⟨wr.heap.size,1,none⟩=some (.slice a2 os.length c2):=by rw [hV];simp [go_sem]
   have hbw:=nx hb hbV
   have hne:some wr.heap.size≠some w.heap.size:=fun e=>by injection e with e;omega
   have hF:∀ u,V.grownBy u (some w.heap.size)→u.cell? ⟨wr.heap.size,0,none⟩=some (.int .i64 pr)∧u.cell? ⟨wr.heap.size,1,none⟩=some (.slice a2 os.length c2):=fun u hu =>
    ⟨by rw [grown_cell hu hzV hne];exact s0,by rw [grown_cell hu hzV hne];exact s1⟩
   have HX:=lH (show ∀ u,Below V.heap.size V u→OL B os (.slice a2 os.length c2) u∧B.le u.heap.size from fun u hu=>⟨Is.stays eO 74 HX0.out (nx hbV hu),hB.mono (nx hbw hu).size⟩)
   have HRV:=lH (HR.out.stays hbV)
   have HMV:=lH (HM.out.stays hbV)
   have HB:=lH hB
   have HLk:=lH hlk
   have HV:=lH hV
   clear hV hle s0 s1 hx hlk
   go_wp2
   rw [← HV.out]
   refine Rh.rg (fun u=>V.grownBy u (some w.heap.size)) (fun u=>Below V.heap.size V u) (grown_stays V _) (fun _ _ h k=>nx h k) (grown_drew V _) ((Below.refl _ _).drew) [0,1,2,3,4,5,6,7,8,9] ?_
   repeat (first | (refine Rh.Steps.sk ?_;simp only [Act.put,sA,sB,sC]) | (refine Rh.Steps.pu (v:=?_) ?_ ?_;rotate_left;(intro w_ hS_;have hk_:=hF w_ hS_;go_simp<;>with_reducible rfl);simp only [Act.put,sA,sB,sC]))
   refine Rh.Steps.forced (i:=6) (by kernel_rfl) ?_
   refine Rh.One.call (fun v u=>OwnO B V.heap.size os v u) (fun v _ _ h k=>h.stays k) (f:=?_) (args:=?_) (by rfl) (by rfl) ?_ ?_ ?_
   rotate_left 2
   ·intro w_ hS_ hG_;go_simp<;>first | with_reducible rfl | (constructor<;>with_reducible rfl)
   ·intro w_ hS_ hG_;(go_at_call 122;refine (cloneO_any B os _ w_ (HX.out w_ hG_).1 (HX.out w_ hG_).2 hosl).mono ?_;rintro e w' ⟨v,rfl,hb1,ho⟩;exact ⟨v,rfl,hb1,Own.lower ho hG_.size⟩)
   intro v1 u_ hv1
   simp only [Act.put,sA,sB,sC]
   obtain ⟨a3,n3,c3,rfl⟩:∃ a n c,v1=.slice a n c:=by obtain ⟨a,c,h⟩:=(hv1.is (by decide) (HB.out.mono hbw.size)).len;exact ⟨a,_,c,h⟩
   repeat (first | (refine Rh.Steps.sk ?_;simp only [Act.put,sA,sB,sC]) | (refine Rh.Steps.pu (v:=?_) ?_ ?_;rotate_left;(intro w_ hS_;have hk_:=hF w_ hS_;go_simp<;>with_reducible rfl);simp only [Act.put,sA,sB,sC]))
   refine Rh.Steps.forced (i:=9) (by kernel_rfl) ?_
   refine Rh.One.store (fun u=>Below w.heap.size w u∧RelC B w.heap.size n l (k+1) u) (fun _ _ h k=>⟨nx h.1 k,h.2.stays k⟩) (by rfl) (by rfl) ?_ ?_
   ·intro w_ hS_ hG_
    obtain ⟨c0,c1,f0,f1⟩:=relC_at HN.out hkl (HMV.out.stays hG_.1) (HRV.out.stays hG_.1)
    obtain ⟨hrel,hgr⟩:=relC_next HB.out HN.out hkl (HRV.out.stays hG_.1) HMV.out hG_.1 hbw.size HLk.out hG_.2
    refine ⟨_,?_,grown_trans hS_ hgr,(nx hbw hG_.1).grown hgr (nx hbw hG_.1).size (fun k hk=>by injection hk with e;omega),hrel⟩
    go_simp
   refine Rh.Steps.nil (by kernel_rfl) ?_
   intro w4 _ hG4
   have HG:=lH hG4
   clear hG4
   go_wp2
   go_roundw
   case rel=>exact ⟨k+1,by omega,by go_num,HG.out.1,HG.out.2⟩
   case measure=>simp [intOf];omega
  ·obtain rfl:k=n:=by omega
   have e1:l.take k=l:=by rw [HN.out,List.take_length]
   have hm9:=HM.out
   have hr9:=HR.out
   rw [e1] at hm9
   rw [Nat.sub_self,List.replicate_zero,List.append_nil] at hr9
   have HM9:=lH hm9
   have HR9:=lH hr9
   clear hm9 hr9 e1
   go_wp2
   go_ret
   exact ⟨_,rfl,hb,w.heap.size,hs,by rw [← HN.out];rfl,Nat.le_refl _,HM9.out.len,by rw [← HN.out];exact HR9.out,HM9.out⟩
end Go.Proofs.YtjhocpcpkemcaaaGreat.Le
