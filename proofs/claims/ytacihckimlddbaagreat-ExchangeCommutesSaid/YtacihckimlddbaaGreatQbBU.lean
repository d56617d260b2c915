/- ofNumbers, one; Keys of package command. -/
import Derived.Test.YtacihckimlddbaaGreatQbZZ
import Derived.Test.YtacihckimlddbaaGreatQbBP
import Derived.Laws.AppendOwn
import Derived.StillTailTactics
import Derived.Test.YtacihckimlddbaaGreatQbAA
import Derived.Test.YtacihckimlddbaaGreatQbBQ
import Derived.Test.YtacihckimlddbaaGreatQbBS
import Derived.Test.YtacihckimlddbaaGreatQbBT
set_option linter.unusedVariables false
set_option maxRecDepth 16000
set_option maxHeartbeats 32000000
namespace Go.Proofs.YtacihckimlddbaaGreat.Cm
open Go.RowKit
open Rw
open Fx (ret_v ret_bool ret_int)
def K1 (c : Nat→Int) (v : Value) (w : World) : Prop:=∃ b cap,v=.slice (some ⟨b,0,none⟩) 1 cap∧b<w.heap.size∧w.cell? ⟨b,0,none⟩=some (.bool false)∧w.cell? ⟨b,1,none⟩=some (.int .i64 (c 0))
def K2 (c : Nat→Int) (v : Value) (w : World) : Prop:=∃ b cap,v=.slice (some ⟨b,0,none⟩) 2 cap∧b<w.heap.size∧w.cell? ⟨b,0,none⟩=some (.bool false)∧w.cell? ⟨b,1,none⟩=some (.int .i64 (c 0))∧w.cell? ⟨b,2,none⟩=some (.bool true)∧w.cell? ⟨b,3,none⟩=some (.int .i64 (c 3))
theorem hasLane_is {k : Int} {r : Bool} (h : Hid (laneB k=r)) (w : World) :
  Calls Tryz.prog 55 #[.int .i64 k] w fun e w'=>e=.returned (.bool r)∧w=w':=by
 rw [← h.out];exact hasLane_any k w
theorem keys0 (c : Nat→Int) (h : (c 2==0)=true) (w : World) :
  Calls Tryz.prog 25 #[.agg (fc c)] w fun e w'=>e=.returned (.slice none 0 0)∧Below w.heap.size w w':=by
 go_enter Tryz.func25,Tryz.ntmps25
 go_wp2
 go_ret
 exact ⟨rfl,below1 _ _⟩
def Post (F : Value→World→Prop) (w : World) (e : Ending) (w' : World) : Prop:=∃ v,e=.returned v∧Below w.heap.size w w'∧F v w'
theorem keys1 (c : Nat→Int) (h : (c 2==0)=false) (k : Hid (laneB (c 2)=false)) (w : World) :
  Calls Tryz.prog 25 #[.agg (fc c)] w (Post (K1 c) w):=by
 go_enter Tryz.func25,Tryz.ntmps25
 go_wp2_with fail
 refine (hasLane_is k _).mono ?_
 rintro e w' ⟨rfl,rfl⟩
 go_wp2
 go_ret
 exact ⟨_,rfl,below3 _ _ _ _,_,_,rfl,by simp,by simp [go_sem],by simp [go_sem]⟩
theorem keys2 (c : Nat→Int) (h : (c 2==0)=false) (k : Hid (laneB (c 2)=true)) (w : World) :
  Calls Tryz.prog 25 #[.agg (fc c)] w (Post (K2 c) w):=by
 go_enter Tryz.func25,Tryz.ntmps25
 go_wp2_with fail
 refine (hasLane_is k _).mono ?_
 rintro e w' ⟨rfl,rfl⟩
 go_wp2
 go_ret
 exact ⟨_,rfl,below3 _ _ _ _,_,_,rfl,by simp,by simp [go_sem],by simp [go_sem],by simp [go_sem],by simp [go_sem]⟩
def nk (c : Nat→Int) : Nat:=if laneB (c 2) then 2 else 1
def kl (j : Nat) : Bool:=j==1
def ki (c : Nat→Int) (j : Nat) : Int:=if j=1 then c 3 else c 0
def KN (c : Nat→Int) (v : Value) (w : World) : Prop:=∃ b cap,v=.slice (some ⟨b,0,none⟩) (nk c) cap∧b<w.heap.size∧∀ j,j<nk c→w.cell? ⟨b,j*2,none⟩=some (.bool (kl j))∧w.cell? ⟨b,j*2+1,none⟩=some (.int .i64 (ki c j))
def KV (c : Nat→Int) (v : Value) (w : World) : Prop:=(c 2=0∧v=.slice none 0 0)∨(c 2≠0∧KN c v w)
theorem KV.stays (c : Nat→Int) (v : Value) (w w' : World) (h : KV c v w) (k : Below w.heap.size w w') : KV c v w':=by
 rcases h with h | ⟨h,b,cap,e,hb,hc⟩
 ·exact .inl h
 ·exact .inr ⟨h,b,cap,e,Nat.lt_of_lt_of_le hb k.size,fun j hj=>⟨by rw [k.cell (p:=⟨b,j*2,none⟩) hb,(hc j hj).1],by rw [k.cell (p:=⟨b,j*2+1,none⟩) hb,(hc j hj).2]⟩⟩
theorem KN.of1 {c : Nat→Int} {v : Value} {w : World} (hl : laneB (c 2)=false) (h : K1 c v w) : KN c v w:=by
 obtain ⟨b,cap,e,hb,h0,h1⟩:=h
 have hn : nk c=1:=by unfold nk;rw [hl];rfl
 refine ⟨b,cap,by rw [hn,e],hb,fun j hj=>?_⟩
 obtain rfl : j=0:=by omega
 exact ⟨h0,h1⟩
theorem KN.of2 {c : Nat→Int} {v : Value} {w : World} (hl : laneB (c 2)=true) (h : K2 c v w) : KN c v w:=by
 obtain ⟨b,cap,e,hb,h0,h1,h2,h3⟩:=h
 have hn : nk c=2:=by unfold nk;rw [hl];rfl
 refine ⟨b,cap,by rw [hn,e],hb,fun j hj=>?_⟩
 rcases (show j=0∨j=1 by omega) with rfl | rfl
 ·exact ⟨h0,h1⟩
 ·exact ⟨h2,h3⟩
theorem keys_any (c : Nat→Int) (w : World) : Calls Tryz.prog 25 #[.agg (fc c)] w (Post (KV c) w):=by
 by_cases h : c 2=0
 ·exact (keys0 c (by simp [h]) w).mono fun e w' ⟨he,hb⟩=>⟨_,he,hb,.inl ⟨h,rfl⟩⟩
 ·cases hl : laneB (c 2)
  ·exact (keys1 c (by simp [h]) (lH hl) w).mono fun e w' ⟨v,he,hb,k⟩=>⟨v,he,hb,.inr ⟨h,KN.of1 hl k⟩⟩
  ·exact (keys2 c (by simp [h]) (lH hl) w).mono fun e w' ⟨v,he,hb,k⟩=>⟨v,he,hb,.inr ⟨h,KN.of2 hl k⟩⟩
def keyB (a : Bool) (x : Int) (b : Bool) (y : Int) : Bool:=(a==b)&&(x==y)
theorem fieldsK : Tryz.prog.underlying 68=some (.struct (Tryz.prog.fieldsOf 68)):=by kernel_rfl
theorem eqK (a : Bool) (x : Int) (b : Bool) (y : Int) (w : World) : (Op.equalIn 10000 68 (.agg #[.bool a,.int .i64 x]) (.agg #[.bool b,.int .i64 y])).run Tryz.prog w=.ok (keyB a x b y) w:=by
 rw [run_equalIn_agg w 9999 _ _ _ fieldsK (by kernel_rfl)]
 simp only [Program.fieldsOf,Tryz.underlying68]
 simp [Op.eqFields,go_sem,keyB]
 by_cases h1 : a=b<;>by_cases h2 : x=y<;>simp [h1,h2]
theorem eqlK (a : Bool) (x : Int) (b : Bool) (y : Int) (w : World) : (binOp .eql 68 (.agg #[.bool a,.int .i64 x]) (.agg #[.bool b,.int .i64 y])).run Tryz.prog w=.ok (.bool (keyB a x b y)) w:=by
 rw [run_eql_struct,eqK];rfl
theorem neqK (a : Bool) (x : Int) (b : Bool) (y : Int) (w : World) : (binOp .neq 68 (.agg #[.bool a,.int .i64 x]) (.agg #[.bool b,.int .i64 y])).run Tryz.prog w=.ok (.bool (!keyB a x b y)) w:=by
 rw [run_neq_struct,eqK];rfl
theorem guardK (op : BinOp) (x y : Operand) (a : Bool) (p : Int) (b : Bool) (q : Int) (w : World) : (eqGuard op 68 x y (.agg #[.bool a,.int .i64 p]) (.agg #[.bool b,.int .i64 q])).run Tryz.prog w=.ok () w :=
 run_eqGuard_agg w op _ x y _ _ (by kernel_rfl)
attribute [go_sem ↓] eqlK neqK guardK
def hasF (c : Nat→Int) (n : Nat) (l : Bool) (x : Int) : Bool:=(List.range n).any fun j=>keyB l x (kl j) (ki c j)
theorem hasF_zero (c : Nat→Int) (l : Bool) (x : Int) : hasF c 0 l x=false:=rfl
theorem hasF_succ (c : Nat→Int) (n : Nat) (l : Bool) (x : Int) : hasF c (n+1) l x=(hasF c n l x||keyB l x (kl n) (ki c n)):=by
 unfold hasF;rw [List.range_succ,List.any_append];simp
def hasB (c : Nat→Int) (l : Bool) (x : Int) : Bool:=(c 2 != 0)&&hasF c (nk c) l x
theorem nk_bd (c : Nat→Int) : 1≤nk c∧nk c≤2:=by unfold nk;split<;>omega
def idxF (c : Nat→Int) (l : Bool) (x : Int) : Nat→Int
 | 0=>-1
 | n+1=>if hasF c n l x then idxF c l x n else if keyB l x (kl n) (ki c n) then n else -1
theorem idxF_ge (c : Nat→Int) (l : Bool) (x : Int) (n : Nat) : decide (0≤idxF c l x n)=hasF c n l x:=by
 induction n with
 | zero=>rfl
 | succ n ih =>
  rw [idxF,hasF_succ]
  cases h : hasF c n l x
  ·cases k : keyB l x (kl n) (ki c n)<;>simp
  ·rw [h] at ih;simpa using ih
theorem idxF_no {c : Nat→Int} {l : Bool} {x : Int} (n : Nat) (h : hasF c n l x=false) : idxF c l x n=-1:=by
 induction n with
 | zero=>rfl
 | succ n ih =>
  rw [hasF_succ,Bool.or_eq_false_iff] at h
  rw [idxF,h.1,h.2];rfl
theorem hasF_mono {c : Nat→Int} {l : Bool} {x : Int} {n m : Nat} (h : n≤m) (k : hasF c n l x=true) : hasF c m l x=true:=by
 induction m with
 | zero=>rw [← Nat.le_zero.1 h];exact k
 | succ m ih =>
  by_cases e : n=m+1
  ·rw [← e];exact k
  ·rw [hasF_succ,ih (by omega)];rfl
theorem idxF_at {c : Nat→Int} {l : Bool} {x : Int} (k n : Nat) (hk : k<n) (h0 : hasF c k l x=false) (h : keyB l x (kl k) (ki c k)=true) : idxF c l x n=k:=by
 induction n with
 | zero=>omega
 | succ n ih =>
  rw [idxF]
  by_cases e : k=n
  ·subst e;rw [h0,h];simp
  ·have h1 : hasF c (k+1) l x=true:=by rw [hasF_succ,h,Bool.or_true]
   rw [hasF_mono (show k+1≤n by omega) h1,if_pos rfl]
   exact ih (by omega)
theorem bdrewN {B : Nat} {a w : World} (h : Below B a w) (n : Nat) : Below B a (w.drewN n):=⟨h.os,h.tape,h.output,h.size,h.block⟩
theorem index_nil (l : Bool) (x : Int) (w : World) :
  Calls Tryz.prog 91 #[.slice none 0 0,.agg #[.bool l,.int .i64 x]] w fun e w'=>e=.returned (.int .i64 (-1))∧Below w.heap.size w w':=by
 go_enter Tryz.func91,Tryz.ntmps91
 go_wp2
 go_loopw [8] (fun i wr=>i=.int .i64 0∧Below w.heap.size w wr) (fun i _=>0)
 case atStart=>exact ⟨rfl,below1 _ _⟩
 case round =>
  obtain ⟨rfl,hb⟩:=hrel
  go_wp2
  go_ret
  exact ⟨rfl,hb⟩
theorem index_any (c : Nat→Int) (l : Bool) (x : Int) (b cap : Nat) (w : World) (hb : b<w.heap.size) (hc : ∀ j,j<nk c→w.cell? ⟨b,j*2,none⟩=some (.bool (kl j))∧w.cell? ⟨b,j*2+1,none⟩=some (.int .i64 (ki c j))) :
  Calls Tryz.prog 91 #[.slice (some ⟨b,0,none⟩) (nk c) cap,.agg #[.bool l,.int .i64 x]] w fun e w'=>e=.returned (.int .i64 (idxF c l x (nk c)))∧Below w.heap.size w w':=by
 have HC:=lH hc
 have hn:=nk_bd c
 obtain ⟨n,hN⟩ : ∃ n,n=nk c:=⟨_,rfl⟩
 rw [← hN] at hn ⊢
 have HN:=lH hN
 obtain ⟨hn1,hn2⟩:=hn
 clear hc hN
 go_enter Tryz.func91,Tryz.ntmps91
 go_wp2
 obtain ⟨W,hW⟩ : ∃ W,W=w.alloc (.cells #[.bool l,.int .i64 x] 68):=⟨_,rfl⟩
 have hz : w.heap.size<W.heap.size:=by rw [hW];simp
 have hb0 : Below w.heap.size w W:=hW ▸ below1 w _
 have k0 : W.cell? ⟨w.heap.size,0,none⟩=some (.bool l):=by rw [hW];simp [go_sem]
 have k1 : W.cell? ⟨w.heap.size,1,none⟩=some (.int .i64 x):=by rw [hW];simp [go_sem]
 have hbW : b<W.heap.size:=by omega
 rw [← hW]
 have HK : Hid (∀ j,j<n→W.cell? ⟨b,j*2,none⟩=some (.bool (kl j))∧W.cell? ⟨b,j*2+1,none⟩=some (.int .i64 (ki c j))):=lH fun j hj=>by
  rw [hb0.cell (p:=⟨b,j*2,none⟩) hb,hb0.cell (p:=⟨b,j*2+1,none⟩) hb]
  exact HC.out j (HN.out ▸ hj)
 clear hW HC
 go_loopw [8] (fun i wr=>∃ k : Nat,k≤n∧i=.int .i64 k∧Below W.heap.size W wr∧hasF c k l x=false) (fun i _=>n - (intOf i).toNat)
 case atStart=>exact ⟨0,Nat.zero_le _,rfl,Below.refl _ _,rfl⟩
 case round =>
  obtain ⟨k,hk,rfl,hb1,hno⟩:=hrel
  have HNo:=lH hno
  clear hno
  by_cases hlt : k<n
  ·have hlt2 : (k : Int)<n:=by omega
   have hc:=HK.out k hlt
   obtain ⟨hc0,hc1⟩:=hc
   have hB:=bcell hb1
   obtain ⟨c1,f1,r1,p1⟩:=hB
   cases hq : keyB l x (kl k) (ki c k)
   ·have HS : Hid (hasF c (k+1) l x=false):=lH (by rw [hasF_succ,HNo.out,hq];rfl)
    go_wp2
    go_quiet (fail)
    go_wp2
    go_roundw
    case rel=>exact ⟨k+1,by omega,by go_num,bdrewN hb1 _,HS.out⟩
    case measure=>simp [intOf];omega
   ·have HS : Hid (idxF c l x n=k):=lH (idxF_at k n hlt HNo.out hq)
    go_wp2
    go_quiet (fail)
    go_wp2
    go_ret
    exact ⟨ret_int HS.out.symm,nx hb0 (bdrewN hb1 _)⟩
  ·obtain rfl : k=n:=by omega
   have HS : Hid (idxF c l x k=-1):=lH (idxF_no k HNo.out)
   go_wp2
   go_ret
   exact ⟨ret_int HS.out.symm,nx hb0 hb1⟩
theorem index_kv (c : Nat→Int) (l : Bool) (x : Int) (v : Value) (w : World) (h : KV c v w) :
  Calls Tryz.prog 91 #[v,.agg #[.bool l,.int .i64 x]] w fun e w'=>(∃ k : Int,e=.returned (.int .i64 k)∧decide (0≤k)=hasB c l x)∧Below w.heap.size w w':=by
 rcases h with ⟨h,rfl⟩ | ⟨h,b,cap,rfl,hb,hc⟩
 ·exact (index_nil l x w).mono fun e w' ⟨he,hb⟩=>⟨⟨_,he,by simp [hasB,h]⟩,hb⟩
 ·exact (index_any c l x b cap w hb hc).mono fun e w' ⟨he,hb⟩=>⟨⟨_,he,by rw [idxF_ge];simp [hasB,h]⟩,hb⟩
theorem contains_kv (c : Nat→Int) (l : Bool) (x : Int) (v : Value) (w : World) (h : KV c v w) :
  Calls Tryz.prog 54 #[v,.agg #[.bool l,.int .i64 x]] w fun e w'=>e=.returned (.bool (hasB c l x))∧Below w.heap.size w w':=by
 have HS:=lH (KV.stays c v w _ h (below1 w (.cells #[.bool l,.int .i64 x] 68)))
 clear h
 go_enter Tryz.func54,Tryz.ntmps54
 go_wp2_with fail
 refine (index_kv c l x v _ HS.out).mono ?_
 rintro e w1 ⟨⟨k,rfl,hk⟩,hb1⟩
 have HK:=lH hk
 clear hk
 go_wp2
 go_ret
 exact ⟨ret_bool HK.out,nx (below1 _ _) hb1⟩
def anyF (a b : Nat→Int) (n : Nat) : Bool:=(List.range n).any fun j=>hasB b (kl j) (ki a j)
theorem anyF_succ (a b : Nat→Int) (n : Nat) : anyF a b (n+1)=(anyF a b n||hasB b (kl n) (ki a n)):=by
 unfold anyF;rw [List.range_succ,List.any_append];simp
theorem hasF_1 (c : Nat→Int) (l : Bool) (x : Int) : hasF c 1 l x=keyB l x false (c 0):=by rw [hasF_succ,hasF_zero];rfl
theorem hasF_2 (c : Nat→Int) (l : Bool) (x : Int) : hasF c 2 l x=(keyB l x false (c 0)||keyB l x true (c 3)):=by rw [hasF_succ,hasF_1];rfl
theorem meet_any (a b : Nat→Int) (h : a 2≠0) : anyF a b (nk a)=meetB a b:=by
 have h1 : (a 2 != 0)=true:=by simp [h]
 have e0 : ∀ c : Nat→Int,(kl 0,ki c 0)=(false,c 0):=fun _=>rfl
 have e1 : ∀ c : Nat→Int,(kl 1,ki c 1)=(true,c 3):=fun _=>rfl
 have a1 : anyF a b 1=hasB b false (a 0):=by rw [anyF_succ];rfl
 have a2 : anyF a b 2=(hasB b false (a 0)||hasB b true (a 3)):=by rw [anyF_succ,a1];rfl
 unfold meetB
 rw [h1]
 cases la : laneB (a 2)<;>cases lb : laneB (b 2)
 ·have na : nk a=1:=by unfold nk;rw [la];rfl
  have nb : nk b=1:=by unfold nk;rw [lb];rfl
  rw [na,a1,hasB,nb,hasF_1];simp [keyB]
 ·have na : nk a=1:=by unfold nk;rw [la];rfl
  have nb : nk b=2:=by unfold nk;rw [lb];rfl
  rw [na,a1,hasB,nb,hasF_2];simp [keyB]
 ·have na : nk a=2:=by unfold nk;rw [la];rfl
  have nb : nk b=1:=by unfold nk;rw [lb];rfl
  rw [na,a2,hasB,hasB,nb,hasF_1,hasF_1];simp [keyB]
 ·have na : nk a=2:=by unfold nk;rw [la];rfl
  have nb : nk b=2:=by unfold nk;rw [lb];rfl
  rw [na,a2,hasB,hasB,nb,hasF_2,hasF_2];simp [keyB]
  cases (b 2 != 0)<;>simp
theorem meet_none (a b : Nat→Int) (h : a 2=0) : meetB a b=false:=by unfold meetB;simp [h]
theorem anyF_mono {a b : Nat→Int} {n m : Nat} (h : n≤m) (k : anyF a b n=true) : anyF a b m=true:=by
 induction m with
 | zero=>rw [← Nat.le_zero.1 h];exact k
 | succ m ih =>
  by_cases e : n=m+1
  ·rw [← e];exact k
  ·rw [anyF_succ,ih (by omega)];rfl
theorem meets_any (a b : Nat→Int) (w : World) :
  Calls Tryz.prog 24 #[.agg (fc a),.agg (fc b)] w fun e w'=>e=.returned (.bool (meetB a b))∧Below w.heap.size w w':=by
 go_enter Tryz.func24,Tryz.ntmps24
 go_wp2_with fail
 obtain ⟨W,hW⟩ : ∃ W,W=(w.alloc (.cells (fc a) 35)).alloc (.cells (fc b) 35):=⟨_,rfl⟩
 have hz : w.heap.size+1<W.heap.size:=by rw [hW];simp
 have hb0 : Below w.heap.size w W:=hW ▸ below2 w _ _
 have hr0 : row W (w.heap.size+1)=fc b:=by rw [hW];exact row_new _ _ _ _ (by simp)
 rw [← hW]
 clear hW
 refine (keys_any a _).mono ?_
 rintro e w1 ⟨v,rfl,hb1,hv⟩
 have hz1 : w.heap.size+1<w1.heap.size:=by have:=hb1.size;omega
 have hr1 : row w1 (w.heap.size+1)=fc b:=by rw [(bcell hb1).2.2.1 _ hz];exact hr0
 have hbw:=nx hb0 hb1
 clear hr0 hz hb0 hb1
 rcases hv with ⟨h0,rfl⟩ | ⟨h0,p,cap,rfl,hp,hc⟩
 ·have H:=lH (meet_none a b h0)
  clear h0
  go_wp2
  go_loopw [10] (fun i wr=>i=.int .i64 0∧Below w.heap.size w wr) (fun i _=>0)
  case atStart=>exact ⟨rfl,hbw⟩
  case round =>
   obtain ⟨rfl,hb⟩:=hrel
   go_wp2
   go_ret
   exact ⟨ret_bool H.out.symm,hb⟩
 ·have HM:=lH (meet_any a b h0)
  have HC:=lH hc
  have hn:=nk_bd a
  obtain ⟨n,hN⟩ : ∃ n,n=nk a:=⟨_,rfl⟩
  rw [← hN] at hn HM HC ⊢
  have HN:=lH hN
  obtain ⟨hn1,hn2⟩:=hn
  clear hc hN h0
  go_wp2
  go_loopw [10] (fun i wr=>∃ k : Nat,k≤n∧i=.int .i64 k∧Below w1.heap.size w1 wr∧anyF a b k=false) (fun i _=>n - (intOf i).toNat)
  case atStart=>exact ⟨0,Nat.zero_le _,rfl,Below.refl _ _,rfl⟩
  case round =>
   obtain ⟨k,hk,rfl,hb1,hno⟩:=hrel
   have HNo:=lH hno
   clear hno
   by_cases hlt : k<n
   ·have hlt2 : (k : Int)<n:=by omega
    have hc:=HC.out k hlt
    obtain ⟨hc0,hc1⟩:=hc
    have hB:=bcell hb1
    obtain ⟨c1,f1,r1,p1⟩:=hB
    go_wp2
    obtain ⟨V,hV⟩ : ∃ V,V=wr.alloc (.cells #[.bool (kl k),.int .i64 (ki a k)] 68):=⟨_,rfl⟩
    have hzw : wr.heap.size<V.heap.size:=by rw [hV];simp
    have hbV : Below wr.heap.size wr V:=hV ▸ below1 wr _
    have hzr : w.heap.size+1<wr.heap.size:=by have:=hb1.size;omega
    have hF : ∀ u,Below V.heap.size V u→row u (w.heap.size+1)=fc b∧u.cell? ⟨wr.heap.size,0,none⟩=some (.bool (kl k))∧u.cell? ⟨wr.heap.size,1,none⟩=some (.int .i64 (ki a k)):=fun u hu=>by
     refine ⟨?_,?_,?_⟩
     ·rw [(bcell hu).2.2.1 _ (by omega),(bcell hbV).2.2.1 _ hzr,r1 _ hz1];exact hr1
     ·rw [hu.cell (p:=⟨wr.heap.size,0,none⟩) hzw,hV];simp [go_sem]
     ·rw [hu.cell (p:=⟨wr.heap.size,1,none⟩) hzw,hV];simp [go_sem]
    rw [← hV]
    clear hV
    refine Rf.rg [0,2,1,3] ?_
    repeat (first | (refine Rf.Steps.sk ?_;simp only [Act.put,sA,sB,sC]) | (refine Rf.Steps.pu (v:=?_) ?_ ?_;rotate_left;(intro w_ hS_;have hk_:=hF w_ hS_;go_simp<;>with_reducible rfl);simp only [Act.put,sA,sB,sC]))
    refine Rf.Steps.forced (by kernel_rfl) ?_
    refine Rf.One.call (KV b) (fun v=>KV.stays b v) (f:=?_) (args:=?_) (by rfl) (by rfl) ?_ ?_ ?_
    rotate_left 2
    ·intro w_ hS_;have hk_:=hF w_ hS_;go_simp<;>first | with_reducible rfl | (constructor<;>with_reducible rfl)
    ·intro w_ hS_;have hk_:=hF w_ hS_;exact keys_any b _
    intro x u_ hx
    simp only [Act.put,sA,sB,sC]
    refine Rf.Steps.forced (by kernel_rfl) ?_
    refine Rf.One.call (fun v _=>v=.bool (hasB b (kl k) (ki a k))) (fun v w w' h _=>h) (f:=?_) (args:=?_) (by rfl) (by rfl) ?_ ?_ ?_
    rotate_left 2
    ·intro w_ hS_;have hk_:=(fun u (hu : _∧KV b x u)=>hu.2) w_ hS_;go_simp<;>first | with_reducible rfl | (constructor<;>with_reducible rfl)
    ·intro w_ hS_;have hk_:=(fun u (hu : _∧KV b x u)=>hu.2) w_ hS_;exact (contains_kv b (kl k) (ki a k) x _ hk_).mono fun e w' ⟨he,hb⟩=>⟨_,he,hb,rfl⟩
    intro y u_ hy
    simp only [Act.put,sA,sB,sC]
    subst hy
    refine Rf.Steps.nil (by kernel_rfl) ?_
    rintro w2 ⟨⟨hb2,_⟩,_⟩
    have hb3 : Below w1.heap.size w1 w2:=nx hb1 (nx hbV hb2)
    clear hF hx hbV hb2
    cases hq : hasB b (kl k) (ki a k)
    ·have HS : Hid (anyF a b (k+1)=false):=lH (by rw [anyF_succ,HNo.out,hq];rfl)
     clear hq
     go_wp2
     go_roundw
     case rel=>exact ⟨k+1,by omega,by go_num,hb3,HS.out⟩
     case measure=>simp [intOf];omega
    ·have HS : Hid (meetB a b=true):=lH (by rw [← HM.out];exact anyF_mono (show k+1≤n by omega) (by rw [anyF_succ,hq,Bool.or_true]))
     clear hq
     go_wp2
     go_ret
     exact ⟨ret_bool HS.out.symm,nx hbw hb3⟩
   ·obtain rfl : k=n:=by omega
    have HS : Hid (meetB a b=false):=lH (by rw [← HM.out];exact HNo.out)
    go_wp2
    go_ret
    exact ⟨ret_bool HS.out.symm,nx hbw hb1⟩
end Go.Proofs.YtacihckimlddbaaGreat.Cm
namespace Go.Proofs.YtacihckimlddbaaGreat.Ex
open Go.RowKit
open Rw
open Da
open Cm (fc fc_at v9 meetB)
open Se (Rp ret_bool)
theorem meets_is' {a b : Cd} {r : Bool} (H : Hid (meetB a b=r)) (w : World) :
  Calls Tryz.prog 24 #[.agg (fc a),.agg (fc b)] w fun e w'=>e=.returned (.bool r)∧Below w.heap.size w w':=by
 rw [← H.out];exact Cm.meets_any a b w
theorem cl2 (c d : Cd) (w : World) : CL (Bs.of (w.alloc (.cells (fc c++fc d) 35)).heap.size) [c,d] (.slice (some ⟨w.heap.size,0,none⟩) 2 2) (w.alloc (.cells (fc c++fc d) 35)):=by
 have hb:=heap_alloc_new w (.cells (fc c++fc d) 35)
 refine ⟨_,2,rfl,.inr ⟨w.heap.size,0,rfl,lt_of_some hb,.inl (lt_of_some hb),fun i x hx=>⟨_,rfl,fun j u hu=>?_⟩⟩⟩
 rw [Nat.zero_add,cell_is hb]
 have hj : j<9:=by have:=(List.getElem?_eq_some_iff.1 hu).1;simpa [Cm.fc_size] using this
 match i,hx with
 | 0,hx =>
  obtain rfl:=Option.some.inj hx
  show (fc c++fc d)[0*9+j]?=_
  rw [Nat.zero_mul,Nat.zero_add,Array.getElem?_append_left (by rw [Cm.fc_size];exact hj)]
  rw [Array.getElem?_toList] at hu;exact hu
 | 1,hx =>
  obtain rfl:=Option.some.inj hx
  show (fc c++fc d)[1*9+j]?=_
  rw [Array.getElem?_append_right (by rw [Cm.fc_size];omega),Cm.fc_size,show 1*9+j - 9=j by omega]
  rw [Array.getElem?_toList] at hu;exact hu
section
variable (ρ : Operand→Value) (dst : Option Tmp) (ty : TypeId) (pos : String) (after : Array Edge) (guard : Option (Nat × Bool)) (w : World)
theorem fill2 (c d : Cd) (w : World) : (Instr.buildSlice 22 2 #[(0,.agg (fc c)),(1,.agg (fc d))]).run Tryz.prog w=.ok (.slice (some ⟨w.heap.size,0,none⟩) 2 2) (w.alloc (.cells (fc c++fc d) 35)):=by
 obtain ⟨i,h1,h2,h3,h4⟩:=info_parts infoC
 exact run_buildSlice w 22 35 2 _ (fc c++fc d) i _ Tryz.underlying22 h1 h2 (by rw [h3];decide) (by rw [h3];decide) (by rw [h3];kernel_rfl)
def isC (v : Value) : Prop:=∃ c : Cd,v=.agg (fc c)
theorem isC_fc (c : Cd) : isC (.agg (fc c)):=⟨c,rfl⟩
theorem exB2 (a b : Operand) (h0 : isC (ρ a)) (h1 : isC (ρ b)) :
  (execOp ρ { dst,op:=.buildSlice 22 2 #[(0,a),(1,b)],type:=ty,pos,after,guard }).run Tryz.prog w=.ok (.value (.slice (some ⟨w.heap.size,0,none⟩) 2 2)) (w.alloc (.cells ((ρ a).cells++(ρ b).cells) 35)):=by
 obtain ⟨c,hc⟩:=h0
 obtain ⟨d,hd⟩:=h1
 simp [execOp,hc,hd,fill2,Value.cells]
end
attribute [local go_sem ↓] exB2
attribute [local go_sem] isC_fc
theorem sm0 : SmX x0:=smX_right r0
theorem run2_any (n : Nat) (x : Xc) (v : Value) (c d : Cd) (w : World) (h : XV n x v w) (hn : n≤w.heap.size) (hs : SmX x) (hc : Nine c) (hd : Nine d) :
  Calls Tryz.prog 18 #[v,.slice (some ⟨w.heap.size,0,none⟩) 2 2] (w.alloc (.cells (fc c++fc d) 35)) (PostRn n (runX x [c,d]) (runR x [c,d]) (w.alloc (.cells (fc c++fc d) 35))) :=
 runX_any n x v [c,d] _ _ (h.stays (below1 _ _)) (Nat.le_trans hn (below1 w (.cells (fc c++fc d) 35)).size) hs (cl2 c d w) (by simp) (fun e he=>by
  simp only [List.mem_cons,List.not_mem_nil,or_false] at he
  rcases he with rfl | rfl
  ·exact hc
  ·exact hd)
theorem two_cells {n Bo g : Nat} {r s : Rp} {w : World} (h : Lot eRp 37 n Bo g [r,s] w) :
  (w.cell? ⟨g,0,none⟩=some (.int .i64 r.1)∧w.cell? ⟨g,1,none⟩=some (.int .i64 r.2.1)∧w.cell? ⟨g,2,none⟩=some (.int .i64 r.2.2.1)∧w.cell? ⟨g,3,none⟩=some (.int .i64 r.2.2.2.1)∧w.cell? ⟨g,4,none⟩=some (.int .i64 r.2.2.2.2)) ∧
  (w.cell? ⟨g,5,none⟩=some (.int .i64 s.1)∧w.cell? ⟨g,6,none⟩=some (.int .i64 s.2.1)∧w.cell? ⟨g,7,none⟩=some (.int .i64 s.2.2.1)∧w.cell? ⟨g,8,none⟩=some (.int .i64 s.2.2.2.1)∧w.cell? ⟨g,9,none⟩=some (.int .i64 s.2.2.2.2)):=by
 obtain ⟨_,_,h3⟩:=h.ls
 have q : ∀ (i : Nat) (x : Rp),[r,s][i]?=some x→∀ (j : Nat) (y : Value),(fR.f x)[j]?=some y→w.cell? ⟨g,i*5+j,none⟩=some y:=fun i x hx j y hy=>by
  obtain ⟨cs,hcs,h4⟩:=h3 i x hx
  obtain rfl : cs=fR.f x:=hcs
  have:=h4 j y hy
  rw [Nat.zero_add] at this;exact this
 exact ⟨⟨q 0 r rfl 0 _ rfl,q 0 r rfl 1 _ rfl,q 0 r rfl 2 _ rfl,q 0 r rfl 3 _ rfl,q 0 r rfl 4 _ rfl⟩,⟨q 1 s rfl 0 _ rfl,q 1 s rfl 1 _ rfl,q 1 s rfl 2 _ rfl,q 1 s rfl 3 _ rfl,q 1 s rfl 4 _ rfl⟩⟩
theorem sameX_refl (x : Xc) : SameX x x:=⟨rfl,rfl,rfl,rfl,rfl,fun i a b ha hb=>by
 rw [ha] at hb;obtain rfl:=Option.some.inj hb;exact ⟨rfl,rfl,rfl,rfl,rfl,rfl⟩⟩
theorem walkCommutes (l : List Cd) (v : Value) (c d : Cd) (w : World) (h : CL (Bs.of w.heap.size) l v w) (hl : wfCs l) (hc : Nine c) (hd : Nine d) :
  Calls Tryz.prog 8 #[v,.agg (fc c),.agg (fc d)] w fun e w'=>e=.returned (.bool true)∧Below w.heap.size w w':=by
 obtain ⟨a0,c0,rfl,hel⟩:=h
 obtain ⟨N,hN⟩ : ∃ N,N=l.length:=⟨_,rfl⟩
 rw [← hN]
 obtain ⟨V,hV⟩ : ∃ V,V=(w.alloc (.cells (fc c) 35)).alloc (.cells (fc d) 35):=⟨_,rfl⟩
 have hbV : Below w.heap.size w V:=hV ▸ below2 w _ _
 have b0 : V.heap[w.heap.size]?=some (.cells (fc c) 35 (0,0)):=by rw [hV,heap_al,if_neg (by simp),heap_al,if_pos rfl]
 have b1 : V.heap[w.heap.size+1]?=some (.cells (fc d) 35 (0,0)):=by rw [hV,heap_al,if_pos (by simp)]
 have HRow:=lH (show ∀ u,Below V.heap.size V u→row u w.heap.size=fc c∧row u (w.heap.size+1)=fc d∧w.heap.size+1<u.heap.size from fun u hu=>⟨row_is ((hu.block _ (lt_of_some b0)).trans b0),row_is ((hu.block _ (lt_of_some b1)).trans b1),Nat.lt_of_lt_of_le (lt_of_some b1) hu.size⟩)
 have HV:=lH hV
 have HB:=lH hbV
 by_cases h40 : 40<N
 ·have hd1 : decide ((40 : Int)<N)=true:=decide_eq_true (by omega)
  clear hel hN b0 b1 hV hbV h40 hl hc hd
  go_enter Tryz.func8,Tryz.ntmps8
  go_wp2_with fail
  rw [← HV.out]
  refine (awake_any V).mono ?_
  rintro e w1 ⟨rfl,hb1⟩
  have hf:=nx HB.out hb1
  go_wp2
  go_ret
  exact ⟨rfl,hf⟩
 have hd1 : decide ((40 : Int)<N)=false:=decide_eq_false (by omega)
 obtain ⟨m,hm⟩ : ∃ m,meetB c d=m:=⟨_,rfl⟩
 have HM:=lH hm
 have HCl:=lH (show CL (Bs.of w.heap.size) l (.slice a0 N c0) w from by rw [hN];exact ⟨a0,c0,rfl,hel⟩)
 have HN:=lH (show l.length≤100000∧∀ e∈l,Nine e from ⟨by omega,hl.2⟩)
 have HC:=lH hc
 have HD:=lH hd
 have z0 : row V w.heap.size=fc c:=row_is b0
 have z1 : row V (w.heap.size+1)=fc d:=row_is b1
 rw [hV] at z0 z1
 clear hel hN b0 b1 hV hbV hl hc hd hm
 go_enter Tryz.func8,Tryz.ntmps8
 go_wp2_with fail
 rw [← HV.out]
 refine (meets_is' HM V).mono ?_
 rintro e w1 ⟨rfl,hb1⟩
 clear z0 z1
 cases m
 ·go_wp2_with fail
  refine (fresh_any w.heap.size w1 (nx HB.out hb1).size).mono ?_
  rintro e w2 ⟨v2,rfl,hb2,hx2⟩
  have hw2:=nx hb1 hb2
  obtain ⟨_,_,_,_,_,rfl,hd2⟩:=id hx2
  obtain ⟨p1,q1,p2,q2,p3,q3,p4,q4,p5,q5,rfl,rfl,rfl,rfl,rfl⟩:=hd2.open'
  clear hd2
  have HRn:=lH (runX_any w.heap.size x0 _ l _ w2 hx2 (nx HB.out hw2).size sm0 (Is.up _ _ (Bs.sub_of (show (Bs.of w.heap.size).le w2.heap.size from ⟨(nx HB.out hw2).size,fun _ h=>h.elim⟩)) (Is.stays _ _ HCl.out (nx HB.out hw2))) HN.out.1 HN.out.2)
  have HY:=lH (runX_right l r0)
  obtain ⟨y,hy⟩ : ∃ y,runX x0 l=y:=⟨_,rfl⟩
  obtain ⟨rs,hrs⟩ : ∃ rs,runR x0 l=rs:=⟨_,rfl⟩
  rw [hy,hrs] at HRn
  rw [hy] at HY
  clear hx2 hy hrs
  go_wp2_with fail
  refine HRn.out.mono ?_
  rintro e w3 ⟨v3,g3,c3,rfl,hb3,hx3,-⟩
  obtain ⟨_,_,_,_,_,rfl,hd3⟩:=hx3
  obtain ⟨p1,q1,p2,q2,p3,q3,p4,q4,p5,q5,rfl,rfl,rfl,rfl,rfl⟩:=hd3.open'
  obtain ⟨W,hW⟩ : ∃ W,W=w3.alloc (.cells #[.slice p1 y.free.length q1,.slice p2 y.lanes.length q2,.slice p3 y.sess.length q3,.slice p4 y.inn.length q4,.slice p5 y.out.length q5] 28):=⟨_,rfl⟩
  have hbW : Below w3.heap.size w3 W:=hW ▸ below1 w3 _
  have hbx : W.heap[w3.heap.size]?=some (.cells #[.slice p1 y.free.length q1,.slice p2 y.lanes.length q2,.slice p3 y.sess.length q3,.slice p4 y.inn.length q4,.slice p5 y.out.length q5] 28 (0,0)):=by rw [hW];exact heap_alloc_new _ _
  have hvW:=nx (nx hw2 hb3) hbW
  have HX:=lH (show ∀ u,Below W.heap.size W u→row u w3.heap.size=#[.slice p1 y.free.length q1,.slice p2 y.lanes.length q2,.slice p3 y.sess.length q3,.slice p4 y.inn.length q4,.slice p5 y.out.length q5]∧XV w.heap.size y (.agg #[.slice p1 y.free.length q1,.slice p2 y.lanes.length q2,.slice p3 y.sess.length q3,.slice p4 y.inn.length q4,.slice p5 y.out.length q5]) u∧w.heap.size≤u.heap.size∧w3.heap.size<u.heap.size∧row u w.heap.size=fc c∧row u (w.heap.size+1)=fc d∧w.heap.size+1<u.heap.size from fun u hu=>by
   obtain ⟨k1,k2,k3⟩:=HRow.out u (nx hvW hu)
   exact ⟨row_is ((hu.block _ (lt_of_some hbx)).trans hbx),⟨_,_,_,_,_,rfl,hd3.stays (nx hbW hu)⟩,(nx HB.out (nx hvW hu)).size,Nat.lt_of_lt_of_le (lt_of_some hbx) hu.size,k1,k2,k3⟩)
  obtain ⟨x1,-,x3,x4,x5,x6,x7⟩:=HX.out W (Below.refl _ _)
  have HRun:=lH (show ∀ u,Below W.heap.size W u→∀ (e f : Cd),Nine e→Nine f→_ from fun u hu e f he hf=>run2_any w.heap.size y _ e f u (HX.out u hu).2.1 (HX.out u hu).2.2.1 (smX_right HY.out) he hf)
  rw [hW] at x1 x5 x6
  have HW:=lH hW
  have HBW:=lH (nx HB.out hvW)
  have HM2:=lH (apply_comm HY.out HM.out)
  have HzW:=lH (show W.heap.size=w3.heap.size+1 from by rw [HW.out];simp)
  obtain ⟨P,hP⟩ : ∃ P,(apply y c).2=P:=⟨_,rfl⟩
  obtain ⟨Q,hQ⟩ : ∃ Q,(apply y d).2=Q:=⟨_,rfl⟩
  obtain ⟨z,hz⟩ : ∃ z,runX y [c,d]=z:=⟨_,rfl⟩
  have HR1:=lH (show runR y [c,d]=[P,Q]∧runX y [c,d]=z from ⟨by show [(apply y c).2,(apply (apply y c).1 d).2]=_;rw [HM2.out.1,hP,hQ],hz⟩)
  have HR2:=lH (show runR y [d,c]=[Q,P]∧runX y [d,c]=z from ⟨by show [(apply y d).2,(apply (apply y d).1 c).2]=_;rw [HM2.out.2.1,hP,hQ],by rw [← hz];exact HM2.out.2.2.symm⟩)
  have HZs:=lH (show SmX z from by rw [← hz];exact runX_sm _ (smX_right HY.out))
  clear hP hQ hz
  clear hd3 hW hbW hbx hvW hw2 hb3 hb2 hb1
  have h1:=HRun.out W (Below.refl _ _) c d HC.out HD.out
  rw [HR1.out.1,HR1.out.2,HzW.out] at h1
  have h1:=lH h1
  go_wp2_with fail
  rw [← HW.out]
  with_reducible refine h1.out.mono ?_
  clear h1 x1 x3 x4 x5 x6 x7
  rintro e w4 ⟨v4,g4,c4,rfl,hb4',hx4,hlot4⟩
  have hb4 : Below W.heap.size W w4:=nx (below1 _ _) hb4'
  obtain ⟨_,_,_,_,_,rfl,hd4⟩:=hx4
  obtain ⟨s1,t1,s2,t2,s3,t3,s4,t4,s5,t5,rfl,rfl,rfl,rfl,rfl⟩:=hd4.open'
  obtain ⟨M,hM⟩ : ∃ M,M=w4.alloc (.cells #[.slice s1 z.free.length t1,.slice s2 z.lanes.length t2,.slice s3 z.sess.length t3,.slice s4 z.inn.length t4,.slice s5 z.out.length t5] 28):=⟨_,rfl⟩
  have hbM : Below w4.heap.size w4 M:=hM ▸ below1 w4 _
  have hmx : M.heap[w4.heap.size]?=some (.cells #[.slice s1 z.free.length t1,.slice s2 z.lanes.length t2,.slice s3 z.sess.length t3,.slice s4 z.inn.length t4,.slice s5 z.out.length t5] 28 (0,0)):=by rw [hM];exact heap_alloc_new _ _
  have HX4:=lH (show ∀ u,Below M.heap.size M u→row u w4.heap.size=#[.slice s1 z.free.length t1,.slice s2 z.lanes.length t2,.slice s3 z.sess.length t3,.slice s4 z.inn.length t4,.slice s5 z.out.length t5]∧XV w.heap.size z (.agg #[.slice s1 z.free.length t1,.slice s2 z.lanes.length t2,.slice s3 z.sess.length t3,.slice s4 z.inn.length t4,.slice s5 z.out.length t5]) u∧Lot eRp 37 w.heap.size (W.alloc (.cells (fc c++fc d) 35)).heap.size g4 [P,Q] u from fun u hu =>
   ⟨row_is ((hu.block _ (lt_of_some hmx)).trans hmx),⟨_,_,_,_,_,rfl,hd4.stays (nx hbM hu)⟩,hlot4.stays (nx hbM hu)⟩)
  have HWM:=lH (nx hb4 hbM)
  have HzM:=lH (show M.heap.size=w4.heap.size+1 from by rw [hM];simp)
  obtain ⟨x1,-,x3,x4,x5,x6,x7⟩:=HX.out M HWM.out
  have h2:=HRun.out M HWM.out d c HD.out HC.out
  rw [HR2.out.1,HR2.out.2,HzM.out] at h2
  have h2:=lH h2
  rw [hM] at x1 x5 x6
  have y4 : w3.heap.size<w4.heap.size:=by have:=hb4.size;have:=HzW.out;omega
  have y5 : w.heap.size+1<w4.heap.size:=by have:=HX.out W (Below.refl _ _);have:=hb4.size;omega
  have HM4:=lH hM
  clear hd4 hlot4 hM hbM hmx hb4 hb4' x4 x7
  go_wp2_with fail
  rw [← HM4.out]
  with_reducible refine h2.out.mono ?_
  clear h2 x1 x3 x5 x6 y4 y5
  rintro e w6 ⟨v6,g6,c6,rfl,hb6',hx6,hlot6⟩
  have hb6 : Below M.heap.size M w6:=nx (below1 _ _) hb6'
  obtain ⟨_,_,_,_,_,rfl,hd6⟩:=hx6
  obtain ⟨k1,o1,k2,o2,k3,o3,k4,o4,k5,o5,rfl,rfl,rfl,rfl,rfl⟩:=hd6.open'
  obtain ⟨K,hK⟩ : ∃ K,K=w6.alloc (.cells #[.slice k1 z.free.length o1,.slice k2 z.lanes.length o2,.slice k3 z.sess.length o3,.slice k4 z.inn.length o4,.slice k5 z.out.length o5] 28):=⟨_,rfl⟩
  have hbK : Below w6.heap.size w6 K:=hK ▸ below1 w6 _
  have hkx : K.heap[w6.heap.size]?=some (.cells #[.slice k1 z.free.length o1,.slice k2 z.lanes.length o2,.slice k3 z.sess.length o3,.slice k4 z.inn.length o4,.slice k5 z.out.length o5] 28 (0,0)):=by rw [hK];exact heap_alloc_new _ _
  have hMK:=nx hb6 hbK
  obtain ⟨P1,P2,P3,P4,P5⟩:=P
  obtain ⟨Q1,Q2,Q3,Q4,Q5⟩:=Q
  have hF : ∀ u,Below K.heap.size K u→(row u w4.heap.size=#[.slice s1 z.free.length t1,.slice s2 z.lanes.length t2,.slice s3 z.sess.length t3,.slice s4 z.inn.length t4,.slice s5 z.out.length t5]∧row u w6.heap.size=#[.slice k1 z.free.length o1,.slice k2 z.lanes.length o2,.slice k3 z.sess.length o3,.slice k4 z.inn.length o4,.slice k5 z.out.length o5]) ∧
    ((u.cell? ⟨g4,0,none⟩=some (.int .i64 P1)∧u.cell? ⟨g4,1,none⟩=some (.int .i64 P2)∧u.cell? ⟨g4,2,none⟩=some (.int .i64 P3)∧u.cell? ⟨g4,3,none⟩=some (.int .i64 P4)∧u.cell? ⟨g4,4,none⟩=some (.int .i64 P5)) ∧
     (u.cell? ⟨g4,5,none⟩=some (.int .i64 Q1)∧u.cell? ⟨g4,6,none⟩=some (.int .i64 Q2)∧u.cell? ⟨g4,7,none⟩=some (.int .i64 Q3)∧u.cell? ⟨g4,8,none⟩=some (.int .i64 Q4)∧u.cell? ⟨g4,9,none⟩=some (.int .i64 Q5))) ∧
    ((u.cell? ⟨g6,0,none⟩=some (.int .i64 Q1)∧u.cell? ⟨g6,1,none⟩=some (.int .i64 Q2)∧u.cell? ⟨g6,2,none⟩=some (.int .i64 Q3)∧u.cell? ⟨g6,3,none⟩=some (.int .i64 Q4)∧u.cell? ⟨g6,4,none⟩=some (.int .i64 Q5)) ∧
     (u.cell? ⟨g6,5,none⟩=some (.int .i64 P1)∧u.cell? ⟨g6,6,none⟩=some (.int .i64 P2)∧u.cell? ⟨g6,7,none⟩=some (.int .i64 P3)∧u.cell? ⟨g6,8,none⟩=some (.int .i64 P4)∧u.cell? ⟨g6,9,none⟩=some (.int .i64 P5))):=fun u hu=>by
   obtain ⟨j1,_,j3⟩:=HX4.out u (nx hMK hu)
   exact ⟨⟨j1,row_is ((hu.block _ (lt_of_some hkx)).trans hkx)⟩,two_cells j3,two_cells (hlot6.stays (nx hbK hu))⟩
  have HSame:=lH (show ∀ u,Below K.heap.size K u→Calls Tryz.prog 17 #[.agg #[.slice s1 z.free.length t1,.slice s2 z.lanes.length t2,.slice s3 z.sess.length t3,.slice s4 z.inn.length t4,.slice s5 z.out.length t5],.agg #[.slice k1 z.free.length o1,.slice k2 z.lanes.length o2,.slice k3 z.sess.length o3,.slice k4 z.inn.length o4,.slice k5 z.out.length o5]] u fun e w'=>e=.returned (.bool true)∧Below u.heap.size u w' from fun u hu =>
   sameXc_is (lH (decB_yes (sameX_refl z))) (HX4.out u (nx hMK hu)).2.1 ⟨_,_,_,_,_,rfl,hd6.stays (nx hbK hu)⟩ (nx HBW.out (nx HWM.out (nx hMK hu))).size HZs.out HZs.out)
  have hP : Se.eqR (P1,P2,P3,P4,P5) (P1,P2,P3,P4,P5)=true:=Se.eqR_iff.2 rfl
  have hQ : Se.eqR (Q1,Q2,Q3,Q4,Q5) (Q1,Q2,Q3,Q4,Q5)=true:=Se.eqR_iff.2 rfl
  have HBK:=lH (nx HBW.out (nx HWM.out hMK))
  have HK:=lH hK
  clear hd6 hlot6 hK hbK hkx hMK hb6 hb6'
  go_wp2_with fail
  rw [← HK.out]
  refine Rh.rb [0,1,2,3,4,5,6,7,8,9,10,11,12,13,14,15,16,17,18,19,20,21,22,23,24,25,26,27,28,29,30,31,32,33,34] ?_
  repeat (first | (refine Rh.Steps.sk ?_;simp only [Act.put,sA,sB,sC]) | (refine Rh.Steps.pu (v:=?_) ?_ ?_;rotate_left;(intro w_ hS_;have hk_:=hF w_ hS_;go_simp<;>with_reducible rfl);simp only [Act.put,sA,sB,sC]) | (refine Rh.Steps.ca (v:=?_) (f:=?_) (args:=?_) ?_ ?_ ?_;rotate_left 3;(intro w_ hS_;have hk_:=hF w_ hS_;go_simp<;>first | with_reducible rfl | (constructor<;>with_reducible rfl));(intro w_ hS_;have hk_:=hF w_ hS_;first | (go_at_call 17;refine (HSame.out w_ hS_).mono ?_;first | (rintro e w_ ⟨rfl,rfl⟩;refine ⟨?_,Below.refl _ _⟩;with_reducible rfl) | (rintro e w_ ⟨rfl,hb_⟩;refine ⟨?_,hb_⟩;with_reducible rfl)) | (go_at_call 10;refine (awake_any w_).mono ?_;first | (rintro e w_ ⟨rfl,rfl⟩;refine ⟨?_,Below.refl _ _⟩;with_reducible rfl) | (rintro e w_ ⟨rfl,hb_⟩;refine ⟨?_,hb_⟩;with_reducible rfl)));simp only [Act.put,sA,sB,sC]))
  refine Rh.Steps.nil (by kernel_rfl) ?_
  intro w9 hb9 _
  have hfin:=nx HBK.out hb9
  clear hF
  go_wp2
  go_ret
  exact ⟨rfl,hfin⟩
 ·go_wp2_with fail
  refine (awake_any w1).mono ?_
  rintro e w2 ⟨rfl,hb2⟩
  have hf:=nx HB.out (nx hb1 hb2)
  go_wp2
  go_ret
  exact ⟨rfl,hf⟩
end Go.Proofs.YtacihckimlddbaaGreat.Ex
