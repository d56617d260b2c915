/- The boxes of a call of Apply. -/
import Derived.Test.YtjhocpcpkemcaaaGreatQeZZ
import Derived.Test.YtjhocpcpkemcaaaGreatQeAY
import Derived.Test.YtjhocpcpkemcaaaGreatQeBU
import Derived.Test.YtjhocpcpkemcaaaGreatRows
import Derived.WalkKit
import Derived.ProofKit
import Derived.Test.YtjhocpcpkemcaaaGreatQeAJ
import Derived.WalkLawsBesides
import Derived.WalkSpells
import Derived.Lib.Hide
import Derived.Deep.QuietTactic
import Derived.BigQuiet
import Derived.Laws.Concat
import Derived.Test.YtjhocpcpkemcaaaGreatQeBV
import Derived.Test.YtjhocpcpkemcaaaGreatQeBP
set_option linter.unusedVariables false
set_option maxRecDepth 16000
set_option maxHeartbeats 32000000
namespace Go.Proofs.YtjhocpcpkemcaaaGreat.Ex
open Go.RowKit
open Rw
open Da
open Le (LL eL Lv flat low_setCell keeps_setCell)
open La (Ln LN LB cN)
open Ac (Hd Pu HL)
open Se (Rp Sn NL noteL noteE)
def c5 (r:Rp):Array Value:=#[.int .i64 r.1,.int .i64 r.2.1,.int .i64 r.2.2.1,.int .i64 r.2.2.2.1,.int .i64 r.2.2.2.2]
structure BSt (n b a:Nat) (xc cc rc:Array Value) (w u:World):Prop where
 bx:u.heap[b]?=some (.cells xc 28 (0,0))
 cmd:u.heap[b+1]?=some (.cells cc 35 (0,0))
 rx:∃ c:Array Value,u.heap[b+2]?=some (.cells c 28 (0,0))∧c.size=5
 rr:∃ c:Array Value,u.heap[b+3]?=some (.cells c 37 (0,0))∧c.size=5
 rep:u.heap[a]?=some (.cells rc 37 (0,0))
 lo:n≤b
 ha:b+4≤a
 bel:Below b w u
section
variable {n b a:Nat} {xc cc rc:Array Value} {w u:World}
theorem BSt.keep {u':World} (h:BSt n b a xc cc rc w u) (k:Below (b+4) u u') (hr:u'.heap[a]?=u.heap[a]?):BSt n b a xc cc rc w u':=by
 obtain ⟨c2,g2,z2⟩:=h.rx
 obtain ⟨c3,g3,z3⟩:=h.rr
 have ha:=h.ha
 exact ⟨(k.block _ (by omega)).trans h.bx,(k.block _ (by omega)).trans h.cmd,⟨c2,(k.block _ (by omega)).trans g2,z2⟩,⟨c3,(k.block _ (by omega)).trans g3,z3⟩,hr.trans h.rep,h.lo,h.ha,h.bel.trans (k.mono (by omega))⟩
theorem BSt.setR (k:Nat) (v:Value) (h:BSt n b a xc cc rc w u):BSt n b a xc cc (rc.setIfInBounds k v) w (u.setCell ⟨a,k,none⟩ v):=by
 obtain ⟨c2,g2,z2⟩:=h.rx
 obtain ⟨c3,g3,z3⟩:=h.rr
 have ha:=h.ha
 have e:∀ j,j≠a→(u.setCell ⟨a,k,none⟩ v).heap[j]?=u.heap[j]?:=fun j hj=>Below.heap_setCell u ⟨a,k,none⟩ v j hj
 exact ⟨(e _ (by omega)).trans h.bx,(e _ (by omega)).trans h.cmd,⟨c2,(e _ (by omega)).trans g2,z2⟩,⟨c3,(e _ (by omega)).trans g3,z3⟩,La.setN k v h.rep,h.lo,h.ha,h.bel.trans (low_setCell k v (by omega))⟩
theorem BSt.dR {y:Xc} {f l s i o:Value} (k:Nat) (v:Value) (h:BSt n b a xc cc rc w u) (d:XD n y f l s i o u):XD n y f l s i o (u.setCell ⟨a,k,none⟩ v):=d.keep (keeps_setCell (B:=Bs.of n) k v h.rep (by decide) (by have:=h.lo;have:=h.ha;show n≤a;omega))
theorem BSt.facts (h:BSt n b a xc cc rc w u):Rw.row u b=xc∧Rw.row u (b+1)=cc∧Rw.row u a=rc∧(∀ k,u.cell? ⟨b,k,none⟩=xc[k]?)∧(∀ k,u.cell? ⟨b+1,k,none⟩=cc[k]?)∧(∀ k,u.cell? ⟨a,k,none⟩=rc[k]?)∧(∀ k,u.frozen? ⟨a,k,none⟩=false)∧(∀ k,u.frozen? ⟨b,k,none⟩=false) :=
 ⟨row_is h.bx,row_is h.cmd,row_is h.rep,fun k=>cell_is h.bx,fun k=>cell_is h.cmd,fun k=>cell_is h.rep,fun k=>thawed_is h.rep,fun k=>thawed_is h.bx⟩
theorem BSt.fin {y:Xc} {f l s i o:Value} {q:Array Value} (h:BSt n b a xc cc rc w u) (d:XD n y f l s i o u) (hw:w.heap.size=b) :
  Below w.heap.size w (((u.setRow (b+2) #[f,l,s,i,o]).setRow (b+3) q).drew)∧XV n y (.agg #[f,l,s,i,o]) (((u.setRow (b+2) #[f,l,s,i,o]).setRow (b+3) q).drew)∧row (((u.setRow (b+2) #[f,l,s,i,o]).setRow (b+3) q).drew) (b+2)=#[f,l,s,i,o]∧row (((u.setRow (b+2) #[f,l,s,i,o]).setRow (b+3) q).drew) (b+3)=q
  ∧plain 5 u (b+2)=true∧plain 5 u (b+3)=true:=by
 obtain ⟨c2,g2,z2⟩:=h.rx
 obtain ⟨c3,g3,z3⟩:=h.rr
 have ha:=h.ha
 have lo:=h.lo
 have g3':(u.setRow (b+2) #[f,l,s,i,o]).heap[b+3]?=some (.cells c3 37 (0,0)):=(setRow_other u (b+2) (b+3) _ (by omega)).trans g3
 have g2':(u.setRow (b+2) #[f,l,s,i,o]).heap[b+2]?=some (.cells #[f,l,s,i,o] 28 (0,0)):=setRow_heap u _ _ _ _ _ g2
 have d1:=d.keep (Bk.keeps_setRow (B:=Bs.of n) #[f,l,s,i,o] g2 (by decide) (by show n≤b+2;omega))
 have d2:=d1.keep (Bk.keeps_setRow (B:=Bs.of n) q g3' (by decide) (by show n≤b+3;omega))
 refine ⟨?_,⟨_,_,_,_,_,rfl,d2.stays ((Below.refl _ _).drew)⟩,?_,?_,plain_is g2 z2,plain_is g3 z3⟩
 ·rw [hw];exact (below_setRow (below_setRow h.bel (by omega) _) (by omega) _).drew
 ·exact row_is ((setRow_other _ (b+3) (b+2) _ (by omega)).trans g2')
 ·exact row_is (setRow_heap _ _ _ _ _ _ g3')
end
end Go.Proofs.YtjhocpcpkemcaaaGreat.Ex
namespace Go.Proofs.YtjhocpcpkemcaaaGreat.Cm
open Go.RowKit
open Rw
theorem fieldsC:Tryz.prog.underlying 35=some (.struct (Tryz.prog.fieldsOf 35)):=by kernel_rfl
theorem part_fc (f:Nat→Int) (k:Nat) (h:k<9) (w:World):(part 3 (fc f) k).run Tryz.prog w=.ok (.int .i64 (f k)) w:=by
 simp [part,Tryz.isAgg3,fc_at f k h]
theorem eqInt (a b:Int) (w:World):(Op.equalIn 9999 3 (.int .i64 a) (.int .i64 b)).run Tryz.prog w=.ok (a==b) w:=by
 rw [show (9999:Nat)=9998+1 from rfl,Op.equalIn]
 simp [run_underlying Tryz.underlying3]
theorem eqOne (f g:Nat→Int) (k:Nat) (hk:k<9) (nm:String) (hn:nm≠"_") (fl:Field) (hf:fl.name=nm) (ho:fl.offset=k) (ht:fl.type=3) (fs:List Field) (w:World) :
  (Op.eqFields 9999 (fc f) (fc g) (fl :: fs)).run Tryz.prog w=if f k=g k then (Op.eqFields 9999 (fc f) (fc g) fs).run Tryz.prog w else .ok false w:=by
 simp only [Op.eqFields,hf,ho,ht,hn,ne_eq,not_false_eq_true,if_true,Sem.run_bind,part_fc f k hk,part_fc g k hk,eqInt,Result.andThen_ok]
 by_cases h:f k=g k
 ·simp [h]
 ·simp [h]
theorem eqC (f g:Nat→Int) (w:World):(Op.equalIn 10000 35 (.agg (fc f)) (.agg (fc g))).run Tryz.prog w=.ok (eqF f g) w:=by
 rw [run_equalIn_agg w 9999 _ _ _ fieldsC (by kernel_rfl)]
 simp only [Program.fieldsOf,Tryz.underlying35]
 rw [eqOne f g 0 (by omega) "Client" (by decide) _ rfl rfl rfl,eqOne f g 1 (by omega) "Seq" (by decide) _ rfl rfl rfl,eqOne f g 2 (by omega) "Kind" (by decide) _ rfl rfl rfl,eqOne f g 3 (by omega) "Lane" (by decide) _ rfl rfl rfl,
  eqOne f g 4 (by omega) "Asset" (by decide) _ rfl rfl rfl,eqOne f g 5 (by omega) "Order" (by decide) _ rfl rfl rfl,eqOne f g 6 (by omega) "Side" (by decide) _ rfl rfl rfl,eqOne f g 7 (by omega) "Price" (by decide) _ rfl rfl rfl,eqOne f g 8 (by omega) "Qty" (by decide) _ rfl rfl rfl]
 cases e:eqF f g
 ·by_cases h:f 0=g 0∧f 1=g 1∧f 2=g 2∧f 3=g 3∧f 4=g 4∧f 5=g 5∧f 6=g 6∧f 7=g 7∧f 8=g 8
  ·obtain ⟨h0,h1,h2,h3,h4,h5,h6,h7,h8⟩:=h
   have:eqF f g=true:=eqF_iff.2 fun i hi=>by
    match i,hi with
    | 0,_=>exact h0
    | 1,_=>exact h1
    | 2,_=>exact h2
    | 3,_=>exact h3
    | 4,_=>exact h4
    | 5,_=>exact h5
    | 6,_=>exact h6
    | 7,_=>exact h7
    | 8,_=>exact h8
   rw [this] at e;cases e
  ·by_cases h0:f 0=g 0<;>by_cases h1:f 1=g 1<;>try (simp only [h0,h1,if_false,if_true];done)
   by_cases h2:f 2=g 2<;>by_cases h3:f 3=g 3<;>try (simp only [h0,h1,h2,h3,if_false,if_true];done)
   by_cases h4:f 4=g 4<;>by_cases h5:f 5=g 5<;>try (simp only [h0,h1,h2,h3,h4,h5,if_false,if_true];done)
   by_cases h6:f 6=g 6<;>by_cases h7:f 7=g 7<;>try (simp only [h0,h1,h2,h3,h4,h5,h6,h7,if_false,if_true];done)
   by_cases h8:f 8=g 8
   ·exact absurd ⟨h0,h1,h2,h3,h4,h5,h6,h7,h8⟩ h
   ·simp only [h0,h1,h2,h3,h4,h5,h6,h7,h8,if_false,if_true]
 ·have h:=eqF_iff.1 e
  rw [if_pos (h 0 (by omega)),if_pos (h 1 (by omega)),if_pos (h 2 (by omega)),if_pos (h 3 (by omega)),if_pos (h 4 (by omega)),if_pos (h 5 (by omega)),if_pos (h 6 (by omega)),if_pos (h 7 (by omega)),if_pos (h 8 (by omega))]
  simp [Op.eqFields]
theorem eqlC (f g:Nat→Int) (w:World):(binOp .eql 35 (.agg (fc f)) (.agg (fc g))).run Tryz.prog w=.ok (.bool (eqF f g)) w:=by
 rw [run_eql_struct,eqC];rfl
theorem neqC (f g:Nat→Int) (w:World):(binOp .neq 35 (.agg (fc f)) (.agg (fc g))).run Tryz.prog w=.ok (.bool (!eqF f g)) w:=by
 rw [run_neq_struct,eqC];rfl
theorem guardC (op:BinOp) (x y:Operand) (f g:Nat→Int) (w:World):(eqGuard op 35 x y (.agg (fc f)) (.agg (fc g))).run Tryz.prog w=.ok () w :=
 run_eqGuard_agg w op _ x y _ _ (by kernel_rfl)
attribute [go_sem ↓] eqC eqlC neqC guardC
end Go.Proofs.YtjhocpcpkemcaaaGreat.Cm
namespace Go.Proofs.YtjhocpcpkemcaaaGreat.Fx
open Go.RowKit
theorem ret_bool {a b:Bool} (h:a=b):Ending.returned (.bool a)=.returned (.bool b):=by rw [h]
theorem ret_int {k:IntKind} {a b:Int} (h:a=b):Ending.returned (.int k a)=.returned (.int k b):=by rw [h]
theorem ret_v {a b:Value} (h:a=b):Ending.returned a=.returned b:=by rw [h]
def fB (n x:Int):Bool:=decide (0≤n∧n<256 ^ x.toNat)
end Go.Proofs.YtjhocpcpkemcaaaGreat.Fx
namespace Go.Proofs.YtjhocpcpkemcaaaGreat.Cm
open Go.RowKit
open Rw
open Fx (ret_v ret_bool ret_int)
theorem within_any (n lo hi:Int) (w:World) :
  Calls Tryz.prog 120 #[.int .i64 n,.int .i64 lo,.int .i64 hi] w fun e w'=>e=.returned (.bool (wi n lo hi))∧w=w':=by
 have H:Hid (wi n lo hi=(decide (lo≤n)&&decide (n≤hi))):=lH rfl
 by_cases h1:lo≤n<;>by_cases h2:n≤hi
 all_goals
  go_enter Tryz.func120,Tryz.ntmps120
  go_wp2
  go_ret
  exact ⟨by rw [H.out];simp [h1,h2],rfl⟩
theorem within_is {n lo hi:Int} {r:Bool} (h:Hid (wi n lo hi=r)) (w:World) :
  Calls Tryz.prog 120 #[.int .i64 n,.int .i64 lo,.int .i64 hi] w fun e w'=>e=.returned (.bool r)∧w=w':=by
 rw [← h.out];exact within_any n lo hi w
theorem isZero_any (c:Nat→Int) (w:World) :
  Calls Tryz.prog 80 #[.agg (fc c)] w fun e w'=>e=.returned (.bool (zeroB c))∧Below w.heap.size w w':=by
 go_enter Tryz.func80,Tryz.ntmps80
 go_wp2
 go_ret
 exact ⟨rfl,below1 _ _⟩
theorem lim_0 (c:Nat→Int) (w:World) (h0:wi (c 2) 1 8=false) :
  Calls Tryz.prog 81 #[.agg (fc c)] w fun e w'=>e=.returned (.bool false)∧Below w.heap.size w w':=by
 have H0:=lH h0
 clear h0
 go_enter Tryz.func81,Tryz.ntmps81
 go_wp2_with fail
 refine (within_is H0 _).mono ?_
 rintro e w' ⟨rfl,rfl⟩
 go_wp2
 go_ret
 exact ⟨rfl,below1 _ _⟩
theorem lim_1 (c:Nat→Int) (w:World) (h0:wi (c 2) 1 8=true) (h1:wi (c 0) 0 63=false) :
  Calls Tryz.prog 81 #[.agg (fc c)] w fun e w'=>e=.returned (.bool false)∧Below w.heap.size w w':=by
 have H0:=lH h0
 have H1:=lH h1
 clear h0 h1
 go_enter Tryz.func81,Tryz.ntmps81
 go_wp2_with fail
 refine (within_is H0 _).mono ?_
 rintro e w' ⟨rfl,rfl⟩
 go_wp2_with fail
 refine (within_is H1 _).mono ?_
 rintro e w' ⟨rfl,rfl⟩
 go_wp2
 go_ret
 exact ⟨rfl,below1 _ _⟩
theorem lim_2 (c:Nat→Int) (w:World) (h0:wi (c 2) 1 8=true) (h1:wi (c 0) 0 63=true) (h2:wi (c 1) 1 1125899906842624=false) :
  Calls Tryz.prog 81 #[.agg (fc c)] w fun e w'=>e=.returned (.bool false)∧Below w.heap.size w w':=by
 have H0:=lH h0
 have H1:=lH h1
 have H2:=lH h2
 clear h0 h1 h2
 go_enter Tryz.func81,Tryz.ntmps81
 go_wp2_with fail
 refine (within_is H0 _).mono ?_
 rintro e w' ⟨rfl,rfl⟩
 go_wp2_with fail
 refine (within_is H1 _).mono ?_
 rintro e w' ⟨rfl,rfl⟩
 go_wp2_with fail
 refine (within_is H2 _).mono ?_
 rintro e w' ⟨rfl,rfl⟩
 go_wp2
 go_ret
 exact ⟨rfl,below1 _ _⟩
theorem lim_3 (c:Nat→Int) (w:World) (h0:wi (c 2) 1 8=true) (h1:wi (c 0) 0 63=true) (h2:wi (c 1) 1 1125899906842624=true) (h3:wi (c 3) 0 5=false) :
  Calls Tryz.prog 81 #[.agg (fc c)] w fun e w'=>e=.returned (.bool false)∧Below w.heap.size w w':=by
 have H0:=lH h0
 have H1:=lH h1
 have H2:=lH h2
 have H3:=lH h3
 clear h0 h1 h2 h3
 go_enter Tryz.func81,Tryz.ntmps81
 go_wp2_with fail
 refine (within_is H0 _).mono ?_
 rintro e w' ⟨rfl,rfl⟩
 go_wp2_with fail
 refine (within_is H1 _).mono ?_
 rintro e w' ⟨rfl,rfl⟩
 go_wp2_with fail
 refine (within_is H2 _).mono ?_
 rintro e w' ⟨rfl,rfl⟩
 go_wp2_with fail
 refine (within_is H3 _).mono ?_
 rintro e w' ⟨rfl,rfl⟩
 go_wp2
 go_ret
 exact ⟨rfl,below1 _ _⟩
theorem lim_4 (c:Nat→Int) (w:World) (h0:wi (c 2) 1 8=true) (h1:wi (c 0) 0 63=true) (h2:wi (c 1) 1 1125899906842624=true) (h3:wi (c 3) 0 5=true) (h4:wi (c 4) 0 7=false) :
  Calls Tryz.prog 81 #[.agg (fc c)] w fun e w'=>e=.returned (.bool false)∧Below w.heap.size w w':=by
 have H0:=lH h0
 have H1:=lH h1
 have H2:=lH h2
 have H3:=lH h3
 have H4:=lH h4
 clear h0 h1 h2 h3 h4
 go_enter Tryz.func81,Tryz.ntmps81
 go_wp2_with fail
 refine (within_is H0 _).mono ?_
 rintro e w' ⟨rfl,rfl⟩
 go_wp2_with fail
 refine (within_is H1 _).mono ?_
 rintro e w' ⟨rfl,rfl⟩
 go_wp2_with fail
 refine (within_is H2 _).mono ?_
 rintro e w' ⟨rfl,rfl⟩
 go_wp2_with fail
 refine (within_is H3 _).mono ?_
 rintro e w' ⟨rfl,rfl⟩
 go_wp2_with fail
 refine (within_is H4 _).mono ?_
 rintro e w' ⟨rfl,rfl⟩
 go_wp2
 go_ret
 exact ⟨rfl,below1 _ _⟩
theorem lim_5 (c:Nat→Int) (w:World) (h0:wi (c 2) 1 8=true) (h1:wi (c 0) 0 63=true) (h2:wi (c 1) 1 1125899906842624=true) (h3:wi (c 3) 0 5=true) (h4:wi (c 4) 0 7=true) (h5:wi (c 5) 0 1073741824=false) :
  Calls Tryz.prog 81 #[.agg (fc c)] w fun e w'=>e=.returned (.bool false)∧Below w.heap.size w w':=by
 have H0:=lH h0
 have H1:=lH h1
 have H2:=lH h2
 have H3:=lH h3
 have H4:=lH h4
 have H5:=lH h5
 clear h0 h1 h2 h3 h4 h5
 go_enter Tryz.func81,Tryz.ntmps81
 go_wp2_with fail
 refine (within_is H0 _).mono ?_
 rintro e w' ⟨rfl,rfl⟩
 go_wp2_with fail
 refine (within_is H1 _).mono ?_
 rintro e w' ⟨rfl,rfl⟩
 go_wp2_with fail
 refine (within_is H2 _).mono ?_
 rintro e w' ⟨rfl,rfl⟩
 go_wp2_with fail
 refine (within_is H3 _).mono ?_
 rintro e w' ⟨rfl,rfl⟩
 go_wp2_with fail
 refine (within_is H4 _).mono ?_
 rintro e w' ⟨rfl,rfl⟩
 go_wp2_with fail
 refine (within_is H5 _).mono ?_
 rintro e w' ⟨rfl,rfl⟩
 go_wp2
 go_ret
 exact ⟨rfl,below1 _ _⟩
theorem lim_6 (c:Nat→Int) (w:World) (h0:wi (c 2) 1 8=true) (h1:wi (c 0) 0 63=true) (h2:wi (c 1) 1 1125899906842624=true) (h3:wi (c 3) 0 5=true) (h4:wi (c 4) 0 7=true) (h5:wi (c 5) 0 1073741824=true) (h6:wi (c 6) 0 2=false) :
  Calls Tryz.prog 81 #[.agg (fc c)] w fun e w'=>e=.returned (.bool false)∧Below w.heap.size w w':=by
 have H0:=lH h0
 have H1:=lH h1
 have H2:=lH h2
 have H3:=lH h3
 have H4:=lH h4
 have H5:=lH h5
 have H6:=lH h6
 clear h0 h1 h2 h3 h4 h5 h6
 go_enter Tryz.func81,Tryz.ntmps81
 go_wp2_with fail
 refine (within_is H0 _).mono ?_
 rintro e w' ⟨rfl,rfl⟩
 go_wp2_with fail
 refine (within_is H1 _).mono ?_
 rintro e w' ⟨rfl,rfl⟩
 go_wp2_with fail
 refine (within_is H2 _).mono ?_
 rintro e w' ⟨rfl,rfl⟩
 go_wp2_with fail
 refine (within_is H3 _).mono ?_
 rintro e w' ⟨rfl,rfl⟩
 go_wp2_with fail
 refine (within_is H4 _).mono ?_
 rintro e w' ⟨rfl,rfl⟩
 go_wp2_with fail
 refine (within_is H5 _).mono ?_
 rintro e w' ⟨rfl,rfl⟩
 go_wp2_with fail
 refine (within_is H6 _).mono ?_
 rintro e w' ⟨rfl,rfl⟩
 go_wp2
 go_ret
 exact ⟨rfl,below1 _ _⟩
theorem lim_7 (c:Nat→Int) (w:World) (h0:wi (c 2) 1 8=true) (h1:wi (c 0) 0 63=true) (h2:wi (c 1) 1 1125899906842624=true) (h3:wi (c 3) 0 5=true) (h4:wi (c 4) 0 7=true) (h5:wi (c 5) 0 1073741824=true) (h6:wi (c 6) 0 2=true) (h7:wi (c 7) 0 1125899906842624=false) :
  Calls Tryz.prog 81 #[.agg (fc c)] w fun e w'=>e=.returned (.bool false)∧Below w.heap.size w w':=by
 have H0:=lH h0
 have H1:=lH h1
 have H2:=lH h2
 have H3:=lH h3
 have H4:=lH h4
 have H5:=lH h5
 have H6:=lH h6
 have H7:=lH h7
 clear h0 h1 h2 h3 h4 h5 h6 h7
 go_enter Tryz.func81,Tryz.ntmps81
 go_wp2_with fail
 refine (within_is H0 _).mono ?_
 rintro e w' ⟨rfl,rfl⟩
 go_wp2_with fail
 refine (within_is H1 _).mono ?_
 rintro e w' ⟨rfl,rfl⟩
 go_wp2_with fail
 refine (within_is H2 _).mono ?_
 rintro e w' ⟨rfl,rfl⟩
 go_wp2_with fail
 refine (within_is H3 _).mono ?_
 rintro e w' ⟨rfl,rfl⟩
 go_wp2_with fail
 refine (within_is H4 _).mono ?_
 rintro e w' ⟨rfl,rfl⟩
 go_wp2_with fail
 refine (within_is H5 _).mono ?_
 rintro e w' ⟨rfl,rfl⟩
 go_wp2_with fail
 refine (within_is H6 _).mono ?_
 rintro e w' ⟨rfl,rfl⟩
 go_wp2_with fail
 refine (within_is H7 _).mono ?_
 rintro e w' ⟨rfl,rfl⟩
 go_wp2
 go_ret
 exact ⟨rfl,below1 _ _⟩
theorem lim_8 (c:Nat→Int) (w:World) (h0:wi (c 2) 1 8=true) (h1:wi (c 0) 0 63=true) (h2:wi (c 1) 1 1125899906842624=true) (h3:wi (c 3) 0 5=true) (h4:wi (c 4) 0 7=true) (h5:wi (c 5) 0 1073741824=true) (h6:wi (c 6) 0 2=true) (h7:wi (c 7) 0 1125899906842624=true) (h8:wi (c 8) 0 1125899906842624=false) :
  Calls Tryz.prog 81 #[.agg (fc c)] w fun e w'=>e=.returned (.bool false)∧Below w.heap.size w w':=by
 have H0:=lH h0
 have H1:=lH h1
 have H2:=lH h2
 have H3:=lH h3
 have H4:=lH h4
 have H5:=lH h5
 have H6:=lH h6
 have H7:=lH h7
 have H8:=lH h8
 clear h0 h1 h2 h3 h4 h5 h6 h7 h8
 go_enter Tryz.func81,Tryz.ntmps81
 go_wp2_with fail
 refine (within_is H0 _).mono ?_
 rintro e w' ⟨rfl,rfl⟩
 go_wp2_with fail
 refine (within_is H1 _).mono ?_
 rintro e w' ⟨rfl,rfl⟩
 go_wp2_with fail
 refine (within_is H2 _).mono ?_
 rintro e w' ⟨rfl,rfl⟩
 go_wp2_with fail
 refine (within_is H3 _).mono ?_
 rintro e w' ⟨rfl,rfl⟩
 go_wp2_with fail
 refine (within_is H4 _).mono ?_
 rintro e w' ⟨rfl,rfl⟩
 go_wp2_with fail
 refine (within_is H5 _).mono ?_
 rintro e w' ⟨rfl,rfl⟩
 go_wp2_with fail
 refine (within_is H6 _).mono ?_
 rintro e w' ⟨rfl,rfl⟩
 go_wp2_with fail
 refine (within_is H7 _).mono ?_
 rintro e w' ⟨rfl,rfl⟩
 go_wp2_with fail
 refine (within_is H8 _).mono ?_
 rintro e w' ⟨rfl,rfl⟩
 go_wp2
 go_ret
 exact ⟨rfl,below1 _ _⟩
theorem lim_9 (c:Nat→Int) (w:World) (h0:wi (c 2) 1 8=true) (h1:wi (c 0) 0 63=true) (h2:wi (c 1) 1 1125899906842624=true) (h3:wi (c 3) 0 5=true) (h4:wi (c 4) 0 7=true) (h5:wi (c 5) 0 1073741824=true) (h6:wi (c 6) 0 2=true) (h7:wi (c 7) 0 1125899906842624=true) (h8:wi (c 8) 0 1125899906842624=true) :
  Calls Tryz.prog 81 #[.agg (fc c)] w fun e w'=>e=.returned (.bool true)∧Below w.heap.size w w':=by
 have H0:=lH h0
 have H1:=lH h1
 have H2:=lH h2
 have H3:=lH h3
 have H4:=lH h4
 have H5:=lH h5
 have H6:=lH h6
 have H7:=lH h7
 have H8:=lH h8
 clear h0 h1 h2 h3 h4 h5 h6 h7 h8
 go_enter Tryz.func81,Tryz.ntmps81
 go_wp2_with fail
 refine (within_is H0 _).mono ?_
 rintro e w' ⟨rfl,rfl⟩
 go_wp2_with fail
 refine (within_is H1 _).mono ?_
 rintro e w' ⟨rfl,rfl⟩
 go_wp2_with fail
 refine (within_is H2 _).mono ?_
 rintro e w' ⟨rfl,rfl⟩
 go_wp2_with fail
 refine (within_is H3 _).mono ?_
 rintro e w' ⟨rfl,rfl⟩
 go_wp2_with fail
 refine (within_is H4 _).mono ?_
 rintro e w' ⟨rfl,rfl⟩
 go_wp2_with fail
 refine (within_is H5 _).mono ?_
 rintro e w' ⟨rfl,rfl⟩
 go_wp2_with fail
 refine (within_is H6 _).mono ?_
 rintro e w' ⟨rfl,rfl⟩
 go_wp2_with fail
 refine (within_is H7 _).mono ?_
 rintro e w' ⟨rfl,rfl⟩
 go_wp2_with fail
 refine (within_is H8 _).mono ?_
 rintro e w' ⟨rfl,rfl⟩
 go_wp2
 go_ret
 exact ⟨rfl,below1 _ _⟩
theorem inLimits_any (c:Nat→Int) (w:World) :
  Calls Tryz.prog 81 #[.agg (fc c)] w fun e w'=>e=.returned (.bool (limB c))∧Below w.heap.size w w':=by
 rcases first_no (c:=c) with h | ⟨i,hi,hn,hy⟩
 ·rw [h];have k:=limB_iff.1 h
  exact lim_9 c w (k 0 (by omega)) (k 1 (by omega)) (k 2 (by omega)) (k 3 (by omega)) (k 4 (by omega)) (k 5 (by omega)) (k 6 (by omega)) (k 7 (by omega)) (k 8 (by omega))
 ·rw [limB_no i hi hn]
  match i,hi,hn,hy with
  | 0,_,hn,hy=>exact lim_0 c w  hn
  | 1,_,hn,hy=>exact lim_1 c w (hy 0 (by omega)) hn
  | 2,_,hn,hy=>exact lim_2 c w (hy 0 (by omega)) (hy 1 (by omega)) hn
  | 3,_,hn,hy=>exact lim_3 c w (hy 0 (by omega)) (hy 1 (by omega)) (hy 2 (by omega)) hn
  | 4,_,hn,hy=>exact lim_4 c w (hy 0 (by omega)) (hy 1 (by omega)) (hy 2 (by omega)) (hy 3 (by omega)) hn
  | 5,_,hn,hy=>exact lim_5 c w (hy 0 (by omega)) (hy 1 (by omega)) (hy 2 (by omega)) (hy 3 (by omega)) (hy 4 (by omega)) hn
  | 6,_,hn,hy=>exact lim_6 c w (hy 0 (by omega)) (hy 1 (by omega)) (hy 2 (by omega)) (hy 3 (by omega)) (hy 4 (by omega)) (hy 5 (by omega)) hn
  | 7,_,hn,hy=>exact lim_7 c w (hy 0 (by omega)) (hy 1 (by omega)) (hy 2 (by omega)) (hy 3 (by omega)) (hy 4 (by omega)) (hy 5 (by omega)) (hy 6 (by omega)) hn
  | 8,_,hn,hy=>exact lim_8 c w (hy 0 (by omega)) (hy 1 (by omega)) (hy 2 (by omega)) (hy 3 (by omega)) (hy 4 (by omega)) (hy 5 (by omega)) (hy 6 (by omega)) (hy 7 (by omega)) hn
theorem inLimits_is {c:Nat→Int} {r:Bool} (h:Hid (limB c=r)) (w:World) :
  Calls Tryz.prog 81 #[.agg (fc c)] w fun e w'=>e=.returned (.bool r)∧Below w.heap.size w w':=by
 rw [← h.out];exact inLimits_any c w
theorem isZero_is {c:Nat→Int} {r:Bool} (h:Hid (zeroB c=r)) (w:World) :
  Calls Tryz.prog 80 #[.agg (fc c)] w fun e w'=>e=.returned (.bool r)∧Below w.heap.size w w':=by
 rw [← h.out];exact isZero_any c w
theorem check_any (c:Nat→Int) (w:World) :
  Calls Tryz.prog 41 #[.agg (fc c)] w fun e w'=>e=.returned (.int .i64 (chkE c))∧Below w.heap.size w w':=by
 cases h:zeroB c
 ·cases k:limB c
  ·have H:Hid (chkE c=1):=lH (by simp [chkE,chkB,h,k])
   have H1:=lH h
   have H2:=lH k
   clear h k
   go_enter Tryz.func41,Tryz.ntmps41
   go_wp2_with fail
   obtain ⟨W,hW⟩:∃ W,W=w.alloc (.cells (fc c) 35):=⟨_,rfl⟩
   have hr:row W w.heap.size=fc c:=by rw [hW];exact row_new _ _ _ _ rfl
   have hz:w.heap.size<W.heap.size:=by rw [hW];simp
   have hb0:Below w.heap.size w W:=hW ▸ below1 w _
   rw [← hW]
   refine (isZero_is H1 _).mono ?_
   rintro e w1 ⟨rfl,hb1⟩
   obtain ⟨c1,f1,r1,p1⟩:=bcell hb1
   go_wp2_with fail
   refine (inLimits_is H2 _).mono ?_
   rintro e w2 ⟨rfl,hb2⟩
   go_wp2
   go_ret
   exact ⟨ret_int H.out.symm,nx hb0 (nx hb1 hb2)⟩
  ·have H:Hid (chkE c=0):=lH (by simp [chkE,chkB,h,k])
   have H1:=lH h
   have H2:=lH k
   clear h k
   go_enter Tryz.func41,Tryz.ntmps41
   go_wp2_with fail
   obtain ⟨W,hW⟩:∃ W,W=w.alloc (.cells (fc c) 35):=⟨_,rfl⟩
   have hr:row W w.heap.size=fc c:=by rw [hW];exact row_new _ _ _ _ rfl
   have hz:w.heap.size<W.heap.size:=by rw [hW];simp
   have hb0:Below w.heap.size w W:=hW ▸ below1 w _
   rw [← hW]
   refine (isZero_is H1 _).mono ?_
   rintro e w1 ⟨rfl,hb1⟩
   obtain ⟨c1,f1,r1,p1⟩:=bcell hb1
   go_wp2_with fail
   refine (inLimits_is H2 _).mono ?_
   rintro e w2 ⟨rfl,hb2⟩
   go_wp2
   go_ret
   exact ⟨ret_int H.out.symm,nx hb0 (nx hb1 hb2)⟩
 ·have H:Hid (chkE c=0):=lH (by simp [chkE,chkB,h])
  have H1:=lH h
  clear h
  go_enter Tryz.func41,Tryz.ntmps41
  go_wp2_with fail
  refine (isZero_is H1 _).mono ?_
  rintro e w1 ⟨rfl,hb1⟩
  go_wp2
  go_ret
  exact ⟨ret_int H.out.symm,nx (below1 _ _) hb1⟩
theorem check_is {c:Nat→Int} {r:Int} (h:Hid (chkE c=r)) (w:World) :
  Calls Tryz.prog 41 #[.agg (fc c)] w fun e w'=>e=.returned (.int .i64 r)∧Below w.heap.size w w':=by
 rw [← h.out];exact check_any c w
end Go.Proofs.YtjhocpcpkemcaaaGreat.Cm
namespace Go.Proofs.YtjhocpcpkemcaaaGreat.Ex
open Go.RowKit
open Rw
open Da
open Le (low_setCell keeps_setCell)
open La (Ln)
open Ac (Hd Pu HL)
open Cm (fc fc_at chkE laneB)
open Se (Rp Sn NL noteL noteE z5 cR)
theorem look_of' {q:Rp × Int} {c x:Int} {l:List Sn} (H:Hid (Se.look c x l=q)) {B:Bs} {v:Value} {w:World} (h:NL B l v w) (hm:l.length≤1000000) :
  Calls Tryz.prog 42 #[v,.int .i64 c,.int .i64 x] w fun e w'=>e=.returned (Se.lkV q)∧Below w.heap.size w w':=by
 rw [← H.out];exact Se.look_any B l v c x w h hm
theorem zero_cmd {c:Nat→Int} (h:chkE c=0) (h0:c 2=0):c 0=0∧c 1=0:=by
 unfold Cm.chkE Cm.chkB at h
 cases e:Cm.zeroB c
 ·rw [e,Bool.false_or] at h
  cases e2:Cm.limB c
  ·rw [e2] at h;exact absurd h (by decide)
  ·have:=((Cm.lim_eq c).1 e2).1;omega
 ·exact ⟨Cm.eqF_iff.1 e 0 (by omega),Cm.eqF_iff.1 e 1 (by omega)⟩
theorem exec_sess' (x:Xc) (c:Nat→Int):(exec x c).1.sess=x.sess:=by
 unfold exec
 by_cases h:laneB (c 2)=true
 ·rw [if_pos h];unfold execL;split<;>rfl
 ·rw [if_neg h,execP_is]
  by_cases h1:c 2≠7∧c 8=0
  ·rw [if_pos h1]
  ·rw [if_neg h1]
   unfold purR depR wdrR
   split
   ·split
    ·split<;>rfl
    ·rfl
   ·split
    ·split
     ·split<;>rfl
     ·rfl
    ·rfl
def PostA (n:Nat) (R:Xc × Rp) (w:World) (e:Ending) (w':World):Prop:=∃ v,e=.returned (.tuple #[v,.agg (cR R.2)])∧Below w.heap.size w w'∧XV n R.1 v w'
theorem fiveA (w:World) (a b c d e:Obj):Below w.heap.size w (((((w.alloc a).alloc b).alloc c).alloc d).alloc e):=nx (below4 w a b c d) (below1 _ e)
theorem applyX_any (n:Nat) (x:Xc) (v:Value) (c:Nat→Int) (w:World) (h:XV n x v w) (hn:n≤w.heap.size) (hs:SmX x) :
  Calls Tryz.prog 14 #[v,.agg (fc c)] w (PostA n (apply x c) w):=by
 obtain ⟨_,_,_,_,_,rfl,hd⟩:=h
 obtain ⟨a1,d1,a2,d2,a3,d3,a4,d4,a5,d5,rfl,rfl,rfl,rfl,rfl⟩:=hd.open'
 obtain ⟨R,hR⟩:∃ R,apply x c=R:=⟨_,rfl⟩
 rw [hR]
 obtain ⟨n1,q1⟩:∃ q,x.free.length=q:=⟨_,rfl⟩
 obtain ⟨n2,q2⟩:∃ q,x.lanes.length=q:=⟨_,rfl⟩
 obtain ⟨n3,q3⟩:∃ q,x.sess.length=q:=⟨_,rfl⟩
 obtain ⟨n4,q4⟩:∃ q,x.inn.length=q:=⟨_,rfl⟩
 obtain ⟨n5,q5⟩:∃ q,x.out.length=q:=⟨_,rfl⟩
 rw [q1,q2,q3,q4,q5] at hd ⊢
 obtain ⟨V,hV⟩:∃ V,V=((((w.alloc (.cells #[.slice a1 n1 d1,.slice a2 n2 d2,.slice a3 n3 d3,.slice a4 n4 d4,.slice a5 n5 d5] 28)).alloc (.cells (fc c) 35)).alloc (.cells #[.slice none 0 0,.slice none 0 0,.slice none 0 0,.slice none 0 0,.slice none 0 0] 28)).alloc (.cells #[.int .i64 0,.int .i64 0,.int .i64 0,.int .i64 0,.int .i64 0] 37)).alloc (.cells #[.int .i64 (c 0),.int .i64 (c 1),.int .i64 0,.int .i64 0,.int .i64 0] 37):=⟨_,rfl⟩
 have hbV:Below w.heap.size w V:=by rw [hV];exact fiveA _ _ _ _ _ _
 have hzV:V.heap.size=w.heap.size+5:=by rw [hV];simp
 obtain ⟨a,ha⟩:∃ a,a=w.heap.size+4:=⟨_,rfl⟩
 have S0:=lH (show BSt n w.heap.size a #[.slice a1 n1 d1,.slice a2 n2 d2,.slice a3 n3 d3,.slice a4 n4 d4,.slice a5 n5 d5] (fc c) #[.int .i64 (c 0),.int .i64 (c 1),.int .i64 0,.int .i64 0,.int .i64 0] w V from by
  refine ⟨?_,?_,⟨#[.slice none 0 0,.slice none 0 0,.slice none 0 0,.slice none 0 0,.slice none 0 0],?_,rfl⟩,⟨#[.int .i64 0,.int .i64 0,.int .i64 0,.int .i64 0,.int .i64 0],?_,rfl⟩,?_,hn,by omega,hbV⟩
  ·rw [hV,heap_al,if_neg (by (try simp only [World.size_alloc])<;>omega),heap_al,if_neg (by (try simp only [World.size_alloc])<;>omega),heap_al,if_neg (by (try simp only [World.size_alloc])<;>omega),heap_al,if_neg (by (try simp only [World.size_alloc])<;>omega),heap_al,if_pos rfl]
  ·rw [hV,heap_al,if_neg (by (try simp only [World.size_alloc])<;>omega),heap_al,if_neg (by (try simp only [World.size_alloc])<;>omega),heap_al,if_neg (by (try simp only [World.size_alloc])<;>omega),heap_al,if_pos (by (try simp only [World.size_alloc])<;>omega)]
  ·rw [hV,heap_al,if_neg (by (try simp only [World.size_alloc])<;>omega),heap_al,if_neg (by (try simp only [World.size_alloc])<;>omega),heap_al,if_pos (by (try simp only [World.size_alloc])<;>omega)]
  ·rw [hV,heap_al,if_neg (by (try simp only [World.size_alloc])<;>omega),heap_al,if_pos (by (try simp only [World.size_alloc])<;>omega)]
  ·rw [hV,heap_al,if_pos (by rw [ha];(try simp only [World.size_alloc])<;>omega)])
 have D0:=lH (hd.stays hbV)
 have HVn:=lH (show n≤V.heap.size from by omega)
 have i2:w.heap.size+1+1=w.heap.size+2:=rfl
 have i3:w.heap.size+2+1=w.heap.size+3:=rfl
 have i4:w.heap.size+3+1=w.heap.size+4:=rfl
 have HV:=lH hV
 have Ha:=lH ha
 have HzV:=lH hzV
 have HS:=lH hs
 obtain ⟨g1,hg1⟩:∃ g,rightX x=g:=⟨_,rfl⟩
 obtain ⟨g2,hg2⟩:∃ g,chkE c=g:=⟨_,rfl⟩
 have G1:=lH hg1
 have G2:=lH hg2
 have HR:=lH hR
 have hrx:row V w.heap.size=#[.slice a1 n1 d1,.slice a2 n2 d2,.slice a3 n3 d3,.slice a4 n4 d4,.slice a5 n5 d5]:=S0.out.facts.1
 rw [hV] at hrx
 clear hd hs hR hV hzV hbV ha hg1 hg2
 go_enter Tryz.func14,Tryz.ntmps14
 go_wp2_with fail
 rw [← HV.out,← Ha.out]
 clear hrx
 refine (rightX_is (n:=n) (x:=x) G1 ⟨_,_,_,_,_,rfl,D0.out⟩ HVn.out HS.out).mono ?_
 rintro e w2 ⟨rfl,hb2⟩
 have B2:=lH hb2
 have s2:=lH (S0.out.keep (hb2.mono (by have:=HzV.out;omega)) (hb2.block _ (lt_of_some S0.out.rep)))
 clear hb2
 cases g1
 ·skip
  have HR2:=lH (show R=(x,rep c (1,0,0)) from by rw [← HR.out];unfold apply;rw [if_neg (by rw [G1.out];simp)])
  have x1:=s2.out.facts.2.2.2.2.2.1 2
  have x2:=s2.out.facts.2.2.2.2.2.2.1 2
  have t3:=lH (show BSt n w.heap.size a #[.slice a1 n1 d1,.slice a2 n2 d2,.slice a3 n3 d3,.slice a4 n4 d4,.slice a5 n5 d5] (fc c) #[.int .i64 (c 0),.int .i64 (c 1),.int .i64 1,.int .i64 0,.int .i64 0] w (w2.setCell ⟨a,2,none⟩ (.int .i64 1)) from s2.out.setR 2 _)
  have e3:=lH (s2.out.dR 2 (.int .i64 1) (D0.out.stays B2.out))
  go_wp2_with fail
  clear x1 x2
  obtain ⟨F1,F2,F3,F4,F5,F6⟩:=t3.out.fin (q:=#[.int .i64 (c 0),.int .i64 (c 1),.int .i64 1,.int .i64 0,.int .i64 0]) e3.out rfl
  obtain ⟨Z,hZ⟩:∃ Z,Z=(((w2.setCell ⟨a,2,none⟩ (.int .i64 1)).setRow (w.heap.size+2) #[.slice a1 n1 d1,.slice a2 n2 d2,.slice a3 n3 d3,.slice a4 n4 d4,.slice a5 n5 d5]).setRow (w.heap.size+3) #[.int .i64 (c 0),.int .i64 (c 1),.int .i64 1,.int .i64 0,.int .i64 0]).drew:=⟨_,rfl⟩
  rw [← hZ] at F1 F2 F3 F4
  have HF:=lH (And.intro F1 (And.intro F2 (And.intro F3 F4)))
  have HZ:=lH hZ
  have y1:=t3.out.facts.1
  have y3:=t3.out.facts.2.2.1
  have m2:a≠w.heap.size+2:=by have:=t3.out.ha;omega
  have m3:a≠w.heap.size+3:=by have:=t3.out.ha;omega
  clear hZ F1 F2 F3 F4
  go_region
  go_wp2
  rw [← HZ.out,HR2.out]
  refine bodyPost_ret (v:=.tuple #[.agg #[.slice a1 n1 d1,.slice a2 n2 d2,.slice a3 n3 d3,.slice a4 n4 d4,.slice a5 n5 d5],.agg #[.int .i64 (c 0),.int .i64 (c 1),.int .i64 1,.int .i64 0,.int .i64 0]]) (ret_XR Tryz.results14 _ _ rfl ?c1 rfl ?c2) rfl ⟨_,rfl,HF.out.1,HF.out.2.1⟩
  case c1=>exact HF.out.2.2.1
  case c2=>exact HF.out.2.2.2
 have hrc:=s2.out.facts.2.1
 go_wp2_with fail
 refine (Cm.check_is G2 w2).mono ?_
 rintro e w3 ⟨rfl,hb3⟩
 clear hrc
 have s3:=lH (s2.out.keep (hb3.mono (by have:=s2.out.ha;have:=lt_of_some s2.out.rep;omega)) (hb3.block _ (lt_of_some s2.out.rep)))
 have B3:=lH (nx B2.out hb3)
 clear hb3 s2
 by_cases hg0:g2=0
 ·subst hg0
  have x1:=s3.out.facts.2.2.2.2.1 2
  have x3:=s3.out.facts.2.2.2.2.1 0
  have x4:=s3.out.facts.2.2.2.2.1 1
  have x5:=s3.out.facts.2.2.2.1 2
  by_cases h0:c 2=0
  ·obtain ⟨z0,z1⟩:=zero_cmd G2.out h0
   have HR2:=lH (show R=(x,c 0,c 1,0,0,0) from by rw [← HR.out];unfold apply;rw [if_pos ⟨G1.out,G2.out⟩,if_pos h0,z0,z1];rfl)
   have x2:(c 2==0)=true:=by simpa using h0
   have e3:=lH (D0.out.stays B3.out)
   clear z0 z1 h0
   go_wp2_with fail
   clear x1 x2 x3 x4 x5
   obtain ⟨F1,F2,F3,F4,F5,F6⟩:=s3.out.fin (q:=#[.int .i64 (c 0),.int .i64 (c 1),.int .i64 0,.int .i64 0,.int .i64 0]) e3.out rfl
   obtain ⟨Z,hZ⟩:∃ Z,Z=((w3.setRow (w.heap.size+2) #[.slice a1 n1 d1,.slice a2 n2 d2,.slice a3 n3 d3,.slice a4 n4 d4,.slice a5 n5 d5]).setRow (w.heap.size+3) #[.int .i64 (c 0),.int .i64 (c 1),.int .i64 0,.int .i64 0,.int .i64 0]).drew:=⟨_,rfl⟩
   rw [← hZ] at F1 F2 F3 F4
   have HF:=lH (And.intro F1 (And.intro F2 (And.intro F3 F4)))
   have HZ:=lH hZ
   have y1:=s3.out.facts.1
   have y3:=s3.out.facts.2.2.1
   have m2:a≠w.heap.size+2:=by have:=s3.out.ha;omega
   have m3:a≠w.heap.size+3:=by have:=s3.out.ha;omega
   clear hZ F1 F2 F3 F4
   go_region
   go_wp2
   rw [← HZ.out,HR2.out]
   refine bodyPost_ret (v:=.tuple #[.agg #[.slice a1 n1 d1,.slice a2 n2 d2,.slice a3 n3 d3,.slice a4 n4 d4,.slice a5 n5 d5],.agg #[.int .i64 (c 0),.int .i64 (c 1),.int .i64 0,.int .i64 0,.int .i64 0]]) (ret_XR Tryz.results14 _ _ rfl ?c1 rfl ?c2) rfl ⟨_,rfl,HF.out.1,HF.out.2.1⟩
   case c1=>exact HF.out.2.2.1
   case c2=>exact HF.out.2.2.2
  ·have x2:(c 2==0)=false:=by simpa using h0
   obtain ⟨⟨⟨o1,o2,o3,o4,o5⟩,k⟩,hk⟩:∃ q,Se.look (c 0) (c 1) x.sess=q:=⟨_,rfl⟩
   have HK:=lH hk
   clear hk
   go_wp2_with fail
   refine (look_of' HK (D0.out.stays B3.out).sess (Nat.le_trans HS.out.sess (by decide))).mono ?_
   rintro e w4 ⟨rfl,hb4⟩
   unfold Se.lkV
   simp only
   have s4:=lH (s3.out.keep (hb4.mono (by have:=s3.out.ha;have:=lt_of_some s3.out.rep;omega)) (hb4.block _ (lt_of_some s3.out.rep)))
   have B4:=lH (nx B3.out hb4)
   clear hb4 x1 x2 x3 x4 x5
   obtain ⟨U,hU⟩:∃ U,U=w4.alloc (.cells #[.int .i64 o1,.int .i64 o2,.int .i64 o3,.int .i64 o4,.int .i64 o5] 37):=⟨_,rfl⟩
   have hbU:Below w4.heap.size w4 U:=hU ▸ below1 w4 _
   have s5:=lH (s4.out.keep (hbU.mono (by have:=s4.out.ha;have:=lt_of_some s4.out.rep;omega)) (hbU.block _ (lt_of_some s4.out.rep)))
   have B5:=lH (nx B4.out hbU)
   have hlb:U.heap[w4.heap.size]?=some (.cells #[.int .i64 o1,.int .i64 o2,.int .i64 o3,.int .i64 o4,.int .i64 o5] 37 (0,0)):=by rw [hU];exact heap_alloc_new _ _
   have HLb:=lH hlb
   have HaU:=lH (lt_of_some s4.out.rep)
   have HU:=lH hU
   clear hU hbU hlb s3
   by_cases k0:k=0
   ·have x1:(k==0)=true:=by simpa using k0
    have HR2:=lH (show R=(x,(o1,o2,o3,o4,o5)) from by rw [← HR.out];unfold apply;rw [if_pos ⟨G1.out,G2.out⟩,if_neg h0,HK.out,if_pos k0])
    have e3:=lH (D0.out.stays B5.out)
    clear k0 h0
    go_wp2_with fail
    rw [← HU.out]
    clear x1
    obtain ⟨F1,F2,F3,F4,F5,F6⟩:=s5.out.fin (q:=#[.int .i64 o1,.int .i64 o2,.int .i64 o3,.int .i64 o4,.int .i64 o5]) e3.out rfl
    obtain ⟨Z,hZ⟩:∃ Z,Z=((U.setRow (w.heap.size+2) #[.slice a1 n1 d1,.slice a2 n2 d2,.slice a3 n3 d3,.slice a4 n4 d4,.slice a5 n5 d5]).setRow (w.heap.size+3) #[.int .i64 o1,.int .i64 o2,.int .i64 o3,.int .i64 o4,.int .i64 o5]).drew:=⟨_,rfl⟩
    rw [← hZ] at F1 F2 F3 F4
    have HF:=lH (And.intro F1 (And.intro F2 (And.intro F3 F4)))
    have HZ:=lH hZ
    have y1:=s5.out.facts.1
    have y3:row U w4.heap.size=#[.int .i64 o1,.int .i64 o2,.int .i64 o3,.int .i64 o4,.int .i64 o5]:=row_is HLb.out
    have y4:w4.heap.size≠w.heap.size+2:=by have:=s4.out.ha;have:=HaU.out;omega
    have y5:w4.heap.size≠w.heap.size+3:=by have:=s4.out.ha;have:=HaU.out;omega
    have m2:a≠w.heap.size+2:=by have:=s5.out.ha;omega
    have m3:a≠w.heap.size+3:=by have:=s5.out.ha;omega
    clear hZ F1 F2 F3 F4
    go_region
    go_wp2
    rw [← HZ.out,HR2.out]
    refine bodyPost_ret (v:=.tuple #[.agg #[.slice a1 n1 d1,.slice a2 n2 d2,.slice a3 n3 d3,.slice a4 n4 d4,.slice a5 n5 d5],.agg #[.int .i64 o1,.int .i64 o2,.int .i64 o3,.int .i64 o4,.int .i64 o5]]) (ret_XR Tryz.results14 _ _ rfl ?c1 rfl ?c2) rfl ⟨_,rfl,HF.out.1,HF.out.2.1⟩
    case c1=>exact HF.out.2.2.1
    case c2=>exact HF.out.2.2.2
   have z1:(k==0)=false:=by simpa using k0
   by_cases k13:k=13
   ·subst k13
    have HR2:=lH (show R=(x,rep c (13,0,0)) from by rw [← HR.out];unfold apply;rw [if_pos ⟨G1.out,G2.out⟩,if_neg h0,HK.out,if_neg k0,if_pos rfl])
    have x1:=s5.out.facts.2.2.2.2.2.1 2
    have x2:=s5.out.facts.2.2.2.2.2.2.1 2
    have t3:=lH (show BSt n w.heap.size a #[.slice a1 n1 d1,.slice a2 n2 d2,.slice a3 n3 d3,.slice a4 n4 d4,.slice a5 n5 d5] (fc c) #[.int .i64 (c 0),.int .i64 (c 1),.int .i64 13,.int .i64 0,.int .i64 0] w (U.setCell ⟨a,2,none⟩ (.int .i64 13)) from s5.out.setR 2 _)
    have e3:=lH (s5.out.dR 2 (.int .i64 13) (D0.out.stays B5.out))
    rw [HU.out] at x1 x2
    have y2:a<w4.heap.size:=HaU.out
    have y6:(w4.setCell ⟨a,2,none⟩ (.int .i64 13)).alloc (.cells #[.int .i64 o1,.int .i64 o2,.int .i64 o3,.int .i64 o4,.int .i64 o5] 37)=U.setCell ⟨a,2,none⟩ (.int .i64 13):=by rw [HU.out];simp [go_sem,y2]
    have Hy6:=lH y6
    clear y6 k0 h0
    go_wp2_with fail
    first | rw [← HU.out] | rw [Hy6.out]
    clear x1 x2
    obtain ⟨F1,F2,F3,F4,F5,F6⟩:=t3.out.fin (q:=#[.int .i64 (c 0),.int .i64 (c 1),.int .i64 13,.int .i64 0,.int .i64 0]) e3.out rfl
    obtain ⟨Z,hZ⟩:∃ Z,Z=(((U.setCell ⟨a,2,none⟩ (.int .i64 13)).setRow (w.heap.size+2) #[.slice a1 n1 d1,.slice a2 n2 d2,.slice a3 n3 d3,.slice a4 n4 d4,.slice a5 n5 d5]).setRow (w.heap.size+3) #[.int .i64 (c 0),.int .i64 (c 1),.int .i64 13,.int .i64 0,.int .i64 0]).drew:=⟨_,rfl⟩
    rw [← hZ] at F1 F2 F3 F4
    have HF:=lH (And.intro F1 (And.intro F2 (And.intro F3 F4)))
    have HZ:=lH hZ
    have y1:=t3.out.facts.1
    have y3:=t3.out.facts.2.2.1
    have m2:a≠w.heap.size+2:=by have:=t3.out.ha;omega
    have m3:a≠w.heap.size+3:=by have:=t3.out.ha;omega
    clear hZ F1 F2 F3 F4
    go_region
    go_wp2
    rw [← HZ.out,HR2.out]
    refine bodyPost_ret (v:=.tuple #[.agg #[.slice a1 n1 d1,.slice a2 n2 d2,.slice a3 n3 d3,.slice a4 n4 d4,.slice a5 n5 d5],.agg #[.int .i64 (c 0),.int .i64 (c 1),.int .i64 13,.int .i64 0,.int .i64 0]]) (ret_XR Tryz.results14 _ _ rfl ?c1 rfl ?c2) rfl ⟨_,rfl,HF.out.1,HF.out.2.1⟩
    case c1=>exact HF.out.2.2.1
    case c2=>exact HF.out.2.2.2
   ·have z2:(k==13)=false:=by simpa using k13
    obtain ⟨E,hE⟩:∃ E,exec x c=E:=⟨_,rfl⟩
    have HR2:=lH (show R=({ E.1 with sess:=noteL E.1.sess (rep c E.2) },rep c E.2) from by rw [← HR.out,← hE];unfold apply;rw [if_pos ⟨G1.out,G2.out⟩,if_neg h0,HK.out,if_neg k0,if_neg k13])
    have HLs:=lH (show E.1.sess=x.sess from by rw [← hE];exact exec_sess' x c)
    have HE:=lH hE
    have H0:=lH h0
    have y1:=s5.out.facts.1
    rw [HU.out] at y1
    have HC:=lH (cloned_cut n x (.agg #[.slice a1 n1 d1,.slice a2 n2 d2,.slice a3 n3 d3,.slice a4 n4 d4,.slice a5 n5 d5]) U ⟨_,_,_,_,_,rfl,D0.out.stays B5.out⟩ (Nat.le_trans HVn.out B5.out.size) HS.out)
    clear k0 k13 h0 hE
    go_wp2_with fail
    rw [← HU.out]
    refine HC.out.mono ?_
    rintro e w6 ⟨v6,rfl,hb6,f6,l6,t6,j6,u6,rfl,dd6,hl6,hc6⟩
    obtain ⟨b1,c1,b2,c2,b3,c3,b4,c4,b5,c5,rfl,rfl,rfl,rfl,rfl⟩:=dd6.open'
    rw [q1] at dd6 ⊢
    rw [q2] at dd6 hl6 ⊢
    rw [q3] at dd6 hc6 ⊢
    rw [q4] at dd6 ⊢
    rw [q5] at dd6 ⊢
    obtain ⟨W,hW⟩:∃ W,W=w6.alloc (.cells #[.slice b1 n1 c1,.slice b2 n2 c2,.slice b3 n3 c3,.slice b4 n4 c4,.slice b5 n5 c5] 28):=⟨_,rfl⟩
    have hbW:Below w6.heap.size w6 W:=hW ▸ below1 w6 _
    have hn6:U.heap.size≤w6.heap.size:=hb6.size
    have hnU:n≤U.heap.size:=Nat.le_trans HVn.out B5.out.size
    have HXC:=lH (show XC n U.heap.size x (.slice b1 n1 c1) (.slice b2 n2 c2) (.slice b3 n3 c3) (.slice b4 n4 c4) (.slice b5 n5 c5) w6.heap.size W from ⟨by rw [hW];exact XB.made dd6 (Nat.le_trans hnU hn6),hl6.stays hbW,hc6⟩)
    have s6:=lH (s5.out.keep ((nx hb6 hbW).mono (by have:=s5.out.ha;have:=lt_of_some s5.out.rep;omega)) ((nx hb6 hbW).block _ (lt_of_some s5.out.rep)))
    have HX:=lH (execute_any n U.heap.size w6.heap.size x _ _ _ _ _ c W HXC.out HS.out hn6 G2.out H0.out)
    have x1:=(s5.out.keep (hb6.mono (by have:=s5.out.ha;have:=lt_of_some s5.out.rep;omega)) (hb6.block _ (lt_of_some s5.out.rep))).facts.2.1
    have x2:w.heap.size+1<w6.heap.size:=by have:=s5.out.ha;have:=lt_of_some s5.out.rep;omega
    have HW:=lH hW
    have Hn6:=lH hn6
    have HnU:=lH hnU
    clear y1 hW hbW hn6 hnU dd6 hl6 hc6 hb6
    go_wp2_with fail
    rw [← HW.out]
    refine HX.out.mono ?_
    rw [HE.out]
    rintro e w7 ⟨f7,l7,i7,o7,rfl,hb7,hk7,hx7⟩
    obtain ⟨u1,k1,u2,k2,u3,k3,u4,k4,u5,k5,e1,e2,e3,e4,e5⟩:=hx7.d.open'
    subst e1 e2 e4 e5
    clear e3
    have hne:a≠w6.heap.size:=by have:=HaU.out;have:=B5.out.size;have:=lt_of_some s5.out.rep;have:=Hn6.out;omega
    clear x1 x2
    have s7:=lH (s6.out.keep (hb7.mono (by have:=s5.out.ha;have:=lt_of_some s5.out.rep;omega)) (hk7 _ _ _ _ s6.out.rep (by decide) hne))
    have HX7:=lH hx7
    have x3:=s7.out.facts.2.2.2.2.2.1 3
    have x4:=s7.out.facts.2.2.2.2.2.1 4
    have x5:=s7.out.facts.2.2.2.2.2.1 2
    have x6:=s7.out.facts.2.2.2.2.2.2.1
    have t7:=s7.out.setR 3 (.int .i64 E.2.2.1)
    have t8:=t7.setR 4 (.int .i64 E.2.2.2)
    have t9:=t8.setR 2 (.int .i64 E.2.1)
    have e7:=s7.out.dR 3 (.int .i64 E.2.2.1) hx7.d
    have e8:=t7.dR 4 (.int .i64 E.2.2.2) e7
    have e9:=t8.dR 2 (.int .i64 E.2.1) e8
    obtain ⟨M,hM⟩:∃ M,M=(((w7.setCell ⟨a,3,none⟩ (.int .i64 E.2.2.1)).setCell ⟨a,4,none⟩ (.int .i64 E.2.2.2)).setCell ⟨a,2,none⟩ (.int .i64 E.2.1)):=⟨_,rfl⟩
    rw [← hM] at t9 e9
    have s9:=lH (show BSt n w.heap.size a #[.slice a1 n1 d1,.slice a2 n2 d2,.slice a3 n3 d3,.slice a4 n4 d4,.slice a5 n5 d5] (fc c) #[.int .i64 (c 0),.int .i64 (c 1),.int .i64 E.2.1,.int .i64 E.2.2.1,.int .i64 E.2.2.2] w M from t9)
    have hb9:M.heap[w6.heap.size]?=some (.cells #[.slice u1 E.1.free.length k1,.slice u2 E.1.lanes.length k2,.slice b3 n3 c3,.slice u4 E.1.inn.length k4,.slice u5 E.1.out.length k5] 28 (0,0)):=by rw [hM,Below.heap_setCell _ ⟨a,2,none⟩ _ _ (Ne.symm hne),Below.heap_setCell _ ⟨a,4,none⟩ _ _ (Ne.symm hne),Below.heap_setCell _ ⟨a,3,none⟩ _ _ (Ne.symm hne)];exact hx7.bk
    have HM:=lH hM
    have E9:=lH e9
    have HB9:=lH hb9
    have Hne:=lH hne
    have y1:row M a=#[.int .i64 (c 0),.int .i64 (c 1),.int .i64 E.2.1,.int .i64 E.2.2.1,.int .i64 E.2.2.2]:=s9.out.facts.2.2.1
    have y2:M.cell? ⟨w6.heap.size,2,none⟩=some (.slice b3 n3 c3):=cell_is hb9
    rw [hM] at y1 y2
    have HnM:=lH (show n≤M.heap.size from by have:=s9.out.ha;have:=lt_of_some s9.out.rep;have:=s9.out.lo;omega)
    clear hb7 hk7 hx7 s7 s6 t7 t8 t9 e7 e8 e9 hM hb9 hne
    go_wp2_with fail
    rw [← HM.out]
    clear y1 y2 x3 x4 x5 x6
    refine (Se.note_any (Bs.of n) E.1.sess _ (c 0) (c 1) E.2.1 E.2.2.1 E.2.2.2 M ⟨E9.out.sess,HXC.out.cap⟩ ⟨HnM.out,fun _ h=>h.elim⟩ (by rw [HLs.out];exact Nat.le_trans HS.out.sess (by decide))).mono ?_
    rintro e w10 ⟨v10,rfl,hb10,hn10⟩
    obtain ⟨u6,k6,rfl⟩:=hn10.1.len
    obtain ⟨m6,hm6⟩:∃ m,(noteL E.1.sess (c 0,c 1,E.2.1,E.2.2.1,E.2.2.2)).length=m:=⟨_,rfl⟩
    rw [hm6] at hn10 ⊢
    have s10:=s9.out.keep (hb10.mono (by have:=s9.out.ha;have:=lt_of_some s9.out.rep;omega)) (hb10.block _ (lt_of_some s9.out.rep))
    have e10:=E9.out.stays hb10
    have hb11:=(hb10.block _ (lt_of_some HB9.out)).trans HB9.out
    obtain ⟨P,hP⟩:∃ P,P=w10.setCell ⟨w6.heap.size,2,none⟩ (.slice u6 m6 k6):=⟨_,rfl⟩
    have hb12:P.heap[w6.heap.size]?=some (.cells #[.slice u1 E.1.free.length k1,.slice u2 E.1.lanes.length k2,.slice u6 m6 k6,.slice u4 E.1.inn.length k4,.slice u5 E.1.out.length k5] 28 (0,0)):=by rw [hP];exact La.setN 2 (.slice u6 m6 k6) hb11
    have y1:w10.cell? ⟨w6.heap.size,2,none⟩=some (.slice b3 n3 c3):=cell_is hb11
    have y2:w10.frozen? ⟨w6.heap.size,2,none⟩=false:=thawed_is hb11
    have t3:=lH (show BSt n w.heap.size a #[.slice a1 n1 d1,.slice a2 n2 d2,.slice a3 n3 d3,.slice a4 n4 d4,.slice a5 n5 d5] (fc c) #[.int .i64 (c 0),.int .i64 (c 1),.int .i64 E.2.1,.int .i64 E.2.2.1,.int .i64 E.2.2.2] w P from by rw [hP];exact s10.keep (low_setCell 2 _ (by have:=s9.out.ha;have:=HaU.out;have:=B5.out.size;have:=lt_of_some s5.out.rep;have:=Hn6.out;omega)) (Below.heap_setCell w10 ⟨w6.heap.size,2,none⟩ _ a Hne.out))
    have e3:=lH (show XD n { E.1 with sess:=noteL E.1.sess (c 0,c 1,E.2.1,E.2.2.1,E.2.2.2) } (.slice u1 E.1.free.length k1) (.slice u2 E.1.lanes.length k2) (.slice u6 m6 k6) (.slice u4 E.1.inn.length k4) (.slice u5 E.1.out.length k5) P from by rw [hP];exact (show XD n { E.1 with sess:=noteL E.1.sess (c 0,c 1,E.2.1,E.2.2.1,E.2.2.2) } (.slice u1 E.1.free.length k1) (.slice u2 E.1.lanes.length k2) (.slice u6 m6 k6) (.slice u4 E.1.inn.length k4) (.slice u5 E.1.out.length k5) w10 from ⟨e10.free,e10.lanes,hn10.1,e10.inn,e10.out,e10.cap⟩).keep (keeps_setCell 2 _ hb11 (by decide) (Nat.le_trans HnU.out Hn6.out)))
    have HP:=lH hP
    have HB12:=lH hb12
    clear hP hb12 hb11 e10 s10 hn10 hb10 hm6
    go_wp2_with fail
    rw [← HP.out]
    clear y1 y2
    obtain ⟨F1,F2,F3,F4,F5,F6⟩:=t3.out.fin (q:=#[.int .i64 (c 0),.int .i64 (c 1),.int .i64 E.2.1,.int .i64 E.2.2.1,.int .i64 E.2.2.2]) e3.out rfl
    obtain ⟨Z,hZ⟩:∃ Z,Z=((P.setRow (w.heap.size+2) #[.slice u1 E.1.free.length k1,.slice u2 E.1.lanes.length k2,.slice u6 m6 k6,.slice u4 E.1.inn.length k4,.slice u5 E.1.out.length k5]).setRow (w.heap.size+3) #[.int .i64 (c 0),.int .i64 (c 1),.int .i64 E.2.1,.int .i64 E.2.2.1,.int .i64 E.2.2.2]).drew:=⟨_,rfl⟩
    rw [← hZ] at F1 F2 F3 F4
    have HF:=lH (And.intro F1 (And.intro F2 (And.intro F3 F4)))
    have HZ:=lH hZ
    have y1:row P w6.heap.size=#[.slice u1 E.1.free.length k1,.slice u2 E.1.lanes.length k2,.slice u6 m6 k6,.slice u4 E.1.inn.length k4,.slice u5 E.1.out.length k5]:=row_is HB12.out
    have y3:=t3.out.facts.2.2.1
    have y4:w6.heap.size≠w.heap.size+2:=by have:=s5.out.ha;have:=lt_of_some s5.out.rep;have:=Hn6.out;omega
    have y5:w6.heap.size≠w.heap.size+3:=by have:=s5.out.ha;have:=lt_of_some s5.out.rep;have:=Hn6.out;omega
    have m2:a≠w.heap.size+2:=by have:=t3.out.ha;omega
    have m3:a≠w.heap.size+3:=by have:=t3.out.ha;omega
    clear hZ F1 F2 F3 F4
    go_region
    go_wp2
    rw [← HZ.out,HR2.out]
    refine bodyPost_ret (v:=.tuple #[.agg #[.slice u1 E.1.free.length k1,.slice u2 E.1.lanes.length k2,.slice u6 m6 k6,.slice u4 E.1.inn.length k4,.slice u5 E.1.out.length k5],.agg #[.int .i64 (c 0),.int .i64 (c 1),.int .i64 E.2.1,.int .i64 E.2.2.1,.int .i64 E.2.2.2]]) (ret_XR Tryz.results14 _ _ rfl ?c1 rfl ?c2) rfl ⟨_,rfl,HF.out.1,HF.out.2.1⟩
    case c1=>exact HF.out.2.2.1
    case c2=>exact HF.out.2.2.2
 ·have hne:(g2 != 0)=true:=by simpa using hg0
  have HR2:=lH (show R=(x,rep c (1,0,0)) from by rw [← HR.out];unfold apply;rw [if_neg (by rw [G2.out];exact fun h=>hg0 h.2)])
  have x1:=s3.out.facts.2.2.2.2.2.1 2
  have x2:=s3.out.facts.2.2.2.2.2.2.1 2
  have t3:=lH (show BSt n w.heap.size a #[.slice a1 n1 d1,.slice a2 n2 d2,.slice a3 n3 d3,.slice a4 n4 d4,.slice a5 n5 d5] (fc c) #[.int .i64 (c 0),.int .i64 (c 1),.int .i64 1,.int .i64 0,.int .i64 0] w (w3.setCell ⟨a,2,none⟩ (.int .i64 1)) from s3.out.setR 2 _)
  have e3:=lH (s3.out.dR 2 (.int .i64 1) (D0.out.stays B3.out))
  clear hg0
  go_wp2_with fail
  clear x1 x2
  obtain ⟨F1,F2,F3,F4,F5,F6⟩:=t3.out.fin (q:=#[.int .i64 (c 0),.int .i64 (c 1),.int .i64 1,.int .i64 0,.int .i64 0]) e3.out rfl
  obtain ⟨Z,hZ⟩:∃ Z,Z=(((w3.setCell ⟨a,2,none⟩ (.int .i64 1)).setRow (w.heap.size+2) #[.slice a1 n1 d1,.slice a2 n2 d2,.slice a3 n3 d3,.slice a4 n4 d4,.slice a5 n5 d5]).setRow (w.heap.size+3) #[.int .i64 (c 0),.int .i64 (c 1),.int .i64 1,.int .i64 0,.int .i64 0]).drew:=⟨_,rfl⟩
  rw [← hZ] at F1 F2 F3 F4
  have HF:=lH (And.intro F1 (And.intro F2 (And.intro F3 F4)))
  have HZ:=lH hZ
  have y1:=t3.out.facts.1
  have y3:=t3.out.facts.2.2.1
  have m2:a≠w.heap.size+2:=by have:=t3.out.ha;omega
  have m3:a≠w.heap.size+3:=by have:=t3.out.ha;omega
  clear hZ F1 F2 F3 F4
  go_region
  go_wp2
  rw [← HZ.out,HR2.out]
  refine bodyPost_ret (v:=.tuple #[.agg #[.slice a1 n1 d1,.slice a2 n2 d2,.slice a3 n3 d3,.slice a4 n4 d4,.slice a5 n5 d5],.agg #[.int .i64 (c 0),.int .i64 (c 1),.int .i64 1,.int .i64 0,.int .i64 0]]) (ret_XR Tryz.results14 _ _ rfl ?c1 rfl ?c2) rfl ⟨_,rfl,HF.out.1,HF.out.2.1⟩
  case c1=>exact HF.out.2.2.1
  case c2=>exact HF.out.2.2.2
end Go.Proofs.YtjhocpcpkemcaaaGreat.Ex
