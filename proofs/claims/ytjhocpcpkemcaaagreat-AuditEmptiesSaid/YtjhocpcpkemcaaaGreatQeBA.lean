/- The box of a book within Place and Cancel. -/
import Derived.Test.YtjhocpcpkemcaaaGreatQeZZ
import Derived.Test.YtjhocpcpkemcaaaGreatQeAU
set_option linter.unusedVariables false
set_option maxRecDepth 16000
set_option maxHeartbeats 32000000
namespace Go.Proofs.YtjhocpcpkemcaaaGreat.Bk
open Go.RowKit
open Rw
open Da
open Le
theorem ret_BOE {fn:Func} {p q r:Tmp} (h:fn.results=#[.cell p 57,.cell q 74,.tmp r]) (tmps:Array Value) (w:World) {cs ds:Array Value} (hs:cs.size=3) (hr:rowOf w (tmps.getD p undef)=cs) (hs':ds.size=5) (hr':rowOf w (tmps.getD q undef)=ds):(results fn tmps).run Tryz.prog w=.ok (.tuple #[.agg cs,.agg ds,tmps.getD r undef]) w:=by
 obtain ⟨b,e,hl⟩:=read_cell (P:=Tryz.prog) (T:=57) (n:=2) Tryz.underlying57 rfl (by kernel_rfl) hr hs
 obtain ⟨b',e',hl'⟩:=read_cell (P:=Tryz.prog) (T:=74) (n:=4) Tryz.underlying74 rfl (by kernel_rfl) hr' hs'
 have hp:tmps[p]?.getD undef=.pointer (some ⟨b,0,none⟩):=by simpa using e
 have hp':tmps[q]?.getD undef=.pointer (some ⟨b',0,none⟩):=by simpa using e'
 simp [results,h,hp,hp',asAddr,hl,hl']
structure CF (A:Bs) (b:Bk) (x y:Value) (s:Nat) (w W:World):Prop where
 bk:W.heap[s]?=some (.cells #[x,y,.int .i64 b.2.2] 57 (0,0))
 lo:A.lo≤s
 l1:LL A b.1 x W
 l2:LL A b.2.1 y W
 bel:Below s w W
theorem CF.lt {A:Bs} {b:Bk} {x y:Value} {s:Nat} {w W:World} (h:CF A b x y s w W):s<W.heap.size:=(Array.getElem?_eq_some_iff.1 h.bk).1
theorem CF.stays {A:Bs} {b:Bk} {x y:Value} {s:Nat} {w W W':World} (h:CF A b x y s w W) (hb:Below W.heap.size W W'):CF A b x y s w W' :=
 ⟨(hb.block s h.lt).trans h.bk,h.lo,Is.stays eL 106 h.l1 hb,Is.stays eL 106 h.l2 hb,h.bel.trans (hb.mono (Nat.le_of_lt h.lt))⟩
theorem CF.row {A:Bs} {b:Bk} {x y:Value} {s:Nat} {w W:World} (h:CF A b x y s w W):row W s=#[x,y,.int .i64 b.2.2]:=by unfold Rw.row;rw [h.bk]
theorem CF.cells {A:Bs} {b:Bk} {x y:Value} {s:Nat} {w W:World} (h:CF A b x y s w W):W.cell? ⟨s,0,none⟩=some x∧W.cell? ⟨s,1,none⟩=some y∧W.cell? ⟨s,2,none⟩=some (.int .i64 b.2.2)∧W.frozen? ⟨s,0,none⟩=false∧W.frozen? ⟨s,1,none⟩=false∧W.frozen? ⟨s,2,none⟩=false:=by
 refine ⟨?_,?_,?_,?_,?_,?_⟩<;>simp [World.cell?,World.frozen?,h.bk]
theorem CF.bl {A:Bs} {b:Bk} {x y:Value} {s:Nat} {w W:World} (h:CF A b x y s w W):BL A b (.agg #[x,y,.int .i64 b.2.2]) W:=⟨x,y,rfl,h.l1,h.l2⟩
theorem CF.other {A:Bs} {b:Bk} {x y:Value} {s k:Nat} {w W:World} (h:CF A b x y s w W) (hk:s<k) (hx:A.ex k) (c:Array Value):CF A b x y s w (W.setRow k c):=by
 have ha:=alt_setRow (Alt.refl (fun b=>b=k) W) (b:=k) rfl c
 have hkp:Keeps A (106 :: eL.ts) W (W.setRow k c):=Keeps.of_alt ha (fun b hb _=>by subst hb;exact ⟨hx,Nat.le_of_lt (Nat.lt_of_le_of_lt h.lo hk)⟩)
 exact ⟨(setRow_other W k s c (by omega)).trans h.bk,h.lo,Is.keep eL 106 h.l1 hkp,Is.keep eL 106 h.l2 hkp,below_setRow h.bel (Nat.le_of_lt hk) _⟩
theorem CF.otherB {A:Bs} {b:Bk} {x y:Value} {s k:Nat} {w W:World} {c0:Array Value} (h:CF A b x y s w W) (hk:s<k) (hx:W.heap[k]?=some (.cells c0 57 (0,0))) (c:Array Value):CF A b x y s w (W.setRow k c):=by
 have hkp:Keeps A (106 :: eL.ts) W (W.setRow k c):=keeps_setRow c hx (by decide) (by have:=h.lo;omega)
 exact ⟨(setRow_other W k s c (by omega)).trans h.bk,h.lo,Is.keep eL 106 h.l1 hkp,Is.keep eL 106 h.l2 hkp,below_setRow h.bel (Nat.le_of_lt hk) _⟩
end Go.Proofs.YtjhocpcpkemcaaaGreat.Bk
