/- Layer 17: StoreBytes. -/
import Derived.Test.YtnnbjhpkgndclaaGreatDoorQsZZ
import Derived.Test.YtnnbjhpkgndclaaGreatDoorQsBO
import Derived.Test.YtnnbjhpkgndclaaGreatDoorQsBN
import Derived.Test.YtnnbjhpkgndclaaGreatDoorQsBW
import Derived.Test.YtnnbjhpkgndclaaGreatDoorQsBP
set_option linter.unusedVariables false
namespace Go.Proofs.YtnnbjhpkgndclaaGreatDoor.St
open Go.RowKit
open Go.Proofs.YtnnbjhpkgndclaaGreatDoor.Rw
open Go.Proofs.YtnnbjhpkgndclaaGreatDoor.Da
open Go.Proofs.YtnnbjhpkgndclaaGreatDoor.Bv
open Go.Proofs.YtnnbjhpkgndclaaGreatDoor.Rc (Ins ci zeroI okI)
open Go.Proofs.YtnnbjhpkgndclaaGreatDoor.Dk (Ds DV Post2 PostD Ok newP new_any at2 lim nul disks_yes)
theorem ropen_is {q : Nat} {d : Ds} {n : Int} {r : An} (H : Hid (opnP d n = r)) (v : Value) (w : World) (h : DV q d v w) (hq : q ≤ w.heap.size) (hk : Ok 300000 300 d) (hT : Tbs w) :
    Calls Tryz.prog 18 #[v,.int .i64 n] w (AnP q r w) := by
  rw [← H.out];exact ropen_any q d v n w h hq hk hT
section
variable (ρ : Operand → Value) (dst : Option Tmp) (ty : TypeId) (pos : String) (after : Array Edge) (guard : Option (Nat × Bool)) (w : World)
theorem storeMidZ (p x : Operand) (h : thereOf w (ρ p) 2) (hs : (ρ x).cells.size = 2) (h1 : oneAll (ρ x) = true) (ha : ρ x = .agg (ρ x).cells) : (execOp ρ { dst,op := .store 24 p x,type := ty,pos,after,guard }).run Tryz.prog w = .ok .skip (putMid w (ρ p) (ρ x).cells) :=
  storeMid (by kernel_rfl) ρ dst ty pos after guard w p x h hs h1 ha
end
attribute [go_sem ↓] storeMidZ
theorem buildZ (a b : ByteArray) (w : World) : (Instr.build 24 #[(0,.string a),(1,.string b)]).run Tryz.prog w = .ok (.agg #[.string a,.string b]) w := by kernel_rfl
attribute [go_sem] buildZ
theorem oneSS (a b : ByteArray) : oneAll (.agg #[.string a,.string b]) = true := by simp [oneAll,Value.cells,Value.oneCell']
attribute [go_sem] oneSS
theorem dv_safe {q : Nat} {d : Ds} {cs : Array Value} {w : World} (h : DV q d (.agg cs) w) (a b : ByteArray) : DV q { d with a := a,b := b } (.agg (over cs 0 [.string a,.string b])) w := by
  obtain ⟨o,e,h1,h2⟩ := h
  cases e
  exact ⟨o,rfl,h1,h2⟩
set_option maxRecDepth 8000 in
set_option maxHeartbeats 8000000 in
theorem walkBytes (a b : ByteArray) (n : Int) (ha : a.size ≤ maxLen) (hb : b.size ≤ maxLen) (wn : (Lit.int .i64 n).wf = true) (w : World) (hT : Tbs w) :
    Calls Tryz.prog 4 #[.string a,.string b,.int .i64 n] w fun e w' => e = .returned (.bool true) ∧ Below w.heap.size w w' := by
  unfold maxLen at ha hb
  clear wn
  have HT := lH hT
  obtain ⟨q,hq⟩ : ∃ n,n = w.heap.size := ⟨_,rfl⟩
  have hq0 : q ≤ w.heap.size := by omega
  clear hq
  by_cases hl : (3000 : Int) < a.size
  · have hd : decide ((3000 : Int) < a.size) = true := decide_eq_true hl
    go_enter Tryz.func4,Tryz.ntmps4
    go_wp2_with fail
    refine (awake_any w hT).mono ?_
    rintro e w1 ⟨rfl,hb1⟩
    go_wp2
    go_ret
    exact ⟨rfl,hb1⟩
  by_cases hl2 : (3000 : Int) < b.size
  · have hd : decide ((3000 : Int) < a.size) = false := decide_eq_false hl
    have hd2 : decide ((3000 : Int) < b.size) = true := decide_eq_true hl2
    go_enter Tryz.func4,Tryz.ntmps4
    go_wp2_with fail
    refine (awake_any w hT).mono ?_
    rintro e w1 ⟨rfl,hb1⟩
    go_wp2
    go_ret
    exact ⟨rfl,hb1⟩
  have hd : decide ((3000 : Int) < a.size) = false := decide_eq_false hl
  have hd2 : decide ((3000 : Int) < b.size) = false := decide_eq_false hl2
  obtain ⟨d,hD⟩ : ∃ d : Ds,{ newP 5000 with a := a,b := b } = d := ⟨_,rfl⟩
  have fine : Fine d := by
    have h0 := fine_new 5000
    rw [← hD]
    exact ⟨by simp only;omega,by simp only;omega,h0.f,h0.c,h0.up,few_nil b (show a.size ≤ 60000 by omega)⟩
  have tb := fine.tab n
  have op := (fine.opn n)
  obtain ⟨p,hp⟩ : ∃ p,tabP d n = p := ⟨_,rfl⟩
  obtain ⟨r,hr⟩ : ∃ r,opnP d n = r := ⟨_,rfl⟩
  rw [hp] at tb
  rw [hr] at op
  have HP := lH hp
  have HR := lH hr
  have HD := lH hD
  have HF := lH fine
  have HB := lH tb
  have HO := lH op
  have s1 := lH (sameL_refl p.1.t)
  have s2 := lH (sameL_refl r.t)
  have lp := lH (show p.1.t.length ≤ 1000000 from by have := tb.len;omega)
  have lr := lH (show r.t.length ≤ 1000000 from by have := op.2.len;omega)
  have lo := lH (show r.d.l.length ≤ 1000000 from by have := op.1.ok.len;omega)
  clear hp hr hD fine tb op hT ha hb hl hl2
  go_enter Tryz.func4,Tryz.ntmps4
  go_wp2_with fail
  refine (new_any q 5000 w hq0).mono ?_
  rintro e w1 ⟨v1,rfl,hb1,hd1⟩
  obtain ⟨cs,rfl,hs,o1,_,_⟩ := dv_open hd1
  obtain ⟨U,hU⟩ : ∃ Q_ : World,w1.alloc (.cells z6 27) = Q_ := ⟨_,rfl⟩
  have uU : Bx U w1.heap.size z6 27 := hU ▸ Bx.new _ _ _
  have bU : Below w1.heap.size w1 U := hU ▸ below1 _ _
  have pU := uU.plain (n := 6) rfl
  obtain ⟨X,hX⟩ : ∃ Q_ : World,U.setRow w1.heap.size cs = Q_ := ⟨_,rfl⟩
  have xX : Bx X w1.heap.size cs 27 := hX ▸ uU.put _
  have bX : Below w1.heap.size w1 X := hX ▸ below_setRow bU (Nat.le_refl _) _
  have tX := xX.there (o := 0) (n := 2) (by omega)
  obtain ⟨Y,hY⟩ : ∃ Q_ : World,X.setCells w1.heap.size 0 [.string a,.string b] = Q_ := ⟨_,rfl⟩
  have yY : Bx Y w1.heap.size (over cs 0 [.string a,.string b]) 27 := hY ▸ Bx.sets (w := X) _ _ _ _ xX
  have bY : Below w1.heap.size w1 Y := hY ▸ bX.trans (low_setCells (Nat.le_refl _) _ _ _)
  have dY : DV q d (.agg (over cs 0 [.string a,.string b])) Y := by
    have h := (dv_safe hd1 a b).stays bY
    rwa [HD.out] at h
  obtain ⟨c2,hc2⟩ : ∃ c2 : Array Value,over cs 0 [.string a,.string b] = c2 := ⟨_,rfl⟩
  have hs2 : c2.size = 6 := by rw [← hc2];simp [over,hs]
  rw [hc2] at yY dY
  have bwY := nx hb1 bY
  have rY := yY.row
  clear hd1
  go_wp2_with fail
  refine (table_is HP _ Y dY (by have := bwY.size;omega) (HF.out.ok.mono (by decide) (by decide)) (HT.out.below bwY)).mono ?_
  rintro e w2 ⟨pv,rfl,hb2,hp2⟩
  have y2 := yY.stays hb2
  have r2 := y2.row
  have bw2 := nx bwY hb2
  have dY2 := dY.stays hb2
  clear rY pU tX xX uU hs o1
  go_wp2_with fail
  refine (rtable_is HP _ w2 dY2 (by have := bw2.size;omega) (HF.out.ok.mono (by decide) (by decide)) (HT.out.below bw2)).mono ?_
  rintro e w3 ⟨qv,rfl,hb3,hp3⟩
  have y3 := y2.stays hb3
  have r3 := y3.row
  have bw3 := nx bw2 hb3
  have dY3 := dY2.stays hb3
  have hp2' := hp2.stays hb3
  clear r2
  go_wp2_with fail
  refine (open_is HR _ w3 dY3 (by have := bw3.size;omega) HF.out.ok (HT.out.below bw3)).mono ?_
  rintro e w4 ⟨xv,tv,rfl,hb4,hx4,ht4⟩
  have y4 := y3.stays hb4
  have bw4 := nx bw3 hb4
  have dY4 := dY3.stays hb4
  have p4 := hp2'.stays hb4
  have q4 := hp3.stays hb4
  obtain ⟨c4,rfl,hs4,o4,_,_⟩ := dv_open hx4
  obtain ⟨U4,hU4⟩ : ∃ Q_ : World,w4.alloc (.cells z6 27) = Q_ := ⟨_,rfl⟩
  have uU4 : Bx U4 w4.heap.size z6 27 := hU4 ▸ Bx.new _ _ _
  have bU4 : Below w4.heap.size w4 U4 := hU4 ▸ below1 _ _
  have pU4 := uU4.plain (n := 6) rfl
  obtain ⟨X4,hX4⟩ : ∃ Q_ : World,U4.setRow w4.heap.size c4 = Q_ := ⟨_,rfl⟩
  have xX4 : Bx X4 w4.heap.size c4 27 := hX4 ▸ uU4.put _
  have bX4 : Below w4.heap.size w4 X4 := hX4 ▸ below_setRow bU4 (Nat.le_refl _) _
  have bw5 := nx bw4 bX4
  have y5 := y4.stays bX4
  have r5 := y5.row
  have dY5 := dY4.stays bX4
  clear r3
  go_wp2_with fail
  refine (ropen_is HR _ X4 dY5 (by have := bw5.size;omega) HF.out.ok (HT.out.below bw5)).mono ?_
  rintro e w6 ⟨yv,uv,rfl,hb6,hy6,hu6⟩
  have bw6 := nx bw5 hb6
  have x6 := xX4.stays hb6
  have hx6 := (hx4.stays bX4).stays hb6
  have ht6 := (ht4.stays bX4).stays hb6
  have p6 := (p4.stays bX4).stays hb6
  have q6 := (q4.stays bX4).stays hb6
  obtain ⟨c6,rfl,hs6,o6,_,_⟩ := dv_open hy6
  obtain ⟨U6,hU6⟩ : ∃ Q_ : World,w6.alloc (.cells z6 27) = Q_ := ⟨_,rfl⟩
  have uU6 : Bx U6 w6.heap.size z6 27 := hU6 ▸ Bx.new _ _ _
  have bU6 : Below w6.heap.size w6 U6 := hU6 ▸ below1 _ _
  have pU6 := uU6.plain (n := 6) rfl
  obtain ⟨X6,hX6⟩ : ∃ Q_ : World,U6.setRow w6.heap.size c6 = Q_ := ⟨_,rfl⟩
  have xX6 : Bx X6 w6.heap.size c6 27 := hX6 ▸ uU6.put _
  have bX6 : Below w6.heap.size w6 X6 := hX6 ▸ below_setRow bU6 (Nat.le_refl _) _
  have bw7 := nx bw6 bX6
  have P7 := lH (p6.stays bX6)
  have Q7 := lH (q6.stays bX6)
  have x7 := x6.stays bX6
  have X7 := lH (hx6.stays bX6)
  have T7 := lH (ht6.stays bX6)
  have Y7 := lH (hy6.stays bX6)
  have U7 := lH (hu6.stays bX6)
  clear p6 q6 x6 hx6 ht6 hy6 hu6 p4 q4 dY5 y5 r5 xX4 uU4 pU4 hx4 ht4 hp2 hp2' hp3 y4 y3 y2 yY dY dY2 dY3 dY4
  go_wp2_with fail
  refine (same_is s1 _ _ X6 P7.out Q7.out lp.out lp.out).mono ?_
  rintro e w8 ⟨rfl,hb8⟩
  have bw8 := nx bw7 hb8
  have x8 := x7.stays hb8
  have z8 := xX6.stays hb8
  have r8 := x8.row
  have r8' := z8.row
  go_wp2_with fail
  refine (disks_yes r.d _ _ w8 (X7.out.stays hb8) (Y7.out.stays hb8) lo.out).mono ?_
  rintro e w9 ⟨rfl,hb9⟩
  have bw9 := nx bw8 hb9
  clear r8 r8'
  go_wp2_with fail
  refine (same_is s2 _ _ w9 ((T7.out.stays hb8).stays hb9) ((U7.out.stays hb8).stays hb9) lr.out lr.out).mono ?_
  rintro e w10 ⟨rfl,hb10⟩
  have bw10 := nx bw9 hb10
  go_wp2_with fail
  refine (awake_any w10 (HT.out.below bw10)).mono ?_
  rintro e w11 ⟨rfl,hb11⟩
  go_wp2
  go_ret
  exact ⟨rfl,nx bw10 hb11⟩
end Go.Proofs.YtnnbjhpkgndclaaGreatDoor.St
