/- Of the statements of layer 17: opened, awake. -/
import Derived.Test.YtnnbjhpkgndclaaGreatDoorQsZZ
import Derived.Test.YtnnbjhpkgndclaaGreatDoorQsBJ
import Derived.Test.YtnnbjhpkgndclaaGreatDoorQsBM
import Derived.Test.YtnnbjhpkgndclaaGreatDoorQsBN
import Derived.Test.YtnnbjhpkgndclaaGreatDoorQsAY
set_option linter.unusedVariables false
namespace Go.Proofs.YtnnbjhpkgndclaaGreatDoor.St
open Go.RowKit
open Go.Proofs.YtnnbjhpkgndclaaGreatDoor.Rw
open Go.Proofs.YtnnbjhpkgndclaaGreatDoor.Da
open Go.Proofs.YtnnbjhpkgndclaaGreatDoor.Bv
open Go.Proofs.YtnnbjhpkgndclaaGreatDoor.Rc (Ins ci zeroI okI nI isI isI_of run_part)
open Go.Proofs.YtnnbjhpkgndclaaGreatDoor.Dk (Ds DV Post2 PostD Ok newP new_any crash_any start_any at2 lim nul)
def kC (cs : Array Value) (tv : Value) (z g : Int) : Array Value := cs ++ #[tv,.int .i64 z,.int .i64 g]
abbrev z9 : Array Value := #[.string ⟨#[]⟩,.string ⟨#[]⟩,.slice none 0 0,.int .i64 0,.int .i64 0,.bool false,.slice none 0 0,.int .i64 0,.int .i64 0]
theorem kC_size {cs : Array Value} (h : cs.size = 6) (tv : Value) (z g : Int) : (kC cs tv z g).size = 9 := by simp [kC,h]
theorem kC_ext {cs : Array Value} (h : cs.size = 6) (tv : Value) (z g : Int) : (kC cs tv z g).extract 0 6 = cs := by
  unfold kC
  rw [← h]
  simp
theorem kC_at {cs : Array Value} (h : cs.size = 6) (tv : Value) (z g : Int) : (kC cs tv z g)[6]? = some tv ∧ (kC cs tv z g)[7]? = some (.int .i64 z) ∧ (kC cs tv z g)[8]? = some (.int .i64 g) := by
  unfold kC
  refine ⟨?_,?_,?_⟩ <;> (rw [Array.getElem?_append_right (by omega),h];rfl)
theorem kC_one {cs : Array Value} (h : oneAll (.agg cs) = true) (a : Option Addr) (n c : Nat) (z g : Int) : oneAll (.agg (kC cs (.slice a n c) z g)) = true := by
  simp only [oneAll,Value.cells,kC] at *
  rw [Array.all_append,h];simp [Value.oneCell']
def isS : Value → Bool
  | .slice _ _ _ => true
  | _ => false
theorem isS_of {v : Value} (h : isS v = true) : ∃ a n c,v = .slice a n c := by
  cases v <;> simp [isS] at h
  exact ⟨_,_,_,rfl⟩
theorem isS_sl (a : Option Addr) (n c : Nat) : isS (.slice a n c) = true := rfl
theorem six_of {cs : Array Value} (h : cs.size = 6) : ∃ a b c d e f,cs = #[a,b,c,d,e,f] := by
  refine ⟨cs[0],cs[1],cs[2],cs[3],cs[4],cs[5],?_⟩
  apply Array.ext
  · simp [h]
  · intro i h1 h2
    rw [h] at h1
    match i,h1 with
    | 0,_ => rfl | 1,_ => rfl | 2,_ => rfl | 3,_ => rfl | 4,_ => rfl | 5,_ => rfl
section
variable (ρ : Operand → Value) (dst : Option Tmp) (ty : TypeId) (pos : String) (after : Array Edge) (guard : Option (Nat × Bool)) (w : World)
theorem ldDk (x : Operand) (h : (Rc.part 6 w (ρ x)).size = 6) : (execOp ρ { dst,op := .load 27 x,type := ty,pos,after,guard }).run Tryz.prog w = .ok (.value (.agg (Rc.part 6 w (ρ x)))) w := by
  have := run_part (P := Tryz.prog) (T := 27) (n := 5) (w := w) (v := ρ x) Tryz.underlying27 rfl (by kernel_rfl) h
  simp [execOp,this]
theorem storeK (p x : Operand) (h : plainAt 9 w (ρ p) = true) (hs : (ρ x).cells.size = 9) (h1 : oneAll (ρ x) = true) (ha : ρ x = .agg (ρ x).cells) : (execOp ρ { dst,op := .store 61 p x,type := ty,pos,after,guard }).run Tryz.prog w = .ok .skip (putRow w (ρ p) (ρ x).cells) :=
  exec_store (n := 8) ρ dst ty pos after guard w (by kernel_rfl) p x h hs h1 ha
theorem buildK (x y z t : Operand) (hx : (ρ x).cells.size = 6) (ha : ρ x = .agg (ρ x).cells) (hy : isS (ρ y) = true) (hz : isI (ρ z) = true) (ht : isI (ρ t) = true) : (execOp ρ { dst,op := .build 61 #[(0,x),(1,y),(2,z),(3,t)],type := ty,pos,after,guard }).run Tryz.prog w = .ok (.value (.agg (kC (ρ x).cells (ρ y) (nI (ρ z)) (nI (ρ t))))) w := by
  replace hz := isI_of hz
  generalize nI (ρ z) = fz at hz ⊢
  replace ht := isI_of ht
  generalize nI (ρ t) = ft at ht ⊢
  obtain ⟨a,n,c,hy⟩ := isS_of hy
  obtain ⟨c0,c1,c2,c3,c4,c5,hc⟩ := six_of hx
  rw [hc] at ha ⊢
  have := run_build (P := Tryz.prog) w 61 #[(0,.agg #[c0,c1,c2,c3,c4,c5]),(1,.slice a n c),(2,.int .i64 fz),(3,.int .i64 ft)] (kC #[c0,c1,c2,c3,c4,c5] (.slice a n c) fz ft) (by kernel_rfl)
  simp [execOp,ha,hy,hz,ht,this]
end
attribute [go_sem ↓] ldDk storeK buildK
attribute [go_sem] isS_sl
theorem ret_K2 {fn : Func} {p q : Tmp} (h : fn.results = #[.cell p 61,.tmp q]) (tmps : Array Value) (w : World) {cs : Array Value} (hs : cs.size = 9) (hr : rowOf w (tmps.getD p undef) = cs) : (results fn tmps).run Tryz.prog w = .ok (.tuple #[.agg cs,tmps.getD q undef]) w :=
  ret2 (n := 8) h Tryz.underlying61 rfl (by kernel_rfl) tmps w hs hr
def OpdP (q : Nat) (r : An) (w : World) (e : Ending) (w' : World) : Prop := ∃ cs a c,e = .returned (.tuple #[.agg (kC cs (.slice a r.t.length c) r.z r.g),.bool (r.e == 0)]) ∧ Below w.heap.size w w' ∧ DV q r.d (.agg cs) w' ∧ TI q r.t (.slice a r.t.length c) w' ∧ cs.size = 6 ∧ oneAll (.agg cs) = true
theorem open_is {q : Nat} {d : Ds} {n : Int} {r : An} (H : Hid (opnP d n = r)) (v : Value) (w : World) (h : DV q d v w) (hq : q ≤ w.heap.size) (hk : Ok 300000 300 d) (hT : Tbs w) :
    Calls Tryz.prog 17 #[v,.int .i64 n] w (AnP q r w) := by
  rw [← H.out];exact open_any q d v n w h hq hk hT
set_option maxRecDepth 8000 in
set_option maxHeartbeats 4000000 in
theorem opened_any (q : Nat) (room : Int) (w : World) (hq : q ≤ w.heap.size) (hT : Tbs w) :
    Calls Tryz.prog 25 #[.int .i64 room] w (OpdP q (opnP (newP room) 3) w) := by
  obtain ⟨U,hU⟩ : ∃ Q_ : World,w.alloc (.cells z9 61) = Q_ := ⟨_,rfl⟩
  have bU : Below w.heap.size w U := hU ▸ below1 w _
  have xU : Bx U w.heap.size z9 61 := hU ▸ Bx.new _ _ _
  obtain ⟨r,hr⟩ : ∃ r,opnP (newP room) 3 = r := ⟨_,rfl⟩
  have HR := lH hr
  have hok := Ok.newP room
  have HT := lH hT
  rw [hr]
  clear hr hT
  go_enter Tryz.func25,Tryz.ntmps25
  go_wp2_with fail
  refine (new_any q room U (by have := bU.size;omega)).mono ?_
  rintro e w1 ⟨v1,rfl,hb1,hd1⟩
  have b1 := nx bU hb1
  go_wp2_with fail
  refine (open_is HR v1 w1 hd1 (by have := b1.size;omega) (hok.mono (by decide) (by decide)) (HT.out.below b1)).mono ?_
  rintro e w2 ⟨v2,tv,rfl,hb2,hd2,ht2⟩
  have b2 := nx b1 hb2
  obtain ⟨cs,rfl,hs,o1,_,_⟩ := dv_open hd2
  obtain ⟨a,c,rfl⟩ := ht2.len
  have x2 := (xU.stays hb1).stays hb2
  have hs9 := kC_size hs (.slice a r.t.length c) r.z r.g
  have ho9 := kC_one o1 a r.t.length c r.z r.g
  obtain ⟨Y,hY⟩ : ∃ Q_ : World,w2.alloc (.cells z6 27) = Q_ := ⟨_,rfl⟩
  have yY : Bx Y w2.heap.size z6 27 := hY ▸ Bx.new _ _ _
  have bY : Below w2.heap.size w2 Y := hY ▸ below1 _ _
  have pY := yY.plain (n := 6) rfl
  obtain ⟨X,hX⟩ : ∃ Q_ : World,Y.setRow w2.heap.size cs = Q_ := ⟨_,rfl⟩
  have wA : Bx X w2.heap.size cs 27 := hX ▸ yY.put _
  have hX2 : Below w2.heap.size w2 X := hX ▸ below_setRow bY (Nat.le_refl _) _
  have x3 := x2.stays hX2
  have bX := nx b2 hX2
  have rX := wA.row
  have pX := x3.plain (n := 9) rfl
  have DX := lH (hd2.stays hX2)
  have TX := lH (ht2.stays hX2)
  clear hd2 ht2 xU x2 yY
  go_wp2
  exact bodyPost_ret (v := .tuple #[.agg (kC cs (.slice a r.t.length c) r.z r.g),.bool (r.e == 0)]) (ret_K2 Tryz.results25 _ _ hs9 (x3.put _).row) rfl ⟨cs,a,c,rfl,below_setRow bX (Nat.le_refl _) _,dv_row _ DX.out x3 (by decide) hq,ti_row _ TX.out x3 (by decide) hq,hs,o1⟩
theorem opened_is {q : Nat} {room : Int} {r : An} (H : Hid (opnP (newP room) 3 = r)) (w : World) (hq : q ≤ w.heap.size) (hT : Tbs w) :
    Calls Tryz.prog 25 #[.int .i64 room] w (OpdP q r w) := by
  rw [← H.out];exact opened_any q room w hq hT
end Go.Proofs.YtnnbjhpkgndclaaGreatDoor.St
namespace Go.Proofs.YtnnbjhpkgndclaaGreatDoor.St
open Go.RowKit
open Go.Proofs.YtnnbjhpkgndclaaGreatDoor.Rw
open Go.Proofs.YtnnbjhpkgndclaaGreatDoor.Da
open Go.Proofs.YtnnbjhpkgndclaaGreatDoor.Bv
open Go.Proofs.YtnnbjhpkgndclaaGreatDoor.Rc (Ins ci zeroI okI)
open Go.Proofs.YtnnbjhpkgndclaaGreatDoor.Dk (Ds DV Post2 PostD Ok newP new_any crash_any start_any at2 lim nul)
set_option maxRecDepth 8000 in
set_option maxHeartbeats 8000000 in
theorem awake_any (w : World) (hT : Tbs w) : Calls Tryz.prog 8 #[] w fun e w' => e = .returned (.bool true) ∧ Below w.heap.size w w' := by
  obtain ⟨q,hq⟩ : ∃ n,n = w.heap.size := ⟨_,rfl⟩
  have hq0 : q ≤ w.heap.size := by omega
  obtain ⟨r,hr⟩ : ∃ r,opnP (newP 5000) 3 = r := ⟨_,rfl⟩
  have HR := lH hr
  have hnew := open_new 5000
  rw [hr] at hnew
  have HN := lH (hnew.resolve_left (fun h => absurd h.1 (by decide)))
  have HT := lH hT
  clear hr hnew hT hq
  go_enter Tryz.func8,Tryz.ntmps8
  go_wp2_with fail
  refine (opened_is HR w hq0 HT.out).mono ?_
  rintro e w1 ⟨cs,a,c,rfl,hb1,hd1,ht1,hs,o1⟩
  obtain ⟨r1,r2,r3,r4,r5,r6,r7,r8,r9⟩ := HN.out
  rw [r2,r3,r4,r5]
  rw [r3] at ht1
  obtain ⟨Y,hY⟩ : ∃ Q_ : World,w1.alloc (.cells z9 61) = Q_ := ⟨_,rfl⟩
  have yY : Bx Y w1.heap.size z9 61 := hY ▸ Bx.new _ _ _
  have bY : Below w1.heap.size w1 Y := hY ▸ below1 _ _
  have pY := yY.plain (n := 9) rfl
  have hs9 := kC_size hs (.slice a 0 c) 0 1
  have ho9 := kC_one o1 a 0 c 0 1
  obtain ⟨X,hX⟩ : ∃ Q_ : World,Y.setRow w1.heap.size (kC cs (.slice a 0 c) 0 1) = Q_ := ⟨_,rfl⟩
  have xX : Bx X w1.heap.size (kC cs (.slice a 0 c) 0 1) 61 := hX ▸ yY.put _
  have hX2 : Below w1.heap.size w1 X := hX ▸ below_setRow bY (Nat.le_refl _) _
  have bX := nx hb1 hX2
  have DX := lH (hd1.stays hX2)
  have TX := lH (ht1.stays hX2)
  have hF : ∀ u,Below X.heap.size X u → Rc.part 6 u (.pointer (some ⟨w1.heap.size,0,none⟩)) = cs ∧ u.cell? ⟨w1.heap.size,6,none⟩ = some (.slice a 0 c) ∧ u.cell? ⟨w1.heap.size,7,none⟩ = some (.int .i64 0) ∧ u.cell? ⟨w1.heap.size,8,none⟩ = some (.int .i64 1) := fun u hu => by
    have h := xX.stays hu
    have hk := kC_at hs (.slice a 0 c) 0 1
    refine ⟨by rw [Rc.part_at,h.row];exact kC_ext hs _ _ _,?_,?_,?_⟩
    · rw [h.cell];exact hk.1
    · rw [h.cell];exact hk.2.1
    · rw [h.cell];exact hk.2.2
  obtain ⟨ra,hra⟩ : ∃ x,addP r.d [] 0 1 3 [oneP 1 2] = x := ⟨_,rfl⟩
  have HA := lH hra
  have hk0 : Ok 300000 300 r.d := by
    have h := opn_ok (Ok.newP 5000) 3
    rw [HR.out] at h
    exact h.mono (by decide) (by decide)
  have hqX : q ≤ X.heap.size := by have := bX.size;omega
  have hadd := add_out (n := 3) (d := r.d) (t := []) (l := [oneP 1 2]) (z := 0) (g := 1) r8 (by rw [r7];decide) (by rw [r6];decide) (by simp) (by decide) (by rw [okT_iff];intro i hi;simp at hi;subst hi;exact one_ok (by decide) (by decide)) (fun i hi => by simp at hi;subst hi;exact one_cn 1 2)
  rw [hra] at hadd
  have hfit : (at2 (r.d.a,r.d.b) 0).size + Wa.wl ([oneP 1 2].map (ent 3)) ≤ r.d.c := by
    rw [r9,Wa.laid_size,wl_rw,wl_ents,r6];decide
  have hyes : ra.e = 0 ∧ ra.t = [oneP 1 2] ∧ ra.z = 0 ∧ ra.g = 1 ∧ Top 3 ra.d [oneP 1 2] 0 1 true := by
    rcases hadd with ⟨_,_,_,h⟩ | ⟨_,h,_⟩ | ⟨h1,h2,_,_,_,_,h3,h4⟩
    · exact absurd hfit (by omega)
    · exact absurd r7 h
    · obtain ⟨h5,h6,_⟩ := h4 hfit
      rw [h5,h6] at h3
      exact ⟨h1,h2,h5,h6,h3⟩
  obtain ⟨he0,het,hez,heg,hetop⟩ := hyes
  have hk1 : Ok 900000 900 ra.d := by
    have h := add_ok hk0 [] 0 1 3 [oneP 1 2]
    rw [hra] at h
    exact h.mono (by decide) (by decide)
  have HTab := lH (hetop.back 0 0).tab
  have HSm : Hid (sameL ra.t [oneP 1 2] = true) := lH (by rw [het];exact sameL_refl _)
  have HSm2 : Hid (sameL [oneP 1 2] ra.t = true) := lH (by rw [het];exact sameL_refl _)
  have htl : ra.t.length ≤ 1000 := by rw [het];decide
  have hxk := xX
  clear hd1 ht1 yY hra hadd hfit het hetop
  go_wp2
  refine Rf.rg [0,1,2,3,4,5,6,7,8,9,10,11,12,13,14,15,16,17,18,19,20,21,22] ?_
  repeat (first | (refine Rf.Steps.sk ?_;simp only [Act.put,sA,sB,sC]) | (refine Rf.Steps.pu (v := ?_) ?_ ?_;rotate_left;(intro w_ hS_;have hk_ := hF w_ hS_;go_simp <;> with_reducible rfl);simp only [Act.put,sA,sB,sC]) | (refine Rf.Steps.ca (v := ?_) (f := ?_) (args := ?_) ?_ ?_ ?_;rotate_left 3;(intro w_ hS_;have hk_ := hF w_ hS_;go_simp <;> first | with_reducible rfl | (constructor <;> with_reducible rfl));(intro w_ hS_;have hk_ := hF w_ hS_;first | (go_at_call 10;refine (one_any 1 2 (by decide) (by decide) _).mono ?_;first | (rintro e w_ ⟨rfl,rfl⟩;refine ⟨?_,Below.refl _ _⟩;with_reducible rfl) | (rintro e w_ ⟨rfl,hb_⟩;refine ⟨?_,hb_⟩;with_reducible rfl)));simp only [Act.put,sA,sB,sC]))
  refine Rf.Steps.two (i := 9) (j := 17) (ord := [10,11,12,13,14,15,16,18,19,20,21,22]) (by kernel_rfl) ?_ ?_
  · refine Rf.One.val (fun v u => ∃ b,v = .slice (some ⟨b,0,none⟩) 1 1 ∧ TI q [(oneP 1 2)] v u) (fun v _ _ h k => by obtain ⟨b,h1,h2⟩ := h;exact ⟨b,h1,h2.stays k⟩) (by rfl) (by rfl) ?_ ?_
    · intro w_ hS_
      refine ⟨_,_,?_,below1 _ _,w_.heap.size,rfl,TI.one (oneP 1 2) (by have := (hS_).size;omega)⟩
      go_simp
    intro vs us hvs
    simp only [Act.put,sA,sB,sC]
    obtain ⟨bs,rfl,_⟩ := hvs
    refine Rf.Steps.two (i := 10) (j := 17) (ord := [11,12,13,14,15,16,18,19,20,21,22]) (by kernel_rfl) ?_ ?_
    · refine Rf.One.call (fun v u => ∃ dv tv,v = .tuple #[dv,tv,.int .i64 ra.z,.int .i64 ra.g,.int .i64 ra.e] ∧ DV q ra.d dv u ∧ TI q ra.t tv u) (fun v _ _ h k => by obtain ⟨dv,tv,h1,h2,h3⟩ := h;exact ⟨dv,tv,h1,h2.stays k,h3.stays k⟩) (f := ?_) (args := ?_) (by rfl) (by rfl) ?_ ?_ ?_
      rotate_left 2
      · intro w_ hS_;have hk_ := (fun u hu => True.intro) w_ hS_;go_simp <;> first | with_reducible rfl | (constructor <;> with_reducible rfl)
      · intro w_ hS_;have hk_ := (fun u hu => True.intro) w_ hS_;(go_at_call 11;refine (append_is HA (.agg cs) (.slice a 0 c) _ w_ (DX.out.stays (hS_.1)) (TX.out.stays (hS_.1)) (by obtain ⟨b_,e_,t_⟩ := hS_.2;exact t_) (by have := (hS_.1).size;omega) hk0 (HT.out.below (nx bX (hS_.1))) (by decide) (by decide) (by decide) (by decide) List.Pairwise.nil).mono ?_;rintro e w_ ⟨dv,tv,rfl,hb_,hd_,ht_⟩;exact ⟨_,rfl,hb_,dv,tv,rfl,hd_,ht_⟩)
      intro vc u_ hvc
      simp only [Act.put,sA,sB,sC]
      obtain ⟨dv,tv9,rfl,hdc,htc⟩ := hvc
      obtain ⟨cs2,rfl,hs2,o2,_,_⟩ := dv_open hdc
      obtain ⟨a9,c9,rfl⟩ := htc.len
      clear hdc htc
      show Rf.Steps _ _ _ _ [11,12,13,14,15,16,17,18,19,20,21,22] _ _ _
      repeat (first | (refine Rf.Steps.sk ?_;simp only [Act.put,sA,sB,sC]) | (refine Rf.Steps.pu (v := ?_) ?_ ?_;rotate_left;(intro w_ hS_;skip;go_simp <;> with_reducible rfl);simp only [Act.put,sA,sB,sC]))
      refine Rf.Steps.forced (i := 17) (by kernel_rfl) ?_
      refine Rf.One.val (fun v u => ∃ b cs,v = .pointer (some ⟨b,0,none⟩) ∧ Bx u b cs 27 ∧ cs.size = 6 ∧ X.heap.size ≤ b) (fun v _ _ h k => by obtain ⟨b,cs,h1,h2,h3,h4⟩ := h;exact ⟨b,cs,h1,h2.stays k,h3,h4⟩) (by rfl) (by rfl) ?_ ?_
      · intro w_ hS_
        refine ⟨_,_,?_,below1 _ _,w_.heap.size,z6,rfl,Bx.new _ _ _,rfl,(hS_.1.1).size⟩
        go_simp
      intro v3 u3 hv3
      simp only [Act.put,sA,sB,sC]
      obtain ⟨b3,cs3,rfl,hx3,hs3,hb3⟩ := hv3
      clear hx3 hs3 cs3
      refine Rf.Steps.forced (i := 18) (by kernel_rfl) ?_
      refine Rf.One.store (fun u => (((Below X.heap.size X u ∧ (∃ b,(.slice (some ⟨bs,0,none⟩) 1 1 : Value) = .slice (some ⟨b,0,none⟩) 1 1 ∧ TI q [(oneP 1 2)] (.slice (some ⟨bs,0,none⟩) 1 1) u)) ∧ (∃ dv tv,(.tuple #[.agg cs2,.slice a9 ra.t.length c9,.int .i64 ra.z,.int .i64 ra.g,.int .i64 ra.e] : Value) = .tuple #[dv,tv,.int .i64 ra.z,.int .i64 ra.g,.int .i64 ra.e] ∧ DV q ra.d dv u ∧ TI q ra.t tv u)) ∧ (∃ b cs,(.pointer (some ⟨b3,0,none⟩) : Value) = .pointer (some ⟨b,0,none⟩) ∧ Bx u b cs 27 ∧ cs.size = 6 ∧ X.heap.size ≤ b)) ∧ Bx u b3 cs2 27 ∧ DV q ra.d (.agg cs2) u ∧ TI q ra.t (.slice a9 ra.t.length c9) u) (fun _ _ h k => ⟨⟨⟨⟨nx (h.1.1.1.1) k,(by obtain ⟨b,e1,h2⟩ := h.1.1.1.2;exact ⟨b,e1,h2.stays k⟩)⟩,(by obtain ⟨dv,tv,e1,h2,h3⟩ := h.1.1.2;exact ⟨dv,tv,e1,h2.stays k,h3.stays k⟩)⟩,(by obtain ⟨b,cs,e1,h2,h3,h4⟩ := h.1.2;exact ⟨b,cs,e1,h2.stays k,h3,h4⟩)⟩,h.2.1.stays k,h.2.2.1.stays k,h.2.2.2.stays k⟩) (fun u h => h.1) (by rfl) (by rfl) ?_ ?_
      · intro w_ hS_
        have hX_ := hS_.1.1.1
        obtain ⟨bb,cc,e1,hx_,hs_,hb_⟩ := hS_.2
        simp only [Value.pointer.injEq,Option.some.injEq,Addr.mk.injEq,and_true] at e1
        subst e1
        obtain ⟨_,_,ht_⟩ := hS_.1.1.2
        obtain ⟨dv_,tv_,e2,hd_,htt_⟩ := hS_.1.2
        simp only [Value.tuple.injEq] at e2
        have e3 : dv_ = .agg cs2 := by have := congrArg (fun x : Array Value => x[0]?) e2;simpa using this.symm
        have e4 : tv_ = .slice a9 ra.t.length c9 := by have := congrArg (fun x : Array Value => x[1]?) e2;simpa using this.symm
        subst e3 e4
        have pl_ := hx_.plain (n := 6) hs_
        have n1 := below_setRow hX_ hb_ cs2
        have n2 := hx_.put cs2
        have hqb : q ≤ b3 := by omega
        have n3 := ti_row cs2 ht_ hx_ (by decide) hqb
        have n4 := dv_row cs2 hd_ hx_ (by decide) hqb
        have n5 := ti_row cs2 htt_ hx_ (by decide) hqb
        refine ⟨_,?_,⟨⟨⟨n1,⟨bs,rfl,n3⟩⟩,⟨.agg cs2,_,rfl,n4,n5⟩⟩,⟨b3,cs2,rfl,n2,hs2,hb_⟩⟩,n2,n4,n5⟩
        go_simp
      repeat (first | (refine Rf.Steps.sk ?_;simp only [Act.put,sA,sB,sC]) | (refine Rf.Steps.pu (v := ?_) ?_ ?_;rotate_left;(intro w_ hS_;skip;go_simp <;> with_reducible rfl);simp only [Act.put,sA,sB,sC]))
      refine Rf.Steps.nil (by kernel_rfl) ?_
      intro w9 hS9
      have b9 : Below X.heap.size X w9 := hS9.1.1.1.1
      have x9 := hS9.2.1
      have D9 := lH hS9.2.2.1
      have T9 := lH hS9.2.2.2
      clear hS9
      have bw9 := nx bX b9
      have r9x := x9.row
      go_wp2_with fail
      refine (crash_any q ra.d _ 0 0 w9 D9.out (by have := bw9.size;omega) (hk1.mono (by decide) (by decide))).mono ?_
      rintro e w10 ⟨v10,rfl,hb10,hd10⟩
      clear r9x
      go_wp2_with fail
      refine (start_any q _ v10 w10 hd10).mono ?_
      rintro e w11 ⟨v11,rfl,hb11,hd11⟩
      have b11 := nx (nx b9 hb10) hb11
      have bw11 := nx bX b11
      have hkb : Ok 500000 500 (back ra.d 0 0) := by
        have h := (hk0.mono (show 300000 ≤ 300000 by decide) (Nat.le_refl 300))
        have h2 := add_ok h [] 0 1 3 [oneP 1 2]
        rw [HA.out] at h2
        exact ((h2.craP 0 0).down false).mono (by decide) (by decide)
      go_wp2_with fail
      refine (table_is HTab v11 w11 hd11 (by have := bw11.size;omega) hkb (HT.out.below bw11)).mono ?_
      rintro e w12 ⟨v12,rfl,hb12,ht12⟩
      have b12 := nx b11 hb12
      have bw12 := nx bX b12
      obtain ⟨p0,p6,p7,p8⟩ := hF w12 b12
      have T12 := lH ht12
      simp only at T12 ⊢
      clear ht12
      go_wp2_with fail
      refine (one_any 1 2 (by decide) (by decide) w12).mono ?_
      rintro e w13 ⟨rfl,hb13⟩
      obtain ⟨Z,hZ⟩ : ∃ Q_ : World,w13.alloc (.cells (ci (oneP 1 2)) 44) = Q_ := ⟨_,rfl⟩
      have hb14 : Below w13.heap.size w13 Z := hZ ▸ below1 _ _
      have hone := hZ ▸ TI.one (n := q) (oneP 1 2) (w := w13) (by have := bw12.size;have := hb13.size;omega)
      have b13 := nx (nx hb12 hb13) hb14
      have T9Z := (((T9.out.stays hb10).stays hb11).stays b13)
      go_wp2_with fail
      refine (same_is HSm _ _ Z T9Z hone (by omega) (by decide)).mono ?_
      rintro e w15 ⟨rfl,hb15⟩
      have T12Z := ((T12.out.stays hb13).stays hb14).stays hb15
      have T9Y := T9Z.stays hb15
      go_wp2_with fail
      refine (same_is HSm2 _ _ w15 T12Z T9Y (by decide) (by omega)).mono ?_
      rintro e w16 ⟨rfl,hb16⟩
      go_wp2
      go_ret
      exact ⟨rfl,nx (nx (nx bw11 b13) hb15) hb16⟩
    · refine Rf.One.val (fun v u => ∃ b cs,v = .pointer (some ⟨b,0,none⟩) ∧ Bx u b cs 27 ∧ cs.size = 6 ∧ X.heap.size ≤ b) (fun v _ _ h k => by obtain ⟨b,cs,h1,h2,h3,h4⟩ := h;exact ⟨b,cs,h1,h2.stays k,h3,h4⟩) (by rfl) (by rfl) ?_ ?_
      · intro w_ hS_
        refine ⟨_,_,?_,below1 _ _,w_.heap.size,z6,rfl,Bx.new _ _ _,rfl,(hS_.1).size⟩
        go_simp
      intro v3 u3 hv3
      simp only [Act.put,sA,sB,sC]
      obtain ⟨b3,cs3,rfl,hx3,hs3,hb3⟩ := hv3
      clear hx3 hs3 cs3
      refine Rf.Steps.forced (i := 10) (by kernel_rfl) ?_
      refine Rf.One.call (fun v u => ∃ dv tv,v = .tuple #[dv,tv,.int .i64 ra.z,.int .i64 ra.g,.int .i64 ra.e] ∧ DV q ra.d dv u ∧ TI q ra.t tv u) (fun v _ _ h k => by obtain ⟨dv,tv,h1,h2,h3⟩ := h;exact ⟨dv,tv,h1,h2.stays k,h3.stays k⟩) (f := ?_) (args := ?_) (by rfl) (by rfl) ?_ ?_ ?_
      rotate_left 2
      · intro w_ hS_;have hk_ := (fun u hu => True.intro) w_ hS_;go_simp <;> first | with_reducible rfl | (constructor <;> with_reducible rfl)
      · intro w_ hS_;have hk_ := (fun u hu => True.intro) w_ hS_;(go_at_call 11;refine (append_is HA (.agg cs) (.slice a 0 c) _ w_ (DX.out.stays (hS_.1.1)) (TX.out.stays (hS_.1.1)) (by obtain ⟨b_,e_,t_⟩ := hS_.1.2;exact t_) (by have := (hS_.1.1).size;omega) hk0 (HT.out.below (nx bX (hS_.1.1))) (by decide) (by decide) (by decide) (by decide) List.Pairwise.nil).mono ?_;rintro e w_ ⟨dv,tv,rfl,hb_,hd_,ht_⟩;exact ⟨_,rfl,hb_,dv,tv,rfl,hd_,ht_⟩)
      intro vc u_ hvc
      simp only [Act.put,sA,sB,sC]
      obtain ⟨dv,tv9,rfl,hdc,htc⟩ := hvc
      obtain ⟨cs2,rfl,hs2,o2,_,_⟩ := dv_open hdc
      obtain ⟨a9,c9,rfl⟩ := htc.len
      clear hdc htc
      repeat (first | (refine Rf.Steps.sk ?_;simp only [Act.put,sA,sB,sC]) | (refine Rf.Steps.pu (v := ?_) ?_ ?_;rotate_left;(intro w_ hS_;skip;go_simp <;> with_reducible rfl);simp only [Act.put,sA,sB,sC]))
      refine Rf.Steps.forced (i := 18) (by kernel_rfl) ?_
      refine Rf.One.store (fun u => (((Below X.heap.size X u ∧ (∃ b,(.slice (some ⟨bs,0,none⟩) 1 1 : Value) = .slice (some ⟨b,0,none⟩) 1 1 ∧ TI q [(oneP 1 2)] (.slice (some ⟨bs,0,none⟩) 1 1) u)) ∧ (∃ b cs,(.pointer (some ⟨b3,0,none⟩) : Value) = .pointer (some ⟨b,0,none⟩) ∧ Bx u b cs 27 ∧ cs.size = 6 ∧ X.heap.size ≤ b)) ∧ (∃ dv tv,(.tuple #[.agg cs2,.slice a9 ra.t.length c9,.int .i64 ra.z,.int .i64 ra.g,.int .i64 ra.e] : Value) = .tuple #[dv,tv,.int .i64 ra.z,.int .i64 ra.g,.int .i64 ra.e] ∧ DV q ra.d dv u ∧ TI q ra.t tv u)) ∧ Bx u b3 cs2 27 ∧ DV q ra.d (.agg cs2) u ∧ TI q ra.t (.slice a9 ra.t.length c9) u) (fun _ _ h k => ⟨⟨⟨⟨nx (h.1.1.1.1) k,(by obtain ⟨b,e1,h2⟩ := h.1.1.1.2;exact ⟨b,e1,h2.stays k⟩)⟩,(by obtain ⟨b,cs,e1,h2,h3,h4⟩ := h.1.1.2;exact ⟨b,cs,e1,h2.stays k,h3,h4⟩)⟩,(by obtain ⟨dv,tv,e1,h2,h3⟩ := h.1.2;exact ⟨dv,tv,e1,h2.stays k,h3.stays k⟩)⟩,h.2.1.stays k,h.2.2.1.stays k,h.2.2.2.stays k⟩) (fun u h => h.1) (by rfl) (by rfl) ?_ ?_
      · intro w_ hS_
        have hX_ := hS_.1.1.1
        obtain ⟨bb,cc,e1,hx_,hs_,hb_⟩ := hS_.1.2
        simp only [Value.pointer.injEq,Option.some.injEq,Addr.mk.injEq,and_true] at e1
        subst e1
        obtain ⟨_,_,ht_⟩ := hS_.1.1.2
        obtain ⟨dv_,tv_,e2,hd_,htt_⟩ := hS_.2
        simp only [Value.tuple.injEq] at e2
        have e3 : dv_ = .agg cs2 := by have := congrArg (fun x : Array Value => x[0]?) e2;simpa using this.symm
        have e4 : tv_ = .slice a9 ra.t.length c9 := by have := congrArg (fun x : Array Value => x[1]?) e2;simpa using this.symm
        subst e3 e4
        have pl_ := hx_.plain (n := 6) hs_
        have n1 := below_setRow hX_ hb_ cs2
        have n2 := hx_.put cs2
        have hqb : q ≤ b3 := by omega
        have n3 := ti_row cs2 ht_ hx_ (by decide) hqb
        have n4 := dv_row cs2 hd_ hx_ (by decide) hqb
        have n5 := ti_row cs2 htt_ hx_ (by decide) hqb
        refine ⟨_,?_,⟨⟨⟨n1,⟨bs,rfl,n3⟩⟩,⟨b3,cs2,rfl,n2,hs2,hb_⟩⟩,⟨.agg cs2,_,rfl,n4,n5⟩⟩,n2,n4,n5⟩
        go_simp
      repeat (first | (refine Rf.Steps.sk ?_;simp only [Act.put,sA,sB,sC]) | (refine Rf.Steps.pu (v := ?_) ?_ ?_;rotate_left;(intro w_ hS_;skip;go_simp <;> with_reducible rfl);simp only [Act.put,sA,sB,sC]))
      refine Rf.Steps.nil (by kernel_rfl) ?_
      intro w9 hS9
      have b9 : Below X.heap.size X w9 := hS9.1.1.1.1
      have x9 := hS9.2.1
      have D9 := lH hS9.2.2.1
      have T9 := lH hS9.2.2.2
      clear hS9
      have bw9 := nx bX b9
      have r9x := x9.row
      go_wp2_with fail
      refine (crash_any q ra.d _ 0 0 w9 D9.out (by have := bw9.size;omega) (hk1.mono (by decide) (by decide))).mono ?_
      rintro e w10 ⟨v10,rfl,hb10,hd10⟩
      clear r9x
      go_wp2_with fail
      refine (start_any q _ v10 w10 hd10).mono ?_
      rintro e w11 ⟨v11,rfl,hb11,hd11⟩
      have b11 := nx (nx b9 hb10) hb11
      have bw11 := nx bX b11
      have hkb : Ok 500000 500 (back ra.d 0 0) := by
        have h := (hk0.mono (show 300000 ≤ 300000 by decide) (Nat.le_refl 300))
        have h2 := add_ok h [] 0 1 3 [oneP 1 2]
        rw [HA.out] at h2
        exact ((h2.craP 0 0).down false).mono (by decide) (by decide)
      go_wp2_with fail
      refine (table_is HTab v11 w11 hd11 (by have := bw11.size;omega) hkb (HT.out.below bw11)).mono ?_
      rintro e w12 ⟨v12,rfl,hb12,ht12⟩
      have b12 := nx b11 hb12
      have bw12 := nx bX b12
      obtain ⟨p0,p6,p7,p8⟩ := hF w12 b12
      have T12 := lH ht12
      simp only at T12 ⊢
      clear ht12
      go_wp2_with fail
      refine (one_any 1 2 (by decide) (by decide) w12).mono ?_
      rintro e w13 ⟨rfl,hb13⟩
      obtain ⟨Z,hZ⟩ : ∃ Q_ : World,w13.alloc (.cells (ci (oneP 1 2)) 44) = Q_ := ⟨_,rfl⟩
      have hb14 : Below w13.heap.size w13 Z := hZ ▸ below1 _ _
      have hone := hZ ▸ TI.one (n := q) (oneP 1 2) (w := w13) (by have := bw12.size;have := hb13.size;omega)
      have b13 := nx (nx hb12 hb13) hb14
      have T9Z := (((T9.out.stays hb10).stays hb11).stays b13)
      go_wp2_with fail
      refine (same_is HSm _ _ Z T9Z hone (by omega) (by decide)).mono ?_
      rintro e w15 ⟨rfl,hb15⟩
      have T12Z := ((T12.out.stays hb13).stays hb14).stays hb15
      have T9Y := T9Z.stays hb15
      go_wp2_with fail
      refine (same_is HSm2 _ _ w15 T12Z T9Y (by decide) (by omega)).mono ?_
      rintro e w16 ⟨rfl,hb16⟩
      go_wp2
      go_ret
      exact ⟨rfl,nx (nx (nx bw11 b13) hb15) hb16⟩
  · refine Rf.One.val (fun v u => ∃ b cs,v = .pointer (some ⟨b,0,none⟩) ∧ Bx u b cs 27 ∧ cs.size = 6 ∧ X.heap.size ≤ b) (fun v _ _ h k => by obtain ⟨b,cs,h1,h2,h3,h4⟩ := h;exact ⟨b,cs,h1,h2.stays k,h3,h4⟩) (by rfl) (by rfl) ?_ ?_
    · intro w_ hS_
      refine ⟨_,_,?_,below1 _ _,w_.heap.size,z6,rfl,Bx.new _ _ _,rfl,(hS_).size⟩
      go_simp
    intro v3 u3 hv3
    simp only [Act.put,sA,sB,sC]
    obtain ⟨b3,cs3,rfl,hx3,hs3,hb3⟩ := hv3
    clear hx3 hs3 cs3
    refine Rf.Steps.forced (i := 9) (by kernel_rfl) ?_
    refine Rf.One.val (fun v u => ∃ b,v = .slice (some ⟨b,0,none⟩) 1 1 ∧ TI q [(oneP 1 2)] v u) (fun v _ _ h k => by obtain ⟨b,h1,h2⟩ := h;exact ⟨b,h1,h2.stays k⟩) (by rfl) (by rfl) ?_ ?_
    · intro w_ hS_
      refine ⟨_,_,?_,below1 _ _,w_.heap.size,rfl,TI.one (oneP 1 2) (by have := (hS_.1).size;omega)⟩
      go_simp
    intro vs us hvs
    simp only [Act.put,sA,sB,sC]
    obtain ⟨bs,rfl,_⟩ := hvs
    refine Rf.Steps.forced (i := 10) (by kernel_rfl) ?_
    refine Rf.One.call (fun v u => ∃ dv tv,v = .tuple #[dv,tv,.int .i64 ra.z,.int .i64 ra.g,.int .i64 ra.e] ∧ DV q ra.d dv u ∧ TI q ra.t tv u) (fun v _ _ h k => by obtain ⟨dv,tv,h1,h2,h3⟩ := h;exact ⟨dv,tv,h1,h2.stays k,h3.stays k⟩) (f := ?_) (args := ?_) (by rfl) (by rfl) ?_ ?_ ?_
    rotate_left 2
    · intro w_ hS_;have hk_ := (fun u hu => True.intro) w_ hS_;go_simp <;> first | with_reducible rfl | (constructor <;> with_reducible rfl)
    · intro w_ hS_;have hk_ := (fun u hu => True.intro) w_ hS_;(go_at_call 11;refine (append_is HA (.agg cs) (.slice a 0 c) _ w_ (DX.out.stays (hS_.1.1)) (TX.out.stays (hS_.1.1)) (by obtain ⟨b_,e_,t_⟩ := hS_.2;exact t_) (by have := (hS_.1.1).size;omega) hk0 (HT.out.below (nx bX (hS_.1.1))) (by decide) (by decide) (by decide) (by decide) List.Pairwise.nil).mono ?_;rintro e w_ ⟨dv,tv,rfl,hb_,hd_,ht_⟩;exact ⟨_,rfl,hb_,dv,tv,rfl,hd_,ht_⟩)
    intro vc u_ hvc
    simp only [Act.put,sA,sB,sC]
    obtain ⟨dv,tv9,rfl,hdc,htc⟩ := hvc
    obtain ⟨cs2,rfl,hs2,o2,_,_⟩ := dv_open hdc
    obtain ⟨a9,c9,rfl⟩ := htc.len
    clear hdc htc
    repeat (first | (refine Rf.Steps.sk ?_;simp only [Act.put,sA,sB,sC]) | (refine Rf.Steps.pu (v := ?_) ?_ ?_;rotate_left;(intro w_ hS_;skip;go_simp <;> with_reducible rfl);simp only [Act.put,sA,sB,sC]))
    refine Rf.Steps.forced (i := 18) (by kernel_rfl) ?_
    refine Rf.One.store (fun u => (((Below X.heap.size X u ∧ (∃ b cs,(.pointer (some ⟨b3,0,none⟩) : Value) = .pointer (some ⟨b,0,none⟩) ∧ Bx u b cs 27 ∧ cs.size = 6 ∧ X.heap.size ≤ b)) ∧ (∃ b,(.slice (some ⟨bs,0,none⟩) 1 1 : Value) = .slice (some ⟨b,0,none⟩) 1 1 ∧ TI q [(oneP 1 2)] (.slice (some ⟨bs,0,none⟩) 1 1) u)) ∧ (∃ dv tv,(.tuple #[.agg cs2,.slice a9 ra.t.length c9,.int .i64 ra.z,.int .i64 ra.g,.int .i64 ra.e] : Value) = .tuple #[dv,tv,.int .i64 ra.z,.int .i64 ra.g,.int .i64 ra.e] ∧ DV q ra.d dv u ∧ TI q ra.t tv u)) ∧ Bx u b3 cs2 27 ∧ DV q ra.d (.agg cs2) u ∧ TI q ra.t (.slice a9 ra.t.length c9) u) (fun _ _ h k => ⟨⟨⟨⟨nx (h.1.1.1.1) k,(by obtain ⟨b,cs,e1,h2,h3,h4⟩ := h.1.1.1.2;exact ⟨b,cs,e1,h2.stays k,h3,h4⟩)⟩,(by obtain ⟨b,e1,h2⟩ := h.1.1.2;exact ⟨b,e1,h2.stays k⟩)⟩,(by obtain ⟨dv,tv,e1,h2,h3⟩ := h.1.2;exact ⟨dv,tv,e1,h2.stays k,h3.stays k⟩)⟩,h.2.1.stays k,h.2.2.1.stays k,h.2.2.2.stays k⟩) (fun u h => h.1) (by rfl) (by rfl) ?_ ?_
    · intro w_ hS_
      have hX_ := hS_.1.1.1
      obtain ⟨bb,cc,e1,hx_,hs_,hb_⟩ := hS_.1.1.2
      simp only [Value.pointer.injEq,Option.some.injEq,Addr.mk.injEq,and_true] at e1
      subst e1
      obtain ⟨_,_,ht_⟩ := hS_.1.2
      obtain ⟨dv_,tv_,e2,hd_,htt_⟩ := hS_.2
      simp only [Value.tuple.injEq] at e2
      have e3 : dv_ = .agg cs2 := by have := congrArg (fun x : Array Value => x[0]?) e2;simpa using this.symm
      have e4 : tv_ = .slice a9 ra.t.length c9 := by have := congrArg (fun x : Array Value => x[1]?) e2;simpa using this.symm
      subst e3 e4
      have pl_ := hx_.plain (n := 6) hs_
      have n1 := below_setRow hX_ hb_ cs2
      have n2 := hx_.put cs2
      have hqb : q ≤ b3 := by omega
      have n3 := ti_row cs2 ht_ hx_ (by decide) hqb
      have n4 := dv_row cs2 hd_ hx_ (by decide) hqb
      have n5 := ti_row cs2 htt_ hx_ (by decide) hqb
      refine ⟨_,?_,⟨⟨⟨n1,⟨b3,cs2,rfl,n2,hs2,hb_⟩⟩,⟨bs,rfl,n3⟩⟩,⟨.agg cs2,_,rfl,n4,n5⟩⟩,n2,n4,n5⟩
      go_simp
    repeat (first | (refine Rf.Steps.sk ?_;simp only [Act.put,sA,sB,sC]) | (refine Rf.Steps.pu (v := ?_) ?_ ?_;rotate_left;(intro w_ hS_;skip;go_simp <;> with_reducible rfl);simp only [Act.put,sA,sB,sC]))
    refine Rf.Steps.nil (by kernel_rfl) ?_
    intro w9 hS9
    have b9 : Below X.heap.size X w9 := hS9.1.1.1.1
    have x9 := hS9.2.1
    have D9 := lH hS9.2.2.1
    have T9 := lH hS9.2.2.2
    clear hS9
    have bw9 := nx bX b9
    have r9x := x9.row
    go_wp2_with fail
    refine (crash_any q ra.d _ 0 0 w9 D9.out (by have := bw9.size;omega) (hk1.mono (by decide) (by decide))).mono ?_
    rintro e w10 ⟨v10,rfl,hb10,hd10⟩
    clear r9x
    go_wp2_with fail
    refine (start_any q _ v10 w10 hd10).mono ?_
    rintro e w11 ⟨v11,rfl,hb11,hd11⟩
    have b11 := nx (nx b9 hb10) hb11
    have bw11 := nx bX b11
    have hkb : Ok 500000 500 (back ra.d 0 0) := by
      have h := (hk0.mono (show 300000 ≤ 300000 by decide) (Nat.le_refl 300))
      have h2 := add_ok h [] 0 1 3 [oneP 1 2]
      rw [HA.out] at h2
      exact ((h2.craP 0 0).down false).mono (by decide) (by decide)
    go_wp2_with fail
    refine (table_is HTab v11 w11 hd11 (by have := bw11.size;omega) hkb (HT.out.below bw11)).mono ?_
    rintro e w12 ⟨v12,rfl,hb12,ht12⟩
    have b12 := nx b11 hb12
    have bw12 := nx bX b12
    obtain ⟨p0,p6,p7,p8⟩ := hF w12 b12
    have T12 := lH ht12
    simp only at T12 ⊢
    clear ht12
    go_wp2_with fail
    refine (one_any 1 2 (by decide) (by decide) w12).mono ?_
    rintro e w13 ⟨rfl,hb13⟩
    obtain ⟨Z,hZ⟩ : ∃ Q_ : World,w13.alloc (.cells (ci (oneP 1 2)) 44) = Q_ := ⟨_,rfl⟩
    have hb14 : Below w13.heap.size w13 Z := hZ ▸ below1 _ _
    have hone := hZ ▸ TI.one (n := q) (oneP 1 2) (w := w13) (by have := bw12.size;have := hb13.size;omega)
    have b13 := nx (nx hb12 hb13) hb14
    have T9Z := (((T9.out.stays hb10).stays hb11).stays b13)
    go_wp2_with fail
    refine (same_is HSm _ _ Z T9Z hone (by omega) (by decide)).mono ?_
    rintro e w15 ⟨rfl,hb15⟩
    have T12Z := ((T12.out.stays hb13).stays hb14).stays hb15
    have T9Y := T9Z.stays hb15
    go_wp2_with fail
    refine (same_is HSm2 _ _ w15 T12Z T9Y (by decide) (by omega)).mono ?_
    rintro e w16 ⟨rfl,hb16⟩
    go_wp2
    go_ret
    exact ⟨rfl,nx (nx (nx bw11 b13) hb15) hb16⟩
end Go.Proofs.YtnnbjhpkgndclaaGreatDoor.St
