/- Layer 17: StorePlays. -/
import Derived.Test.YtnnbjhpkgndclaaGreatDoorQsZZ
import Derived.Test.YtnnbjhpkgndclaaGreatDoorQsCD
import Derived.Test.YtnnbjhpkgndclaaGreatDoorQsBX
import Derived.Test.YtnnbjhpkgndclaaGreatDoorQsBW
set_option linter.unusedVariables false
namespace Go.Proofs.YtnnbjhpkgndclaaGreatDoor.St
open Go.RowKit
open Go.Proofs.YtnnbjhpkgndclaaGreatDoor.Rw
open Go.Proofs.YtnnbjhpkgndclaaGreatDoor.Da
open Go.Proofs.YtnnbjhpkgndclaaGreatDoor.Bv
open Go.Proofs.YtnnbjhpkgndclaaGreatDoor.Rc (Ins ci zeroI okI)
open Go.Proofs.YtnnbjhpkgndclaaGreatDoor.Dk (Ds DV Post2 PostD Ok newP new_any at2 lim nul disks_yes arm_any crash_any start_any)
theorem rappend_is {q : Nat} {d : Ds} {t l : List Ins} {z g n : Int} {r : An} (H : Hid (addP d t z g n l = r)) (v tv lv : Value) (w : World) (h : DV q d v w) (ht : TI q t tv w) (hl : TI q l lv w) (hq : q ≤ w.heap.size) (hk : Ok 300000 300 d) (hg : g ≤ 1000000000000) (hg0 : -9223372036854775808 ≤ g) (htl : t.length ≤ 40000) (hll : l.length ≤ 1000) (hsr : Srt t) :
    Calls Tryz.prog 12 #[v,tv,.int .i64 z,.int .i64 g,.int .i64 n,lv] w (AnP q r w) := by
  rw [← H.out];exact rappend_any q d v tv lv t l z g n w h ht hl hq hk hg hg0 htl hll hsr
set_option maxRecDepth 8000 in
set_option maxHeartbeats 32000000 in
theorem walkPlays (room : Int) (l : List O3) (v : Value) (w : World) (h : PL (Bs.of w.heap.size) l v w) (hwf : wfOs l) (wr : (Lit.int .i64 room).wf = true) (hT : Tbs w) :
    Calls Tryz.prog 3 #[.int .i64 room,v] w fun e w' => e = .returned (.bool true) ∧ Below w.heap.size w w' := by
  have hlm : l.length ≤ maxLen := hwf.1
  unfold maxLen at hlm
  clear wr hwf
  have HT := lH hT
  obtain ⟨q,hq⟩ : ∃ n,n = w.heap.size := ⟨_,rfl⟩
  have hq0 : q ≤ w.heap.size := by omega
  obtain ⟨n1,hn1⟩ : ∃ n,l.length = n := ⟨_,rfl⟩
  have HCL := lH (show ∀ u,Below w.heap.size w u → PL (Bs.of w.heap.size) l v u from fun u hu => Is.stays eO3 31 h hu)
  obtain ⟨a0,c0,rfl⟩ := h.len
  rw [hn1] at hlm ⊢
  clear h
  have HN := lH hn1
  by_cases hl : (50 : Int) < n1
  · have hd : decide ((50 : Int) < n1) = true := decide_eq_true hl
    clear hn1 hT hq
    go_enter Tryz.func3,Tryz.ntmps3
    go_wp2_with fail
    refine (awake_any w HT.out).mono ?_
    rintro e w1 ⟨rfl,hb1⟩
    go_wp2
    go_ret
    exact ⟨rfl,hb1⟩
  by_cases hl2 : (20000 : Int) < room
  · have hd : decide ((50 : Int) < n1) = false := decide_eq_false hl
    have hd2 : decide ((20000 : Int) < room) = true := decide_eq_true hl2
    clear hn1 hT hq
    go_enter Tryz.func3,Tryz.ntmps3
    go_wp2_with fail
    refine (awake_any w HT.out).mono ?_
    rintro e w1 ⟨rfl,hb1⟩
    go_wp2
    go_ret
    exact ⟨rfl,hb1⟩
  have hd : decide ((50 : Int) < n1) = false := decide_eq_false hl
  have hd2 : decide ((20000 : Int) < room) = false := decide_eq_false hl2
  have HN50 := lH (show n1 ≤ 50 by omega)
  have HFI0 := lH (fine_new room)
  clear hT hn1 hl hl2
  go_enter Tryz.func3,Tryz.ntmps3
  go_wp2_with fail
  refine (new_any q room w hq0).mono ?_
  rintro e w1 ⟨v1,rfl,hb1,hd1⟩
  obtain ⟨cs,rfl,hs,o1,_,_⟩ := dv_open hd1
  obtain ⟨Y,hY⟩ : ∃ Q_ : World,w1.alloc (.cells z6 27) = Q_ := ⟨_,rfl⟩
  have yY : Bx Y w1.heap.size z6 27 := hY ▸ Bx.new _ _ _
  have bY : Below w1.heap.size w1 Y := hY ▸ below1 _ _
  have pY := yY.plain (n := 6) rfl
  obtain ⟨X,hX⟩ : ∃ Q_ : World,Y.setRow w1.heap.size cs = Q_ := ⟨_,rfl⟩
  have xX : Bx X w1.heap.size cs 27 := hX ▸ yY.put _
  have hX2 : Below w1.heap.size w1 X := hX ▸ below_setRow bY (Nat.le_refl _) _
  have bX := nx hb1 hX2
  obtain ⟨U,hU⟩ : ∃ Q_ : World,X.alloc (.cells #[.int .i64 2,.int .i64 0,.int .i64 0] 31) = Q_ := ⟨_,rfl⟩
  have bU : Below X.heap.size X U := hU ▸ below1 _ _
  have own1 : Own eO3 31 (Bs.of w.heap.size) X.heap.size [(2,0,0)] (.slice (some ⟨X.heap.size,0,none⟩) 1 1) U := hU ▸ own_one (e := eO3) (cs := cO (2,0,0)) (Nat.le_refl _) rfl
  obtain ⟨lv,W1,hrun,hpl,hkp⟩ := app_listO own1 (HCL.out U (nx bX bU)) (by have := bX.size;omega) (by have := bU.size;omega) (by rw [HN.out];have := HN50.out;simp;omega)
  rw [HN.out] at hrun
  obtain ⟨aL,cL,rfl⟩ := hpl.len
  have hlL : ([((2 : Int),(0 : Int),(0 : Int))] ++ l).length = n1 + 1 := by simp [HN.out]
  rw [hlL] at hpl hrun
  have bXW : Below X.heap.size X W1 := hkp _ _ (Nat.le_refl _) bU
  obtain ⟨L,hL⟩ : ∃ L : List O3,[((2 : Int),(0 : Int),(0 : Int))] ++ l = L := ⟨_,rfl⟩
  rw [hL] at hpl hlL
  obtain ⟨m1,hm1⟩ : ∃ m,n1 + 1 = m := ⟨_,rfl⟩
  rw [hm1] at hpl hrun hlL
  have HLL := lH hlL
  have HM51 := lH (show m1 ≤ 51 by have := HN50.out;omega)
  obtain ⟨db,hdb⟩ : ∃ n,n = w1.heap.size := ⟨_,rfl⟩
  have hqd : q ≤ db := by have := hb1.size;omega
  have hwd : w.heap.size ≤ db := by have := hb1.size;omega
  have xW : Bx W1 db cs 27 := by rw [hdb];exact xX.stays bXW
  have dW : DV q (newP room) (.agg cs) W1 := (hd1.stays hX2).stays bXW
  have bW1 := nx bX bXW
  have H0 := lH (⟨bW1,hpl,newP room,cs,xW,dW,hs,o1,HFI0.out⟩ : Below w.heap.size w W1 ∧ PL (Bs.of w.heap.size) L (.slice aL m1 cL) W1 ∧ ∃ (d : Ds) (cs : Array Value),Bx W1 db cs 27 ∧ DV q d (.agg cs) W1 ∧ cs.size = 6 ∧ oneAll (.agg cs) = true ∧ Fine d)
  have HDB := lH hdb
  clear hL hlL hm1 hdb xW dW bW1 hpl own1 hkp bXW xX hd1 HFI0
  go_wp2
  rw [← HDB.out]
  go_loopw [6,7,8,57] (fun tv zv gv i wr => ∃ (k : Nat) (t : List Ins) (z g : Int),k ≤ m1 ∧ i = .int .i64 k ∧ zv = .int .i64 z ∧ gv = .int .i64 g ∧ TI q t tv wr ∧ (Srt t ∧ t.length ≤ 10000 + 2 * k ∧ 0 ≤ g ∧ g ≤ 4294967296 + k) ∧ Below w.heap.size w wr ∧ PL (Bs.of w.heap.size) L (.slice aL m1 cL) wr ∧ ∃ (d : Ds) (cs : Array Value),Bx wr db cs 27 ∧ DV q d (.agg cs) wr ∧ cs.size = 6 ∧ oneAll (.agg cs) = true ∧ Fine d) (fun _ _ _ i _ => m1 - (intOf i).toNat)
  case atStart =>
    refine ⟨0,[],0,0,Nat.zero_le _,rfl,rfl,rfl,Is.nil _ _ _ _,⟨List.Pairwise.nil,Nat.zero_le _,by decide,by decide⟩,H0.out⟩
  case round =>
    clear H0 hs o1
    obtain ⟨k,t,z,g,hk,rfl,rfl,rfl,hti,⟨hsr,htl,hg0,hg1⟩,hb,hpl,d,cs,hx,hdv,hs,o1,hfi⟩ := hrel
    obtain ⟨wo,rfl⟩ : ∃ wo : World,wo = wr := ⟨_,rfl⟩
    obtain ⟨a,c,rfl⟩ := hti.len
    by_cases hlt : k < m1
    case neg =>
      have hlt2 : ¬ (k : Int) < m1 := by omega
      obtain rfl : k = m1 := by omega
      go_wp2_with fail
      refine (awake_any wo (HT.out.below hb)).mono ?_
      rintro e w4 ⟨rfl,hb4⟩
      go_wp2
      go_ret
      exact ⟨rfl,nx hb hb4⟩
    have hlt2 : (k : Int) < m1 := by omega
    have hll : k < L.length := by rw [HLL.out];exact hlt
    rcases hpl.cases with ⟨e,_⟩ | ⟨_,bb,off,cc,e,hat⟩
    · rw [e] at hll;cases hll
    simp only [Value.slice.injEq] at e
    obtain ⟨rfl,-,rfl⟩ := e
    obtain ⟨y0,y1,y2⟩ := atP hat k hll
    obtain ⟨⟨x0,x1,x2⟩,hs3⟩ : ∃ s,L[k] = s := ⟨_,rfl⟩
    rw [hs3] at y0 y1 y2
    simp only at y0 y1 y2
    obtain ⟨ma,hma,ha1,ha2⟩ := small64 x1 60 (by decide) (by decide)
    obtain ⟨mb,hmb,hb1',hb2'⟩ := small64 x2 1000 (by decide) (by decide)
    replace ha1 : (IntKind.u64.wrap x1).tmod 60 = ma := ha1
    replace hb1' : (IntKind.u64.wrap x2).tmod 1000 = mb := hb1'
    have hm51 := HM51.out
    have HK := lH hk
    have HS := lH (⟨hsr,htl,hg0,hg1⟩ : Srt t ∧ t.length ≤ 10000 + 2 * k ∧ 0 ≤ g ∧ g ≤ 4294967296 + k)
    have HFI := lH hfi
    have HMA := lH (⟨hma,hmb⟩ : (0 ≤ ma ∧ ma < 60) ∧ 0 ≤ mb ∧ mb < 1000)
    have HPL := lH hpl
    have hma1 : IntKind.i64.wrap (ma + 1) = ma + 1 := IntWalk.i64_in _ (by omega)
    have HSE := lH hs
    have HLT := lH hlt
    have HBS := lH (show k ≤ 51 ∧ t.length ≤ 40000 ∧ g ≤ 1000000000000 ∧ -9223372036854775808 ≤ g by omega)
    obtain ⟨U0,hU0⟩ : ∃ Q_ : World,wo.alloc (.cells zO 31) = Q_ := ⟨_,rfl⟩
    have u0 : Bx U0 wo.heap.size zO 31 := hU0 ▸ Bx.new _ _ _
    have bU0 : Below wo.heap.size wo U0 := hU0 ▸ below1 _ _
    have pU0 := u0.plain (n := 3) rfl
    clear hs3 hll hat hma hmb hsr htl hg0 hg1 hfi hpl hk hm51 hlt
    by_cases hK0 : x0 = 0
    · as_aux_lemma =>
        subst hK0
        obtain ⟨im,him⟩ : ∃ im,oneP ma mb = im := ⟨_,rfl⟩
        obtain ⟨im2,him2⟩ : ∃ im,oneP (ma + 1) mb = im := ⟨_,rfl⟩
        have hmm := HMA.out
        have honeA : ∀ u,Calls Tryz.prog 10 #[.int .i64 ma,.int .i64 mb] u fun e w' => e = .returned (.agg (ci im)) ∧ Below u.heap.size u w' := fun u => by
          have h := one_any ma mb (by omega) (by omega) u
          rwa [him] at h
        have honeB : ∀ u,Calls Tryz.prog 10 #[.int .i64 (ma + 1),.int .i64 mb] u fun e w' => e = .returned (.agg (ci im2)) ∧ Below u.heap.size u w' := fun u => by
          have h := one_any (ma + 1) mb (by omega) (by omega) u
          rwa [him2] at h
        obtain ⟨ra,hra⟩ : ∃ x,addP d t z g 3 [im] = x := ⟨_,rfl⟩
        have hfr := HFI.out.add t z g 3 [im]
        have htr := add_tab (d := d) (t := t) (z := z) (g := g) (n := 3) (l := [im]) HS.out.1
        rw [hra] at hfr htr
        have HA := lH hra
        have HFR := lH hfr
        have HTR := lH (show Srt ra.t ∧ ra.t.length ≤ t.length + 2 ∧ (ra.g = g ∨ ra.g = g + 1) from ⟨htr.1,by have := htr.2.1;simp at this;omega,htr.2.2⟩)
        have HLR := lH (show ra.t.length ≤ 1000000 by have := HTR.out.2.1;have := HBS.out;omega)
        have SMR := lH (sameL_refl ra.t)
        clear hra hfr htr him him2 hmm
        obtain ⟨U1,hU1⟩ : ∃ Q_ : World,U0.setRow wo.heap.size #[.int .i64 0,.int .i64 x1,.int .i64 x2] = Q_ := ⟨_,rfl⟩
        have u1 : Bx U1 wo.heap.size #[.int .i64 0,.int .i64 x1,.int .i64 x2] 31 := hU1 ▸ u0.put _
        have bU1 : Below wo.heap.size wo U1 := hU1 ▸ below_setRow bU0 (Nat.le_refl _) _
        have s0 : U1.cell? ⟨wo.heap.size,0,none⟩ = some (.int .i64 0) := by rw [u1.cell];rfl
        have s1 : U1.cell? ⟨wo.heap.size,1,none⟩ = some (.int .i64 x1) := by rw [u1.cell];rfl
        have s2 : U1.cell? ⟨wo.heap.size,2,none⟩ = some (.int .i64 x2) := by rw [u1.cell];rfl
        have hxU := hx.stays bU1
        have bwU := nx hb bU1
        have hdU := hdv.stays bU1
        have htU := hti.stays bU1
        have hplU : PL (Bs.of w.heap.size) L (.slice (some ⟨bb,off,none⟩) m1 cL) U1 := Is.stays eO3 31 HPL.out bU1
        have rU := hxU.row
        have pU := hxU.plain (n := 6) HSE.out
        have hqU : q ≤ U1.heap.size := by have := bwU.size;omega
        have hF15 : ∀ u,Below U1.heap.size U1 u → u.cell? ⟨wo.heap.size,0,none⟩ = some (.int .i64 0) := fun u hu => by rw [(u1.stays hu).cell];rfl
        go_wp2
        refine Rf.rg [0,1,2,3,4,5,6,8,9,10,7,11,12] ?_
        repeat (first | (refine Rf.Steps.sk ?_;simp only [Act.put,sA,sB,sC]) | (refine Rf.Steps.pu (v := ?_) ?_ ?_;rotate_left;(intro w_ hS_;have hk_ := hF15 w_ hS_;go_simp <;> with_reducible rfl);simp only [Act.put,sA,sB,sC]) | (refine Rf.Steps.ca (v := ?_) (f := ?_) (args := ?_) ?_ ?_ ?_;rotate_left 3;(intro w_ hS_;have hk_ := hF15 w_ hS_;go_simp <;> first | with_reducible rfl | (constructor <;> with_reducible rfl));(intro w_ hS_;have hk_ := hF15 w_ hS_;first | (go_at_call 10;(first | with_reducible refine (honeA _).mono ?_ | with_reducible refine (honeB _).mono ?_);first | (rintro e w_ ⟨rfl,rfl⟩;refine ⟨?_,Below.refl _ _⟩;with_reducible rfl) | (rintro e w_ ⟨rfl,hb_⟩;refine ⟨?_,hb_⟩;with_reducible rfl)));simp only [Act.put,sA,sB,sC]))
        have hw1 : IntKind.i64.wrap (1 : Int) = 1 := by decide
        have hw2 : IntKind.i64.wrap (2 : Int) = 2 := by decide
        refine Rf.Steps.forced (i := 7) (by kernel_rfl) ?_
        refine Rf.One.val (fun v u => ∃ b,v = .slice (some ⟨b,0,none⟩) 2 2 ∧ TI q [im,im2] v u) (fun v _ _ h k => by obtain ⟨b,h1,h2⟩ := h;exact ⟨b,h1,h2.stays k⟩) (by rfl) (by rfl) ?_ ?_
        · intro w_ hS_
          refine ⟨_,_,?_,below1 _ _,w_.heap.size,rfl,TI.two im im2 (by have := hS_.size;omega)⟩
          go_simp
        intro vs us hvs
        simp only [Act.put,sA,sB,sC]
        obtain ⟨bs,rfl,_⟩ := hvs
        repeat (first | (refine Rf.Steps.sk ?_;simp only [Act.put,sA,sB,sC]) | (refine Rf.Steps.pu (v := ?_) ?_ ?_;rotate_left;(intro w_ hS_;skip;go_simp <;> with_reducible rfl);simp only [Act.put,sA,sB,sC]))
        refine Rf.Steps.nil (by kernel_rfl) ?_
        intro w9 hS9
        have b9 : Below U1.heap.size U1 w9 := hS9.1
        have tl9 : TI q [im] (.slice (some ⟨bs,0,none⟩) 1 2) w9 := by obtain ⟨b_,e_,h_⟩ := hS9.2;exact h_.first
        clear hS9
        have bw9 := nx bwU b9
        have hx9 := hxU.stays b9
        have r9 := hx9.row
        have hd9 := hdU.stays b9
        have ht9 := htU.stays b9
        have hpl9 := Is.stays eO3 31 hplU b9
        clear rU s0 s1 s2 pU
        go_wp2_with fail
        refine (append_is HA (.agg cs) (.slice a t.length c) _ w9 hd9 ht9 tl9 (by have := bw9.size;omega) HFI.out.ok (HT.out.below bw9) HBS.out.2.2.1 HBS.out.2.2.2 HBS.out.2.1 (by simp) HS.out.1).mono ?_
        rintro e w10 ⟨v10,tv10,rfl,hb10,hd10,ht10⟩
        obtain ⟨c10,rfl,hs10,o10,_,_⟩ := dv_open hd10
        obtain ⟨a10,k10,rfl⟩ := ht10.len
        obtain ⟨U11,hU11⟩ : ∃ Q_ : World,w10.alloc (.cells z6 27) = Q_ := ⟨_,rfl⟩
        have u11 : Bx U11 w10.heap.size z6 27 := hU11 ▸ Bx.new _ _ _
        have bU11 : Below w10.heap.size w10 U11 := hU11 ▸ below1 _ _
        have pU11 := u11.plain (n := 6) rfl
        obtain ⟨U12,hU12⟩ : ∃ Q_ : World,U11.setRow w10.heap.size c10 = Q_ := ⟨_,rfl⟩
        have u12 : Bx U12 w10.heap.size c10 27 := hU12 ▸ u11.put _
        have bU12 : Below w10.heap.size w10 U12 := hU12 ▸ below_setRow bU11 (Nat.le_refl _) _
        have b12 := nx hb10 bU12
        have bw12 := nx (bw9) b12
        have hx12 := (hx9).stays b12
        have r12 := hx12.row
        clear r9
        go_wp2_with fail
        refine (rappend_is HA (.agg cs) (.slice a t.length c) _ U12 (hd9.stays b12) (ht9.stays b12) (tl9.stays b12) (by have := bw12.size;omega) HFI.out.ok HBS.out.2.2.1 HBS.out.2.2.2 HBS.out.2.1 (by simp) HS.out.1).mono ?_
        rintro e w13 ⟨v13,tv13,rfl,hb13,hd13,ht13⟩
        obtain ⟨c13,rfl,hs13,o13,_,_⟩ := dv_open hd13
        obtain ⟨a13,k13,rfl⟩ := ht13.len
        obtain ⟨U14,hU14⟩ : ∃ Q_ : World,w13.alloc (.cells z6 27) = Q_ := ⟨_,rfl⟩
        have u14 : Bx U14 w13.heap.size z6 27 := hU14 ▸ Bx.new _ _ _
        have bU14 : Below w13.heap.size w13 U14 := hU14 ▸ below1 _ _
        have pU14 := u14.plain (n := 6) rfl
        obtain ⟨U15,hU15⟩ : ∃ Q_ : World,U14.setRow w13.heap.size c13 = Q_ := ⟨_,rfl⟩
        have u15 : Bx U15 w13.heap.size c13 27 := hU15 ▸ u14.put _
        have bU15 : Below w13.heap.size w13 U15 := hU15 ▸ below_setRow bU14 (Nat.le_refl _) _
        have b15 := nx hb13 bU15
        have v15 := u12.stays b15
        have r15a := v15.row
        have r15b := u15.row
        have D15 := (hd10.stays bU12).stays b15
        have T15 := (ht10.stays bU12).stays b15
        have D15' := hd13.stays bU15
        have T15' := ht13.stays bU15
        clear r12 pU11 u11 u14 hd10 ht10 hd13 ht13
        go_wp2_with fail
        refine (disks_yes ra.d _ _ U15 D15 D15' (by have := HFR.out.ok.len;omega)).mono ?_
        rintro e w16 ⟨rfl,hb16⟩
        clear r15a r15b pU14
        go_wp2_with fail
        refine (same_is SMR _ _ w16 (T15.stays hb16) (T15'.stays hb16) HLR.out HLR.out).mono ?_
        rintro e w17 ⟨rfl,hb17⟩
        have b17 := nx b15 (nx hb16 hb17)
        have bw17 := nx bw12 b17
        have hx17 := hx12.stays b17
        have p17 := hx17.plain (n := 6) HSE.out
        have r17 := (v15.stays (nx hb16 hb17)).row
        have D17 := D15.stays (nx hb16 hb17)
        have T17 := T15.stays (nx hb16 hb17)
        obtain ⟨WT,hWT⟩ : ∃ Q_ : World,w17.setRow db c10 = Q_ := ⟨_,rfl⟩
        have xWT : Bx WT db c10 27 := hWT ▸ (hx17).put _
        have bWT : Below w.heap.size w WT := hWT ▸ below_setRow (bw17) hwd _
        have pl17 := Is.stays eO3 31 (Is.stays eO3 31 hpl9 b12) b17
        have plT : PL (Bs.of w.heap.size) L (.slice (some ⟨bb,off,none⟩) m1 cL) WT := hWT ▸ pl_row _ pl17 hx17 (by decide) hwd rfl
        have dT : DV q ra.d (.agg c10) WT := hWT ▸ dv_row _ D17 hx17 (by decide) hqd
        have tT : TI q ra.t (.slice a10 ra.t.length k10) WT := hWT ▸ ti_row _ T17 hx17 (by decide) hqd
        have FT := lH (HFR.out)
        have BND := lH (show Srt ra.t ∧ (ra.t).length ≤ 10000 + 2 * (k + 1) ∧ 0 ≤ ra.g ∧ ra.g ≤ 4294967296 + (k + 1 : Nat) from ⟨HTR.out.1,by have := HTR.out.2.1;have := HS.out.2.1;omega,by have := HTR.out.2.2;have := HS.out;omega,by have := HTR.out.2.2;have := HS.out;omega⟩)
        obtain ⟨pp,hpp⟩ : ∃ p,tabP ra.d 3 = p := ⟨_,rfl⟩
        have htb := FT.out.tab 3
        rw [hpp] at htb
        have HPP := lH hpp
        have HPN := lH (show pp.1.t.length ≤ 1000000 ∧ pp.1.t.length ≤ 50000 by have := htb.len;omega)
        have SMP := lH (sameL_refl pp.1.t)
        clear htb hpp
        have rT := (xWT).row
        go_wp2_with fail
        refine (table_is HPP (.agg c10) WT (dT) (by have := (bWT).size;omega) (FT.out.ok.mono (by decide) (by decide)) (HT.out.below (bWT))).mono ?_
        rintro e w20 ⟨v20,rfl,hb20,ht20⟩
        have rT2 := ((xWT).stays hb20).row
        have bw20 := nx (bWT) hb20
        clear rT
        go_wp2_with fail
        refine (rtable_is HPP (.agg c10) w20 ((dT).stays hb20) (by have := bw20.size;omega) (FT.out.ok.mono (by decide) (by decide)) (HT.out.below bw20)).mono ?_
        rintro e w21 ⟨v21,rfl,hb21,ht21⟩
        have ht20' := ht20.stays hb21
        clear rT2
        go_wp2_with fail
        refine (same_is SMP _ _ w21 ht20' ht21 HPN.out.1 HPN.out.1).mono ?_
        rintro e w22 ⟨rfl,hb22⟩
        have bw22 := nx (nx bw20 hb21) hb22
        go_wp2_with fail
        refine (size_any q pp.1.t v20 3 w22 (ht20'.stays hb22) (by have := bw22.size;omega) HPN.out.2 (HT.out.below bw22)).mono ?_
        rintro e w23 ⟨rfl,hb23⟩
        have bw23 := nx bw22 hb23
        go_wp2_with fail
        refine (rsize_any q pp.1.t v21 3 w23 ((ht21.stays hb22).stays hb23) (by have := bw23.size;omega) HPN.out.2).mono ?_
        rintro e w24 ⟨rfl,hb24⟩
        have bT24 := nx (nx (nx (nx hb20 hb21) hb22) hb23) hb24
        have HEND := lH (⟨(tT).stays bT24,BND.out,nx (bWT) bT24,Is.stays eO3 31 (plT) bT24,_,c10,(xWT).stays bT24,(dT).stays bT24,hs10,o10,FT.out⟩ : TI q ra.t (.slice a10 ra.t.length k10) w24 ∧ (Srt ra.t ∧ (ra.t).length ≤ 10000 + 2 * (k + 1) ∧ 0 ≤ ra.g ∧ ra.g ≤ 4294967296 + (k + 1 : Nat)) ∧ Below w.heap.size w w24 ∧ PL (Bs.of w.heap.size) L (.slice (some ⟨bb,off,none⟩) m1 cL) w24 ∧ ∃ (d : Ds) (cs : Array Value),Bx w24 db cs 27 ∧ DV q d (.agg cs) w24 ∧ cs.size = 6 ∧ oneAll (.agg cs) = true ∧ Fine d)
        have hlt9 := HLT.out
        have hm9 := HM51.out
        go_wp2
        go_roundw
        case rel => first | exact ⟨k + 1,ra.t,ra.z,ra.g,by omega,by go_num,rfl,rfl,HEND.out⟩ | ((repeat apply Exists.intro);exact ⟨⟨k + 1,ra.t,ra.z,ra.g,by omega,by go_num,rfl,rfl,HEND.out⟩,rfl⟩)
        case measure => simp [intOf];omega
    by_cases hK1 : x0 = 1
    · as_aux_lemma =>
        subst hK1
        obtain ⟨im,him⟩ : ∃ im,oneP ma mb = im := ⟨_,rfl⟩
        obtain ⟨im2,him2⟩ : ∃ im,oneP (ma + 1) mb = im := ⟨_,rfl⟩
        have hmm := HMA.out
        have honeA : ∀ u,Calls Tryz.prog 10 #[.int .i64 ma,.int .i64 mb] u fun e w' => e = .returned (.agg (ci im)) ∧ Below u.heap.size u w' := fun u => by
          have h := one_any ma mb (by omega) (by omega) u
          rwa [him] at h
        have honeB : ∀ u,Calls Tryz.prog 10 #[.int .i64 (ma + 1),.int .i64 mb] u fun e w' => e = .returned (.agg (ci im2)) ∧ Below u.heap.size u w' := fun u => by
          have h := one_any (ma + 1) mb (by omega) (by omega) u
          rwa [him2] at h
        obtain ⟨ra,hra⟩ : ∃ x,addP d t z g 3 [im,im2] = x := ⟨_,rfl⟩
        have hfr := HFI.out.add t z g 3 [im,im2]
        have htr := add_tab (d := d) (t := t) (z := z) (g := g) (n := 3) (l := [im,im2]) HS.out.1
        rw [hra] at hfr htr
        have HA := lH hra
        have HFR := lH hfr
        have HTR := lH (show Srt ra.t ∧ ra.t.length ≤ t.length + 2 ∧ (ra.g = g ∨ ra.g = g + 1) from ⟨htr.1,by have := htr.2.1;simp at this;omega,htr.2.2⟩)
        have HLR := lH (show ra.t.length ≤ 1000000 by have := HTR.out.2.1;have := HBS.out;omega)
        have SMR := lH (sameL_refl ra.t)
        clear hra hfr htr him him2 hmm
        obtain ⟨U1,hU1⟩ : ∃ Q_ : World,U0.setRow wo.heap.size #[.int .i64 1,.int .i64 x1,.int .i64 x2] = Q_ := ⟨_,rfl⟩
        have u1 : Bx U1 wo.heap.size #[.int .i64 1,.int .i64 x1,.int .i64 x2] 31 := hU1 ▸ u0.put _
        have bU1 : Below wo.heap.size wo U1 := hU1 ▸ below_setRow bU0 (Nat.le_refl _) _
        have s0 : U1.cell? ⟨wo.heap.size,0,none⟩ = some (.int .i64 1) := by rw [u1.cell];rfl
        have s1 : U1.cell? ⟨wo.heap.size,1,none⟩ = some (.int .i64 x1) := by rw [u1.cell];rfl
        have s2 : U1.cell? ⟨wo.heap.size,2,none⟩ = some (.int .i64 x2) := by rw [u1.cell];rfl
        have hxU := hx.stays bU1
        have bwU := nx hb bU1
        have hdU := hdv.stays bU1
        have htU := hti.stays bU1
        have hplU : PL (Bs.of w.heap.size) L (.slice (some ⟨bb,off,none⟩) m1 cL) U1 := Is.stays eO3 31 HPL.out bU1
        have rU := hxU.row
        have pU := hxU.plain (n := 6) HSE.out
        have hqU : q ≤ U1.heap.size := by have := bwU.size;omega
        have hF15 : ∀ u,Below U1.heap.size U1 u → u.cell? ⟨wo.heap.size,0,none⟩ = some (.int .i64 1) := fun u hu => by rw [(u1.stays hu).cell];rfl
        go_wp2
        refine Rf.rg [0,1,2,3,4,5,6,8,9,10,7,11,12] ?_
        repeat (first | (refine Rf.Steps.sk ?_;simp only [Act.put,sA,sB,sC]) | (refine Rf.Steps.pu (v := ?_) ?_ ?_;rotate_left;(intro w_ hS_;have hk_ := hF15 w_ hS_;go_simp <;> with_reducible rfl);simp only [Act.put,sA,sB,sC]) | (refine Rf.Steps.ca (v := ?_) (f := ?_) (args := ?_) ?_ ?_ ?_;rotate_left 3;(intro w_ hS_;have hk_ := hF15 w_ hS_;go_simp <;> first | with_reducible rfl | (constructor <;> with_reducible rfl));(intro w_ hS_;have hk_ := hF15 w_ hS_;first | (go_at_call 10;(first | with_reducible refine (honeA _).mono ?_ | with_reducible refine (honeB _).mono ?_);first | (rintro e w_ ⟨rfl,rfl⟩;refine ⟨?_,Below.refl _ _⟩;with_reducible rfl) | (rintro e w_ ⟨rfl,hb_⟩;refine ⟨?_,hb_⟩;with_reducible rfl)));simp only [Act.put,sA,sB,sC]))
        have hw1 : IntKind.i64.wrap (1 : Int) = 1 := by decide
        have hw2 : IntKind.i64.wrap (2 : Int) = 2 := by decide
        refine Rf.Steps.forced (i := 7) (by kernel_rfl) ?_
        refine Rf.One.val (fun v u => ∃ b,v = .slice (some ⟨b,0,none⟩) 2 2 ∧ TI q [im,im2] v u) (fun v _ _ h k => by obtain ⟨b,h1,h2⟩ := h;exact ⟨b,h1,h2.stays k⟩) (by rfl) (by rfl) ?_ ?_
        · intro w_ hS_
          refine ⟨_,_,?_,below1 _ _,w_.heap.size,rfl,TI.two im im2 (by have := hS_.size;omega)⟩
          go_simp
        intro vs us hvs
        simp only [Act.put,sA,sB,sC]
        obtain ⟨bs,rfl,_⟩ := hvs
        repeat (first | (refine Rf.Steps.sk ?_;simp only [Act.put,sA,sB,sC]) | (refine Rf.Steps.pu (v := ?_) ?_ ?_;rotate_left;(intro w_ hS_;skip;go_simp <;> with_reducible rfl);simp only [Act.put,sA,sB,sC]))
        refine Rf.Steps.nil (by kernel_rfl) ?_
        intro w9 hS9
        have b9 : Below U1.heap.size U1 w9 := hS9.1
        have tl9 : TI q [im,im2] (.slice (some ⟨bs,0,none⟩) 2 2) w9 := by obtain ⟨b_,e_,h_⟩ := hS9.2;exact h_
        clear hS9
        have bw9 := nx bwU b9
        have hx9 := hxU.stays b9
        have r9 := hx9.row
        have hd9 := hdU.stays b9
        have ht9 := htU.stays b9
        have hpl9 := Is.stays eO3 31 hplU b9
        clear rU s0 s1 s2 pU
        go_wp2_with fail
        refine (append_is HA (.agg cs) (.slice a t.length c) _ w9 hd9 ht9 tl9 (by have := bw9.size;omega) HFI.out.ok (HT.out.below bw9) HBS.out.2.2.1 HBS.out.2.2.2 HBS.out.2.1 (by simp) HS.out.1).mono ?_
        rintro e w10 ⟨v10,tv10,rfl,hb10,hd10,ht10⟩
        obtain ⟨c10,rfl,hs10,o10,_,_⟩ := dv_open hd10
        obtain ⟨a10,k10,rfl⟩ := ht10.len
        obtain ⟨U11,hU11⟩ : ∃ Q_ : World,w10.alloc (.cells z6 27) = Q_ := ⟨_,rfl⟩
        have u11 : Bx U11 w10.heap.size z6 27 := hU11 ▸ Bx.new _ _ _
        have bU11 : Below w10.heap.size w10 U11 := hU11 ▸ below1 _ _
        have pU11 := u11.plain (n := 6) rfl
        obtain ⟨U12,hU12⟩ : ∃ Q_ : World,U11.setRow w10.heap.size c10 = Q_ := ⟨_,rfl⟩
        have u12 : Bx U12 w10.heap.size c10 27 := hU12 ▸ u11.put _
        have bU12 : Below w10.heap.size w10 U12 := hU12 ▸ below_setRow bU11 (Nat.le_refl _) _
        have b12 := nx hb10 bU12
        have bw12 := nx (bw9) b12
        have hx12 := (hx9).stays b12
        have r12 := hx12.row
        clear r9
        go_wp2_with fail
        refine (rappend_is HA (.agg cs) (.slice a t.length c) _ U12 (hd9.stays b12) (ht9.stays b12) (tl9.stays b12) (by have := bw12.size;omega) HFI.out.ok HBS.out.2.2.1 HBS.out.2.2.2 HBS.out.2.1 (by simp) HS.out.1).mono ?_
        rintro e w13 ⟨v13,tv13,rfl,hb13,hd13,ht13⟩
        obtain ⟨c13,rfl,hs13,o13,_,_⟩ := dv_open hd13
        obtain ⟨a13,k13,rfl⟩ := ht13.len
        obtain ⟨U14,hU14⟩ : ∃ Q_ : World,w13.alloc (.cells z6 27) = Q_ := ⟨_,rfl⟩
        have u14 : Bx U14 w13.heap.size z6 27 := hU14 ▸ Bx.new _ _ _
        have bU14 : Below w13.heap.size w13 U14 := hU14 ▸ below1 _ _
        have pU14 := u14.plain (n := 6) rfl
        obtain ⟨U15,hU15⟩ : ∃ Q_ : World,U14.setRow w13.heap.size c13 = Q_ := ⟨_,rfl⟩
        have u15 : Bx U15 w13.heap.size c13 27 := hU15 ▸ u14.put _
        have bU15 : Below w13.heap.size w13 U15 := hU15 ▸ below_setRow bU14 (Nat.le_refl _) _
        have b15 := nx hb13 bU15
        have v15 := u12.stays b15
        have r15a := v15.row
        have r15b := u15.row
        have D15 := (hd10.stays bU12).stays b15
        have T15 := (ht10.stays bU12).stays b15
        have D15' := hd13.stays bU15
        have T15' := ht13.stays bU15
        clear r12 pU11 u11 u14 hd10 ht10 hd13 ht13
        go_wp2_with fail
        refine (disks_yes ra.d _ _ U15 D15 D15' (by have := HFR.out.ok.len;omega)).mono ?_
        rintro e w16 ⟨rfl,hb16⟩
        clear r15a r15b pU14
        go_wp2_with fail
        refine (same_is SMR _ _ w16 (T15.stays hb16) (T15'.stays hb16) HLR.out HLR.out).mono ?_
        rintro e w17 ⟨rfl,hb17⟩
        have b17 := nx b15 (nx hb16 hb17)
        have bw17 := nx bw12 b17
        have hx17 := hx12.stays b17
        have p17 := hx17.plain (n := 6) HSE.out
        have r17 := (v15.stays (nx hb16 hb17)).row
        have D17 := D15.stays (nx hb16 hb17)
        have T17 := T15.stays (nx hb16 hb17)
        obtain ⟨WT,hWT⟩ : ∃ Q_ : World,w17.setRow db c10 = Q_ := ⟨_,rfl⟩
        have xWT : Bx WT db c10 27 := hWT ▸ (hx17).put _
        have bWT : Below w.heap.size w WT := hWT ▸ below_setRow (bw17) hwd _
        have pl17 := Is.stays eO3 31 (Is.stays eO3 31 hpl9 b12) b17
        have plT : PL (Bs.of w.heap.size) L (.slice (some ⟨bb,off,none⟩) m1 cL) WT := hWT ▸ pl_row _ pl17 hx17 (by decide) hwd rfl
        have dT : DV q ra.d (.agg c10) WT := hWT ▸ dv_row _ D17 hx17 (by decide) hqd
        have tT : TI q ra.t (.slice a10 ra.t.length k10) WT := hWT ▸ ti_row _ T17 hx17 (by decide) hqd
        have FT := lH (HFR.out)
        have BND := lH (show Srt ra.t ∧ (ra.t).length ≤ 10000 + 2 * (k + 1) ∧ 0 ≤ ra.g ∧ ra.g ≤ 4294967296 + (k + 1 : Nat) from ⟨HTR.out.1,by have := HTR.out.2.1;have := HS.out.2.1;omega,by have := HTR.out.2.2;have := HS.out;omega,by have := HTR.out.2.2;have := HS.out;omega⟩)
        obtain ⟨pp,hpp⟩ : ∃ p,tabP ra.d 3 = p := ⟨_,rfl⟩
        have htb := FT.out.tab 3
        rw [hpp] at htb
        have HPP := lH hpp
        have HPN := lH (show pp.1.t.length ≤ 1000000 ∧ pp.1.t.length ≤ 50000 by have := htb.len;omega)
        have SMP := lH (sameL_refl pp.1.t)
        clear htb hpp
        have rT := (xWT).row
        go_wp2_with fail
        refine (table_is HPP (.agg c10) WT (dT) (by have := (bWT).size;omega) (FT.out.ok.mono (by decide) (by decide)) (HT.out.below (bWT))).mono ?_
        rintro e w20 ⟨v20,rfl,hb20,ht20⟩
        have rT2 := ((xWT).stays hb20).row
        have bw20 := nx (bWT) hb20
        clear rT
        go_wp2_with fail
        refine (rtable_is HPP (.agg c10) w20 ((dT).stays hb20) (by have := bw20.size;omega) (FT.out.ok.mono (by decide) (by decide)) (HT.out.below bw20)).mono ?_
        rintro e w21 ⟨v21,rfl,hb21,ht21⟩
        have ht20' := ht20.stays hb21
        clear rT2
        go_wp2_with fail
        refine (same_is SMP _ _ w21 ht20' ht21 HPN.out.1 HPN.out.1).mono ?_
        rintro e w22 ⟨rfl,hb22⟩
        have bw22 := nx (nx bw20 hb21) hb22
        go_wp2_with fail
        refine (size_any q pp.1.t v20 3 w22 (ht20'.stays hb22) (by have := bw22.size;omega) HPN.out.2 (HT.out.below bw22)).mono ?_
        rintro e w23 ⟨rfl,hb23⟩
        have bw23 := nx bw22 hb23
        go_wp2_with fail
        refine (rsize_any q pp.1.t v21 3 w23 ((ht21.stays hb22).stays hb23) (by have := bw23.size;omega) HPN.out.2).mono ?_
        rintro e w24 ⟨rfl,hb24⟩
        have bT24 := nx (nx (nx (nx hb20 hb21) hb22) hb23) hb24
        have HEND := lH (⟨(tT).stays bT24,BND.out,nx (bWT) bT24,Is.stays eO3 31 (plT) bT24,_,c10,(xWT).stays bT24,(dT).stays bT24,hs10,o10,FT.out⟩ : TI q ra.t (.slice a10 ra.t.length k10) w24 ∧ (Srt ra.t ∧ (ra.t).length ≤ 10000 + 2 * (k + 1) ∧ 0 ≤ ra.g ∧ ra.g ≤ 4294967296 + (k + 1 : Nat)) ∧ Below w.heap.size w w24 ∧ PL (Bs.of w.heap.size) L (.slice (some ⟨bb,off,none⟩) m1 cL) w24 ∧ ∃ (d : Ds) (cs : Array Value),Bx w24 db cs 27 ∧ DV q d (.agg cs) w24 ∧ cs.size = 6 ∧ oneAll (.agg cs) = true ∧ Fine d)
        have hlt9 := HLT.out
        have hm9 := HM51.out
        go_wp2
        go_roundw
        case rel => first | exact ⟨k + 1,ra.t,ra.z,ra.g,by omega,by go_num,rfl,rfl,HEND.out⟩ | ((repeat apply Exists.intro);exact ⟨⟨k + 1,ra.t,ra.z,ra.g,by omega,by go_num,rfl,rfl,HEND.out⟩,rfl⟩)
        case measure => simp [intOf];omega
    by_cases hK2 : x0 = 2
    · as_aux_lemma =>
        subst hK2
        obtain ⟨dd,hdd⟩ : ∃ x,d = x := ⟨_,rfl⟩
        have hfd : Fine dd := by rw [← hdd];exact HFI.out
        have hopn := hfd.opn 3
        obtain ⟨ra,hra⟩ : ∃ x,opnP dd 3 = x := ⟨_,rfl⟩
        rw [hra] at hopn
        have HA := lH hra
        have HFD := lH hfd
        have HFR := lH hopn.1
        have HT9 := lH hopn.2
        have HDD := lH hdd
        have HLR := lH (show ra.t.length ≤ 1000000 by have := hopn.2.len;omega)
        have SMR := lH (sameL_refl ra.t)
        clear hra hfd hopn hdd
        obtain ⟨U1,hU1⟩ : ∃ Q_ : World,U0.setRow wo.heap.size #[.int .i64 2,.int .i64 x1,.int .i64 x2] = Q_ := ⟨_,rfl⟩
        have u1 : Bx U1 wo.heap.size #[.int .i64 2,.int .i64 x1,.int .i64 x2] 31 := hU1 ▸ u0.put _
        have bU1 : Below wo.heap.size wo U1 := hU1 ▸ below_setRow bU0 (Nat.le_refl _) _
        have s0 : U1.cell? ⟨wo.heap.size,0,none⟩ = some (.int .i64 2) := by rw [u1.cell];rfl
        have s1 : U1.cell? ⟨wo.heap.size,1,none⟩ = some (.int .i64 x1) := by rw [u1.cell];rfl
        have s2 : U1.cell? ⟨wo.heap.size,2,none⟩ = some (.int .i64 x2) := by rw [u1.cell];rfl
        have hxU := hx.stays bU1
        have bwU := nx hb bU1
        have hdU := hdv.stays bU1
        have htU := hti.stays bU1
        have hplU : PL (Bs.of w.heap.size) L (.slice (some ⟨bb,off,none⟩) m1 cL) U1 := Is.stays eO3 31 HPL.out bU1
        have rU := hxU.row
        have pU := hxU.plain (n := 6) HSE.out
        have hqU : q ≤ U1.heap.size := by have := bwU.size;omega
        have hdw : DV q dd (.agg cs) U1 := HDD.out ▸ hdU
        go_wp2_with fail
        refine (open_is HA (.agg cs) U1 hdw (by have := (bwU).size;omega) HFD.out.ok (HT.out.below bwU)).mono ?_
        rintro e w10 ⟨v10,tv10,rfl,hb10,hd10,ht10⟩
        obtain ⟨c10,rfl,hs10,o10,_,_⟩ := dv_open hd10
        obtain ⟨a10,k10,rfl⟩ := ht10.len
        obtain ⟨U11,hU11⟩ : ∃ Q_ : World,w10.alloc (.cells z6 27) = Q_ := ⟨_,rfl⟩
        have u11 : Bx U11 w10.heap.size z6 27 := hU11 ▸ Bx.new _ _ _
        have bU11 : Below w10.heap.size w10 U11 := hU11 ▸ below1 _ _
        have pU11 := u11.plain (n := 6) rfl
        obtain ⟨U12,hU12⟩ : ∃ Q_ : World,U11.setRow w10.heap.size c10 = Q_ := ⟨_,rfl⟩
        have u12 : Bx U12 w10.heap.size c10 27 := hU12 ▸ u11.put _
        have bU12 : Below w10.heap.size w10 U12 := hU12 ▸ below_setRow bU11 (Nat.le_refl _) _
        have b12 := nx hb10 bU12
        have bw12 := nx (bwU) b12
        have hx12 := (hxU).stays b12
        have r12 := hx12.row
        clear rU
        go_wp2_with fail
        refine (ropen_is HA (.agg cs) U12 (hdw.stays b12) (by have := bw12.size;omega) HFD.out.ok (HT.out.below bw12)).mono ?_
        rintro e w13 ⟨v13,tv13,rfl,hb13,hd13,ht13⟩
        obtain ⟨c13,rfl,hs13,o13,_,_⟩ := dv_open hd13
        obtain ⟨a13,k13,rfl⟩ := ht13.len
        obtain ⟨U14,hU14⟩ : ∃ Q_ : World,w13.alloc (.cells z6 27) = Q_ := ⟨_,rfl⟩
        have u14 : Bx U14 w13.heap.size z6 27 := hU14 ▸ Bx.new _ _ _
        have bU14 : Below w13.heap.size w13 U14 := hU14 ▸ below1 _ _
        have pU14 := u14.plain (n := 6) rfl
        obtain ⟨U15,hU15⟩ : ∃ Q_ : World,U14.setRow w13.heap.size c13 = Q_ := ⟨_,rfl⟩
        have u15 : Bx U15 w13.heap.size c13 27 := hU15 ▸ u14.put _
        have bU15 : Below w13.heap.size w13 U15 := hU15 ▸ below_setRow bU14 (Nat.le_refl _) _
        have b15 := nx hb13 bU15
        have v15 := u12.stays b15
        have r15a := v15.row
        have r15b := u15.row
        have D15 := (hd10.stays bU12).stays b15
        have T15 := (ht10.stays bU12).stays b15
        have D15' := hd13.stays bU15
        have T15' := ht13.stays bU15
        clear r12 pU11 u11 u14 hd10 ht10 hd13 ht13
        go_wp2_with fail
        refine (disks_yes ra.d _ _ U15 D15 D15' (by have := HFR.out.ok.len;omega)).mono ?_
        rintro e w16 ⟨rfl,hb16⟩
        clear r15a r15b pU14
        go_wp2_with fail
        refine (same_is SMR _ _ w16 (T15.stays hb16) (T15'.stays hb16) HLR.out HLR.out).mono ?_
        rintro e w17 ⟨rfl,hb17⟩
        have b17 := nx b15 (nx hb16 hb17)
        have bw17 := nx bw12 b17
        have hx17 := hx12.stays b17
        have p17 := hx17.plain (n := 6) HSE.out
        have r17 := (v15.stays (nx hb16 hb17)).row
        have D17 := D15.stays (nx hb16 hb17)
        have T17 := T15.stays (nx hb16 hb17)
        obtain ⟨WT,hWT⟩ : ∃ Q_ : World,w17.setRow db c10 = Q_ := ⟨_,rfl⟩
        have xWT : Bx WT db c10 27 := hWT ▸ (hx17).put _
        have bWT : Below w.heap.size w WT := hWT ▸ below_setRow (bw17) hwd _
        have pl17 := Is.stays eO3 31 (Is.stays eO3 31 hplU b12) b17
        have plT : PL (Bs.of w.heap.size) L (.slice (some ⟨bb,off,none⟩) m1 cL) WT := hWT ▸ pl_row _ pl17 hx17 (by decide) hwd rfl
        have dT : DV q ra.d (.agg c10) WT := hWT ▸ dv_row _ D17 hx17 (by decide) hqd
        have tT : TI q ra.t (.slice a10 ra.t.length k10) WT := hWT ▸ ti_row _ T17 hx17 (by decide) hqd
        have tO : TI q t (.slice a t.length c) WT := hWT ▸ ti_row _ ((htU.stays b12).stays b17) hx17 (by decide) hqd
        by_cases he : ra.e = 0
        · as_aux_lemma =>
            have FT := lH (HFR.out)
            have BND := lH (show Srt ra.t ∧ (ra.t).length ≤ 10000 + 2 * (k + 1) ∧ 0 ≤ ra.g ∧ ra.g ≤ 4294967296 + (k + 1 : Nat) from ⟨HT9.out.srt,by have := HT9.out.len;omega,HT9.out.g.1,by have := HT9.out.g;omega⟩)
            obtain ⟨pp,hpp⟩ : ∃ p,tabP ra.d 3 = p := ⟨_,rfl⟩
            have htb := FT.out.tab 3
            rw [hpp] at htb
            have HPP := lH hpp
            have HPN := lH (show pp.1.t.length ≤ 1000000 ∧ pp.1.t.length ≤ 50000 by have := htb.len;omega)
            have SMP := lH (sameL_refl pp.1.t)
            clear htb hpp
            have rT := (xWT).row
            go_wp2_with fail
            refine (table_is HPP (.agg c10) WT (dT) (by have := (bWT).size;omega) (FT.out.ok.mono (by decide) (by decide)) (HT.out.below (bWT))).mono ?_
            rintro e w20 ⟨v20,rfl,hb20,ht20⟩
            have rT2 := ((xWT).stays hb20).row
            have bw20 := nx (bWT) hb20
            clear rT
            go_wp2_with fail
            refine (rtable_is HPP (.agg c10) w20 ((dT).stays hb20) (by have := bw20.size;omega) (FT.out.ok.mono (by decide) (by decide)) (HT.out.below bw20)).mono ?_
            rintro e w21 ⟨v21,rfl,hb21,ht21⟩
            have ht20' := ht20.stays hb21
            clear rT2
            go_wp2_with fail
            refine (same_is SMP _ _ w21 ht20' ht21 HPN.out.1 HPN.out.1).mono ?_
            rintro e w22 ⟨rfl,hb22⟩
            have bw22 := nx (nx bw20 hb21) hb22
            go_wp2_with fail
            refine (size_any q pp.1.t v20 3 w22 (ht20'.stays hb22) (by have := bw22.size;omega) HPN.out.2 (HT.out.below bw22)).mono ?_
            rintro e w23 ⟨rfl,hb23⟩
            have bw23 := nx bw22 hb23
            go_wp2_with fail
            refine (rsize_any q pp.1.t v21 3 w23 ((ht21.stays hb22).stays hb23) (by have := bw23.size;omega) HPN.out.2).mono ?_
            rintro e w24 ⟨rfl,hb24⟩
            have bT24 := nx (nx (nx (nx hb20 hb21) hb22) hb23) hb24
            have HEND := lH (⟨(tT).stays bT24,BND.out,nx (bWT) bT24,Is.stays eO3 31 (plT) bT24,_,c10,(xWT).stays bT24,(dT).stays bT24,hs10,o10,FT.out⟩ : TI q ra.t (.slice a10 ra.t.length k10) w24 ∧ (Srt ra.t ∧ (ra.t).length ≤ 10000 + 2 * (k + 1) ∧ 0 ≤ ra.g ∧ ra.g ≤ 4294967296 + (k + 1 : Nat)) ∧ Below w.heap.size w w24 ∧ PL (Bs.of w.heap.size) L (.slice (some ⟨bb,off,none⟩) m1 cL) w24 ∧ ∃ (d : Ds) (cs : Array Value),Bx w24 db cs 27 ∧ DV q d (.agg cs) w24 ∧ cs.size = 6 ∧ oneAll (.agg cs) = true ∧ Fine d)
            have hlt9 := HLT.out
            have hm9 := HM51.out
            go_wp2
            go_roundw
            case rel => first | exact ⟨k + 1,ra.t,ra.z,ra.g,by omega,by go_num,rfl,rfl,HEND.out⟩ | ((repeat apply Exists.intro);exact ⟨⟨k + 1,ra.t,ra.z,ra.g,by omega,by go_num,rfl,rfl,HEND.out⟩,rfl⟩)
            case measure => simp [intOf];omega
        · as_aux_lemma =>
            have FT := lH (HFR.out)
            have BND := lH (show Srt t ∧ (t).length ≤ 10000 + 2 * (k + 1) ∧ 0 ≤ g ∧ g ≤ 4294967296 + (k + 1 : Nat) from ⟨HS.out.1,by have := HS.out.2.1;omega,HS.out.2.2.1,by have := HS.out.2.2.2;omega⟩)
            obtain ⟨pp,hpp⟩ : ∃ p,tabP ra.d 3 = p := ⟨_,rfl⟩
            have htb := FT.out.tab 3
            rw [hpp] at htb
            have HPP := lH hpp
            have HPN := lH (show pp.1.t.length ≤ 1000000 ∧ pp.1.t.length ≤ 50000 by have := htb.len;omega)
            have SMP := lH (sameL_refl pp.1.t)
            clear htb hpp
            have rT := (xWT).row
            go_wp2_with fail
            refine (table_is HPP (.agg c10) WT (dT) (by have := (bWT).size;omega) (FT.out.ok.mono (by decide) (by decide)) (HT.out.below (bWT))).mono ?_
            rintro e w20 ⟨v20,rfl,hb20,ht20⟩
            have rT2 := ((xWT).stays hb20).row
            have bw20 := nx (bWT) hb20
            clear rT
            go_wp2_with fail
            refine (rtable_is HPP (.agg c10) w20 ((dT).stays hb20) (by have := bw20.size;omega) (FT.out.ok.mono (by decide) (by decide)) (HT.out.below bw20)).mono ?_
            rintro e w21 ⟨v21,rfl,hb21,ht21⟩
            have ht20' := ht20.stays hb21
            clear rT2
            go_wp2_with fail
            refine (same_is SMP _ _ w21 ht20' ht21 HPN.out.1 HPN.out.1).mono ?_
            rintro e w22 ⟨rfl,hb22⟩
            have bw22 := nx (nx bw20 hb21) hb22
            go_wp2_with fail
            refine (size_any q pp.1.t v20 3 w22 (ht20'.stays hb22) (by have := bw22.size;omega) HPN.out.2 (HT.out.below bw22)).mono ?_
            rintro e w23 ⟨rfl,hb23⟩
            have bw23 := nx bw22 hb23
            go_wp2_with fail
            refine (rsize_any q pp.1.t v21 3 w23 ((ht21.stays hb22).stays hb23) (by have := bw23.size;omega) HPN.out.2).mono ?_
            rintro e w24 ⟨rfl,hb24⟩
            have bT24 := nx (nx (nx (nx hb20 hb21) hb22) hb23) hb24
            have HEND := lH (⟨(tO).stays bT24,BND.out,nx (bWT) bT24,Is.stays eO3 31 (plT) bT24,_,c10,(xWT).stays bT24,(dT).stays bT24,hs10,o10,FT.out⟩ : TI q t (.slice a t.length c) w24 ∧ (Srt t ∧ (t).length ≤ 10000 + 2 * (k + 1) ∧ 0 ≤ g ∧ g ≤ 4294967296 + (k + 1 : Nat)) ∧ Below w.heap.size w w24 ∧ PL (Bs.of w.heap.size) L (.slice (some ⟨bb,off,none⟩) m1 cL) w24 ∧ ∃ (d : Ds) (cs : Array Value),Bx w24 db cs 27 ∧ DV q d (.agg cs) w24 ∧ cs.size = 6 ∧ oneAll (.agg cs) = true ∧ Fine d)
            have hlt9 := HLT.out
            have hm9 := HM51.out
            go_wp2
            go_roundw
            case rel => first | exact ⟨k + 1,t,z,g,by omega,by go_num,rfl,rfl,HEND.out⟩ | ((repeat apply Exists.intro);exact ⟨⟨k + 1,t,z,g,by omega,by go_num,rfl,rfl,HEND.out⟩,rfl⟩)
            case measure => simp [intOf];omega
    by_cases hK3 : x0 = 3
    · as_aux_lemma =>
        subst hK3
        obtain ⟨dd,hdd⟩ : ∃ x,back d x1 x2 = x := ⟨_,rfl⟩
        have hfd : Fine dd := by rw [← hdd];exact HFI.out.back x1 x2
        have hopn := hfd.opn 3
        obtain ⟨ra,hra⟩ : ∃ x,opnP dd 3 = x := ⟨_,rfl⟩
        rw [hra] at hopn
        have HA := lH hra
        have HFD := lH hfd
        have HFR := lH hopn.1
        have HT9 := lH hopn.2
        have HDD := lH hdd
        have HLR := lH (show ra.t.length ≤ 1000000 by have := hopn.2.len;omega)
        have SMR := lH (sameL_refl ra.t)
        clear hra hfd hopn hdd
        obtain ⟨U1,hU1⟩ : ∃ Q_ : World,U0.setRow wo.heap.size #[.int .i64 3,.int .i64 x1,.int .i64 x2] = Q_ := ⟨_,rfl⟩
        have u1 : Bx U1 wo.heap.size #[.int .i64 3,.int .i64 x1,.int .i64 x2] 31 := hU1 ▸ u0.put _
        have bU1 : Below wo.heap.size wo U1 := hU1 ▸ below_setRow bU0 (Nat.le_refl _) _
        have s0 : U1.cell? ⟨wo.heap.size,0,none⟩ = some (.int .i64 3) := by rw [u1.cell];rfl
        have s1 : U1.cell? ⟨wo.heap.size,1,none⟩ = some (.int .i64 x1) := by rw [u1.cell];rfl
        have s2 : U1.cell? ⟨wo.heap.size,2,none⟩ = some (.int .i64 x2) := by rw [u1.cell];rfl
        have hxU := hx.stays bU1
        have bwU := nx hb bU1
        have hdU := hdv.stays bU1
        have htU := hti.stays bU1
        have hplU : PL (Bs.of w.heap.size) L (.slice (some ⟨bb,off,none⟩) m1 cL) U1 := Is.stays eO3 31 HPL.out bU1
        have rU := hxU.row
        have pU := hxU.plain (n := 6) HSE.out
        have hqU : q ≤ U1.heap.size := by have := bwU.size;omega
        go_wp2_with fail
        refine (crash_any q d (.agg cs) x1 x2 U1 hdU hqU (HFI.out.ok.mono (by decide) (by decide))).mono ?_
        rintro e w2 ⟨v2,rfl,hb2,hd2⟩
        clear rU s1 s2 pU0
        go_wp2_with fail
        refine (start_any q _ v2 w2 hd2).mono ?_
        rintro e w3 ⟨v3,rfl,hb3,hd3⟩
        obtain ⟨c3,rfl,hs3,o3,_,_⟩ := dv_open hd3
        have b3 := nx hb2 hb3
        have hx3 := hxU.stays b3
        have p3 := hx3.plain (n := 6) HSE.out
        obtain ⟨V3,hV3⟩ : ∃ Q_ : World,w3.setRow db c3 = Q_ := ⟨_,rfl⟩
        have xV3 : Bx V3 db c3 27 := hV3 ▸ (hx3).put _
        have bV3 : Below w.heap.size w V3 := hV3 ▸ below_setRow (nx bwU b3) hwd _
        have hdw : DV q dd (.agg c3) V3 := HDD.out ▸ (hV3 ▸ dv_row _ hd3 hx3 (by decide) hqd)
        have htw : TI q t (.slice a t.length c) V3 := hV3 ▸ ti_row _ (htU.stays b3) hx3 (by decide) hqd
        have hplw : PL (Bs.of w.heap.size) L (.slice (some ⟨bb,off,none⟩) m1 cL) V3 := hV3 ▸ pl_row _ (Is.stays eO3 31 hplU b3) hx3 (by decide) hwd rfl
        have rV := xV3.row
        clear s0
        go_wp2_with fail
        refine (open_is HA (.agg c3) V3 hdw (by have := (bV3).size;omega) HFD.out.ok (HT.out.below bV3)).mono ?_
        rintro e w10 ⟨v10,tv10,rfl,hb10,hd10,ht10⟩
        obtain ⟨c10,rfl,hs10,o10,_,_⟩ := dv_open hd10
        obtain ⟨a10,k10,rfl⟩ := ht10.len
        obtain ⟨U11,hU11⟩ : ∃ Q_ : World,w10.alloc (.cells z6 27) = Q_ := ⟨_,rfl⟩
        have u11 : Bx U11 w10.heap.size z6 27 := hU11 ▸ Bx.new _ _ _
        have bU11 : Below w10.heap.size w10 U11 := hU11 ▸ below1 _ _
        have pU11 := u11.plain (n := 6) rfl
        obtain ⟨U12,hU12⟩ : ∃ Q_ : World,U11.setRow w10.heap.size c10 = Q_ := ⟨_,rfl⟩
        have u12 : Bx U12 w10.heap.size c10 27 := hU12 ▸ u11.put _
        have bU12 : Below w10.heap.size w10 U12 := hU12 ▸ below_setRow bU11 (Nat.le_refl _) _
        have b12 := nx hb10 bU12
        have bw12 := nx (bV3) b12
        have hx12 := (xV3).stays b12
        have r12 := hx12.row
        clear rV
        go_wp2_with fail
        refine (ropen_is HA (.agg c3) U12 (hdw.stays b12) (by have := bw12.size;omega) HFD.out.ok (HT.out.below bw12)).mono ?_
        rintro e w13 ⟨v13,tv13,rfl,hb13,hd13,ht13⟩
        obtain ⟨c13,rfl,hs13,o13,_,_⟩ := dv_open hd13
        obtain ⟨a13,k13,rfl⟩ := ht13.len
        obtain ⟨U14,hU14⟩ : ∃ Q_ : World,w13.alloc (.cells z6 27) = Q_ := ⟨_,rfl⟩
        have u14 : Bx U14 w13.heap.size z6 27 := hU14 ▸ Bx.new _ _ _
        have bU14 : Below w13.heap.size w13 U14 := hU14 ▸ below1 _ _
        have pU14 := u14.plain (n := 6) rfl
        obtain ⟨U15,hU15⟩ : ∃ Q_ : World,U14.setRow w13.heap.size c13 = Q_ := ⟨_,rfl⟩
        have u15 : Bx U15 w13.heap.size c13 27 := hU15 ▸ u14.put _
        have bU15 : Below w13.heap.size w13 U15 := hU15 ▸ below_setRow bU14 (Nat.le_refl _) _
        have b15 := nx hb13 bU15
        have v15 := u12.stays b15
        have r15a := v15.row
        have r15b := u15.row
        have D15 := (hd10.stays bU12).stays b15
        have T15 := (ht10.stays bU12).stays b15
        have D15' := hd13.stays bU15
        have T15' := ht13.stays bU15
        clear r12 pU11 u11 u14 hd10 ht10 hd13 ht13
        go_wp2_with fail
        refine (disks_yes ra.d _ _ U15 D15 D15' (by have := HFR.out.ok.len;omega)).mono ?_
        rintro e w16 ⟨rfl,hb16⟩
        clear r15a r15b pU14
        go_wp2_with fail
        refine (same_is SMR _ _ w16 (T15.stays hb16) (T15'.stays hb16) HLR.out HLR.out).mono ?_
        rintro e w17 ⟨rfl,hb17⟩
        have b17 := nx b15 (nx hb16 hb17)
        have bw17 := nx bw12 b17
        have hx17 := hx12.stays b17
        have p17 := hx17.plain (n := 6) hs3
        have r17 := (v15.stays (nx hb16 hb17)).row
        have D17 := D15.stays (nx hb16 hb17)
        have T17 := T15.stays (nx hb16 hb17)
        obtain ⟨WT,hWT⟩ : ∃ Q_ : World,w17.setRow db c10 = Q_ := ⟨_,rfl⟩
        have xWT : Bx WT db c10 27 := hWT ▸ (hx17).put _
        have bWT : Below w.heap.size w WT := hWT ▸ below_setRow (bw17) hwd _
        have pl17 := Is.stays eO3 31 (Is.stays eO3 31 hplw b12) b17
        have plT : PL (Bs.of w.heap.size) L (.slice (some ⟨bb,off,none⟩) m1 cL) WT := hWT ▸ pl_row _ pl17 hx17 (by decide) hwd rfl
        have dT : DV q ra.d (.agg c10) WT := hWT ▸ dv_row _ D17 hx17 (by decide) hqd
        have tT : TI q ra.t (.slice a10 ra.t.length k10) WT := hWT ▸ ti_row _ T17 hx17 (by decide) hqd
        have tO : TI q t (.slice a t.length c) WT := hWT ▸ ti_row _ ((htw.stays b12).stays b17) hx17 (by decide) hqd
        by_cases he : ra.e = 0
        · as_aux_lemma =>
            have FT := lH (HFR.out)
            have BND := lH (show Srt ra.t ∧ (ra.t).length ≤ 10000 + 2 * (k + 1) ∧ 0 ≤ ra.g ∧ ra.g ≤ 4294967296 + (k + 1 : Nat) from ⟨HT9.out.srt,by have := HT9.out.len;omega,HT9.out.g.1,by have := HT9.out.g;omega⟩)
            obtain ⟨pp,hpp⟩ : ∃ p,tabP ra.d 3 = p := ⟨_,rfl⟩
            have htb := FT.out.tab 3
            rw [hpp] at htb
            have HPP := lH hpp
            have HPN := lH (show pp.1.t.length ≤ 1000000 ∧ pp.1.t.length ≤ 50000 by have := htb.len;omega)
            have SMP := lH (sameL_refl pp.1.t)
            clear htb hpp
            have rT := (xWT).row
            go_wp2_with fail
            refine (table_is HPP (.agg c10) WT (dT) (by have := (bWT).size;omega) (FT.out.ok.mono (by decide) (by decide)) (HT.out.below (bWT))).mono ?_
            rintro e w20 ⟨v20,rfl,hb20,ht20⟩
            have rT2 := ((xWT).stays hb20).row
            have bw20 := nx (bWT) hb20
            clear rT
            go_wp2_with fail
            refine (rtable_is HPP (.agg c10) w20 ((dT).stays hb20) (by have := bw20.size;omega) (FT.out.ok.mono (by decide) (by decide)) (HT.out.below bw20)).mono ?_
            rintro e w21 ⟨v21,rfl,hb21,ht21⟩
            have ht20' := ht20.stays hb21
            clear rT2
            go_wp2_with fail
            refine (same_is SMP _ _ w21 ht20' ht21 HPN.out.1 HPN.out.1).mono ?_
            rintro e w22 ⟨rfl,hb22⟩
            have bw22 := nx (nx bw20 hb21) hb22
            go_wp2_with fail
            refine (size_any q pp.1.t v20 3 w22 (ht20'.stays hb22) (by have := bw22.size;omega) HPN.out.2 (HT.out.below bw22)).mono ?_
            rintro e w23 ⟨rfl,hb23⟩
            have bw23 := nx bw22 hb23
            go_wp2_with fail
            refine (rsize_any q pp.1.t v21 3 w23 ((ht21.stays hb22).stays hb23) (by have := bw23.size;omega) HPN.out.2).mono ?_
            rintro e w24 ⟨rfl,hb24⟩
            have bT24 := nx (nx (nx (nx hb20 hb21) hb22) hb23) hb24
            have HEND := lH (⟨(tT).stays bT24,BND.out,nx (bWT) bT24,Is.stays eO3 31 (plT) bT24,_,c10,(xWT).stays bT24,(dT).stays bT24,hs10,o10,FT.out⟩ : TI q ra.t (.slice a10 ra.t.length k10) w24 ∧ (Srt ra.t ∧ (ra.t).length ≤ 10000 + 2 * (k + 1) ∧ 0 ≤ ra.g ∧ ra.g ≤ 4294967296 + (k + 1 : Nat)) ∧ Below w.heap.size w w24 ∧ PL (Bs.of w.heap.size) L (.slice (some ⟨bb,off,none⟩) m1 cL) w24 ∧ ∃ (d : Ds) (cs : Array Value),Bx w24 db cs 27 ∧ DV q d (.agg cs) w24 ∧ cs.size = 6 ∧ oneAll (.agg cs) = true ∧ Fine d)
            have hlt9 := HLT.out
            have hm9 := HM51.out
            go_wp2
            go_roundw
            case rel => first | exact ⟨k + 1,ra.t,ra.z,ra.g,by omega,by go_num,rfl,rfl,HEND.out⟩ | ((repeat apply Exists.intro);exact ⟨⟨k + 1,ra.t,ra.z,ra.g,by omega,by go_num,rfl,rfl,HEND.out⟩,rfl⟩)
            case measure => simp [intOf];omega
        · as_aux_lemma =>
            have FT := lH (HFR.out)
            have BND := lH (show Srt t ∧ (t).length ≤ 10000 + 2 * (k + 1) ∧ 0 ≤ g ∧ g ≤ 4294967296 + (k + 1 : Nat) from ⟨HS.out.1,by have := HS.out.2.1;omega,HS.out.2.2.1,by have := HS.out.2.2.2;omega⟩)
            obtain ⟨pp,hpp⟩ : ∃ p,tabP ra.d 3 = p := ⟨_,rfl⟩
            have htb := FT.out.tab 3
            rw [hpp] at htb
            have HPP := lH hpp
            have HPN := lH (show pp.1.t.length ≤ 1000000 ∧ pp.1.t.length ≤ 50000 by have := htb.len;omega)
            have SMP := lH (sameL_refl pp.1.t)
            clear htb hpp
            have rT := (xWT).row
            go_wp2_with fail
            refine (table_is HPP (.agg c10) WT (dT) (by have := (bWT).size;omega) (FT.out.ok.mono (by decide) (by decide)) (HT.out.below (bWT))).mono ?_
            rintro e w20 ⟨v20,rfl,hb20,ht20⟩
            have rT2 := ((xWT).stays hb20).row
            have bw20 := nx (bWT) hb20
            clear rT
            go_wp2_with fail
            refine (rtable_is HPP (.agg c10) w20 ((dT).stays hb20) (by have := bw20.size;omega) (FT.out.ok.mono (by decide) (by decide)) (HT.out.below bw20)).mono ?_
            rintro e w21 ⟨v21,rfl,hb21,ht21⟩
            have ht20' := ht20.stays hb21
            clear rT2
            go_wp2_with fail
            refine (same_is SMP _ _ w21 ht20' ht21 HPN.out.1 HPN.out.1).mono ?_
            rintro e w22 ⟨rfl,hb22⟩
            have bw22 := nx (nx bw20 hb21) hb22
            go_wp2_with fail
            refine (size_any q pp.1.t v20 3 w22 (ht20'.stays hb22) (by have := bw22.size;omega) HPN.out.2 (HT.out.below bw22)).mono ?_
            rintro e w23 ⟨rfl,hb23⟩
            have bw23 := nx bw22 hb23
            go_wp2_with fail
            refine (rsize_any q pp.1.t v21 3 w23 ((ht21.stays hb22).stays hb23) (by have := bw23.size;omega) HPN.out.2).mono ?_
            rintro e w24 ⟨rfl,hb24⟩
            have bT24 := nx (nx (nx (nx hb20 hb21) hb22) hb23) hb24
            have HEND := lH (⟨(tO).stays bT24,BND.out,nx (bWT) bT24,Is.stays eO3 31 (plT) bT24,_,c10,(xWT).stays bT24,(dT).stays bT24,hs10,o10,FT.out⟩ : TI q t (.slice a t.length c) w24 ∧ (Srt t ∧ (t).length ≤ 10000 + 2 * (k + 1) ∧ 0 ≤ g ∧ g ≤ 4294967296 + (k + 1 : Nat)) ∧ Below w.heap.size w w24 ∧ PL (Bs.of w.heap.size) L (.slice (some ⟨bb,off,none⟩) m1 cL) w24 ∧ ∃ (d : Ds) (cs : Array Value),Bx w24 db cs 27 ∧ DV q d (.agg cs) w24 ∧ cs.size = 6 ∧ oneAll (.agg cs) = true ∧ Fine d)
            have hlt9 := HLT.out
            have hm9 := HM51.out
            go_wp2
            go_roundw
            case rel => first | exact ⟨k + 1,t,z,g,by omega,by go_num,rfl,rfl,HEND.out⟩ | ((repeat apply Exists.intro);exact ⟨⟨k + 1,t,z,g,by omega,by go_num,rfl,rfl,HEND.out⟩,rfl⟩)
            case measure => simp [intOf];omega
    by_cases hK4 : x0 = 4
    · as_aux_lemma =>
        subst hK4
        obtain ⟨U1,hU1⟩ : ∃ Q_ : World,U0.setRow wo.heap.size #[.int .i64 4,.int .i64 x1,.int .i64 x2] = Q_ := ⟨_,rfl⟩
        have u1 : Bx U1 wo.heap.size #[.int .i64 4,.int .i64 x1,.int .i64 x2] 31 := hU1 ▸ u0.put _
        have bU1 : Below wo.heap.size wo U1 := hU1 ▸ below_setRow bU0 (Nat.le_refl _) _
        have s0 : U1.cell? ⟨wo.heap.size,0,none⟩ = some (.int .i64 4) := by rw [u1.cell];rfl
        have s1 : U1.cell? ⟨wo.heap.size,1,none⟩ = some (.int .i64 x1) := by rw [u1.cell];rfl
        have s2 : U1.cell? ⟨wo.heap.size,2,none⟩ = some (.int .i64 x2) := by rw [u1.cell];rfl
        have hxU := hx.stays bU1
        have bwU := nx hb bU1
        have hdU := hdv.stays bU1
        have htU := hti.stays bU1
        have hplU : PL (Bs.of w.heap.size) L (.slice (some ⟨bb,off,none⟩) m1 cL) U1 := Is.stays eO3 31 HPL.out bU1
        have rU := hxU.row
        have pU := hxU.plain (n := 6) HSE.out
        have hqU : q ≤ U1.heap.size := by have := bwU.size;omega
        go_wp2_with fail
        refine (arm_any q d (.agg cs) ma U1 hdU).mono ?_
        rintro e w2 ⟨v2,rfl,hb2,hd2⟩
        obtain ⟨c2,rfl,hs2,o2,_,_⟩ := dv_open hd2
        have hx2 := hxU.stays hb2
        have p2 := hx2.plain (n := 6) HSE.out
        clear rU
        obtain ⟨WT,hWT⟩ : ∃ Q_ : World,w2.setRow db c2 = Q_ := ⟨_,rfl⟩
        have xWT : Bx WT db c2 27 := hWT ▸ (hx2).put _
        have bWT : Below w.heap.size w WT := hWT ▸ below_setRow (nx bwU hb2) hwd _
        have plT : PL (Bs.of w.heap.size) L (.slice (some ⟨bb,off,none⟩) m1 cL) WT := hWT ▸ pl_row _ (Is.stays eO3 31 hplU hb2) hx2 (by decide) hwd rfl
        have dT : DV q (Dk.armP d ma) (.agg c2) WT := hWT ▸ dv_row _ hd2 hx2 (by decide) hqd
        have tT : TI q t (.slice a t.length c) WT := hWT ▸ ti_row _ (htU.stays hb2) hx2 (by decide) hqd
        have FT := lH (HFI.out.arm ma (by have := HMA.out;omega))
        have BND := lH (show Srt t ∧ (t).length ≤ 10000 + 2 * (k + 1) ∧ 0 ≤ g ∧ g ≤ 4294967296 + (k + 1 : Nat) from ⟨HS.out.1,by have := HS.out.2.1;omega,HS.out.2.2.1,by have := HS.out.2.2.2;omega⟩)
        obtain ⟨pp,hpp⟩ : ∃ p,tabP (Dk.armP d ma) 3 = p := ⟨_,rfl⟩
        have htb := FT.out.tab 3
        rw [hpp] at htb
        have HPP := lH hpp
        have HPN := lH (show pp.1.t.length ≤ 1000000 ∧ pp.1.t.length ≤ 50000 by have := htb.len;omega)
        have SMP := lH (sameL_refl pp.1.t)
        clear htb hpp
        have rT := (xWT).row
        go_wp2_with fail
        refine (table_is HPP (.agg c2) WT (dT) (by have := (bWT).size;omega) (FT.out.ok.mono (by decide) (by decide)) (HT.out.below (bWT))).mono ?_
        rintro e w20 ⟨v20,rfl,hb20,ht20⟩
        have rT2 := ((xWT).stays hb20).row
        have bw20 := nx (bWT) hb20
        clear rT
        go_wp2_with fail
        refine (rtable_is HPP (.agg c2) w20 ((dT).stays hb20) (by have := bw20.size;omega) (FT.out.ok.mono (by decide) (by decide)) (HT.out.below bw20)).mono ?_
        rintro e w21 ⟨v21,rfl,hb21,ht21⟩
        have ht20' := ht20.stays hb21
        clear rT2
        go_wp2_with fail
        refine (same_is SMP _ _ w21 ht20' ht21 HPN.out.1 HPN.out.1).mono ?_
        rintro e w22 ⟨rfl,hb22⟩
        have bw22 := nx (nx bw20 hb21) hb22
        go_wp2_with fail
        refine (size_any q pp.1.t v20 3 w22 (ht20'.stays hb22) (by have := bw22.size;omega) HPN.out.2 (HT.out.below bw22)).mono ?_
        rintro e w23 ⟨rfl,hb23⟩
        have bw23 := nx bw22 hb23
        go_wp2_with fail
        refine (rsize_any q pp.1.t v21 3 w23 ((ht21.stays hb22).stays hb23) (by have := bw23.size;omega) HPN.out.2).mono ?_
        rintro e w24 ⟨rfl,hb24⟩
        have bT24 := nx (nx (nx (nx hb20 hb21) hb22) hb23) hb24
        have HEND := lH (⟨(tT).stays bT24,BND.out,nx (bWT) bT24,Is.stays eO3 31 (plT) bT24,_,c2,(xWT).stays bT24,(dT).stays bT24,hs2,o2,FT.out⟩ : TI q t (.slice a t.length c) w24 ∧ (Srt t ∧ (t).length ≤ 10000 + 2 * (k + 1) ∧ 0 ≤ g ∧ g ≤ 4294967296 + (k + 1 : Nat)) ∧ Below w.heap.size w w24 ∧ PL (Bs.of w.heap.size) L (.slice (some ⟨bb,off,none⟩) m1 cL) w24 ∧ ∃ (d : Ds) (cs : Array Value),Bx w24 db cs 27 ∧ DV q d (.agg cs) w24 ∧ cs.size = 6 ∧ oneAll (.agg cs) = true ∧ Fine d)
        have hlt9 := HLT.out
        have hm9 := HM51.out
        go_wp2
        go_roundw
        case rel => first | exact ⟨k + 1,t,z,g,by omega,by go_num,rfl,rfl,HEND.out⟩ | ((repeat apply Exists.intro);exact ⟨⟨k + 1,t,z,g,by omega,by go_num,rfl,rfl,HEND.out⟩,rfl⟩)
        case measure => simp [intOf];omega
    as_aux_lemma =>
      obtain ⟨U1,hU1⟩ : ∃ Q_ : World,U0.setRow wo.heap.size #[.int .i64 x0,.int .i64 x1,.int .i64 x2] = Q_ := ⟨_,rfl⟩
      have u1 : Bx U1 wo.heap.size #[.int .i64 x0,.int .i64 x1,.int .i64 x2] 31 := hU1 ▸ u0.put _
      have bU1 : Below wo.heap.size wo U1 := hU1 ▸ below_setRow bU0 (Nat.le_refl _) _
      have s0 : U1.cell? ⟨wo.heap.size,0,none⟩ = some (.int .i64 x0) := by rw [u1.cell];rfl
      have s1 : U1.cell? ⟨wo.heap.size,1,none⟩ = some (.int .i64 x1) := by rw [u1.cell];rfl
      have s2 : U1.cell? ⟨wo.heap.size,2,none⟩ = some (.int .i64 x2) := by rw [u1.cell];rfl
      have hxU := hx.stays bU1
      have bwU := nx hb bU1
      have hdU := hdv.stays bU1
      have htU := hti.stays bU1
      have hplU : PL (Bs.of w.heap.size) L (.slice (some ⟨bb,off,none⟩) m1 cL) U1 := Is.stays eO3 31 HPL.out bU1
      have rU := hxU.row
      have pU := hxU.plain (n := 6) HSE.out
      have hqU : q ≤ U1.heap.size := by have := bwU.size;omega
      obtain ⟨mr,hmr,hr1,hr2⟩ := small64 x1 2000 (by decide) (by decide)
      replace hr1 : (IntKind.u64.wrap x1).tmod 2000 = mr := hr1
      go_wp2_with fail
      refine (Dk.room_any q d (.agg cs) mr U1 hdU).mono ?_
      rintro e w2 ⟨v2,rfl,hb2,hd2⟩
      obtain ⟨c2,rfl,hs2,o2,_,_⟩ := dv_open hd2
      have hx2 := hxU.stays hb2
      have p2 := hx2.plain (n := 6) HSE.out
      clear rU
      obtain ⟨WT,hWT⟩ : ∃ Q_ : World,w2.setRow db c2 = Q_ := ⟨_,rfl⟩
      have xWT : Bx WT db c2 27 := hWT ▸ (hx2).put _
      have bWT : Below w.heap.size w WT := hWT ▸ below_setRow (nx bwU hb2) hwd _
      have plT : PL (Bs.of w.heap.size) L (.slice (some ⟨bb,off,none⟩) m1 cL) WT := hWT ▸ pl_row _ (Is.stays eO3 31 hplU hb2) hx2 (by decide) hwd rfl
      have dT : DV q (Dk.rooP d mr) (.agg c2) WT := hWT ▸ dv_row _ hd2 hx2 (by decide) hqd
      have tT : TI q t (.slice a t.length c) WT := hWT ▸ ti_row _ (htU.stays hb2) hx2 (by decide) hqd
      have FT := lH (HFI.out.roo mr)
      have BND := lH (show Srt t ∧ (t).length ≤ 10000 + 2 * (k + 1) ∧ 0 ≤ g ∧ g ≤ 4294967296 + (k + 1 : Nat) from ⟨HS.out.1,by have := HS.out.2.1;omega,HS.out.2.2.1,by have := HS.out.2.2.2;omega⟩)
      obtain ⟨pp,hpp⟩ : ∃ p,tabP (Dk.rooP d mr) 3 = p := ⟨_,rfl⟩
      have htb := FT.out.tab 3
      rw [hpp] at htb
      have HPP := lH hpp
      have HPN := lH (show pp.1.t.length ≤ 1000000 ∧ pp.1.t.length ≤ 50000 by have := htb.len;omega)
      have SMP := lH (sameL_refl pp.1.t)
      clear htb hpp
      have rT := (xWT).row
      go_wp2_with fail
      refine (table_is HPP (.agg c2) WT (dT) (by have := (bWT).size;omega) (FT.out.ok.mono (by decide) (by decide)) (HT.out.below (bWT))).mono ?_
      rintro e w20 ⟨v20,rfl,hb20,ht20⟩
      have rT2 := ((xWT).stays hb20).row
      have bw20 := nx (bWT) hb20
      clear rT
      go_wp2_with fail
      refine (rtable_is HPP (.agg c2) w20 ((dT).stays hb20) (by have := bw20.size;omega) (FT.out.ok.mono (by decide) (by decide)) (HT.out.below bw20)).mono ?_
      rintro e w21 ⟨v21,rfl,hb21,ht21⟩
      have ht20' := ht20.stays hb21
      clear rT2
      go_wp2_with fail
      refine (same_is SMP _ _ w21 ht20' ht21 HPN.out.1 HPN.out.1).mono ?_
      rintro e w22 ⟨rfl,hb22⟩
      have bw22 := nx (nx bw20 hb21) hb22
      go_wp2_with fail
      refine (size_any q pp.1.t v20 3 w22 (ht20'.stays hb22) (by have := bw22.size;omega) HPN.out.2 (HT.out.below bw22)).mono ?_
      rintro e w23 ⟨rfl,hb23⟩
      have bw23 := nx bw22 hb23
      go_wp2_with fail
      refine (rsize_any q pp.1.t v21 3 w23 ((ht21.stays hb22).stays hb23) (by have := bw23.size;omega) HPN.out.2).mono ?_
      rintro e w24 ⟨rfl,hb24⟩
      have bT24 := nx (nx (nx (nx hb20 hb21) hb22) hb23) hb24
      have HEND := lH (⟨(tT).stays bT24,BND.out,nx (bWT) bT24,Is.stays eO3 31 (plT) bT24,_,c2,(xWT).stays bT24,(dT).stays bT24,hs2,o2,FT.out⟩ : TI q t (.slice a t.length c) w24 ∧ (Srt t ∧ (t).length ≤ 10000 + 2 * (k + 1) ∧ 0 ≤ g ∧ g ≤ 4294967296 + (k + 1 : Nat)) ∧ Below w.heap.size w w24 ∧ PL (Bs.of w.heap.size) L (.slice (some ⟨bb,off,none⟩) m1 cL) w24 ∧ ∃ (d : Ds) (cs : Array Value),Bx w24 db cs 27 ∧ DV q d (.agg cs) w24 ∧ cs.size = 6 ∧ oneAll (.agg cs) = true ∧ Fine d)
      have hlt9 := HLT.out
      have hm9 := HM51.out
      go_wp2
      go_roundw
      case rel => first | exact ⟨k + 1,t,z,g,by omega,by go_num,rfl,rfl,HEND.out⟩ | ((repeat apply Exists.intro);exact ⟨⟨k + 1,t,z,g,by omega,by go_num,rfl,rfl,HEND.out⟩,rfl⟩)
      case measure => simp [intOf];omega
end Go.Proofs.YtnnbjhpkgndclaaGreatDoor.St
