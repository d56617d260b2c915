/- Layer 17: StoreKeeps. -/
import Derived.Test.YtnnbjhpkgndclaaGreatDoorQsZZ
import Derived.Test.YtnnbjhpkgndclaaGreatDoorQsCE
import Derived.Test.YtnnbjhpkgndclaaGreatDoorQsCB
import Derived.Test.YtnnbjhpkgndclaaGreatDoorQsBP
import Derived.Test.YtnnbjhpkgndclaaGreatDoorQsBZ
set_option linter.unusedVariables false
namespace Go.Proofs.YtnnbjhpkgndclaaGreatDoor.St
open Go.RowKit
open Go.Proofs.YtnnbjhpkgndclaaGreatDoor.Rw
open Go.Proofs.YtnnbjhpkgndclaaGreatDoor.Da
open Go.Proofs.YtnnbjhpkgndclaaGreatDoor.Bv
open Go.Proofs.YtnnbjhpkgndclaaGreatDoor.Rc (Ins ci zeroI okI)
open Go.Proofs.YtnnbjhpkgndclaaGreatDoor.Dk (Ds DV Post2 PostD Ok newP new_any at2 lim nul arm_any crash_any start_any)
theorem kC_five {cs : Array Value} (h : cs.size = 6) (tv : Value) (z g : Int) : (kC cs tv z g)[5]? = cs[5]? := by
  unfold kC
  rw [Array.getElem?_append_left (by omega)]
theorem any_take {α : Type} (f : α → Bool) (l : List α) {j : Nat} (h : j < l.length) : (l.take (j + 1)).any f = ((l.take j).any f || f l[j]) := by
  rw [Da.take_snoc h,List.any_append];simp
set_option maxRecDepth 8000 in
set_option maxHeartbeats 32000000 in
theorem walkKeeps (room : Int) (l : List O3) (v : Value) (w : World) (h : PL (Bs.of w.heap.size) l v w) (hwf : wfOs l) (wr : (Lit.int .i64 room).wf = true) (hT : Tbs w) :
    Calls Tryz.prog 5 #[.int .i64 room,v] w fun e w' => e = .returned (.bool true) ∧ Below w.heap.size w w' := by
  have hlm : l.length ≤ maxLen := hwf.1
  unfold maxLen at hlm
  clear wr hwf
  have HT := lH hT
  obtain ⟨q,hq⟩ : ∃ n,n = w.heap.size := ⟨_,rfl⟩
  have hq0 : q ≤ w.heap.size := by omega
  obtain ⟨n1,hn1⟩ : ∃ n,l.length = n := ⟨_,rfl⟩
  have HCL := lH (show ∀ u,Below w.heap.size w u → PL (Bs.of w.heap.size) l v u from fun u hu => Is.stays eO3 31 h hu)
  obtain ⟨a0,c0,rfl⟩ := h.len
  rw [hn1] at hlm ⊢
  clear h
  have HN := lH hn1
  by_cases hl : (50 : Int) < n1
  · have hd : decide ((50 : Int) < n1) = true := decide_eq_true hl
    clear hn1 hT hq
    go_enter Tryz.func5,Tryz.ntmps5
    go_wp2_with fail
    refine (awake_any w HT.out).mono ?_
    rintro e w1 ⟨rfl,hb1⟩
    go_wp2
    go_ret
    exact ⟨rfl,hb1⟩
  by_cases hl2 : (20000 : Int) < room
  · have hd : decide ((50 : Int) < n1) = false := decide_eq_false hl
    have hd2 : decide ((20000 : Int) < room) = true := decide_eq_true hl2
    clear hn1 hT hq
    go_enter Tryz.func5,Tryz.ntmps5
    go_wp2_with fail
    refine (awake_any w HT.out).mono ?_
    rintro e w1 ⟨rfl,hb1⟩
    go_wp2
    go_ret
    exact ⟨rfl,hb1⟩
  have hd : decide ((50 : Int) < n1) = false := decide_eq_false hl
  have hd2 : decide ((20000 : Int) < room) = false := decide_eq_false hl2
  have HN50 := lH (show n1 ≤ 50 by omega)
  obtain ⟨r,hr⟩ : ∃ r,opnP (newP room) 3 = r := ⟨_,rfl⟩
  have hnew := open_new room
  have hop := (fine_new room).opn 3
  rw [hr] at hnew hop
  have HR := lH hr
  have HO := lH hop.1
  clear hr hop hT hq hn1 hl hl2
  rcases hnew with ⟨-,r2⟩ | ⟨-,r2,r3,r4,r5,r6,r7,r8,-⟩
  · have r2' : (r.e == 0) = false := by rw [r2];rfl
    clear r2
    go_enter Tryz.func5,Tryz.ntmps5
    go_wp2_with fail
    refine (opened_is HR w hq0 HT.out).mono ?_
    rintro e w1 ⟨cs,a,c,rfl,hb1,hd1,ht1,hs,o1⟩
    obtain ⟨Y,hY⟩ : ∃ Q_ : World,w1.alloc (.cells z9 61) = Q_ := ⟨_,rfl⟩
    have yY : Bx Y w1.heap.size z9 61 := hY ▸ Bx.new _ _ _
    have bY : Below w1.heap.size w1 Y := hY ▸ below1 _ _
    have pY := yY.plain (n := 9) rfl
    have hs9 := kC_size hs (.slice a r.t.length c) r.z r.g
    have ho9 := kC_one o1 a r.t.length c r.z r.g
    obtain ⟨X,hX⟩ : ∃ Q_ : World,Y.setRow w1.heap.size (kC cs (.slice a r.t.length c) r.z r.g) = Q_ := ⟨_,rfl⟩
    have xX : Bx X w1.heap.size (kC cs (.slice a r.t.length c) r.z r.g) 61 := hX ▸ yY.put _
    have hX2 : Below w1.heap.size w1 X := hX ▸ below_setRow bY (Nat.le_refl _) _
    have bX := nx hb1 hX2
    go_wp2_with fail
    refine (awake_any X (HT.out.below bX)).mono ?_
    rintro e w4 ⟨rfl,hb4⟩
    go_wp2
    go_ret
    exact ⟨rfl,nx bX hb4⟩
  have r2' : (r.e == 0) = true := by rw [r2];rfl
  have R3 := lH r3
  have R4 := lH r4
  have R5 := lH r5
  have HTop := lH r8
  clear r2 r3 r4 r5 r6 r7 r8
  go_enter Tryz.func5,Tryz.ntmps5
  go_wp2_with fail
  refine (opened_is HR w hq0 HT.out).mono ?_
  rintro e w1 ⟨cs,a,c,rfl,hb1,hd1,ht1,hs,o1⟩
  obtain ⟨Y,hY⟩ : ∃ Q_ : World,w1.alloc (.cells z9 61) = Q_ := ⟨_,rfl⟩
  have yY : Bx Y w1.heap.size z9 61 := hY ▸ Bx.new _ _ _
  have bY : Below w1.heap.size w1 Y := hY ▸ below1 _ _
  have pY := yY.plain (n := 9) rfl
  have hs9 := kC_size hs (.slice a r.t.length c) r.z r.g
  have ho9 := kC_one o1 a r.t.length c r.z r.g
  obtain ⟨X,hX⟩ : ∃ Q_ : World,Y.setRow w1.heap.size (kC cs (.slice a r.t.length c) r.z r.g) = Q_ := ⟨_,rfl⟩
  have xX : Bx X w1.heap.size (kC cs (.slice a r.t.length c) r.z r.g) 61 := hX ▸ yY.put _
  have hX2 : Below w1.heap.size w1 X := hX ▸ below_setRow bY (Nat.le_refl _) _
  have bX := nx hb1 hX2
  obtain ⟨kb,hkb⟩ : ∃ n,n = w1.heap.size := ⟨_,rfl⟩
  have hqk : q ≤ kb := by have := hb1.size;omega
  have bwk : w.heap.size ≤ kb := by have := hb1.size;omega
  have H0 := lH (show Below w.heap.size w X ∧ kb < X.heap.size ∧ ∃ (d : Ds) (t : List Ins) (z g : Int) (cs : Array Value) (a : Option Addr) (c : Nat),Bx X kb (kC cs (.slice a t.length c) z g) 61 ∧ DV q d (.agg cs) X ∧ TI q t (.slice a t.length c) X ∧ Top 3 d t z g true ∧ Fine d ∧ t.length ≤ 2 * 0 ∧ cs.size = 6 ∧ oneAll (.agg cs) = true from
    ⟨bX,by rw [hkb];exact xX.lt,r.d,r.t,r.z,r.g,cs,a,c,hkb ▸ xX,hd1.stays hX2,ht1.stays hX2,by rw [R3.out,R4.out,R5.out];exact HTop.out,HO.out,by rw [R3.out];exact Nat.zero_le _,hs,o1⟩)
  have HKB := lH hkb
  clear hkb hd1 ht1 xX yY HTop HO R3 R4 R5
  go_wp2
  rw [← HKB.out]
  go_loopw [49] (fun i wr => ∃ k : Nat,k ≤ n1 ∧ i = .int .i64 k ∧ Below w.heap.size w wr ∧ kb < wr.heap.size ∧ ∃ (d : Ds) (t : List Ins) (z g : Int) (cs : Array Value) (a : Option Addr) (c : Nat),Bx wr kb (kC cs (.slice a t.length c) z g) 61 ∧ DV q d (.agg cs) wr ∧ TI q t (.slice a t.length c) wr ∧ Top 3 d t z g true ∧ Fine d ∧ t.length ≤ 2 * k ∧ cs.size = 6 ∧ oneAll (.agg cs) = true) (fun i _ => n1 - (intOf i).toNat)
  case atStart => exact ⟨0,Nat.zero_le _,rfl,H0.out⟩
  case round =>
    clear H0 hs o1 hs9 ho9 pY hY hX bY hX2 bX
    obtain ⟨k,hk,rfl,hb,hkl,d,t,z,g,cs,a,c,hx,hdv,hti,htop,hfi,htl,hs,o1⟩ := hrel
    obtain ⟨wo,rfl⟩ : ∃ wo : World,wo = wr := ⟨_,rfl⟩
    by_cases hlt : k < n1
    case neg =>
      have hlt2 : ¬ (k : Int) < n1 := by omega
      obtain rfl : k = n1 := by omega
      have HTB := lH htop.tab
      have p0 : Rc.part 6 wo (.pointer (some ⟨kb,0,none⟩)) = cs := by rw [Rc.part_at,hx.row];exact kC_ext hs _ _ _
      have hkc := kC_at hs (.slice a t.length c) z g
      go_wp2_with fail
      refine (table_is HTB (.agg cs) wo hdv (by have := hb.size;omega) (hfi.ok.mono (by decide) (by decide)) (HT.out.below hb)).mono ?_
      rintro e w2 ⟨v2,rfl,hb2,ht2⟩
      simp only at ht2 ⊢
      have p6 : w2.cell? ⟨kb,6,none⟩ = some (.slice a t.length c) := by rw [(hx.stays hb2).cell];exact hkc.1
      have htl2 : t.length ≤ 1000000 := by have := HN50.out;omega
      clear p0 hkc
      go_wp2_with fail
      refine (same_is (lH (sameL_refl t)) _ _ w2 ht2 (hti.stays hb2) htl2 htl2).mono ?_
      rintro e w3 ⟨rfl,hb3⟩
      have b3 := nx (nx hb hb2) hb3
      clear p6
      go_wp2_with fail
      refine (awake_any w3 (HT.out.below b3)).mono ?_
      rintro e w4 ⟨rfl,hb4⟩
      go_wp2
      go_ret
      exact ⟨rfl,nx b3 hb4⟩
    have hlt2 : (k : Int) < n1 := by omega
    have hll : k < l.length := by rw [HN.out];exact hlt
    have hcl := HCL.out wo hb
    rcases hcl.cases with ⟨e,_⟩ | ⟨_,bb,off,cc,e,hat⟩
    · rw [e] at hll;cases hll
    simp only [Value.slice.injEq] at e
    obtain ⟨rfl,-,rfl⟩ := e
    obtain ⟨y0,y1,y2⟩ := atP hat k hll
    obtain ⟨⟨x0,x1,x2⟩,hs3⟩ : ∃ s,l[k] = s := ⟨_,rfl⟩
    rw [hs3] at y0 y1 y2
    simp only at y0 y1 y2
    obtain ⟨ma,hma,ha1,ha2⟩ := small64 x1 60 (by decide) (by decide)
    obtain ⟨mb,hmb,hb1',hb2'⟩ := small64 x2 1000 (by decide) (by decide)
    replace ha1 : (IntKind.u64.wrap x1).tmod 60 = ma := ha1
    replace hb1' : (IntKind.u64.wrap x2).tmod 1000 = mb := hb1'
    have hn50 := HN50.out
    have HFI := lH hfi
    have HTOP := lH htop
    have HMA := lH (⟨hma,hmb⟩ : (0 ≤ ma ∧ ma < 60) ∧ 0 ≤ mb ∧ mb < 1000)
    have hma1 : IntKind.i64.wrap (ma + 1) = ma + 1 := IntWalk.i64_in _ (by omega)
    have HSE := lH hs
    have HLT := lH hlt
    have HTL := lH htl
    have HBS := lH (show k ≤ 50 ∧ t.length ≤ 40000 ∧ g ≤ 1000000000000 ∧ -9223372036854775808 ≤ g by have := htop.gok;omega)
    have HUP := lH htop.up
    obtain ⟨U0,hU0⟩ : ∃ Q_ : World,wo.alloc (.cells zO 31) = Q_ := ⟨_,rfl⟩
    have u0 : Bx U0 wo.heap.size zO 31 := hU0 ▸ Bx.new _ _ _
    have bU0 : Below wo.heap.size wo U0 := hU0 ▸ below1 _ _
    have pU0 := u0.plain (n := 3) rfl
    clear hs3 hll hat hma hmb htop hfi hk hn50 hlt hcl htl
    by_cases hK0 : x0 = 0
    · as_aux_lemma =>
        subst hK0
        obtain ⟨im,him⟩ : ∃ im,oneP ma mb = im := ⟨_,rfl⟩
        obtain ⟨im2,him2⟩ : ∃ im,oneP (ma + 1) mb = im := ⟨_,rfl⟩
        have hmm := HMA.out
        have honeA : ∀ u,Calls Tryz.prog 10 #[.int .i64 ma,.int .i64 mb] u fun e w' => e = .returned (.agg (ci im)) ∧ Below u.heap.size u w' := fun u => by
          have h := one_any ma mb (by omega) (by omega) u
          rwa [him] at h
        have honeB : ∀ u,Calls Tryz.prog 10 #[.int .i64 (ma + 1),.int .i64 mb] u fun e w' => e = .returned (.agg (ci im2)) ∧ Below u.heap.size u w' := fun u => by
          have h := one_any (ma + 1) mb (by omega) (by omega) u
          rwa [him2] at h
        have ok1 : okI im 3 = true := by rw [← him];exact one_ok hmm.1.1 hmm.2.1
        have ok2 : okI im2 3 = true := by rw [← him2];exact one_ok (by omega) hmm.2.1
        have cn1 : cn im = im := by rw [← him];exact one_cn ma mb
        have cn2 : cn im2 = im2 := by rw [← him2];exact one_cn (ma + 1) mb
        have hl1 : okT [im] 3 = true := by
          rw [okT_iff];intro i hi;simp at hi
          rw [hi];exact ok1
        have hl2 : CN [im] := fun i hi => by
          simp at hi
          rw [hi];exact cn1
        obtain ⟨ra,hra⟩ : ∃ x,addP d t z g 3 [im] = x := ⟨_,rfl⟩
        have hfr := HFI.out.add t z g 3 [im]
        have hadd := add_out (n := 3) (d := d) (t := t) (l := [im]) (z := z) (g := g) HTOP.out HFI.out.f.1 HFI.out.c.2 (by simp) (by simp) hl1 hl2
        rw [hra] at hfr hadd
        have HA := lH hra
        have HFR := lH hfr
        have HADD := lH hadd
        have HSR := lH HTOP.out.tbl.1
        have HLN := lH (show (puts t [im]).length ≤ 2 * (k + 1) ∧ (puts t [im]).length ≤ 2 * (k + 1) by
          have h1 := puts_len t [im]
          have h2 := puts_len t [im]
          have := HTL.out
          simp at h1 h2
          omega)
        clear hra hfr hadd him him2 hmm ok1 ok2 cn1 cn2 hl1 hl2
        obtain ⟨U1,hU1⟩ : ∃ Q_ : World,U0.setRow wo.heap.size #[.int .i64 0,.int .i64 x1,.int .i64 x2] = Q_ := ⟨_,rfl⟩
        have u1 : Bx U1 wo.heap.size #[.int .i64 0,.int .i64 x1,.int .i64 x2] 31 := hU1 ▸ u0.put _
        have bU1 : Below wo.heap.size wo U1 := hU1 ▸ below_setRow bU0 (Nat.le_refl _) _
        have s0 : U1.cell? ⟨wo.heap.size,0,none⟩ = some (.int .i64 0) := by rw [u1.cell];rfl
        have s1 : U1.cell? ⟨wo.heap.size,1,none⟩ = some (.int .i64 x1) := by rw [u1.cell];rfl
        have s2 : U1.cell? ⟨wo.heap.size,2,none⟩ = some (.int .i64 x2) := by rw [u1.cell];rfl
        have hkc := kC_at HSE.out (.slice a t.length c) z g
        have hxU := hx.stays bU1
        have pU : U1.cell? ⟨kb,6,none⟩ = some (.slice a t.length c) := by rw [hxU.cell];exact hkc.1
        obtain ⟨M,hM⟩ : ∃ Q_ : World,U1.alloc (.cells #[.slice a t.length c] 29) = Q_ := ⟨_,rfl⟩
        have bM : Below U1.heap.size U1 M := hM ▸ below1 _ _
        have mM : Bx M U1.heap.size #[.slice a t.length c] 29 := hM ▸ Bx.new _ _ _
        have bwU := nx hb bU1
        have hqU : q ≤ U1.heap.size := by have := bwU.size;omega
        have mlM : ML q [t] (.slice (some ⟨U1.heap.size,0,none⟩) 1 1) M := hM ▸ ml_one (hti.stays bU1) hqU
        have bwM := nx bwU bM
        have boM := nx bU1 bM
        have hxM := hx.stays boM
        have hdM := hdv.stays boM
        have htM := hti.stays boM
        have oM := u1.stays bM
        have o0 : M.cell? ⟨wo.heap.size,0,none⟩ = some (.int .i64 0) := by rw [oM.cell];rfl
        have HF := lH (show ∀ u,Below M.heap.size M u → Rc.part 6 u (.pointer (some ⟨kb,0,none⟩)) = cs ∧ u.cell? ⟨kb,6,none⟩ = some (.slice a t.length c) ∧ u.cell? ⟨kb,7,none⟩ = some (.int .i64 z) ∧ u.cell? ⟨kb,8,none⟩ = some (.int .i64 g) from fun u hu => by
          have h := hxM.stays hu
          refine ⟨by rw [Rc.part_at,h.row];exact kC_ext HSE.out _ _ _,?_,?_,?_⟩
          · rw [h.cell];exact hkc.1
          · rw [h.cell];exact hkc.2.1
          · rw [h.cell];exact hkc.2.2)
        clear hkc u0
        have hF15 : ∀ u,Below M.heap.size M u → u.cell? ⟨wo.heap.size,0,none⟩ = some (.int .i64 0) := fun u hu => by rw [(oM.stays hu).cell];rfl
        go_wp2
        refine Rf.rg [0,1,2,3,4,5,6,8,9,10,7,11,12] ?_
        repeat (first | (refine Rf.Steps.sk ?_;simp only [Act.put,sA,sB,sC]) | (refine Rf.Steps.pu (v := ?_) ?_ ?_;rotate_left;(intro w_ hS_;have hk_ := hF15 w_ hS_;go_simp <;> with_reducible rfl);simp only [Act.put,sA,sB,sC]) | (refine Rf.Steps.ca (v := ?_) (f := ?_) (args := ?_) ?_ ?_ ?_;rotate_left 3;(intro w_ hS_;have hk_ := hF15 w_ hS_;go_simp <;> first | with_reducible rfl | (constructor <;> with_reducible rfl));(intro w_ hS_;have hk_ := hF15 w_ hS_;first | (go_at_call 10;(first | with_reducible refine (honeA _).mono ?_ | with_reducible refine (honeB _).mono ?_);first | (rintro e w_ ⟨rfl,rfl⟩;refine ⟨?_,Below.refl _ _⟩;with_reducible rfl) | (rintro e w_ ⟨rfl,hb_⟩;refine ⟨?_,hb_⟩;with_reducible rfl)));simp only [Act.put,sA,sB,sC]))
        have hw1 : IntKind.i64.wrap (1 : Int) = 1 := by decide
        have hw2 : IntKind.i64.wrap (2 : Int) = 2 := by decide
        refine Rf.Steps.forced (i := 7) (by kernel_rfl) ?_
        refine Rf.One.val (fun v u => ∃ b,v = .slice (some ⟨b,0,none⟩) 2 2 ∧ TI q [im,im2] v u) (fun v _ _ h k => by obtain ⟨b,h1,h2⟩ := h;exact ⟨b,h1,h2.stays k⟩) (by rfl) (by rfl) ?_ ?_
        · intro w_ hS_
          refine ⟨_,_,?_,below1 _ _,w_.heap.size,rfl,TI.two im im2 (by have := bwM.size;have := hS_.size;omega)⟩
          go_simp
        intro vs us hvs
        simp only [Act.put,sA,sB,sC]
        obtain ⟨bs,rfl,_⟩ := hvs
        repeat (first | (refine Rf.Steps.sk ?_;simp only [Act.put,sA,sB,sC]) | (refine Rf.Steps.pu (v := ?_) ?_ ?_;rotate_left;(intro w_ hS_;skip;go_simp <;> with_reducible rfl);simp only [Act.put,sA,sB,sC]))
        refine Rf.Steps.nil (by kernel_rfl) ?_
        intro w9 hS9
        have b9 : Below M.heap.size M w9 := hS9.1
        have tl9 : TI q [im] (.slice (some ⟨bs,0,none⟩) 1 2) w9 := by obtain ⟨b_,e_,h_⟩ := hS9.2;exact h_.first
        clear hS9
        have bw9 := nx bwM b9
        clear s0 s1 s2 pU pU0 o0
        obtain ⟨p0,p6,p7,p8⟩ := HF.out w9 b9
        have hqw9 : q ≤ w9.heap.size := by have := bw9.size;omega
        go_wp2_with fail
        refine (append_is HA (.agg cs) (.slice a t.length c) _ w9 (hdM.stays b9) (htM.stays b9) tl9 hqw9 HFI.out.ok (HT.out.below bw9) HBS.out.2.2.1 HBS.out.2.2.2 HBS.out.2.1 (by simp) HSR.out).mono ?_
        rintro e w10 ⟨v10,tv10,rfl,hb10,hd10,ht10⟩
        obtain ⟨c10,rfl,hs10,o10,_,hdn10⟩ := dv_open hd10
        obtain ⟨a10,k10,rfl⟩ := ht10.len
        obtain ⟨U11,hU11⟩ : ∃ Q_ : World,w10.alloc (.cells z6 27) = Q_ := ⟨_,rfl⟩
        have u11 : Bx U11 w10.heap.size z6 27 := hU11 ▸ Bx.new _ _ _
        have bU11 : Below w10.heap.size w10 U11 := hU11 ▸ below1 _ _
        have pU11 := u11.plain (n := 6) rfl
        obtain ⟨U12,hU12⟩ : ∃ Q_ : World,U11.setRow w10.heap.size c10 = Q_ := ⟨_,rfl⟩
        have u12 : Bx U12 w10.heap.size c10 27 := hU12 ▸ u11.put _
        have bU12 : Below w10.heap.size w10 U12 := hU12 ▸ below_setRow bU11 (Nat.le_refl _) _
        have b912 := nx hb10 bU12
        have b12 := nx b9 b912
        have bw12 := nx bwM b12
        clear p0 p6 p7 p8
        obtain ⟨p0,p6,p7,p8⟩ := HF.out U12 b12
        go_wp2_with fail
        refine (lwith_any q t [im] _ _ U12 (htM.stays b12) (tl9.stays b912) (by have := bw12.size;omega) (by have := HBS.out;omega) (by simp) HSR.out).mono ?_
        rintro e w14 ⟨wv,rfl,hb14,hwt⟩
        obtain ⟨a14,k14,rfl⟩ := hwt.len
        have b14 := nx b12 hb14
        clear p0 p6 p7 p8 pU11
        obtain ⟨p0,p6,p7,p8⟩ := HF.out w14 b14
        have T14 := lH ((ht10.stays bU12).stays hb14)
        have HDN := lH hdn10
        have HCD := lH ((hd10.stays bU12).stays hb14)
        clear u11 ht10 hd10 hdn10
        rcases HADD.out with ⟨e1,e2,-⟩ | ⟨e1,e2,e3,e4,e5,e6,e7,e8⟩ | ⟨e1,e2,e3,e4,e5,e6,e7,-⟩
        · as_aux_lemma =>
            have E2 := lH e2
            have HRT : Hid (ra.t = t) := lH (by rw [e2])
            have HRD : Hid (ra.d = d ∧ ra.z = z ∧ ra.g = g) := lH (by rw [e2];exact ⟨rfl,rfl,rfl⟩)
            clear e2
            go_wp2_with fail
            refine (same_is (show Hid (sameL ra.t t = true) from lH (by rw [HRT.out];exact sameL_refl t)) _ _ w14 T14.out (htM.stays b14) (by rw [HRT.out];have := HBS.out;omega) (by have := HBS.out;omega)).mono ?_
            rintro e w15 ⟨rfl,hb15⟩
            have b15 := nx b14 hb15
            have bw15 := nx bwM b15
            clear p0 p6 p7 p8
            have hqX : q ≤ w15.heap.size := by have := bw15.size;omega
            have tl15 := ((tl9.stays b912).stays hb14).stays hb15
            have W15 := lH (hwt.stays hb15)
            have hF20 : ∀ u,Below w15.heap.size w15 u → Rc.part 25 u (.pointer (some ⟨bs,0,none⟩)) = ci im ∧ u.cell? ⟨kb,6,none⟩ = some (.slice a t.length c) := fun u hu => by
              refine ⟨?_,(HF.out u (nx b15 hu)).2.1⟩
              obtain ⟨b_,o_,c_,e_,h_,_⟩ := tl15.get hu (k := 0) (by simp)
              simp only [Value.slice.injEq,Option.some.injEq,Addr.mk.injEq,and_true] at e_
              obtain ⟨⟨rfl,rfl⟩,_⟩ := e_
              rw [Rc.part_at]
              simpa using h_
            go_wp2
            refine Rf.rg [0,1,2,3,4,5,8,6,7,9,10,11] ?_
            repeat (first | (refine Rf.Steps.sk ?_;simp only [Act.put,sA,sB,sC]) | (refine Rf.Steps.pu (v := ?_) ?_ ?_;rotate_left;(intro w_ hS_;have hk_ := hF20 w_ hS_;go_simp <;> with_reducible rfl);simp only [Act.put,sA,sB,sC]))
            refine Rf.Steps.forced (i := 6) (by kernel_rfl) ?_
            refine Rf.One.val (fun v u => ∃ b,v = .slice (some ⟨b,0,none⟩) 1 1 ∧ TI q [im] v u) (fun v _ _ h k => by obtain ⟨b,h1,h2⟩ := h;exact ⟨b,h1,h2.stays k⟩) (by rfl) (by rfl) ?_ ?_
            · intro w_ hS_
              refine ⟨_,_,?_,below1 _ _,w_.heap.size,rfl,TI.one im (by have := hS_.size;omega)⟩
              go_simp
            intro vs2 us2 hvs2
            simp only [Act.put,sA,sB,sC]
            obtain ⟨bs2,rfl,_⟩ := hvs2
            refine Rf.Steps.forced (i := 7) (by kernel_rfl) ?_
            refine Rf.One.call (fun v u => ∃ a9 n9 c9,v = .slice a9 n9 c9 ∧ TI q (puts t [im]) v u) (fun v _ _ h k => by obtain ⟨a9,n9,c9,h1,h2⟩ := h;exact ⟨a9,n9,c9,h1,h2.stays k⟩) (f := ?_) (args := ?_) (by rfl) (by rfl) ?_ ?_ ?_
            rotate_left 2
            · intro w_ hS_;have hk_ := (fun u hu => True.intro) w_ hS_;go_simp <;> first | with_reducible rfl | (constructor <;> with_reducible rfl)
            · intro w_ hS_;have hk_ := (fun u hu => True.intro) w_ hS_;(go_at_call 26;refine (lwith_any q t [im] _ _ w_ (htM.stays (nx b15 hS_.1)) (by obtain ⟨b_,e_,t_⟩ := hS_.2;exact t_) (by have := (hS_.1).size;omega) (by have := HBS.out;omega) (by simp) HSR.out).mono ?_;rintro e w_ ⟨v_,rfl,hb_,ht_⟩;obtain ⟨a_,c_,rfl⟩ := ht_.len;exact ⟨_,rfl,hb_,a_,_,c_,rfl,ht_⟩)
            intro vc u_ hvc
            simp only [Act.put,sA,sB,sC]
            obtain ⟨a9,n9,c9,rfl,_⟩ := hvc
            refine Rf.Steps.forced (i := 9) (by kernel_rfl) ?_
            refine Rf.One.val (fun v u => ∃ b,v = .slice (some ⟨b,0,none⟩) 2 2 ∧ Bx u b #[.slice a9 n9 c9,.slice a14 (puts t [im]).length k14] 29) (fun v _ _ h k => by obtain ⟨b,h1,h2⟩ := h;exact ⟨b,h1,h2.stays k⟩) (by rfl) (by rfl) ?_ ?_
            · intro w_ hS_
              refine ⟨_,_,?_,below1 _ _,w_.heap.size,rfl,Bx.new _ _ _⟩
              go_simp
            intro vs3 us3 hvs3
            simp only [Act.put,sA,sB,sC]
            obtain ⟨bs3,rfl,_⟩ := hvs3
            refine Rf.Steps.forced (i := 10) (by kernel_rfl) ?_
            refine Rf.One.val (fun v u => ∃ b k9,v = .slice (some ⟨b,0,none⟩) 3 k9 ∧ ML q [t,puts t [im],puts t [im]] v u) (fun v _ _ h k => by obtain ⟨b,k9,h1,h2⟩ := h;exact ⟨b,k9,h1,h2.stays k⟩) (by rfl) (by rfl) ?_ ?_
            · intro w_ hS_
              have hX_ : Below w15.heap.size w15 w_ := hS_.1.1.1
              obtain ⟨_,_,_,e3_,ht3_⟩ := hS_.1.2
              obtain ⟨b4_,e4_,hb4_⟩ := hS_.2
              simp only [Value.slice.injEq,Option.some.injEq,Addr.mk.injEq,and_true] at e4_
              subst e4_
              obtain ⟨k_,w'_,hrun_,hbl_,hml_⟩ := app_may (q := q) (u := puts t [im]) (by have := hX_.size;omega) (mM.stays (nx b15 hX_)) hb4_ (htM.stays (nx b15 hX_)) ht3_ (W15.out.stays hX_)
              refine ⟨_,w'_,?_,hbl_,_,k_,rfl,hml_⟩
              go_simp
            intro vs4 us4 hvs4
            simp only [Act.put,sA,sB,sC]
            obtain ⟨mb4,km4,rfl,_⟩ := hvs4
            repeat (first | (refine Rf.Steps.sk ?_;simp only [Act.put,sA,sB,sC]) | (refine Rf.Steps.pu (v := ?_) ?_ ?_;rotate_left;(intro w_ hS_;skip;go_simp <;> with_reducible rfl);simp only [Act.put,sA,sB,sC]))
            refine Rf.Steps.nil (by kernel_rfl) ?_
            intro w20 hS20
            have b1520 : Below w15.heap.size w15 w20 := hS20.1.1.1.1
            have ml20 : ML q [t,puts t [im],puts t [im]] (.slice (some ⟨mb4,0,none⟩) 3 km4) w20 := by obtain ⟨_,_,_,h_⟩ := hS20.2;exact h_
            clear hS20
            have b20 := nx b15 b1520
            have b1420 := nx hb15 b1520
            obtain ⟨E,rfl⟩ : ∃ E : World,E = w20 := ⟨_,rfl⟩
            have bE : Below E.heap.size E E := Below.refl _ _
            have b1420E := nx b1420 bE
            have bE' := nx b20 bE
            have bwE := nx bwM bE'
            have rE := ((u12.stays hb14).stays b1420E).row
            have hxE := hxM.stays bE'
            have pE := hxE.plain (n := 9) (kC_size HSE.out _ _ _)
            have hs9n := kC_size hs10 (.slice a10 ra.t.length k10) ra.z ra.g
            have ho9n := kC_one o10 a10 ra.t.length k10 ra.z ra.g
            obtain ⟨Z,hZ⟩ : ∃ Q_ : World,E.setRow kb (kC c10 (.slice a10 ra.t.length k10) ra.z ra.g) = Q_ := ⟨_,rfl⟩
            have xZ : Bx Z kb (kC c10 (.slice a10 ra.t.length k10) ra.z ra.g) 61 := hZ ▸ hxE.put _
            have bZ : Below w.heap.size w Z := hZ ▸ below_setRow bwE bwk _
            have dZ : DV q ra.d (.agg c10) Z := hZ ▸ dv_row _ (HCD.out.stays b1420E) hxE (by decide) hqk
            have tZ : TI q ra.t (.slice a10 ra.t.length k10) Z := hZ ▸ ti_row _ (T14.out.stays b1420E) hxE (by decide) hqk
            have oZ : Bx Z wo.heap.size #[.int .i64 0,.int .i64 x1,.int .i64 x2] 31 := hZ ▸ (oM.stays bE').put' (by have := hx.lt;omega) _
            have oz0 : Z.cell? ⟨wo.heap.size,0,none⟩ = some (.int .i64 0) := by rw [oZ.cell];rfl
            have pdn : Z.cell? ⟨kb,5,none⟩ = some (.bool false) := by rw [xZ.cell,kC_five hs10,HDN.out,HRD.out.1,HUP.out]
            have HEND := lH (show Below w.heap.size w Z ∧ kb < Z.heap.size ∧ ∃ (d : Ds) (t : List Ins) (z g : Int) (cs : Array Value) (a : Option Addr) (c : Nat),Bx Z kb (kC cs (.slice a t.length c) z g) 61 ∧ DV q d (.agg cs) Z ∧ TI q t (.slice a t.length c) Z ∧ Top 3 d t z g true ∧ Fine d ∧ t.length ≤ 2 * (k + 1) ∧ cs.size = 6 ∧ oneAll (.agg cs) = true from
              ⟨bZ,(xZ).lt,ra.d,ra.t,ra.z,ra.g,c10,a10,k10,xZ,dZ,tZ,by rw [HRT.out,HRD.out.1,HRD.out.2.1,HRD.out.2.2];exact HTOP.out,HFR.out,by rw [HRT.out];have := HTL.out;omega,hs10,o10⟩)
            have hlt9 := HLT.out
            have hm9 := HN50.out
            go_wp2
            go_roundw
            case rel => first | exact ⟨k + 1,by omega,by go_num,HEND.out⟩ | ((repeat apply Exists.intro);exact ⟨⟨k + 1,by omega,by go_num,HEND.out⟩,rfl⟩)
            case measure => simp [intOf];omega
        · as_aux_lemma =>
            have HRT := lH e3
            have HNN := lH e6
            have HE8 := lH e8
            clear e2 e3 e4 e5 e6 e7 e8
            go_wp2_with fail
            refine (same_is (show Hid (sameL ra.t t = true) from lH (by rw [HRT.out];exact sameL_refl t)) _ _ w14 T14.out (htM.stays b14) (by rw [HRT.out];have := HBS.out;omega) (by have := HBS.out;omega)).mono ?_
            rintro e w15 ⟨rfl,hb15⟩
            have b15 := nx b14 hb15
            have bw15 := nx bwM b15
            clear p0 p6 p7 p8
            have hqX : q ≤ w15.heap.size := by have := bw15.size;omega
            have tl15 := ((tl9.stays b912).stays hb14).stays hb15
            have W15 := lH (hwt.stays hb15)
            have hF20 : ∀ u,Below w15.heap.size w15 u → Rc.part 25 u (.pointer (some ⟨bs,0,none⟩)) = ci im ∧ u.cell? ⟨kb,6,none⟩ = some (.slice a t.length c) := fun u hu => by
              refine ⟨?_,(HF.out u (nx b15 hu)).2.1⟩
              obtain ⟨b_,o_,c_,e_,h_,_⟩ := tl15.get hu (k := 0) (by simp)
              simp only [Value.slice.injEq,Option.some.injEq,Addr.mk.injEq,and_true] at e_
              obtain ⟨⟨rfl,rfl⟩,_⟩ := e_
              rw [Rc.part_at]
              simpa using h_
            go_wp2
            refine Rf.rg [0,1,2,3,4,5,8,6,7,9,10,11] ?_
            repeat (first | (refine Rf.Steps.sk ?_;simp only [Act.put,sA,sB,sC]) | (refine Rf.Steps.pu (v := ?_) ?_ ?_;rotate_left;(intro w_ hS_;have hk_ := hF20 w_ hS_;go_simp <;> with_reducible rfl);simp only [Act.put,sA,sB,sC]))
            refine Rf.Steps.forced (i := 6) (by kernel_rfl) ?_
            refine Rf.One.val (fun v u => ∃ b,v = .slice (some ⟨b,0,none⟩) 1 1 ∧ TI q [im] v u) (fun v _ _ h k => by obtain ⟨b,h1,h2⟩ := h;exact ⟨b,h1,h2.stays k⟩) (by rfl) (by rfl) ?_ ?_
            · intro w_ hS_
              refine ⟨_,_,?_,below1 _ _,w_.heap.size,rfl,TI.one im (by have := hS_.size;omega)⟩
              go_simp
            intro vs2 us2 hvs2
            simp only [Act.put,sA,sB,sC]
            obtain ⟨bs2,rfl,_⟩ := hvs2
            refine Rf.Steps.forced (i := 7) (by kernel_rfl) ?_
            refine Rf.One.call (fun v u => ∃ a9 n9 c9,v = .slice a9 n9 c9 ∧ TI q (puts t [im]) v u) (fun v _ _ h k => by obtain ⟨a9,n9,c9,h1,h2⟩ := h;exact ⟨a9,n9,c9,h1,h2.stays k⟩) (f := ?_) (args := ?_) (by rfl) (by rfl) ?_ ?_ ?_
            rotate_left 2
            · intro w_ hS_;have hk_ := (fun u hu => True.intro) w_ hS_;go_simp <;> first | with_reducible rfl | (constructor <;> with_reducible rfl)
            · intro w_ hS_;have hk_ := (fun u hu => True.intro) w_ hS_;(go_at_call 26;refine (lwith_any q t [im] _ _ w_ (htM.stays (nx b15 hS_.1)) (by obtain ⟨b_,e_,t_⟩ := hS_.2;exact t_) (by have := (hS_.1).size;omega) (by have := HBS.out;omega) (by simp) HSR.out).mono ?_;rintro e w_ ⟨v_,rfl,hb_,ht_⟩;obtain ⟨a_,c_,rfl⟩ := ht_.len;exact ⟨_,rfl,hb_,a_,_,c_,rfl,ht_⟩)
            intro vc u_ hvc
            simp only [Act.put,sA,sB,sC]
            obtain ⟨a9,n9,c9,rfl,_⟩ := hvc
            refine Rf.Steps.forced (i := 9) (by kernel_rfl) ?_
            refine Rf.One.val (fun v u => ∃ b,v = .slice (some ⟨b,0,none⟩) 2 2 ∧ Bx u b #[.slice a9 n9 c9,.slice a14 (puts t [im]).length k14] 29) (fun v _ _ h k => by obtain ⟨b,h1,h2⟩ := h;exact ⟨b,h1,h2.stays k⟩) (by rfl) (by rfl) ?_ ?_
            · intro w_ hS_
              refine ⟨_,_,?_,below1 _ _,w_.heap.size,rfl,Bx.new _ _ _⟩
              go_simp
            intro vs3 us3 hvs3
            simp only [Act.put,sA,sB,sC]
            obtain ⟨bs3,rfl,_⟩ := hvs3
            refine Rf.Steps.forced (i := 10) (by kernel_rfl) ?_
            refine Rf.One.val (fun v u => ∃ b k9,v = .slice (some ⟨b,0,none⟩) 3 k9 ∧ ML q [t,puts t [im],puts t [im]] v u) (fun v _ _ h k => by obtain ⟨b,k9,h1,h2⟩ := h;exact ⟨b,k9,h1,h2.stays k⟩) (by rfl) (by rfl) ?_ ?_
            · intro w_ hS_
              have hX_ : Below w15.heap.size w15 w_ := hS_.1.1.1
              obtain ⟨_,_,_,e3_,ht3_⟩ := hS_.1.2
              obtain ⟨b4_,e4_,hb4_⟩ := hS_.2
              simp only [Value.slice.injEq,Option.some.injEq,Addr.mk.injEq,and_true] at e4_
              subst e4_
              obtain ⟨k_,w'_,hrun_,hbl_,hml_⟩ := app_may (q := q) (u := puts t [im]) (by have := hX_.size;omega) (mM.stays (nx b15 hX_)) hb4_ (htM.stays (nx b15 hX_)) ht3_ (W15.out.stays hX_)
              refine ⟨_,w'_,?_,hbl_,_,k_,rfl,hml_⟩
              go_simp
            intro vs4 us4 hvs4
            simp only [Act.put,sA,sB,sC]
            obtain ⟨mb4,km4,rfl,_⟩ := hvs4
            repeat (first | (refine Rf.Steps.sk ?_;simp only [Act.put,sA,sB,sC]) | (refine Rf.Steps.pu (v := ?_) ?_ ?_;rotate_left;(intro w_ hS_;skip;go_simp <;> with_reducible rfl);simp only [Act.put,sA,sB,sC]))
            refine Rf.Steps.nil (by kernel_rfl) ?_
            intro w20 hS20
            have b1520 : Below w15.heap.size w15 w20 := hS20.1.1.1.1
            have ml20 : ML q [t,puts t [im],puts t [im]] (.slice (some ⟨mb4,0,none⟩) 3 km4) w20 := by obtain ⟨_,_,_,h_⟩ := hS20.2;exact h_
            clear hS20
            have b20 := nx b15 b1520
            have b1420 := nx hb15 b1520
            obtain ⟨E,rfl⟩ : ∃ E : World,E = w20 := ⟨_,rfl⟩
            have bE : Below E.heap.size E E := Below.refl _ _
            have b1420E := nx b1420 bE
            have bE' := nx b20 bE
            have bwE := nx bwM bE'
            have rE := ((u12.stays hb14).stays b1420E).row
            have hxE := hxM.stays bE'
            have pE := hxE.plain (n := 9) (kC_size HSE.out _ _ _)
            have hs9n := kC_size hs10 (.slice a10 ra.t.length k10) ra.z ra.g
            have ho9n := kC_one o10 a10 ra.t.length k10 ra.z ra.g
            obtain ⟨Z,hZ⟩ : ∃ Q_ : World,E.setRow kb (kC c10 (.slice a10 ra.t.length k10) ra.z ra.g) = Q_ := ⟨_,rfl⟩
            have xZ : Bx Z kb (kC c10 (.slice a10 ra.t.length k10) ra.z ra.g) 61 := hZ ▸ hxE.put _
            have bZ : Below w.heap.size w Z := hZ ▸ below_setRow bwE bwk _
            have dZ : DV q ra.d (.agg c10) Z := hZ ▸ dv_row _ (HCD.out.stays b1420E) hxE (by decide) hqk
            have tZ : TI q ra.t (.slice a10 ra.t.length k10) Z := hZ ▸ ti_row _ (T14.out.stays b1420E) hxE (by decide) hqk
            have oZ : Bx Z wo.heap.size #[.int .i64 0,.int .i64 x1,.int .i64 x2] 31 := hZ ▸ (oM.stays bE').put' (by have := hx.lt;omega) _
            have oz0 : Z.cell? ⟨wo.heap.size,0,none⟩ = some (.int .i64 0) := by rw [oZ.cell];rfl
            have pdn : Z.cell? ⟨kb,5,none⟩ = some (.bool true) := by rw [xZ.cell,kC_five hs10,HDN.out,HNN.out]
            have mlE := ml20.stays bE
            have mlZ : ML q [t,puts t [im],puts t [im]] (.slice (some ⟨mb4,0,none⟩) 3 km4) Z := hZ ▸ ml_row _ mlE hxE (by decide) (by decide) hqk
            clear oz0
            have HPU := lH (show ∃ (tt : List Ins) (z1 g1 : Int) (w1 : Bool),Top 3 (back ra.d x1 x2) tt z1 g1 w1 ∧ tt.length ≤ 2 * (k + 1) ∧ ∀ f : List Ins → Bool,f tt = true → ([t,puts t [im],puts t [im]]).any f = true from by
              obtain ⟨i,z1,g1,w1,h1,h2,h3⟩ := HE8.out x1 x2
              have hl9 := HLN.out
              have hl8 := HTL.out
              have hi : i = 0 ∨ i = 1 := by simp at h1;omega
              rcases hi with rfl | rfl
              · exact ⟨_,z1,g1,w1,h3,by show t.length ≤ _;omega,fun f hf => by have hf' : f t = true := hf;simp [hf']⟩
              · exact ⟨_,z1,g1,w1,h3,hl9.1,fun f hf => by have hf' : f (puts t [im]) = true := hf;simp [hf']⟩)
            have HFB := lH ((HFR.out).back x1 x2)
            obtain ⟨rr,hrr⟩ : ∃ x,opnP (back ra.d x1 x2) 3 = x := ⟨_,rfl⟩
            have hopn := HFB.out.opn 3
            rw [hrr] at hopn
            have HRR := lH hrr
            have HFQ := lH hopn.1
            have HT9 := lH hopn.2
            have HOUT : Hid (rr.e = 10 ∨ (rr.e = 0 ∧ rr.t.length ≤ 2 * (k + 1) ∧ Top 3 rr.d rr.t rr.z rr.g true ∧ ([t,puts t [im],puts t [im]]).any (fun m => sameL rr.t m) = true)) := by
              obtain ⟨tt,z1,g1,w1,h1,h2,h3⟩ := HPU.out
              have ho := open_out h1 (by decide) HFB.out.f.1 HFB.out.c.2
              rw [hrr] at ho
              rcases ho with ⟨e1,_⟩ | ⟨_,e1,_⟩ | ⟨e1,e2,_,_,_,_,e3⟩
              · exact lH (.inl e1)
              · exact absurd rfl e1
              · exact lH (.inr ⟨e1,by rw [e2];exact h2,by rw [e2];exact e3,h3 _ (by rw [e2];exact sameL_refl _)⟩)
            clear hopn hrr HPU
            have ox0 : Z.cell? ⟨wo.heap.size,0,none⟩ = some (.int .i64 0) := by rw [(oZ).cell];rfl
            have ox1 : Z.cell? ⟨wo.heap.size,1,none⟩ = some (.int .i64 x1) := by rw [(oZ).cell];rfl
            have ox2 : Z.cell? ⟨wo.heap.size,2,none⟩ = some (.int .i64 x2) := by rw [(oZ).cell];rfl
            have pk0 : Rc.part 6 Z (.pointer (some ⟨kb,0,none⟩)) = c10 := by rw [Rc.part_at,(xZ).row];exact kC_ext (hs10) _ _ _
            go_wp2_with fail
            refine (crash_any q ra.d (.agg c10) x1 x2 Z (dZ) (by have := (bZ).size;omega) ((HFR.out).ok.mono (by decide) (by decide))).mono ?_
            rintro e w30 ⟨v30,rfl,hb30,hd30⟩
            clear ox0 ox1 ox2 pk0
            go_wp2_with fail
            refine (start_any q _ v30 w30 hd30).mono ?_
            rintro e w31 ⟨v31,rfl,hb31,hd31⟩
            obtain ⟨c31,rfl,hs31,o31,_,_⟩ := dv_open hd31
            have b31 := nx hb30 hb31
            obtain ⟨U32,hU32⟩ : ∃ Q_ : World,w31.alloc (.cells z6 27) = Q_ := ⟨_,rfl⟩
            have u32 : Bx U32 w31.heap.size z6 27 := hU32 ▸ Bx.new _ _ _
            have bU32 : Below w31.heap.size w31 U32 := hU32 ▸ below1 _ _
            have pU32 := u32.plain (n := 6) rfl
            obtain ⟨U33,hU33⟩ : ∃ Q_ : World,U32.setRow w31.heap.size c31 = Q_ := ⟨_,rfl⟩
            have u33 : Bx U33 w31.heap.size c31 27 := hU33 ▸ u32.put _
            have bU33 : Below w31.heap.size w31 U33 := hU33 ▸ below_setRow bU32 (Nat.le_refl _) _
            have b33 := nx b31 bU33
            have bw33 := nx (bZ) b33
            have r33 := u33.row
            go_wp2_with fail
            refine (open_is HRR (.agg c31) U33 (hd31.stays bU33) (by have := bw33.size;omega) HFB.out.ok (HT.out.below bw33)).mono ?_
            rintro e w34 ⟨v34,tv34,rfl,hb34,hd34,ht34⟩
            obtain ⟨c34,rfl,hs34,o34,_,_⟩ := dv_open hd34
            obtain ⟨a34,k34,rfl⟩ := ht34.len
            have y34 := u33.stays hb34
            have py34 := y34.plain (n := 6) hs31
            have b34 := nx b33 hb34
            have hsz := b31.size
            obtain ⟨V,hV⟩ : ∃ Q_ : World,w34.setRow w31.heap.size c34 = Q_ := ⟨_,rfl⟩
            have yV : Bx V w31.heap.size c34 27 := hV ▸ y34.put _
            have hwW := (bZ).size
            have bV : Below w.heap.size w V := hV ▸ below_setRow (nx (bZ) b34) (by omega) _
            have hq31 : q ≤ w31.heap.size := by omega
            have dV : DV q rr.d (.agg c34) V := hV ▸ dv_row _ hd34 y34 (by decide) hq31
            have tV : TI q rr.t (.slice a34 rr.t.length k34) V := hV ▸ ti_row _ ht34 y34 (by decide) hq31
            have mV : ML q ([t,puts t [im],puts t [im]]) (.slice (some ⟨mb4,0,none⟩) 3 km4) V := hV ▸ ml_row _ ((mlZ).stays b34) y34 (by decide) (by decide) hq31
            have hkW := (xZ).lt
            have xV : Bx V kb _ 61 := hV ▸ ((xZ).stays b34).put' (by omega) _
            have HLR := lH (show rr.t.length ≤ 1000000 by have := HT9.out.len;omega)
            clear r33 pU32 u32 u33 hd31 hd30 hd34 ht34
            go_wp2
            go_loopw [24,178] (fun fv i wr => ∃ j : Nat,j ≤ 3 ∧ i = .int .i64 j ∧ fv = .bool ((([t,puts t [im],puts t [im]]).take j).any fun m => sameL rr.t m) ∧ Below V.heap.size V wr) (fun _ i _ => 3 - (intOf i).toNat)
            case atStart => exact ⟨0,Nat.zero_le _,rfl,rfl,Below.refl _ _⟩
            case round =>
              obtain ⟨j,hj,rfl,rfl,hbj⟩ := hrel
              obtain ⟨wj,rfl⟩ : ∃ wj : World,wj = wr := ⟨_,rfl⟩
              by_cases hjl : j < 3
              · have hjl2 : (j : Int) < 3 := by omega
                have hjm : j < ([t,puts t [im],puts t [im]]).length := hjl
                have hat := any_take (fun m => sameL rr.t m) ([t,puts t [im],puts t [im]]) hjm
                obtain ⟨cj,hcj⟩ : ∃ x : Int,(j : Int) + 1 = x := ⟨_,rfl⟩
                have mj := mV.stays hbj
                rcases mj.cases with ⟨e,_⟩ | ⟨_,bb2,off2,cc2,e,hlm2⟩
                · cases e
                simp only [Value.slice.injEq,Option.some.injEq,Addr.mk.injEq,and_true] at e
                obtain ⟨xe,he1,he2⟩ := atM hlm2 j hjm
                have he1' : wj.cell? ⟨mb4,j,none⟩ = some xe := by
                  obtain ⟨⟨rfl,rfl⟩,_⟩ := e
                  simpa using he1
                obtain ⟨ax,kx,rfl⟩ := he2.len
                obtain ⟨mx,hmx⟩ : ∃ mx,([t,puts t [im],puts t [im]])[j] = mx := ⟨_,rfl⟩
                rw [hmx] at he2 hat he1'
                have hlx : mx.length ≤ 1000000 := by
                  have h9 := HLN.out
                  have h8 := HBS.out
                  have hall : ∀ x ∈ [t,puts t [im],puts t [im]],x.length ≤ 1000000 := fun x hx => by
                    simp only [List.mem_cons,List.not_mem_nil,or_false] at hx
                    rcases hx with rfl | rfl | rfl <;> omega
                  rw [← hmx];exact hall _ (List.getElem_mem hjm)
                have HLX := lH hlx
                clear hlx
                clear he1 hlm2 e mj
                cases hfd : (([t,puts t [im],puts t [im]]).take j).any fun m => sameL rr.t m with
                | true =>
                  rw [hfd] at hat
                  have HAT := lH hat
                  clear hat hfd
                  go_wp2
                  go_roundw
                  case rel => first | exact ⟨j + 1,by omega,by go_num,by rw [HAT.out];rfl,hbj⟩ | ((repeat apply Exists.intro);exact ⟨⟨j + 1,by omega,by go_num,by rw [HAT.out];rfl,hbj⟩,rfl⟩)
                  case measure => simp [intOf];omega
                | false =>
                  rw [hfd,Bool.false_or] at hat
                  have HAT := lH hat
                  clear hat hfd
                  go_wp2_with fail
                  refine (same_any q q rr.t mx _ _ wj (tV.stays hbj) he2 HLR.out HLX.out).mono ?_
                  rintro e wk ⟨rfl,hbk⟩
                  go_wp2
                  go_roundw
                  case rel => first | exact ⟨j + 1,by omega,by go_num,by rw [HAT.out],nx hbj hbk⟩ | ((repeat apply Exists.intro);exact ⟨⟨j + 1,by omega,by go_num,by rw [HAT.out],nx hbj hbk⟩,rfl⟩)
                  case measure => simp [intOf];omega
              · obtain rfl : j = 3 := by omega
                have bwj := nx bV hbj
                rcases HOUT.out with e1 | ⟨e1,e2,e3,e4⟩
                · go_wp2_with fail
                  refine (awake_any wj (HT.out.below bwj)).mono ?_
                  rintro e w40 ⟨rfl,hb40⟩
                  go_wp2
                  go_ret
                  exact ⟨rfl,nx bwj hb40⟩
                · have e4' : ((([t,puts t [im],puts t [im]]).take 3).any fun m => sameL rr.t m) = true := e4
                  rw [e4']
                  have xj := xV.stays hbj
                  have pj := xj.plain (n := 9) (kC_size (hs10) _ _ _)
                  have rj := (yV.stays hbj).row
                  have hs9n := kC_size hs34 (.slice a34 rr.t.length k34) rr.z rr.g
                  have ho9n := kC_one o34 a34 rr.t.length k34 rr.z rr.g
                  obtain ⟨Zj,hZj⟩ : ∃ Q_ : World,wj.setRow kb (kC c34 (.slice a34 rr.t.length k34) rr.z rr.g) = Q_ := ⟨_,rfl⟩
                  have E23 := lH (⟨e2,e3⟩ : rr.t.length ≤ 2 * (k + 1) ∧ Top 3 rr.d rr.t rr.z rr.g true)
                  clear e2 e3 e4 e4'
                  have HEND := lH (show Below w.heap.size w Zj ∧ kb < Zj.heap.size ∧ ∃ (d : Ds) (t : List Ins) (z g : Int) (cs : Array Value) (a : Option Addr) (c : Nat),Bx Zj kb (kC cs (.slice a t.length c) z g) 61 ∧ DV q d (.agg cs) Zj ∧ TI q t (.slice a t.length c) Zj ∧ Top 3 d t z g true ∧ Fine d ∧ t.length ≤ 2 * (k + 1) ∧ cs.size = 6 ∧ oneAll (.agg cs) = true from
                    ⟨hZj ▸ below_setRow bwj bwk _,((hZj ▸ xj.put _ : Bx Zj kb _ _)).lt,rr.d,rr.t,rr.z,rr.g,c34,a34,k34,(hZj ▸ xj.put _ : Bx Zj kb _ _),hZj ▸ dv_row _ (dV.stays hbj) xj (by decide) hqk,hZj ▸ ti_row _ (tV.stays hbj) xj (by decide) hqk,E23.out.2,HFQ.out,E23.out.1,hs34,o34⟩)
                  have hlt9 := HLT.out
                  have hm9 := HN50.out
                  go_wp2
                  go_roundw
                  case rel => first | exact ⟨k + 1,by omega,by go_num,HEND.out⟩ | ((repeat apply Exists.intro);exact ⟨⟨k + 1,by omega,by go_num,HEND.out⟩,rfl⟩)
                  case measure => simp [intOf];omega
        · as_aux_lemma =>
            have HRT := lH e2
            have HE7 := lH e7
            clear e2 e3 e4 e5 e6 e7
            go_wp2_with fail
            refine (same_is (show Hid (sameL ra.t (puts t [im]) = true) from lH (by rw [HRT.out];exact sameL_refl _)) _ _ w14 T14.out hwt (by rw [HRT.out];have := HLN.out;have := HBS.out;omega) (by have := HLN.out;have := HBS.out;omega)).mono ?_
            rintro e w15 ⟨rfl,hb15⟩
            have b15 := nx b14 hb15
            have bw15 := nx bwM b15
            clear p0 p6 p7 p8
            have hqX : q ≤ w15.heap.size := by have := bw15.size;omega
            have tl15 := ((tl9.stays b912).stays hb14).stays hb15
            have W15 := lH (hwt.stays hb15)
            have hF20 : ∀ u,Below w15.heap.size w15 u → Rc.part 25 u (.pointer (some ⟨bs,0,none⟩)) = ci im ∧ u.cell? ⟨kb,6,none⟩ = some (.slice a t.length c) := fun u hu => by
              refine ⟨?_,(HF.out u (nx b15 hu)).2.1⟩
              obtain ⟨b_,o_,c_,e_,h_,_⟩ := tl15.get hu (k := 0) (by simp)
              simp only [Value.slice.injEq,Option.some.injEq,Addr.mk.injEq,and_true] at e_
              obtain ⟨⟨rfl,rfl⟩,_⟩ := e_
              rw [Rc.part_at]
              simpa using h_
            go_wp2
            refine Rf.rg [0,1,2,3,4,5,8,6,7,9,10,11] ?_
            repeat (first | (refine Rf.Steps.sk ?_;simp only [Act.put,sA,sB,sC]) | (refine Rf.Steps.pu (v := ?_) ?_ ?_;rotate_left;(intro w_ hS_;have hk_ := hF20 w_ hS_;go_simp <;> with_reducible rfl);simp only [Act.put,sA,sB,sC]))
            refine Rf.Steps.forced (i := 6) (by kernel_rfl) ?_
            refine Rf.One.val (fun v u => ∃ b,v = .slice (some ⟨b,0,none⟩) 1 1 ∧ TI q [im] v u) (fun v _ _ h k => by obtain ⟨b,h1,h2⟩ := h;exact ⟨b,h1,h2.stays k⟩) (by rfl) (by rfl) ?_ ?_
            · intro w_ hS_
              refine ⟨_,_,?_,below1 _ _,w_.heap.size,rfl,TI.one im (by have := hS_.size;omega)⟩
              go_simp
            intro vs2 us2 hvs2
            simp only [Act.put,sA,sB,sC]
            obtain ⟨bs2,rfl,_⟩ := hvs2
            refine Rf.Steps.forced (i := 7) (by kernel_rfl) ?_
            refine Rf.One.call (fun v u => ∃ a9 n9 c9,v = .slice a9 n9 c9 ∧ TI q (puts t [im]) v u) (fun v _ _ h k => by obtain ⟨a9,n9,c9,h1,h2⟩ := h;exact ⟨a9,n9,c9,h1,h2.stays k⟩) (f := ?_) (args := ?_) (by rfl) (by rfl) ?_ ?_ ?_
            rotate_left 2
            · intro w_ hS_;have hk_ := (fun u hu => True.intro) w_ hS_;go_simp <;> first | with_reducible rfl | (constructor <;> with_reducible rfl)
            · intro w_ hS_;have hk_ := (fun u hu => True.intro) w_ hS_;(go_at_call 26;refine (lwith_any q t [im] _ _ w_ (htM.stays (nx b15 hS_.1)) (by obtain ⟨b_,e_,t_⟩ := hS_.2;exact t_) (by have := (hS_.1).size;omega) (by have := HBS.out;omega) (by simp) HSR.out).mono ?_;rintro e w_ ⟨v_,rfl,hb_,ht_⟩;obtain ⟨a_,c_,rfl⟩ := ht_.len;exact ⟨_,rfl,hb_,a_,_,c_,rfl,ht_⟩)
            intro vc u_ hvc
            simp only [Act.put,sA,sB,sC]
            obtain ⟨a9,n9,c9,rfl,_⟩ := hvc
            refine Rf.Steps.forced (i := 9) (by kernel_rfl) ?_
            refine Rf.One.val (fun v u => ∃ b,v = .slice (some ⟨b,0,none⟩) 2 2 ∧ Bx u b #[.slice a9 n9 c9,.slice a14 (puts t [im]).length k14] 29) (fun v _ _ h k => by obtain ⟨b,h1,h2⟩ := h;exact ⟨b,h1,h2.stays k⟩) (by rfl) (by rfl) ?_ ?_
            · intro w_ hS_
              refine ⟨_,_,?_,below1 _ _,w_.heap.size,rfl,Bx.new _ _ _⟩
              go_simp
            intro vs3 us3 hvs3
            simp only [Act.put,sA,sB,sC]
            obtain ⟨bs3,rfl,_⟩ := hvs3
            refine Rf.Steps.forced (i := 10) (by kernel_rfl) ?_
            refine Rf.One.val (fun v u => ∃ b k9,v = .slice (some ⟨b,0,none⟩) 3 k9 ∧ ML q [t,puts t [im],puts t [im]] v u) (fun v _ _ h k => by obtain ⟨b,k9,h1,h2⟩ := h;exact ⟨b,k9,h1,h2.stays k⟩) (by rfl) (by rfl) ?_ ?_
            · intro w_ hS_
              have hX_ : Below w15.heap.size w15 w_ := hS_.1.1.1
              obtain ⟨_,_,_,e3_,ht3_⟩ := hS_.1.2
              obtain ⟨b4_,e4_,hb4_⟩ := hS_.2
              simp only [Value.slice.injEq,Option.some.injEq,Addr.mk.injEq,and_true] at e4_
              subst e4_
              obtain ⟨k_,w'_,hrun_,hbl_,hml_⟩ := app_may (q := q) (u := puts t [im]) (by have := hX_.size;omega) (mM.stays (nx b15 hX_)) hb4_ (htM.stays (nx b15 hX_)) ht3_ (W15.out.stays hX_)
              refine ⟨_,w'_,?_,hbl_,_,k_,rfl,hml_⟩
              go_simp
            intro vs4 us4 hvs4
            simp only [Act.put,sA,sB,sC]
            obtain ⟨mb4,km4,rfl,_⟩ := hvs4
            repeat (first | (refine Rf.Steps.sk ?_;simp only [Act.put,sA,sB,sC]) | (refine Rf.Steps.pu (v := ?_) ?_ ?_;rotate_left;(intro w_ hS_;skip;go_simp <;> with_reducible rfl);simp only [Act.put,sA,sB,sC]))
            refine Rf.Steps.nil (by kernel_rfl) ?_
            intro w20 hS20
            have b1520 : Below w15.heap.size w15 w20 := hS20.1.1.1.1
            have ml20 : ML q [t,puts t [im],puts t [im]] (.slice (some ⟨mb4,0,none⟩) 3 km4) w20 := by obtain ⟨_,_,_,h_⟩ := hS20.2;exact h_
            clear hS20
            have b20 := nx b15 b1520
            have b1420 := nx hb15 b1520
            obtain ⟨E,hE⟩ : ∃ Q_ : World,w20.alloc (.cells #[.slice a14 (puts t [im]).length k14] 29) = Q_ := ⟨_,rfl⟩
            have bE : Below w20.heap.size w20 E := hE ▸ below1 _ _
            have b1420E := nx b1420 bE
            have bE' := nx b20 bE
            have bwE := nx bwM bE'
            have rE := ((u12.stays hb14).stays b1420E).row
            have hxE := hxM.stays bE'
            have pE := hxE.plain (n := 9) (kC_size HSE.out _ _ _)
            have hs9n := kC_size hs10 (.slice a10 ra.t.length k10) ra.z ra.g
            have ho9n := kC_one o10 a10 ra.t.length k10 ra.z ra.g
            obtain ⟨Z,hZ⟩ : ∃ Q_ : World,E.setRow kb (kC c10 (.slice a10 ra.t.length k10) ra.z ra.g) = Q_ := ⟨_,rfl⟩
            have xZ : Bx Z kb (kC c10 (.slice a10 ra.t.length k10) ra.z ra.g) 61 := hZ ▸ hxE.put _
            have bZ : Below w.heap.size w Z := hZ ▸ below_setRow bwE bwk _
            have dZ : DV q ra.d (.agg c10) Z := hZ ▸ dv_row _ (HCD.out.stays b1420E) hxE (by decide) hqk
            have tZ : TI q ra.t (.slice a10 ra.t.length k10) Z := hZ ▸ ti_row _ (T14.out.stays b1420E) hxE (by decide) hqk
            have oZ : Bx Z wo.heap.size #[.int .i64 0,.int .i64 x1,.int .i64 x2] 31 := hZ ▸ (oM.stays bE').put' (by have := hx.lt;omega) _
            have oz0 : Z.cell? ⟨wo.heap.size,0,none⟩ = some (.int .i64 0) := by rw [oZ.cell];rfl
            have pdn : Z.cell? ⟨kb,5,none⟩ = some (.bool false) := by rw [xZ.cell,kC_five hs10,HDN.out,HE7.out.up]
            have HEND := lH (show Below w.heap.size w Z ∧ kb < Z.heap.size ∧ ∃ (d : Ds) (t : List Ins) (z g : Int) (cs : Array Value) (a : Option Addr) (c : Nat),Bx Z kb (kC cs (.slice a t.length c) z g) 61 ∧ DV q d (.agg cs) Z ∧ TI q t (.slice a t.length c) Z ∧ Top 3 d t z g true ∧ Fine d ∧ t.length ≤ 2 * (k + 1) ∧ cs.size = 6 ∧ oneAll (.agg cs) = true from
              ⟨bZ,(xZ).lt,ra.d,ra.t,ra.z,ra.g,c10,a10,k10,xZ,dZ,tZ,by rw [HRT.out];exact HE7.out,HFR.out,by rw [HRT.out];exact HLN.out.2,hs10,o10⟩)
            have hlt9 := HLT.out
            have hm9 := HN50.out
            go_wp2
            go_roundw
            case rel => first | exact ⟨k + 1,by omega,by go_num,HEND.out⟩ | ((repeat apply Exists.intro);exact ⟨⟨k + 1,by omega,by go_num,HEND.out⟩,rfl⟩)
            case measure => simp [intOf];omega
    by_cases hK1 : x0 = 1
    · as_aux_lemma =>
        subst hK1
        obtain ⟨im,him⟩ : ∃ im,oneP ma mb = im := ⟨_,rfl⟩
        obtain ⟨im2,him2⟩ : ∃ im,oneP (ma + 1) mb = im := ⟨_,rfl⟩
        have hmm := HMA.out
        have honeA : ∀ u,Calls Tryz.prog 10 #[.int .i64 ma,.int .i64 mb] u fun e w' => e = .returned (.agg (ci im)) ∧ Below u.heap.size u w' := fun u => by
          have h := one_any ma mb (by omega) (by omega) u
          rwa [him] at h
        have honeB : ∀ u,Calls Tryz.prog 10 #[.int .i64 (ma + 1),.int .i64 mb] u fun e w' => e = .returned (.agg (ci im2)) ∧ Below u.heap.size u w' := fun u => by
          have h := one_any (ma + 1) mb (by omega) (by omega) u
          rwa [him2] at h
        have ok1 : okI im 3 = true := by rw [← him];exact one_ok hmm.1.1 hmm.2.1
        have ok2 : okI im2 3 = true := by rw [← him2];exact one_ok (by omega) hmm.2.1
        have cn1 : cn im = im := by rw [← him];exact one_cn ma mb
        have cn2 : cn im2 = im2 := by rw [← him2];exact one_cn (ma + 1) mb
        have hl1 : okT [im,im2] 3 = true := by
          rw [okT_iff];intro i hi;simp at hi
          rcases hi with rfl | rfl
          · exact ok1
          · exact ok2
        have hl2 : CN [im,im2] := fun i hi => by
          simp at hi
          rcases hi with rfl | rfl
          · exact cn1
          · exact cn2
        obtain ⟨ra,hra⟩ : ∃ x,addP d t z g 3 [im,im2] = x := ⟨_,rfl⟩
        have hfr := HFI.out.add t z g 3 [im,im2]
        have hadd := add_out (n := 3) (d := d) (t := t) (l := [im,im2]) (z := z) (g := g) HTOP.out HFI.out.f.1 HFI.out.c.2 (by simp) (by simp) hl1 hl2
        rw [hra] at hfr hadd
        have HA := lH hra
        have HFR := lH hfr
        have HADD := lH hadd
        have HSR := lH HTOP.out.tbl.1
        have HLN := lH (show (puts t [im]).length ≤ 2 * (k + 1) ∧ (puts t [im,im2]).length ≤ 2 * (k + 1) by
          have h1 := puts_len t [im]
          have h2 := puts_len t [im,im2]
          have := HTL.out
          simp at h1 h2
          omega)
        clear hra hfr hadd him him2 hmm ok1 ok2 cn1 cn2 hl1 hl2
        obtain ⟨U1,hU1⟩ : ∃ Q_ : World,U0.setRow wo.heap.size #[.int .i64 1,.int .i64 x1,.int .i64 x2] = Q_ := ⟨_,rfl⟩
        have u1 : Bx U1 wo.heap.size #[.int .i64 1,.int .i64 x1,.int .i64 x2] 31 := hU1 ▸ u0.put _
        have bU1 : Below wo.heap.size wo U1 := hU1 ▸ below_setRow bU0 (Nat.le_refl _) _
        have s0 : U1.cell? ⟨wo.heap.size,0,none⟩ = some (.int .i64 1) := by rw [u1.cell];rfl
        have s1 : U1.cell? ⟨wo.heap.size,1,none⟩ = some (.int .i64 x1) := by rw [u1.cell];rfl
        have s2 : U1.cell? ⟨wo.heap.size,2,none⟩ = some (.int .i64 x2) := by rw [u1.cell];rfl
        have hkc := kC_at HSE.out (.slice a t.length c) z g
        have hxU := hx.stays bU1
        have pU : U1.cell? ⟨kb,6,none⟩ = some (.slice a t.length c) := by rw [hxU.cell];exact hkc.1
        obtain ⟨M,hM⟩ : ∃ Q_ : World,U1.alloc (.cells #[.slice a t.length c] 29) = Q_ := ⟨_,rfl⟩
        have bM : Below U1.heap.size U1 M := hM ▸ below1 _ _
        have mM : Bx M U1.heap.size #[.slice a t.length c] 29 := hM ▸ Bx.new _ _ _
        have bwU := nx hb bU1
        have hqU : q ≤ U1.heap.size := by have := bwU.size;omega
        have mlM : ML q [t] (.slice (some ⟨U1.heap.size,0,none⟩) 1 1) M := hM ▸ ml_one (hti.stays bU1) hqU
        have bwM := nx bwU bM
        have boM := nx bU1 bM
        have hxM := hx.stays boM
        have hdM := hdv.stays boM
        have htM := hti.stays boM
        have oM := u1.stays bM
        have o0 : M.cell? ⟨wo.heap.size,0,none⟩ = some (.int .i64 1) := by rw [oM.cell];rfl
        have HF := lH (show ∀ u,Below M.heap.size M u → Rc.part 6 u (.pointer (some ⟨kb,0,none⟩)) = cs ∧ u.cell? ⟨kb,6,none⟩ = some (.slice a t.length c) ∧ u.cell? ⟨kb,7,none⟩ = some (.int .i64 z) ∧ u.cell? ⟨kb,8,none⟩ = some (.int .i64 g) from fun u hu => by
          have h := hxM.stays hu
          refine ⟨by rw [Rc.part_at,h.row];exact kC_ext HSE.out _ _ _,?_,?_,?_⟩
          · rw [h.cell];exact hkc.1
          · rw [h.cell];exact hkc.2.1
          · rw [h.cell];exact hkc.2.2)
        clear hkc u0
        have hF15 : ∀ u,Below M.heap.size M u → u.cell? ⟨wo.heap.size,0,none⟩ = some (.int .i64 1) := fun u hu => by rw [(oM.stays hu).cell];rfl
        go_wp2
        refine Rf.rg [0,1,2,3,4,5,6,8,9,10,7,11,12] ?_
        repeat (first | (refine Rf.Steps.sk ?_;simp only [Act.put,sA,sB,sC]) | (refine Rf.Steps.pu (v := ?_) ?_ ?_;rotate_left;(intro w_ hS_;have hk_ := hF15 w_ hS_;go_simp <;> with_reducible rfl);simp only [Act.put,sA,sB,sC]) | (refine Rf.Steps.ca (v := ?_) (f := ?_) (args := ?_) ?_ ?_ ?_;rotate_left 3;(intro w_ hS_;have hk_ := hF15 w_ hS_;go_simp <;> first | with_reducible rfl | (constructor <;> with_reducible rfl));(intro w_ hS_;have hk_ := hF15 w_ hS_;first | (go_at_call 10;(first | with_reducible refine (honeA _).mono ?_ | with_reducible refine (honeB _).mono ?_);first | (rintro e w_ ⟨rfl,rfl⟩;refine ⟨?_,Below.refl _ _⟩;with_reducible rfl) | (rintro e w_ ⟨rfl,hb_⟩;refine ⟨?_,hb_⟩;with_reducible rfl)));simp only [Act.put,sA,sB,sC]))
        have hw1 : IntKind.i64.wrap (1 : Int) = 1 := by decide
        have hw2 : IntKind.i64.wrap (2 : Int) = 2 := by decide
        refine Rf.Steps.forced (i := 7) (by kernel_rfl) ?_
        refine Rf.One.val (fun v u => ∃ b,v = .slice (some ⟨b,0,none⟩) 2 2 ∧ TI q [im,im2] v u) (fun v _ _ h k => by obtain ⟨b,h1,h2⟩ := h;exact ⟨b,h1,h2.stays k⟩) (by rfl) (by rfl) ?_ ?_
        · intro w_ hS_
          refine ⟨_,_,?_,below1 _ _,w_.heap.size,rfl,TI.two im im2 (by have := bwM.size;have := hS_.size;omega)⟩
          go_simp
        intro vs us hvs
        simp only [Act.put,sA,sB,sC]
        obtain ⟨bs,rfl,_⟩ := hvs
        repeat (first | (refine Rf.Steps.sk ?_;simp only [Act.put,sA,sB,sC]) | (refine Rf.Steps.pu (v := ?_) ?_ ?_;rotate_left;(intro w_ hS_;skip;go_simp <;> with_reducible rfl);simp only [Act.put,sA,sB,sC]))
        refine Rf.Steps.nil (by kernel_rfl) ?_
        intro w9 hS9
        have b9 : Below M.heap.size M w9 := hS9.1
        have tl9 : TI q [im,im2] (.slice (some ⟨bs,0,none⟩) 2 2) w9 := by obtain ⟨b_,e_,h_⟩ := hS9.2;exact h_
        clear hS9
        have bw9 := nx bwM b9
        clear s0 s1 s2 pU pU0 o0
        obtain ⟨p0,p6,p7,p8⟩ := HF.out w9 b9
        have hqw9 : q ≤ w9.heap.size := by have := bw9.size;omega
        go_wp2_with fail
        refine (append_is HA (.agg cs) (.slice a t.length c) _ w9 (hdM.stays b9) (htM.stays b9) tl9 hqw9 HFI.out.ok (HT.out.below bw9) HBS.out.2.2.1 HBS.out.2.2.2 HBS.out.2.1 (by simp) HSR.out).mono ?_
        rintro e w10 ⟨v10,tv10,rfl,hb10,hd10,ht10⟩
        obtain ⟨c10,rfl,hs10,o10,_,hdn10⟩ := dv_open hd10
        obtain ⟨a10,k10,rfl⟩ := ht10.len
        obtain ⟨U11,hU11⟩ : ∃ Q_ : World,w10.alloc (.cells z6 27) = Q_ := ⟨_,rfl⟩
        have u11 : Bx U11 w10.heap.size z6 27 := hU11 ▸ Bx.new _ _ _
        have bU11 : Below w10.heap.size w10 U11 := hU11 ▸ below1 _ _
        have pU11 := u11.plain (n := 6) rfl
        obtain ⟨U12,hU12⟩ : ∃ Q_ : World,U11.setRow w10.heap.size c10 = Q_ := ⟨_,rfl⟩
        have u12 : Bx U12 w10.heap.size c10 27 := hU12 ▸ u11.put _
        have bU12 : Below w10.heap.size w10 U12 := hU12 ▸ below_setRow bU11 (Nat.le_refl _) _
        have b912 := nx hb10 bU12
        have b12 := nx b9 b912
        have bw12 := nx bwM b12
        clear p0 p6 p7 p8
        obtain ⟨p0,p6,p7,p8⟩ := HF.out U12 b12
        go_wp2_with fail
        refine (lwith_any q t [im,im2] _ _ U12 (htM.stays b12) (tl9.stays b912) (by have := bw12.size;omega) (by have := HBS.out;omega) (by simp) HSR.out).mono ?_
        rintro e w14 ⟨wv,rfl,hb14,hwt⟩
        obtain ⟨a14,k14,rfl⟩ := hwt.len
        have b14 := nx b12 hb14
        clear p0 p6 p7 p8 pU11
        obtain ⟨p0,p6,p7,p8⟩ := HF.out w14 b14
        have T14 := lH ((ht10.stays bU12).stays hb14)
        have HDN := lH hdn10
        have HCD := lH ((hd10.stays bU12).stays hb14)
        clear u11 ht10 hd10 hdn10
        rcases HADD.out with ⟨e1,e2,-⟩ | ⟨e1,e2,e3,e4,e5,e6,e7,e8⟩ | ⟨e1,e2,e3,e4,e5,e6,e7,-⟩
        · as_aux_lemma =>
            have E2 := lH e2
            have HRT : Hid (ra.t = t) := lH (by rw [e2])
            have HRD : Hid (ra.d = d ∧ ra.z = z ∧ ra.g = g) := lH (by rw [e2];exact ⟨rfl,rfl,rfl⟩)
            clear e2
            go_wp2_with fail
            refine (same_is (show Hid (sameL ra.t t = true) from lH (by rw [HRT.out];exact sameL_refl t)) _ _ w14 T14.out (htM.stays b14) (by rw [HRT.out];have := HBS.out;omega) (by have := HBS.out;omega)).mono ?_
            rintro e w15 ⟨rfl,hb15⟩
            have b15 := nx b14 hb15
            have bw15 := nx bwM b15
            clear p0 p6 p7 p8
            have hqX : q ≤ w15.heap.size := by have := bw15.size;omega
            have tl15 := ((tl9.stays b912).stays hb14).stays hb15
            have W15 := lH (hwt.stays hb15)
            have hF20 : ∀ u,Below w15.heap.size w15 u → Rc.part 25 u (.pointer (some ⟨bs,0,none⟩)) = ci im ∧ u.cell? ⟨kb,6,none⟩ = some (.slice a t.length c) := fun u hu => by
              refine ⟨?_,(HF.out u (nx b15 hu)).2.1⟩
              obtain ⟨b_,o_,c_,e_,h_,_⟩ := tl15.get hu (k := 0) (by simp)
              simp only [Value.slice.injEq,Option.some.injEq,Addr.mk.injEq,and_true] at e_
              obtain ⟨⟨rfl,rfl⟩,_⟩ := e_
              rw [Rc.part_at]
              simpa using h_
            go_wp2
            refine Rf.rg [0,1,2,3,4,5,8,6,7,9,10,11] ?_
            repeat (first | (refine Rf.Steps.sk ?_;simp only [Act.put,sA,sB,sC]) | (refine Rf.Steps.pu (v := ?_) ?_ ?_;rotate_left;(intro w_ hS_;have hk_ := hF20 w_ hS_;go_simp <;> with_reducible rfl);simp only [Act.put,sA,sB,sC]))
            refine Rf.Steps.forced (i := 6) (by kernel_rfl) ?_
            refine Rf.One.val (fun v u => ∃ b,v = .slice (some ⟨b,0,none⟩) 1 1 ∧ TI q [im] v u) (fun v _ _ h k => by obtain ⟨b,h1,h2⟩ := h;exact ⟨b,h1,h2.stays k⟩) (by rfl) (by rfl) ?_ ?_
            · intro w_ hS_
              refine ⟨_,_,?_,below1 _ _,w_.heap.size,rfl,TI.one im (by have := hS_.size;omega)⟩
              go_simp
            intro vs2 us2 hvs2
            simp only [Act.put,sA,sB,sC]
            obtain ⟨bs2,rfl,_⟩ := hvs2
            refine Rf.Steps.forced (i := 7) (by kernel_rfl) ?_
            refine Rf.One.call (fun v u => ∃ a9 n9 c9,v = .slice a9 n9 c9 ∧ TI q (puts t [im]) v u) (fun v _ _ h k => by obtain ⟨a9,n9,c9,h1,h2⟩ := h;exact ⟨a9,n9,c9,h1,h2.stays k⟩) (f := ?_) (args := ?_) (by rfl) (by rfl) ?_ ?_ ?_
            rotate_left 2
            · intro w_ hS_;have hk_ := (fun u hu => True.intro) w_ hS_;go_simp <;> first | with_reducible rfl | (constructor <;> with_reducible rfl)
            · intro w_ hS_;have hk_ := (fun u hu => True.intro) w_ hS_;(go_at_call 26;refine (lwith_any q t [im] _ _ w_ (htM.stays (nx b15 hS_.1)) (by obtain ⟨b_,e_,t_⟩ := hS_.2;exact t_) (by have := (hS_.1).size;omega) (by have := HBS.out;omega) (by simp) HSR.out).mono ?_;rintro e w_ ⟨v_,rfl,hb_,ht_⟩;obtain ⟨a_,c_,rfl⟩ := ht_.len;exact ⟨_,rfl,hb_,a_,_,c_,rfl,ht_⟩)
            intro vc u_ hvc
            simp only [Act.put,sA,sB,sC]
            obtain ⟨a9,n9,c9,rfl,_⟩ := hvc
            refine Rf.Steps.forced (i := 9) (by kernel_rfl) ?_
            refine Rf.One.val (fun v u => ∃ b,v = .slice (some ⟨b,0,none⟩) 2 2 ∧ Bx u b #[.slice a9 n9 c9,.slice a14 (puts t [im,im2]).length k14] 29) (fun v _ _ h k => by obtain ⟨b,h1,h2⟩ := h;exact ⟨b,h1,h2.stays k⟩) (by rfl) (by rfl) ?_ ?_
            · intro w_ hS_
              refine ⟨_,_,?_,below1 _ _,w_.heap.size,rfl,Bx.new _ _ _⟩
              go_simp
            intro vs3 us3 hvs3
            simp only [Act.put,sA,sB,sC]
            obtain ⟨bs3,rfl,_⟩ := hvs3
            refine Rf.Steps.forced (i := 10) (by kernel_rfl) ?_
            refine Rf.One.val (fun v u => ∃ b k9,v = .slice (some ⟨b,0,none⟩) 3 k9 ∧ ML q [t,puts t [im],puts t [im,im2]] v u) (fun v _ _ h k => by obtain ⟨b,k9,h1,h2⟩ := h;exact ⟨b,k9,h1,h2.stays k⟩) (by rfl) (by rfl) ?_ ?_
            · intro w_ hS_
              have hX_ : Below w15.heap.size w15 w_ := hS_.1.1.1
              obtain ⟨_,_,_,e3_,ht3_⟩ := hS_.1.2
              obtain ⟨b4_,e4_,hb4_⟩ := hS_.2
              simp only [Value.slice.injEq,Option.some.injEq,Addr.mk.injEq,and_true] at e4_
              subst e4_
              obtain ⟨k_,w'_,hrun_,hbl_,hml_⟩ := app_may (q := q) (u := puts t [im]) (by have := hX_.size;omega) (mM.stays (nx b15 hX_)) hb4_ (htM.stays (nx b15 hX_)) ht3_ (W15.out.stays hX_)
              refine ⟨_,w'_,?_,hbl_,_,k_,rfl,hml_⟩
              go_simp
            intro vs4 us4 hvs4
            simp only [Act.put,sA,sB,sC]
            obtain ⟨mb4,km4,rfl,_⟩ := hvs4
            repeat (first | (refine Rf.Steps.sk ?_;simp only [Act.put,sA,sB,sC]) | (refine Rf.Steps.pu (v := ?_) ?_ ?_;rotate_left;(intro w_ hS_;skip;go_simp <;> with_reducible rfl);simp only [Act.put,sA,sB,sC]))
            refine Rf.Steps.nil (by kernel_rfl) ?_
            intro w20 hS20
            have b1520 : Below w15.heap.size w15 w20 := hS20.1.1.1.1
            have ml20 : ML q [t,puts t [im],puts t [im,im2]] (.slice (some ⟨mb4,0,none⟩) 3 km4) w20 := by obtain ⟨_,_,_,h_⟩ := hS20.2;exact h_
            clear hS20
            have b20 := nx b15 b1520
            have b1420 := nx hb15 b1520
            obtain ⟨E,rfl⟩ : ∃ E : World,E = w20 := ⟨_,rfl⟩
            have bE : Below E.heap.size E E := Below.refl _ _
            have b1420E := nx b1420 bE
            have bE' := nx b20 bE
            have bwE := nx bwM bE'
            have rE := ((u12.stays hb14).stays b1420E).row
            have hxE := hxM.stays bE'
            have pE := hxE.plain (n := 9) (kC_size HSE.out _ _ _)
            have hs9n := kC_size hs10 (.slice a10 ra.t.length k10) ra.z ra.g
            have ho9n := kC_one o10 a10 ra.t.length k10 ra.z ra.g
            obtain ⟨Z,hZ⟩ : ∃ Q_ : World,E.setRow kb (kC c10 (.slice a10 ra.t.length k10) ra.z ra.g) = Q_ := ⟨_,rfl⟩
            have xZ : Bx Z kb (kC c10 (.slice a10 ra.t.length k10) ra.z ra.g) 61 := hZ ▸ hxE.put _
            have bZ : Below w.heap.size w Z := hZ ▸ below_setRow bwE bwk _
            have dZ : DV q ra.d (.agg c10) Z := hZ ▸ dv_row _ (HCD.out.stays b1420E) hxE (by decide) hqk
            have tZ : TI q ra.t (.slice a10 ra.t.length k10) Z := hZ ▸ ti_row _ (T14.out.stays b1420E) hxE (by decide) hqk
            have oZ : Bx Z wo.heap.size #[.int .i64 1,.int .i64 x1,.int .i64 x2] 31 := hZ ▸ (oM.stays bE').put' (by have := hx.lt;omega) _
            have oz0 : Z.cell? ⟨wo.heap.size,0,none⟩ = some (.int .i64 1) := by rw [oZ.cell];rfl
            have pdn : Z.cell? ⟨kb,5,none⟩ = some (.bool false) := by rw [xZ.cell,kC_five hs10,HDN.out,HRD.out.1,HUP.out]
            have HEND := lH (show Below w.heap.size w Z ∧ kb < Z.heap.size ∧ ∃ (d : Ds) (t : List Ins) (z g : Int) (cs : Array Value) (a : Option Addr) (c : Nat),Bx Z kb (kC cs (.slice a t.length c) z g) 61 ∧ DV q d (.agg cs) Z ∧ TI q t (.slice a t.length c) Z ∧ Top 3 d t z g true ∧ Fine d ∧ t.length ≤ 2 * (k + 1) ∧ cs.size = 6 ∧ oneAll (.agg cs) = true from
              ⟨bZ,(xZ).lt,ra.d,ra.t,ra.z,ra.g,c10,a10,k10,xZ,dZ,tZ,by rw [HRT.out,HRD.out.1,HRD.out.2.1,HRD.out.2.2];exact HTOP.out,HFR.out,by rw [HRT.out];have := HTL.out;omega,hs10,o10⟩)
            have hlt9 := HLT.out
            have hm9 := HN50.out
            go_wp2
            go_roundw
            case rel => first | exact ⟨k + 1,by omega,by go_num,HEND.out⟩ | ((repeat apply Exists.intro);exact ⟨⟨k + 1,by omega,by go_num,HEND.out⟩,rfl⟩)
            case measure => simp [intOf];omega
        · as_aux_lemma =>
            have HRT := lH e3
            have HNN := lH e6
            have HE8 := lH e8
            clear e2 e3 e4 e5 e6 e7 e8
            go_wp2_with fail
            refine (same_is (show Hid (sameL ra.t t = true) from lH (by rw [HRT.out];exact sameL_refl t)) _ _ w14 T14.out (htM.stays b14) (by rw [HRT.out];have := HBS.out;omega) (by have := HBS.out;omega)).mono ?_
            rintro e w15 ⟨rfl,hb15⟩
            have b15 := nx b14 hb15
            have bw15 := nx bwM b15
            clear p0 p6 p7 p8
            have hqX : q ≤ w15.heap.size := by have := bw15.size;omega
            have tl15 := ((tl9.stays b912).stays hb14).stays hb15
            have W15 := lH (hwt.stays hb15)
            have hF20 : ∀ u,Below w15.heap.size w15 u → Rc.part 25 u (.pointer (some ⟨bs,0,none⟩)) = ci im ∧ u.cell? ⟨kb,6,none⟩ = some (.slice a t.length c) := fun u hu => by
              refine ⟨?_,(HF.out u (nx b15 hu)).2.1⟩
              obtain ⟨b_,o_,c_,e_,h_,_⟩ := tl15.get hu (k := 0) (by simp)
              simp only [Value.slice.injEq,Option.some.injEq,Addr.mk.injEq,and_true] at e_
              obtain ⟨⟨rfl,rfl⟩,_⟩ := e_
              rw [Rc.part_at]
              simpa using h_
            go_wp2
            refine Rf.rg [0,1,2,3,4,5,8,6,7,9,10,11] ?_
            repeat (first | (refine Rf.Steps.sk ?_;simp only [Act.put,sA,sB,sC]) | (refine Rf.Steps.pu (v := ?_) ?_ ?_;rotate_left;(intro w_ hS_;have hk_ := hF20 w_ hS_;go_simp <;> with_reducible rfl);simp only [Act.put,sA,sB,sC]))
            refine Rf.Steps.forced (i := 6) (by kernel_rfl) ?_
            refine Rf.One.val (fun v u => ∃ b,v = .slice (some ⟨b,0,none⟩) 1 1 ∧ TI q [im] v u) (fun v _ _ h k => by obtain ⟨b,h1,h2⟩ := h;exact ⟨b,h1,h2.stays k⟩) (by rfl) (by rfl) ?_ ?_
            · intro w_ hS_
              refine ⟨_,_,?_,below1 _ _,w_.heap.size,rfl,TI.one im (by have := hS_.size;omega)⟩
              go_simp
            intro vs2 us2 hvs2
            simp only [Act.put,sA,sB,sC]
            obtain ⟨bs2,rfl,_⟩ := hvs2
            refine Rf.Steps.forced (i := 7) (by kernel_rfl) ?_
            refine Rf.One.call (fun v u => ∃ a9 n9 c9,v = .slice a9 n9 c9 ∧ TI q (puts t [im]) v u) (fun v _ _ h k => by obtain ⟨a9,n9,c9,h1,h2⟩ := h;exact ⟨a9,n9,c9,h1,h2.stays k⟩) (f := ?_) (args := ?_) (by rfl) (by rfl) ?_ ?_ ?_
            rotate_left 2
            · intro w_ hS_;have hk_ := (fun u hu => True.intro) w_ hS_;go_simp <;> first | with_reducible rfl | (constructor <;> with_reducible rfl)
            · intro w_ hS_;have hk_ := (fun u hu => True.intro) w_ hS_;(go_at_call 26;refine (lwith_any q t [im] _ _ w_ (htM.stays (nx b15 hS_.1)) (by obtain ⟨b_,e_,t_⟩ := hS_.2;exact t_) (by have := (hS_.1).size;omega) (by have := HBS.out;omega) (by simp) HSR.out).mono ?_;rintro e w_ ⟨v_,rfl,hb_,ht_⟩;obtain ⟨a_,c_,rfl⟩ := ht_.len;exact ⟨_,rfl,hb_,a_,_,c_,rfl,ht_⟩)
            intro vc u_ hvc
            simp only [Act.put,sA,sB,sC]
            obtain ⟨a9,n9,c9,rfl,_⟩ := hvc
            refine Rf.Steps.forced (i := 9) (by kernel_rfl) ?_
            refine Rf.One.val (fun v u => ∃ b,v = .slice (some ⟨b,0,none⟩) 2 2 ∧ Bx u b #[.slice a9 n9 c9,.slice a14 (puts t [im,im2]).length k14] 29) (fun v _ _ h k => by obtain ⟨b,h1,h2⟩ := h;exact ⟨b,h1,h2.stays k⟩) (by rfl) (by rfl) ?_ ?_
            · intro w_ hS_
              refine ⟨_,_,?_,below1 _ _,w_.heap.size,rfl,Bx.new _ _ _⟩
              go_simp
            intro vs3 us3 hvs3
            simp only [Act.put,sA,sB,sC]
            obtain ⟨bs3,rfl,_⟩ := hvs3
            refine Rf.Steps.forced (i := 10) (by kernel_rfl) ?_
            refine Rf.One.val (fun v u => ∃ b k9,v = .slice (some ⟨b,0,none⟩) 3 k9 ∧ ML q [t,puts t [im],puts t [im,im2]] v u) (fun v _ _ h k => by obtain ⟨b,k9,h1,h2⟩ := h;exact ⟨b,k9,h1,h2.stays k⟩) (by rfl) (by rfl) ?_ ?_
            · intro w_ hS_
              have hX_ : Below w15.heap.size w15 w_ := hS_.1.1.1
              obtain ⟨_,_,_,e3_,ht3_⟩ := hS_.1.2
              obtain ⟨b4_,e4_,hb4_⟩ := hS_.2
              simp only [Value.slice.injEq,Option.some.injEq,Addr.mk.injEq,and_true] at e4_
              subst e4_
              obtain ⟨k_,w'_,hrun_,hbl_,hml_⟩ := app_may (q := q) (u := puts t [im]) (by have := hX_.size;omega) (mM.stays (nx b15 hX_)) hb4_ (htM.stays (nx b15 hX_)) ht3_ (W15.out.stays hX_)
              refine ⟨_,w'_,?_,hbl_,_,k_,rfl,hml_⟩
              go_simp
            intro vs4 us4 hvs4
            simp only [Act.put,sA,sB,sC]
            obtain ⟨mb4,km4,rfl,_⟩ := hvs4
            repeat (first | (refine Rf.Steps.sk ?_;simp only [Act.put,sA,sB,sC]) | (refine Rf.Steps.pu (v := ?_) ?_ ?_;rotate_left;(intro w_ hS_;skip;go_simp <;> with_reducible rfl);simp only [Act.put,sA,sB,sC]))
            refine Rf.Steps.nil (by kernel_rfl) ?_
            intro w20 hS20
            have b1520 : Below w15.heap.size w15 w20 := hS20.1.1.1.1
            have ml20 : ML q [t,puts t [im],puts t [im,im2]] (.slice (some ⟨mb4,0,none⟩) 3 km4) w20 := by obtain ⟨_,_,_,h_⟩ := hS20.2;exact h_
            clear hS20
            have b20 := nx b15 b1520
            have b1420 := nx hb15 b1520
            obtain ⟨E,rfl⟩ : ∃ E : World,E = w20 := ⟨_,rfl⟩
            have bE : Below E.heap.size E E := Below.refl _ _
            have b1420E := nx b1420 bE
            have bE' := nx b20 bE
            have bwE := nx bwM bE'
            have rE := ((u12.stays hb14).stays b1420E).row
            have hxE := hxM.stays bE'
            have pE := hxE.plain (n := 9) (kC_size HSE.out _ _ _)
            have hs9n := kC_size hs10 (.slice a10 ra.t.length k10) ra.z ra.g
            have ho9n := kC_one o10 a10 ra.t.length k10 ra.z ra.g
            obtain ⟨Z,hZ⟩ : ∃ Q_ : World,E.setRow kb (kC c10 (.slice a10 ra.t.length k10) ra.z ra.g) = Q_ := ⟨_,rfl⟩
            have xZ : Bx Z kb (kC c10 (.slice a10 ra.t.length k10) ra.z ra.g) 61 := hZ ▸ hxE.put _
            have bZ : Below w.heap.size w Z := hZ ▸ below_setRow bwE bwk _
            have dZ : DV q ra.d (.agg c10) Z := hZ ▸ dv_row _ (HCD.out.stays b1420E) hxE (by decide) hqk
            have tZ : TI q ra.t (.slice a10 ra.t.length k10) Z := hZ ▸ ti_row _ (T14.out.stays b1420E) hxE (by decide) hqk
            have oZ : Bx Z wo.heap.size #[.int .i64 1,.int .i64 x1,.int .i64 x2] 31 := hZ ▸ (oM.stays bE').put' (by have := hx.lt;omega) _
            have oz0 : Z.cell? ⟨wo.heap.size,0,none⟩ = some (.int .i64 1) := by rw [oZ.cell];rfl
            have pdn : Z.cell? ⟨kb,5,none⟩ = some (.bool true) := by rw [xZ.cell,kC_five hs10,HDN.out,HNN.out]
            have mlE := ml20.stays bE
            have mlZ : ML q [t,puts t [im],puts t [im,im2]] (.slice (some ⟨mb4,0,none⟩) 3 km4) Z := hZ ▸ ml_row _ mlE hxE (by decide) (by decide) hqk
            clear oz0
            have HPU := lH (show ∃ (tt : List Ins) (z1 g1 : Int) (w1 : Bool),Top 3 (back ra.d x1 x2) tt z1 g1 w1 ∧ tt.length ≤ 2 * (k + 1) ∧ ∀ f : List Ins → Bool,f tt = true → ([t,puts t [im],puts t [im,im2]]).any f = true from by
              obtain ⟨i,z1,g1,w1,h1,h2,h3⟩ := HE8.out x1 x2
              have hl9 := HLN.out
              have hl8 := HTL.out
              have hi : i = 0 ∨ i = 1 ∨ i = 2 := by simp at h1;omega
              rcases hi with rfl | rfl | rfl
              · exact ⟨_,z1,g1,w1,h3,by show t.length ≤ _;omega,fun f hf => by have hf' : f t = true := hf;simp [hf']⟩
              · exact ⟨_,z1,g1,w1,h3,hl9.1,fun f hf => by have hf' : f (puts t [im]) = true := hf;simp [hf']⟩
              · exact ⟨_,z1,g1,w1,h3,hl9.2,fun f hf => by have hf' : f (puts t [im,im2]) = true := hf;simp [hf']⟩)
            have HFB := lH ((HFR.out).back x1 x2)
            obtain ⟨rr,hrr⟩ : ∃ x,opnP (back ra.d x1 x2) 3 = x := ⟨_,rfl⟩
            have hopn := HFB.out.opn 3
            rw [hrr] at hopn
            have HRR := lH hrr
            have HFQ := lH hopn.1
            have HT9 := lH hopn.2
            have HOUT : Hid (rr.e = 10 ∨ (rr.e = 0 ∧ rr.t.length ≤ 2 * (k + 1) ∧ Top 3 rr.d rr.t rr.z rr.g true ∧ ([t,puts t [im],puts t [im,im2]]).any (fun m => sameL rr.t m) = true)) := by
              obtain ⟨tt,z1,g1,w1,h1,h2,h3⟩ := HPU.out
              have ho := open_out h1 (by decide) HFB.out.f.1 HFB.out.c.2
              rw [hrr] at ho
              rcases ho with ⟨e1,_⟩ | ⟨_,e1,_⟩ | ⟨e1,e2,_,_,_,_,e3⟩
              · exact lH (.inl e1)
              · exact absurd rfl e1
              · exact lH (.inr ⟨e1,by rw [e2];exact h2,by rw [e2];exact e3,h3 _ (by rw [e2];exact sameL_refl _)⟩)
            clear hopn hrr HPU
            have ox0 : Z.cell? ⟨wo.heap.size,0,none⟩ = some (.int .i64 1) := by rw [(oZ).cell];rfl
            have ox1 : Z.cell? ⟨wo.heap.size,1,none⟩ = some (.int .i64 x1) := by rw [(oZ).cell];rfl
            have ox2 : Z.cell? ⟨wo.heap.size,2,none⟩ = some (.int .i64 x2) := by rw [(oZ).cell];rfl
            have pk0 : Rc.part 6 Z (.pointer (some ⟨kb,0,none⟩)) = c10 := by rw [Rc.part_at,(xZ).row];exact kC_ext (hs10) _ _ _
            go_wp2_with fail
            refine (crash_any q ra.d (.agg c10) x1 x2 Z (dZ) (by have := (bZ).size;omega) ((HFR.out).ok.mono (by decide) (by decide))).mono ?_
            rintro e w30 ⟨v30,rfl,hb30,hd30⟩
            clear ox0 ox1 ox2 pk0
            go_wp2_with fail
            refine (start_any q _ v30 w30 hd30).mono ?_
            rintro e w31 ⟨v31,rfl,hb31,hd31⟩
            obtain ⟨c31,rfl,hs31,o31,_,_⟩ := dv_open hd31
            have b31 := nx hb30 hb31
            obtain ⟨U32,hU32⟩ : ∃ Q_ : World,w31.alloc (.cells z6 27) = Q_ := ⟨_,rfl⟩
            have u32 : Bx U32 w31.heap.size z6 27 := hU32 ▸ Bx.new _ _ _
            have bU32 : Below w31.heap.size w31 U32 := hU32 ▸ below1 _ _
            have pU32 := u32.plain (n := 6) rfl
            obtain ⟨U33,hU33⟩ : ∃ Q_ : World,U32.setRow w31.heap.size c31 = Q_ := ⟨_,rfl⟩
            have u33 : Bx U33 w31.heap.size c31 27 := hU33 ▸ u32.put _
            have bU33 : Below w31.heap.size w31 U33 := hU33 ▸ below_setRow bU32 (Nat.le_refl _) _
            have b33 := nx b31 bU33
            have bw33 := nx (bZ) b33
            have r33 := u33.row
            go_wp2_with fail
            refine (open_is HRR (.agg c31) U33 (hd31.stays bU33) (by have := bw33.size;omega) HFB.out.ok (HT.out.below bw33)).mono ?_
            rintro e w34 ⟨v34,tv34,rfl,hb34,hd34,ht34⟩
            obtain ⟨c34,rfl,hs34,o34,_,_⟩ := dv_open hd34
            obtain ⟨a34,k34,rfl⟩ := ht34.len
            have y34 := u33.stays hb34
            have py34 := y34.plain (n := 6) hs31
            have b34 := nx b33 hb34
            have hsz := b31.size
            obtain ⟨V,hV⟩ : ∃ Q_ : World,w34.setRow w31.heap.size c34 = Q_ := ⟨_,rfl⟩
            have yV : Bx V w31.heap.size c34 27 := hV ▸ y34.put _
            have hwW := (bZ).size
            have bV : Below w.heap.size w V := hV ▸ below_setRow (nx (bZ) b34) (by omega) _
            have hq31 : q ≤ w31.heap.size := by omega
            have dV : DV q rr.d (.agg c34) V := hV ▸ dv_row _ hd34 y34 (by decide) hq31
            have tV : TI q rr.t (.slice a34 rr.t.length k34) V := hV ▸ ti_row _ ht34 y34 (by decide) hq31
            have mV : ML q ([t,puts t [im],puts t [im,im2]]) (.slice (some ⟨mb4,0,none⟩) 3 km4) V := hV ▸ ml_row _ ((mlZ).stays b34) y34 (by decide) (by decide) hq31
            have hkW := (xZ).lt
            have xV : Bx V kb _ 61 := hV ▸ ((xZ).stays b34).put' (by omega) _
            have HLR := lH (show rr.t.length ≤ 1000000 by have := HT9.out.len;omega)
            clear r33 pU32 u32 u33 hd31 hd30 hd34 ht34
            go_wp2
            go_loopw [24,178] (fun fv i wr => ∃ j : Nat,j ≤ 3 ∧ i = .int .i64 j ∧ fv = .bool ((([t,puts t [im],puts t [im,im2]]).take j).any fun m => sameL rr.t m) ∧ Below V.heap.size V wr) (fun _ i _ => 3 - (intOf i).toNat)
            case atStart => exact ⟨0,Nat.zero_le _,rfl,rfl,Below.refl _ _⟩
            case round =>
              obtain ⟨j,hj,rfl,rfl,hbj⟩ := hrel
              obtain ⟨wj,rfl⟩ : ∃ wj : World,wj = wr := ⟨_,rfl⟩
              by_cases hjl : j < 3
              · have hjl2 : (j : Int) < 3 := by omega
                have hjm : j < ([t,puts t [im],puts t [im,im2]]).length := hjl
                have hat := any_take (fun m => sameL rr.t m) ([t,puts t [im],puts t [im,im2]]) hjm
                obtain ⟨cj,hcj⟩ : ∃ x : Int,(j : Int) + 1 = x := ⟨_,rfl⟩
                have mj := mV.stays hbj
                rcases mj.cases with ⟨e,_⟩ | ⟨_,bb2,off2,cc2,e,hlm2⟩
                · cases e
                simp only [Value.slice.injEq,Option.some.injEq,Addr.mk.injEq,and_true] at e
                obtain ⟨xe,he1,he2⟩ := atM hlm2 j hjm
                have he1' : wj.cell? ⟨mb4,j,none⟩ = some xe := by
                  obtain ⟨⟨rfl,rfl⟩,_⟩ := e
                  simpa using he1
                obtain ⟨ax,kx,rfl⟩ := he2.len
                obtain ⟨mx,hmx⟩ : ∃ mx,([t,puts t [im],puts t [im,im2]])[j] = mx := ⟨_,rfl⟩
                rw [hmx] at he2 hat he1'
                have hlx : mx.length ≤ 1000000 := by
                  have h9 := HLN.out
                  have h8 := HBS.out
                  have hall : ∀ x ∈ [t,puts t [im],puts t [im,im2]],x.length ≤ 1000000 := fun x hx => by
                    simp only [List.mem_cons,List.not_mem_nil,or_false] at hx
                    rcases hx with rfl | rfl | rfl <;> omega
                  rw [← hmx];exact hall _ (List.getElem_mem hjm)
                have HLX := lH hlx
                clear hlx
                clear he1 hlm2 e mj
                cases hfd : (([t,puts t [im],puts t [im,im2]]).take j).any fun m => sameL rr.t m with
                | true =>
                  rw [hfd] at hat
                  have HAT := lH hat
                  clear hat hfd
                  go_wp2
                  go_roundw
                  case rel => first | exact ⟨j + 1,by omega,by go_num,by rw [HAT.out];rfl,hbj⟩ | ((repeat apply Exists.intro);exact ⟨⟨j + 1,by omega,by go_num,by rw [HAT.out];rfl,hbj⟩,rfl⟩)
                  case measure => simp [intOf];omega
                | false =>
                  rw [hfd,Bool.false_or] at hat
                  have HAT := lH hat
                  clear hat hfd
                  go_wp2_with fail
                  refine (same_any q q rr.t mx _ _ wj (tV.stays hbj) he2 HLR.out HLX.out).mono ?_
                  rintro e wk ⟨rfl,hbk⟩
                  go_wp2
                  go_roundw
                  case rel => first | exact ⟨j + 1,by omega,by go_num,by rw [HAT.out],nx hbj hbk⟩ | ((repeat apply Exists.intro);exact ⟨⟨j + 1,by omega,by go_num,by rw [HAT.out],nx hbj hbk⟩,rfl⟩)
                  case measure => simp [intOf];omega
              · obtain rfl : j = 3 := by omega
                have bwj := nx bV hbj
                rcases HOUT.out with e1 | ⟨e1,e2,e3,e4⟩
                · go_wp2_with fail
                  refine (awake_any wj (HT.out.below bwj)).mono ?_
                  rintro e w40 ⟨rfl,hb40⟩
                  go_wp2
                  go_ret
                  exact ⟨rfl,nx bwj hb40⟩
                · have e4' : ((([t,puts t [im],puts t [im,im2]]).take 3).any fun m => sameL rr.t m) = true := e4
                  rw [e4']
                  have xj := xV.stays hbj
                  have pj := xj.plain (n := 9) (kC_size (hs10) _ _ _)
                  have rj := (yV.stays hbj).row
                  have hs9n := kC_size hs34 (.slice a34 rr.t.length k34) rr.z rr.g
                  have ho9n := kC_one o34 a34 rr.t.length k34 rr.z rr.g
                  obtain ⟨Zj,hZj⟩ : ∃ Q_ : World,wj.setRow kb (kC c34 (.slice a34 rr.t.length k34) rr.z rr.g) = Q_ := ⟨_,rfl⟩
                  have E23 := lH (⟨e2,e3⟩ : rr.t.length ≤ 2 * (k + 1) ∧ Top 3 rr.d rr.t rr.z rr.g true)
                  clear e2 e3 e4 e4'
                  have HEND := lH (show Below w.heap.size w Zj ∧ kb < Zj.heap.size ∧ ∃ (d : Ds) (t : List Ins) (z g : Int) (cs : Array Value) (a : Option Addr) (c : Nat),Bx Zj kb (kC cs (.slice a t.length c) z g) 61 ∧ DV q d (.agg cs) Zj ∧ TI q t (.slice a t.length c) Zj ∧ Top 3 d t z g true ∧ Fine d ∧ t.length ≤ 2 * (k + 1) ∧ cs.size = 6 ∧ oneAll (.agg cs) = true from
                    ⟨hZj ▸ below_setRow bwj bwk _,((hZj ▸ xj.put _ : Bx Zj kb _ _)).lt,rr.d,rr.t,rr.z,rr.g,c34,a34,k34,(hZj ▸ xj.put _ : Bx Zj kb _ _),hZj ▸ dv_row _ (dV.stays hbj) xj (by decide) hqk,hZj ▸ ti_row _ (tV.stays hbj) xj (by decide) hqk,E23.out.2,HFQ.out,E23.out.1,hs34,o34⟩)
                  have hlt9 := HLT.out
                  have hm9 := HN50.out
                  go_wp2
                  go_roundw
                  case rel => first | exact ⟨k + 1,by omega,by go_num,HEND.out⟩ | ((repeat apply Exists.intro);exact ⟨⟨k + 1,by omega,by go_num,HEND.out⟩,rfl⟩)
                  case measure => simp [intOf];omega
        · as_aux_lemma =>
            have HRT := lH e2
            have HE7 := lH e7
            clear e2 e3 e4 e5 e6 e7
            go_wp2_with fail
            refine (same_is (show Hid (sameL ra.t (puts t [im,im2]) = true) from lH (by rw [HRT.out];exact sameL_refl _)) _ _ w14 T14.out hwt (by rw [HRT.out];have := HLN.out;have := HBS.out;omega) (by have := HLN.out;have := HBS.out;omega)).mono ?_
            rintro e w15 ⟨rfl,hb15⟩
            have b15 := nx b14 hb15
            have bw15 := nx bwM b15
            clear p0 p6 p7 p8
            have hqX : q ≤ w15.heap.size := by have := bw15.size;omega
            have tl15 := ((tl9.stays b912).stays hb14).stays hb15
            have W15 := lH (hwt.stays hb15)
            have hF20 : ∀ u,Below w15.heap.size w15 u → Rc.part 25 u (.pointer (some ⟨bs,0,none⟩)) = ci im ∧ u.cell? ⟨kb,6,none⟩ = some (.slice a t.length c) := fun u hu => by
              refine ⟨?_,(HF.out u (nx b15 hu)).2.1⟩
              obtain ⟨b_,o_,c_,e_,h_,_⟩ := tl15.get hu (k := 0) (by simp)
              simp only [Value.slice.injEq,Option.some.injEq,Addr.mk.injEq,and_true] at e_
              obtain ⟨⟨rfl,rfl⟩,_⟩ := e_
              rw [Rc.part_at]
              simpa using h_
            go_wp2
            refine Rf.rg [0,1,2,3,4,5,8,6,7,9,10,11] ?_
            repeat (first | (refine Rf.Steps.sk ?_;simp only [Act.put,sA,sB,sC]) | (refine Rf.Steps.pu (v := ?_) ?_ ?_;rotate_left;(intro w_ hS_;have hk_ := hF20 w_ hS_;go_simp <;> with_reducible rfl);simp only [Act.put,sA,sB,sC]))
            refine Rf.Steps.forced (i := 6) (by kernel_rfl) ?_
            refine Rf.One.val (fun v u => ∃ b,v = .slice (some ⟨b,0,none⟩) 1 1 ∧ TI q [im] v u) (fun v _ _ h k => by obtain ⟨b,h1,h2⟩ := h;exact ⟨b,h1,h2.stays k⟩) (by rfl) (by rfl) ?_ ?_
            · intro w_ hS_
              refine ⟨_,_,?_,below1 _ _,w_.heap.size,rfl,TI.one im (by have := hS_.size;omega)⟩
              go_simp
            intro vs2 us2 hvs2
            simp only [Act.put,sA,sB,sC]
            obtain ⟨bs2,rfl,_⟩ := hvs2
            refine Rf.Steps.forced (i := 7) (by kernel_rfl) ?_
            refine Rf.One.call (fun v u => ∃ a9 n9 c9,v = .slice a9 n9 c9 ∧ TI q (puts t [im]) v u) (fun v _ _ h k => by obtain ⟨a9,n9,c9,h1,h2⟩ := h;exact ⟨a9,n9,c9,h1,h2.stays k⟩) (f := ?_) (args := ?_) (by rfl) (by rfl) ?_ ?_ ?_
            rotate_left 2
            · intro w_ hS_;have hk_ := (fun u hu => True.intro) w_ hS_;go_simp <;> first | with_reducible rfl | (constructor <;> with_reducible rfl)
            · intro w_ hS_;have hk_ := (fun u hu => True.intro) w_ hS_;(go_at_call 26;refine (lwith_any q t [im] _ _ w_ (htM.stays (nx b15 hS_.1)) (by obtain ⟨b_,e_,t_⟩ := hS_.2;exact t_) (by have := (hS_.1).size;omega) (by have := HBS.out;omega) (by simp) HSR.out).mono ?_;rintro e w_ ⟨v_,rfl,hb_,ht_⟩;obtain ⟨a_,c_,rfl⟩ := ht_.len;exact ⟨_,rfl,hb_,a_,_,c_,rfl,ht_⟩)
            intro vc u_ hvc
            simp only [Act.put,sA,sB,sC]
            obtain ⟨a9,n9,c9,rfl,_⟩ := hvc
            refine Rf.Steps.forced (i := 9) (by kernel_rfl) ?_
            refine Rf.One.val (fun v u => ∃ b,v = .slice (some ⟨b,0,none⟩) 2 2 ∧ Bx u b #[.slice a9 n9 c9,.slice a14 (puts t [im,im2]).length k14] 29) (fun v _ _ h k => by obtain ⟨b,h1,h2⟩ := h;exact ⟨b,h1,h2.stays k⟩) (by rfl) (by rfl) ?_ ?_
            · intro w_ hS_
              refine ⟨_,_,?_,below1 _ _,w_.heap.size,rfl,Bx.new _ _ _⟩
              go_simp
            intro vs3 us3 hvs3
            simp only [Act.put,sA,sB,sC]
            obtain ⟨bs3,rfl,_⟩ := hvs3
            refine Rf.Steps.forced (i := 10) (by kernel_rfl) ?_
            refine Rf.One.val (fun v u => ∃ b k9,v = .slice (some ⟨b,0,none⟩) 3 k9 ∧ ML q [t,puts t [im],puts t [im,im2]] v u) (fun v _ _ h k => by obtain ⟨b,k9,h1,h2⟩ := h;exact ⟨b,k9,h1,h2.stays k⟩) (by rfl) (by rfl) ?_ ?_
            · intro w_ hS_
              have hX_ : Below w15.heap.size w15 w_ := hS_.1.1.1
              obtain ⟨_,_,_,e3_,ht3_⟩ := hS_.1.2
              obtain ⟨b4_,e4_,hb4_⟩ := hS_.2
              simp only [Value.slice.injEq,Option.some.injEq,Addr.mk.injEq,and_true] at e4_
              subst e4_
              obtain ⟨k_,w'_,hrun_,hbl_,hml_⟩ := app_may (q := q) (u := puts t [im]) (by have := hX_.size;omega) (mM.stays (nx b15 hX_)) hb4_ (htM.stays (nx b15 hX_)) ht3_ (W15.out.stays hX_)
              refine ⟨_,w'_,?_,hbl_,_,k_,rfl,hml_⟩
              go_simp
            intro vs4 us4 hvs4
            simp only [Act.put,sA,sB,sC]
            obtain ⟨mb4,km4,rfl,_⟩ := hvs4
            repeat (first | (refine Rf.Steps.sk ?_;simp only [Act.put,sA,sB,sC]) | (refine Rf.Steps.pu (v := ?_) ?_ ?_;rotate_left;(intro w_ hS_;skip;go_simp <;> with_reducible rfl);simp only [Act.put,sA,sB,sC]))
            refine Rf.Steps.nil (by kernel_rfl) ?_
            intro w20 hS20
            have b1520 : Below w15.heap.size w15 w20 := hS20.1.1.1.1
            have ml20 : ML q [t,puts t [im],puts t [im,im2]] (.slice (some ⟨mb4,0,none⟩) 3 km4) w20 := by obtain ⟨_,_,_,h_⟩ := hS20.2;exact h_
            clear hS20
            have b20 := nx b15 b1520
            have b1420 := nx hb15 b1520
            obtain ⟨E,hE⟩ : ∃ Q_ : World,w20.alloc (.cells #[.slice a14 (puts t [im,im2]).length k14] 29) = Q_ := ⟨_,rfl⟩
            have bE : Below w20.heap.size w20 E := hE ▸ below1 _ _
            have b1420E := nx b1420 bE
            have bE' := nx b20 bE
            have bwE := nx bwM bE'
            have rE := ((u12.stays hb14).stays b1420E).row
            have hxE := hxM.stays bE'
            have pE := hxE.plain (n := 9) (kC_size HSE.out _ _ _)
            have hs9n := kC_size hs10 (.slice a10 ra.t.length k10) ra.z ra.g
            have ho9n := kC_one o10 a10 ra.t.length k10 ra.z ra.g
            obtain ⟨Z,hZ⟩ : ∃ Q_ : World,E.setRow kb (kC c10 (.slice a10 ra.t.length k10) ra.z ra.g) = Q_ := ⟨_,rfl⟩
            have xZ : Bx Z kb (kC c10 (.slice a10 ra.t.length k10) ra.z ra.g) 61 := hZ ▸ hxE.put _
            have bZ : Below w.heap.size w Z := hZ ▸ below_setRow bwE bwk _
            have dZ : DV q ra.d (.agg c10) Z := hZ ▸ dv_row _ (HCD.out.stays b1420E) hxE (by decide) hqk
            have tZ : TI q ra.t (.slice a10 ra.t.length k10) Z := hZ ▸ ti_row _ (T14.out.stays b1420E) hxE (by decide) hqk
            have oZ : Bx Z wo.heap.size #[.int .i64 1,.int .i64 x1,.int .i64 x2] 31 := hZ ▸ (oM.stays bE').put' (by have := hx.lt;omega) _
            have oz0 : Z.cell? ⟨wo.heap.size,0,none⟩ = some (.int .i64 1) := by rw [oZ.cell];rfl
            have pdn : Z.cell? ⟨kb,5,none⟩ = some (.bool false) := by rw [xZ.cell,kC_five hs10,HDN.out,HE7.out.up]
            have HEND := lH (show Below w.heap.size w Z ∧ kb < Z.heap.size ∧ ∃ (d : Ds) (t : List Ins) (z g : Int) (cs : Array Value) (a : Option Addr) (c : Nat),Bx Z kb (kC cs (.slice a t.length c) z g) 61 ∧ DV q d (.agg cs) Z ∧ TI q t (.slice a t.length c) Z ∧ Top 3 d t z g true ∧ Fine d ∧ t.length ≤ 2 * (k + 1) ∧ cs.size = 6 ∧ oneAll (.agg cs) = true from
              ⟨bZ,(xZ).lt,ra.d,ra.t,ra.z,ra.g,c10,a10,k10,xZ,dZ,tZ,by rw [HRT.out];exact HE7.out,HFR.out,by rw [HRT.out];exact HLN.out.2,hs10,o10⟩)
            have hlt9 := HLT.out
            have hm9 := HN50.out
            go_wp2
            go_roundw
            case rel => first | exact ⟨k + 1,by omega,by go_num,HEND.out⟩ | ((repeat apply Exists.intro);exact ⟨⟨k + 1,by omega,by go_num,HEND.out⟩,rfl⟩)
            case measure => simp [intOf];omega
    by_cases hK3 : x0 = 3
    · as_aux_lemma =>
        subst hK3
        obtain ⟨U1,hU1⟩ : ∃ Q_ : World,U0.setRow wo.heap.size #[.int .i64 3,.int .i64 x1,.int .i64 x2] = Q_ := ⟨_,rfl⟩
        have u1 : Bx U1 wo.heap.size #[.int .i64 3,.int .i64 x1,.int .i64 x2] 31 := hU1 ▸ u0.put _
        have bU1 : Below wo.heap.size wo U1 := hU1 ▸ below_setRow bU0 (Nat.le_refl _) _
        have s0 : U1.cell? ⟨wo.heap.size,0,none⟩ = some (.int .i64 3) := by rw [u1.cell];rfl
        have s1 : U1.cell? ⟨wo.heap.size,1,none⟩ = some (.int .i64 x1) := by rw [u1.cell];rfl
        have s2 : U1.cell? ⟨wo.heap.size,2,none⟩ = some (.int .i64 x2) := by rw [u1.cell];rfl
        have hkc := kC_at HSE.out (.slice a t.length c) z g
        have hxU := hx.stays bU1
        have pU : U1.cell? ⟨kb,6,none⟩ = some (.slice a t.length c) := by rw [hxU.cell];exact hkc.1
        obtain ⟨M,hM⟩ : ∃ Q_ : World,U1.alloc (.cells #[.slice a t.length c] 29) = Q_ := ⟨_,rfl⟩
        have bM : Below U1.heap.size U1 M := hM ▸ below1 _ _
        have mM : Bx M U1.heap.size #[.slice a t.length c] 29 := hM ▸ Bx.new _ _ _
        have bwU := nx hb bU1
        have hqU : q ≤ U1.heap.size := by have := bwU.size;omega
        have mlM : ML q [t] (.slice (some ⟨U1.heap.size,0,none⟩) 1 1) M := hM ▸ ml_one (hti.stays bU1) hqU
        have bwM := nx bwU bM
        have boM := nx bU1 bM
        have hxM := hx.stays boM
        have hdM := hdv.stays boM
        have htM := hti.stays boM
        have oM := u1.stays bM
        have o0 : M.cell? ⟨wo.heap.size,0,none⟩ = some (.int .i64 3) := by rw [oM.cell];rfl
        have HF := lH (show ∀ u,Below M.heap.size M u → Rc.part 6 u (.pointer (some ⟨kb,0,none⟩)) = cs ∧ u.cell? ⟨kb,6,none⟩ = some (.slice a t.length c) ∧ u.cell? ⟨kb,7,none⟩ = some (.int .i64 z) ∧ u.cell? ⟨kb,8,none⟩ = some (.int .i64 g) from fun u hu => by
          have h := hxM.stays hu
          refine ⟨by rw [Rc.part_at,h.row];exact kC_ext HSE.out _ _ _,?_,?_,?_⟩
          · rw [h.cell];exact hkc.1
          · rw [h.cell];exact hkc.2.1
          · rw [h.cell];exact hkc.2.2)
        clear hkc u0
        have HPU := lH (show ∃ (tt : List Ins) (z1 g1 : Int) (w1 : Bool),Top 3 (back d x1 x2) tt z1 g1 w1 ∧ tt.length ≤ 2 * (k + 1) ∧ ∀ f : List Ins → Bool,f tt = true → ([t]).any f = true from ⟨t,z,g,true,HTOP.out.back x1 x2,by have := HTL.out;omega,fun f hf => by simp [hf]⟩)
        have HFB := lH ((HFI.out).back x1 x2)
        obtain ⟨rr,hrr⟩ : ∃ x,opnP (back d x1 x2) 3 = x := ⟨_,rfl⟩
        have hopn := HFB.out.opn 3
        rw [hrr] at hopn
        have HRR := lH hrr
        have HFQ := lH hopn.1
        have HT9 := lH hopn.2
        have HOUT : Hid (rr.e = 10 ∨ (rr.e = 0 ∧ rr.t.length ≤ 2 * (k + 1) ∧ Top 3 rr.d rr.t rr.z rr.g true ∧ ([t]).any (fun m => sameL rr.t m) = true)) := by
          obtain ⟨tt,z1,g1,w1,h1,h2,h3⟩ := HPU.out
          have ho := open_out h1 (by decide) HFB.out.f.1 HFB.out.c.2
          rw [hrr] at ho
          rcases ho with ⟨e1,_⟩ | ⟨_,e1,_⟩ | ⟨e1,e2,_,_,_,_,e3⟩
          · exact lH (.inl e1)
          · exact absurd rfl e1
          · exact lH (.inr ⟨e1,by rw [e2];exact h2,by rw [e2];exact e3,h3 _ (by rw [e2];exact sameL_refl _)⟩)
        clear hopn hrr HPU
        have ox0 : M.cell? ⟨wo.heap.size,0,none⟩ = some (.int .i64 3) := by rw [(oM).cell];rfl
        have ox1 : M.cell? ⟨wo.heap.size,1,none⟩ = some (.int .i64 x1) := by rw [(oM).cell];rfl
        have ox2 : M.cell? ⟨wo.heap.size,2,none⟩ = some (.int .i64 x2) := by rw [(oM).cell];rfl
        have pk0 : Rc.part 6 M (.pointer (some ⟨kb,0,none⟩)) = cs := by rw [Rc.part_at,(hxM).row];exact kC_ext (HSE.out) _ _ _
        go_wp2_with fail
        refine (crash_any q d (.agg cs) x1 x2 M (hdM) (by have := (bwM).size;omega) ((HFI.out).ok.mono (by decide) (by decide))).mono ?_
        rintro e w30 ⟨v30,rfl,hb30,hd30⟩
        clear ox0 ox1 ox2 pk0
        go_wp2_with fail
        refine (start_any q _ v30 w30 hd30).mono ?_
        rintro e w31 ⟨v31,rfl,hb31,hd31⟩
        obtain ⟨c31,rfl,hs31,o31,_,_⟩ := dv_open hd31
        have b31 := nx hb30 hb31
        obtain ⟨U32,hU32⟩ : ∃ Q_ : World,w31.alloc (.cells z6 27) = Q_ := ⟨_,rfl⟩
        have u32 : Bx U32 w31.heap.size z6 27 := hU32 ▸ Bx.new _ _ _
        have bU32 : Below w31.heap.size w31 U32 := hU32 ▸ below1 _ _
        have pU32 := u32.plain (n := 6) rfl
        obtain ⟨U33,hU33⟩ : ∃ Q_ : World,U32.setRow w31.heap.size c31 = Q_ := ⟨_,rfl⟩
        have u33 : Bx U33 w31.heap.size c31 27 := hU33 ▸ u32.put _
        have bU33 : Below w31.heap.size w31 U33 := hU33 ▸ below_setRow bU32 (Nat.le_refl _) _
        have b33 := nx b31 bU33
        have bw33 := nx (bwM) b33
        have r33 := u33.row
        go_wp2_with fail
        refine (open_is HRR (.agg c31) U33 (hd31.stays bU33) (by have := bw33.size;omega) HFB.out.ok (HT.out.below bw33)).mono ?_
        rintro e w34 ⟨v34,tv34,rfl,hb34,hd34,ht34⟩
        obtain ⟨c34,rfl,hs34,o34,_,_⟩ := dv_open hd34
        obtain ⟨a34,k34,rfl⟩ := ht34.len
        have y34 := u33.stays hb34
        have py34 := y34.plain (n := 6) hs31
        have b34 := nx b33 hb34
        have hsz := b31.size
        obtain ⟨V,hV⟩ : ∃ Q_ : World,w34.setRow w31.heap.size c34 = Q_ := ⟨_,rfl⟩
        have yV : Bx V w31.heap.size c34 27 := hV ▸ y34.put _
        have hwW := (bwM).size
        have bV : Below w.heap.size w V := hV ▸ below_setRow (nx (bwM) b34) (by omega) _
        have hq31 : q ≤ w31.heap.size := by omega
        have dV : DV q rr.d (.agg c34) V := hV ▸ dv_row _ hd34 y34 (by decide) hq31
        have tV : TI q rr.t (.slice a34 rr.t.length k34) V := hV ▸ ti_row _ ht34 y34 (by decide) hq31
        have mV : ML q ([t]) (.slice (some ⟨U1.heap.size,0,none⟩) 1 1) V := hV ▸ ml_row _ ((mlM).stays b34) y34 (by decide) (by decide) hq31
        have hkW := (hxM).lt
        have xV : Bx V kb _ 61 := hV ▸ ((hxM).stays b34).put' (by omega) _
        have HLR := lH (show rr.t.length ≤ 1000000 by have := HT9.out.len;omega)
        clear r33 pU32 u32 u33 hd31 hd30 hd34 ht34
        go_wp2
        go_loopw [24,178] (fun fv i wr => ∃ j : Nat,j ≤ 1 ∧ i = .int .i64 j ∧ fv = .bool ((([t]).take j).any fun m => sameL rr.t m) ∧ Below V.heap.size V wr) (fun _ i _ => 1 - (intOf i).toNat)
        case atStart => exact ⟨0,Nat.zero_le _,rfl,rfl,Below.refl _ _⟩
        case round =>
          obtain ⟨j,hj,rfl,rfl,hbj⟩ := hrel
          obtain ⟨wj,rfl⟩ : ∃ wj : World,wj = wr := ⟨_,rfl⟩
          by_cases hjl : j < 1
          · have hjl2 : (j : Int) < 1 := by omega
            have hjm : j < ([t]).length := hjl
            have hat := any_take (fun m => sameL rr.t m) ([t]) hjm
            obtain ⟨cj,hcj⟩ : ∃ x : Int,(j : Int) + 1 = x := ⟨_,rfl⟩
            have mj := mV.stays hbj
            rcases mj.cases with ⟨e,_⟩ | ⟨_,bb2,off2,cc2,e,hlm2⟩
            · cases e
            simp only [Value.slice.injEq,Option.some.injEq,Addr.mk.injEq,and_true] at e
            obtain ⟨xe,he1,he2⟩ := atM hlm2 j hjm
            have he1' : wj.cell? ⟨U1.heap.size,j,none⟩ = some xe := by
              obtain ⟨⟨rfl,rfl⟩,_⟩ := e
              simpa using he1
            obtain ⟨ax,kx,rfl⟩ := he2.len
            obtain ⟨mx,hmx⟩ : ∃ mx,([t])[j] = mx := ⟨_,rfl⟩
            rw [hmx] at he2 hat he1'
            have hlx : mx.length ≤ 1000000 := by
              have hj0 : j = 0 := by omega
              subst hj0
              have hmx2 : t = mx := hmx
              rw [← hmx2];have := HBS.out.2.1;omega
            have HLX := lH hlx
            clear hlx
            clear he1 hlm2 e mj
            cases hfd : (([t]).take j).any fun m => sameL rr.t m with
            | true =>
              rw [hfd] at hat
              have HAT := lH hat
              clear hat hfd
              go_wp2
              go_roundw
              case rel => first | exact ⟨j + 1,by omega,by go_num,by rw [HAT.out];rfl,hbj⟩ | ((repeat apply Exists.intro);exact ⟨⟨j + 1,by omega,by go_num,by rw [HAT.out];rfl,hbj⟩,rfl⟩)
              case measure => simp [intOf];omega
            | false =>
              rw [hfd,Bool.false_or] at hat
              have HAT := lH hat
              clear hat hfd
              go_wp2_with fail
              refine (same_any q q rr.t mx _ _ wj (tV.stays hbj) he2 HLR.out HLX.out).mono ?_
              rintro e wk ⟨rfl,hbk⟩
              go_wp2
              go_roundw
              case rel => first | exact ⟨j + 1,by omega,by go_num,by rw [HAT.out],nx hbj hbk⟩ | ((repeat apply Exists.intro);exact ⟨⟨j + 1,by omega,by go_num,by rw [HAT.out],nx hbj hbk⟩,rfl⟩)
              case measure => simp [intOf];omega
          · obtain rfl : j = 1 := by omega
            have bwj := nx bV hbj
            rcases HOUT.out with e1 | ⟨e1,e2,e3,e4⟩
            · go_wp2_with fail
              refine (awake_any wj (HT.out.below bwj)).mono ?_
              rintro e w40 ⟨rfl,hb40⟩
              go_wp2
              go_ret
              exact ⟨rfl,nx bwj hb40⟩
            · have e4' : ((([t]).take 1).any fun m => sameL rr.t m) = true := e4
              rw [e4']
              have xj := xV.stays hbj
              have pj := xj.plain (n := 9) (kC_size (HSE.out) _ _ _)
              have rj := (yV.stays hbj).row
              have hs9n := kC_size hs34 (.slice a34 rr.t.length k34) rr.z rr.g
              have ho9n := kC_one o34 a34 rr.t.length k34 rr.z rr.g
              obtain ⟨Zj,hZj⟩ : ∃ Q_ : World,wj.setRow kb (kC c34 (.slice a34 rr.t.length k34) rr.z rr.g) = Q_ := ⟨_,rfl⟩
              have E23 := lH (⟨e2,e3⟩ : rr.t.length ≤ 2 * (k + 1) ∧ Top 3 rr.d rr.t rr.z rr.g true)
              clear e2 e3 e4 e4'
              have HEND := lH (show Below w.heap.size w Zj ∧ kb < Zj.heap.size ∧ ∃ (d : Ds) (t : List Ins) (z g : Int) (cs : Array Value) (a : Option Addr) (c : Nat),Bx Zj kb (kC cs (.slice a t.length c) z g) 61 ∧ DV q d (.agg cs) Zj ∧ TI q t (.slice a t.length c) Zj ∧ Top 3 d t z g true ∧ Fine d ∧ t.length ≤ 2 * (k + 1) ∧ cs.size = 6 ∧ oneAll (.agg cs) = true from
                ⟨hZj ▸ below_setRow bwj bwk _,((hZj ▸ xj.put _ : Bx Zj kb _ _)).lt,rr.d,rr.t,rr.z,rr.g,c34,a34,k34,(hZj ▸ xj.put _ : Bx Zj kb _ _),hZj ▸ dv_row _ (dV.stays hbj) xj (by decide) hqk,hZj ▸ ti_row _ (tV.stays hbj) xj (by decide) hqk,E23.out.2,HFQ.out,E23.out.1,hs34,o34⟩)
              have hlt9 := HLT.out
              have hm9 := HN50.out
              go_wp2
              go_roundw
              case rel => first | exact ⟨k + 1,by omega,by go_num,HEND.out⟩ | ((repeat apply Exists.intro);exact ⟨⟨k + 1,by omega,by go_num,HEND.out⟩,rfl⟩)
              case measure => simp [intOf];omega
    by_cases hK4 : x0 = 4
    · as_aux_lemma =>
        subst hK4
        obtain ⟨U1,hU1⟩ : ∃ Q_ : World,U0.setRow wo.heap.size #[.int .i64 4,.int .i64 x1,.int .i64 x2] = Q_ := ⟨_,rfl⟩
        have u1 : Bx U1 wo.heap.size #[.int .i64 4,.int .i64 x1,.int .i64 x2] 31 := hU1 ▸ u0.put _
        have bU1 : Below wo.heap.size wo U1 := hU1 ▸ below_setRow bU0 (Nat.le_refl _) _
        have s0 : U1.cell? ⟨wo.heap.size,0,none⟩ = some (.int .i64 4) := by rw [u1.cell];rfl
        have s1 : U1.cell? ⟨wo.heap.size,1,none⟩ = some (.int .i64 x1) := by rw [u1.cell];rfl
        have s2 : U1.cell? ⟨wo.heap.size,2,none⟩ = some (.int .i64 x2) := by rw [u1.cell];rfl
        have hkc := kC_at HSE.out (.slice a t.length c) z g
        have hxU := hx.stays bU1
        have pU : U1.cell? ⟨kb,6,none⟩ = some (.slice a t.length c) := by rw [hxU.cell];exact hkc.1
        obtain ⟨M,hM⟩ : ∃ Q_ : World,U1.alloc (.cells #[.slice a t.length c] 29) = Q_ := ⟨_,rfl⟩
        have bM : Below U1.heap.size U1 M := hM ▸ below1 _ _
        have mM : Bx M U1.heap.size #[.slice a t.length c] 29 := hM ▸ Bx.new _ _ _
        have bwU := nx hb bU1
        have hqU : q ≤ U1.heap.size := by have := bwU.size;omega
        have mlM : ML q [t] (.slice (some ⟨U1.heap.size,0,none⟩) 1 1) M := hM ▸ ml_one (hti.stays bU1) hqU
        have bwM := nx bwU bM
        have boM := nx bU1 bM
        have hxM := hx.stays boM
        have hdM := hdv.stays boM
        have htM := hti.stays boM
        have oM := u1.stays bM
        have o0 : M.cell? ⟨wo.heap.size,0,none⟩ = some (.int .i64 4) := by rw [oM.cell];rfl
        have HF := lH (show ∀ u,Below M.heap.size M u → Rc.part 6 u (.pointer (some ⟨kb,0,none⟩)) = cs ∧ u.cell? ⟨kb,6,none⟩ = some (.slice a t.length c) ∧ u.cell? ⟨kb,7,none⟩ = some (.int .i64 z) ∧ u.cell? ⟨kb,8,none⟩ = some (.int .i64 g) from fun u hu => by
          have h := hxM.stays hu
          refine ⟨by rw [Rc.part_at,h.row];exact kC_ext HSE.out _ _ _,?_,?_,?_⟩
          · rw [h.cell];exact hkc.1
          · rw [h.cell];exact hkc.2.1
          · rw [h.cell];exact hkc.2.2)
        clear hkc u0
        obtain ⟨pk0,_,_,_⟩ := HF.out M (Below.refl _ _)
        go_wp2_with fail
        refine (arm_any q d (.agg cs) ma M hdM).mono ?_
        rintro e w2 ⟨v2,rfl,hb2,hd2⟩
        obtain ⟨c2,rfl,hs2,o2,_,_⟩ := dv_open hd2
        have x2' := hxM.stays hb2
        have th2 := x2'.there (o := 0) (n := 6) (by rw [kC_size HSE.out];decide)
        obtain ⟨Z,hZ⟩ : ∃ Q_ : World,w2.setCells kb 0 c2.toList = Q_ := ⟨_,rfl⟩
        have xZ : Bx Z kb (kC c2 (.slice a t.length c) z g) 61 := by
          have h := Bx.sets (w := w2) c2.toList 0 w2 _ x2'
          rw [hZ,over_kC HSE.out hs2] at h
          exact h
        have bZ : Below w.heap.size w Z := hZ ▸ (nx bwM hb2).trans (low_setCells bwk _ _ _)
        clear pk0
        have HEND := lH (show Below w.heap.size w Z ∧ kb < Z.heap.size ∧ ∃ (d : Ds) (t : List Ins) (z g : Int) (cs : Array Value) (a : Option Addr) (c : Nat),Bx Z kb (kC cs (.slice a t.length c) z g) 61 ∧ DV q d (.agg cs) Z ∧ TI q t (.slice a t.length c) Z ∧ Top 3 d t z g true ∧ Fine d ∧ t.length ≤ 2 * (k + 1) ∧ cs.size = 6 ∧ oneAll (.agg cs) = true from
          ⟨bZ,(xZ).lt,(Dk.armP d ma),t,z,g,c2,a,c,xZ,hZ ▸ dv_cells (by decide) hqk _ _ _ _ hd2 x2',hZ ▸ ti_cells (by decide) hqk _ _ _ _ (htM.stays hb2) x2',HTOP.out.set rfl rfl rfl rfl,HFI.out.arm ma (by have := HMA.out;omega),by have := HTL.out;omega,hs2,o2⟩)
        have hlt9 := HLT.out
        have hm9 := HN50.out
        go_wp2
        go_roundw
        case rel => first | exact ⟨k + 1,by omega,by go_num,HEND.out⟩ | ((repeat apply Exists.intro);exact ⟨⟨k + 1,by omega,by go_num,HEND.out⟩,rfl⟩)
        case measure => simp [intOf];omega
    by_cases hK5 : x0 = 5
    · as_aux_lemma =>
        subst hK5
        obtain ⟨U1,hU1⟩ : ∃ Q_ : World,U0.setRow wo.heap.size #[.int .i64 5,.int .i64 x1,.int .i64 x2] = Q_ := ⟨_,rfl⟩
        have u1 : Bx U1 wo.heap.size #[.int .i64 5,.int .i64 x1,.int .i64 x2] 31 := hU1 ▸ u0.put _
        have bU1 : Below wo.heap.size wo U1 := hU1 ▸ below_setRow bU0 (Nat.le_refl _) _
        have s0 : U1.cell? ⟨wo.heap.size,0,none⟩ = some (.int .i64 5) := by rw [u1.cell];rfl
        have s1 : U1.cell? ⟨wo.heap.size,1,none⟩ = some (.int .i64 x1) := by rw [u1.cell];rfl
        have s2 : U1.cell? ⟨wo.heap.size,2,none⟩ = some (.int .i64 x2) := by rw [u1.cell];rfl
        have hkc := kC_at HSE.out (.slice a t.length c) z g
        have hxU := hx.stays bU1
        have pU : U1.cell? ⟨kb,6,none⟩ = some (.slice a t.length c) := by rw [hxU.cell];exact hkc.1
        obtain ⟨M,hM⟩ : ∃ Q_ : World,U1.alloc (.cells #[.slice a t.length c] 29) = Q_ := ⟨_,rfl⟩
        have bM : Below U1.heap.size U1 M := hM ▸ below1 _ _
        have mM : Bx M U1.heap.size #[.slice a t.length c] 29 := hM ▸ Bx.new _ _ _
        have bwU := nx hb bU1
        have hqU : q ≤ U1.heap.size := by have := bwU.size;omega
        have mlM : ML q [t] (.slice (some ⟨U1.heap.size,0,none⟩) 1 1) M := hM ▸ ml_one (hti.stays bU1) hqU
        have bwM := nx bwU bM
        have boM := nx bU1 bM
        have hxM := hx.stays boM
        have hdM := hdv.stays boM
        have htM := hti.stays boM
        have oM := u1.stays bM
        have o0 : M.cell? ⟨wo.heap.size,0,none⟩ = some (.int .i64 5) := by rw [oM.cell];rfl
        have HF := lH (show ∀ u,Below M.heap.size M u → Rc.part 6 u (.pointer (some ⟨kb,0,none⟩)) = cs ∧ u.cell? ⟨kb,6,none⟩ = some (.slice a t.length c) ∧ u.cell? ⟨kb,7,none⟩ = some (.int .i64 z) ∧ u.cell? ⟨kb,8,none⟩ = some (.int .i64 g) from fun u hu => by
          have h := hxM.stays hu
          refine ⟨by rw [Rc.part_at,h.row];exact kC_ext HSE.out _ _ _,?_,?_,?_⟩
          · rw [h.cell];exact hkc.1
          · rw [h.cell];exact hkc.2.1
          · rw [h.cell];exact hkc.2.2)
        clear hkc u0
        have HEND := lH (show Below w.heap.size w M ∧ kb < M.heap.size ∧ ∃ (d : Ds) (t : List Ins) (z g : Int) (cs : Array Value) (a : Option Addr) (c : Nat),Bx M kb (kC cs (.slice a t.length c) z g) 61 ∧ DV q d (.agg cs) M ∧ TI q t (.slice a t.length c) M ∧ Top 3 d t z g true ∧ Fine d ∧ t.length ≤ 2 * (k + 1) ∧ cs.size = 6 ∧ oneAll (.agg cs) = true from
          ⟨bwM,(hxM).lt,d,t,z,g,cs,a,c,hxM,hdM,htM,HTOP.out,HFI.out,by have := HTL.out;omega,HSE.out,o1⟩)
        have hlt9 := HLT.out
        have hm9 := HN50.out
        go_wp2
        go_roundw
        case rel => first | exact ⟨k + 1,by omega,by go_num,HEND.out⟩ | ((repeat apply Exists.intro);exact ⟨⟨k + 1,by omega,by go_num,HEND.out⟩,rfl⟩)
        case measure => simp [intOf];omega
    as_aux_lemma =>
      obtain ⟨U1,hU1⟩ : ∃ Q_ : World,U0.setRow wo.heap.size #[.int .i64 x0,.int .i64 x1,.int .i64 x2] = Q_ := ⟨_,rfl⟩
      have u1 : Bx U1 wo.heap.size #[.int .i64 x0,.int .i64 x1,.int .i64 x2] 31 := hU1 ▸ u0.put _
      have bU1 : Below wo.heap.size wo U1 := hU1 ▸ below_setRow bU0 (Nat.le_refl _) _
      have s0 : U1.cell? ⟨wo.heap.size,0,none⟩ = some (.int .i64 x0) := by rw [u1.cell];rfl
      have s1 : U1.cell? ⟨wo.heap.size,1,none⟩ = some (.int .i64 x1) := by rw [u1.cell];rfl
      have s2 : U1.cell? ⟨wo.heap.size,2,none⟩ = some (.int .i64 x2) := by rw [u1.cell];rfl
      have hkc := kC_at HSE.out (.slice a t.length c) z g
      have hxU := hx.stays bU1
      have pU : U1.cell? ⟨kb,6,none⟩ = some (.slice a t.length c) := by rw [hxU.cell];exact hkc.1
      obtain ⟨M,hM⟩ : ∃ Q_ : World,U1.alloc (.cells #[.slice a t.length c] 29) = Q_ := ⟨_,rfl⟩
      have bM : Below U1.heap.size U1 M := hM ▸ below1 _ _
      have mM : Bx M U1.heap.size #[.slice a t.length c] 29 := hM ▸ Bx.new _ _ _
      have bwU := nx hb bU1
      have hqU : q ≤ U1.heap.size := by have := bwU.size;omega
      have mlM : ML q [t] (.slice (some ⟨U1.heap.size,0,none⟩) 1 1) M := hM ▸ ml_one (hti.stays bU1) hqU
      have bwM := nx bwU bM
      have boM := nx bU1 bM
      have hxM := hx.stays boM
      have hdM := hdv.stays boM
      have htM := hti.stays boM
      have oM := u1.stays bM
      have o0 : M.cell? ⟨wo.heap.size,0,none⟩ = some (.int .i64 x0) := by rw [oM.cell];rfl
      have HF := lH (show ∀ u,Below M.heap.size M u → Rc.part 6 u (.pointer (some ⟨kb,0,none⟩)) = cs ∧ u.cell? ⟨kb,6,none⟩ = some (.slice a t.length c) ∧ u.cell? ⟨kb,7,none⟩ = some (.int .i64 z) ∧ u.cell? ⟨kb,8,none⟩ = some (.int .i64 g) from fun u hu => by
        have h := hxM.stays hu
        refine ⟨by rw [Rc.part_at,h.row];exact kC_ext HSE.out _ _ _,?_,?_,?_⟩
        · rw [h.cell];exact hkc.1
        · rw [h.cell];exact hkc.2.1
        · rw [h.cell];exact hkc.2.2)
      clear hkc u0
      have hcd : cs[5]? = some (.bool false) := by
        obtain ⟨c9,e9,_,_,_,h5⟩ := dv_open hdM
        cases e9
        rw [h5,HUP.out]
      have pdn : M.cell? ⟨kb,5,none⟩ = some (.bool false) := by rw [hxM.cell,kC_five HSE.out];exact hcd
      clear hcd
      have HEND := lH (show Below w.heap.size w M ∧ kb < M.heap.size ∧ ∃ (d : Ds) (t : List Ins) (z g : Int) (cs : Array Value) (a : Option Addr) (c : Nat),Bx M kb (kC cs (.slice a t.length c) z g) 61 ∧ DV q d (.agg cs) M ∧ TI q t (.slice a t.length c) M ∧ Top 3 d t z g true ∧ Fine d ∧ t.length ≤ 2 * (k + 1) ∧ cs.size = 6 ∧ oneAll (.agg cs) = true from
        ⟨bwM,(hxM).lt,d,t,z,g,cs,a,c,hxM,hdM,htM,HTOP.out,HFI.out,by have := HTL.out;omega,HSE.out,o1⟩)
      have hlt9 := HLT.out
      have hm9 := HN50.out
      go_wp2
      go_roundw
      case rel => first | exact ⟨k + 1,by omega,by go_num,HEND.out⟩ | ((repeat apply Exists.intro);exact ⟨⟨k + 1,by omega,by go_num,HEND.out⟩,rfl⟩)
      case measure => simp [intOf];omega
end Go.Proofs.YtnnbjhpkgndclaaGreatDoor.St
