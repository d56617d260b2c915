/- Layer 17: StoreFull. -/
import Derived.Test.YtnnbjhpkgndclaaGreatDoorQsZZ
import Derived.Test.YtnnbjhpkgndclaaGreatDoorQsBY
import Derived.Test.YtnnbjhpkgndclaaGreatDoorQsBP
import Derived.Test.YtnnbjhpkgndclaaGreatDoorQsBZ
set_option linter.unusedVariables false
namespace Go.Proofs.YtnnbjhpkgndclaaGreatDoor.St
open Go.RowKit
open Go.Proofs.YtnnbjhpkgndclaaGreatDoor.Rw
open Go.Proofs.YtnnbjhpkgndclaaGreatDoor.Da
open Go.Proofs.YtnnbjhpkgndclaaGreatDoor.Bv
open Go.Proofs.YtnnbjhpkgndclaaGreatDoor.Rc (Ins ci zeroI okI)
open Go.Proofs.YtnnbjhpkgndclaaGreatDoor.Dk (Ds DV Post2 PostD Ok newP new_any at2 lim nul disks_yes ret_D1)
set_option maxRecDepth 8000 in
set_option maxHeartbeats 8000000 in
theorem walkFull (room : Int) (l : List O3) (v : Value) (w : World) (h : PL (Bs.of w.heap.size) l v w) (hwf : wfOs l) (wr : (Lit.int .i64 room).wf = true) (hT : Tbs w) :
    Calls Tryz.prog 6 #[.int .i64 room,v] w fun e w' => e = .returned (.bool true) ∧ Below w.heap.size w w' := by
  have hlm : l.length ≤ maxLen := hwf.1
  unfold maxLen at hlm
  clear wr hwf
  have HT := lH hT
  obtain ⟨q,hq⟩ : ∃ n,n = w.heap.size := ⟨_,rfl⟩
  have hq0 : q ≤ w.heap.size := by omega
  obtain ⟨m,hm,h400,hmw⟩ := small64 room 400 (by decide) (by decide)
  obtain ⟨R,hR⟩ : ∃ R : Int,30 + m = R := ⟨_,rfl⟩
  have hRw : IntKind.i64.wrap (30 + m) = R := by rw [← hR];exact IntWalk.i64_in _ (by omega)
  have hRb : 30 ≤ R ∧ R ≤ 430 := by omega
  replace h400 : (IntKind.u64.wrap room).tmod 400 = m := h400
  obtain ⟨n1,hn1⟩ : ∃ n,l.length = n := ⟨_,rfl⟩
  have HCL := lH (show ∀ u,Below w.heap.size w u → PL (Bs.of w.heap.size) l v u from fun u hu => Is.stays eO3 31 h hu)
  obtain ⟨a0,c0,rfl⟩ := h.len
  rw [hn1] at hlm ⊢
  clear h
  have HN := lH hn1
  by_cases hl : (50 : Int) < n1
  · have hd : decide ((50 : Int) < n1) = true := decide_eq_true hl
    clear hn1 hT hm hq
    go_enter Tryz.func6,Tryz.ntmps6
    go_wp2_with fail
    refine (awake_any w HT.out).mono ?_
    rintro e w1 ⟨rfl,hb1⟩
    go_wp2
    go_ret
    exact ⟨rfl,hb1⟩
  have hd : decide ((50 : Int) < n1) = false := decide_eq_false hl
  have hl50 : n1 ≤ 50 := by omega
  obtain ⟨r,hr⟩ : ∃ r,opnP (newP R) 3 = r := ⟨_,rfl⟩
  have hnew := open_new R
  have hop := (fine_new R).opn 3
  have hlim : lim R 60000 = R := by unfold lim;omega
  rw [hr,hlim] at hnew
  rw [hr] at hop
  obtain ⟨r1,r2,r3,r4,r5,r6,r7,r8,r9⟩ := hnew.resolve_left (fun h => by have := h.1;omega)
  have HR := lH hr
  have HO := lH hop.1
  have HTop := lH r8
  have HRF := lH (⟨r6,r7⟩ : r.d.c = R ∧ r.d.f = -1)
  have HRB := lH hRb
  clear hr hnew hop hlim r9 r8 r7 r6 hT hq hn1 hm hR hRb hl
  go_enter Tryz.func6,Tryz.ntmps6
  go_wp2_with fail
  refine (opened_is HR w hq0 HT.out).mono ?_
  rintro e w1 ⟨cs,a,c,rfl,hb1,hd1,ht1,hs,o1⟩
  rw [r2,r3,r4,r5]
  rw [r3] at ht1
  obtain ⟨Y,hY⟩ : ∃ Q_ : World,w1.alloc (.cells z9 61) = Q_ := ⟨_,rfl⟩
  have yY : Bx Y w1.heap.size z9 61 := hY ▸ Bx.new _ _ _
  have bY : Below w1.heap.size w1 Y := hY ▸ below1 _ _
  have pY := yY.plain (n := 9) rfl
  have hs9 := kC_size hs (.slice a 0 c) 0 1
  have ho9 := kC_one o1 a 0 c 0 1
  obtain ⟨X,hX⟩ : ∃ Q_ : World,Y.setRow w1.heap.size (kC cs (.slice a 0 c) 0 1) = Q_ := ⟨_,rfl⟩
  have xX : Bx X w1.heap.size (kC cs (.slice a 0 c) 0 1) 61 := hX ▸ yY.put _
  have hX2 : Below w1.heap.size w1 X := hX ▸ below_setRow bY (Nat.le_refl _) _
  have bX := nx hb1 hX2
  obtain ⟨kb,hkb⟩ : ∃ n,n = w1.heap.size := ⟨_,rfl⟩
  have hqk : q ≤ kb := by have := hb1.size;omega
  have h0 : ∃ (d : Ds) (t : List Ins) (z g : Int) (cs : Array Value) (a : Option Addr) (c : Nat),Bx X kb (kC cs (.slice a t.length c) z g) 61 ∧ DV q d (.agg cs) X ∧ TI q t (.slice a t.length c) X ∧ Top 3 d t z g true ∧ Fine d ∧ d.f = -1 ∧ d.c = R ∧ g ≤ (0 : Nat) + 1 ∧ t.length ≤ 0 ∧ cs.size = 6 ∧ oneAll (.agg cs) = true :=
    ⟨r.d,[],0,1,cs,a,c,hkb ▸ xX,hd1.stays hX2,ht1.stays hX2,HTop.out,HO.out,HRF.out.2,HRF.out.1,by decide,Nat.le_refl 0,hs,o1⟩
  have H0 := lH h0
  have HKB := lH hkb
  clear h0 hkb hd1 ht1 xX yY HTop HO HRF
  go_wp2
  rw [← HKB.out]
  go_loopw [47] (fun i wr => ∃ k : Nat,k ≤ n1 ∧ i = .int .i64 k ∧ Below w.heap.size w wr ∧ kb < wr.heap.size ∧ ∃ (d : Ds) (t : List Ins) (z g : Int) (cs : Array Value) (a : Option Addr) (c : Nat),Bx wr kb (kC cs (.slice a t.length c) z g) 61 ∧ DV q d (.agg cs) wr ∧ TI q t (.slice a t.length c) wr ∧ Top 3 d t z g true ∧ Fine d ∧ d.f = -1 ∧ d.c = R ∧ g ≤ k + 1 ∧ t.length ≤ k ∧ cs.size = 6 ∧ oneAll (.agg cs) = true) (fun i _ => n1 - (intOf i).toNat)
  case atStart =>
    refine ⟨0,Nat.zero_le _,rfl,bX,?_,H0.out⟩
    obtain ⟨_,_,_,_,_,_,_,hx,_⟩ := H0.out
    exact hx.lt
  case round =>
    clear H0
    obtain ⟨k,hk,rfl,hb,hkl,d,t,z,g,cs,a,c,hx,hdv,hti,htop,hfi,hf,hc,hg,htl,hs,o1⟩ := hrel
    obtain ⟨wo,rfl⟩ : ∃ wo : World,wo = wr := ⟨_,rfl⟩
    by_cases hlt : k < n1
    case neg =>
      obtain rfl : k = n1 := by omega
      go_wp2_with fail
      refine (awake_any wo (HT.out.below hb)).mono ?_
      rintro e w4 ⟨rfl,hb4⟩
      go_wp2
      go_ret
      exact ⟨rfl,nx hb hb4⟩
    have hlt2 : (k : Int) < n1 := by omega
    have hll : k < l.length := by rw [HN.out];exact hlt
    have hcl := HCL.out wo hb
    rcases hcl.cases with ⟨e,_⟩ | ⟨_,bb,off,cc,e,hat⟩
    · rw [e] at hll;cases hll
    simp only [Value.slice.injEq] at e
    obtain ⟨rfl,-,rfl⟩ := e
    obtain ⟨y0,y1,y2⟩ := atP hat k hll
    obtain ⟨⟨x0,x1,x2⟩,hs3⟩ : ∃ s,l[k] = s := ⟨_,rfl⟩
    rw [hs3] at y0 y1 y2
    simp only at y0 y1 y2
    obtain ⟨ma,hma,ha1,ha2⟩ := small64 x1 60 (by decide) (by decide)
    obtain ⟨mb,hmb,hb1',hb2'⟩ := small64 x2 1000 (by decide) (by decide)
    replace ha1 : (IntKind.u64.wrap x1).tmod 60 = ma := ha1
    replace hb1' : (IntKind.u64.wrap x2).tmod 1000 = mb := hb1'
    obtain ⟨im,him⟩ : ∃ im,oneP ma mb = im := ⟨_,rfl⟩
    have hiok : okI im 3 = true := by rw [← him];exact one_ok hma.1 hmb.1
    have hicn : cn im = im := by rw [← him];exact one_cn ma mb
    have hl1 : okT [im] 3 = true := by rw [okT_iff];intro i hi;simp at hi;subst hi;exact hiok
    have hl2 : CN [im] := fun i hi => by simp at hi;subst hi;exact hicn
    obtain ⟨hsr,hko,-⟩ := htop.tbl
    have hgk := htop.gok
    have hRb := HRB.out
    have hpl : (puts t [im]).length ≤ k + 1 := by have := puts_len t [im];simp only [List.length_cons,List.length_nil] at this;omega
    have hwl : Wa.wl (rwL (puts t [im]) 1 3) = 22 + (puts t [im]).length * 62 := by rw [wl_rw];rfl
    have hadd := add_out (n := 3) (d := d) (t := t) (l := [im]) htop (by omega) (by omega) (by simp) (by simp) hl1 hl2
    obtain ⟨ra,hra⟩ : ∃ x,addP d t z g 3 [im] = x := ⟨_,rfl⟩
    have hfa := hfi.add t z g 3 [im]
    rw [hra] at hadd hfa
    have hok2 := okT_puts hko hl1
    have hsz : sizP (puts t [im]) 3 = Wa.wl (rwL (puts t [im]) 1 3) := by unfold sizP;rw [if_pos hok2]
    have HA := lH hra
    have HIM := lH him
    have HTOP := lH htop
    have HFI := lH hfi
    have HSZ := lH hsz
    have HS0 := lH (⟨hsr,hko,hpl,hwl⟩ : Srt t ∧ okT t 3 = true ∧ (puts t [im]).length ≤ k + 1 ∧ Wa.wl (rwL (puts t [im]) 1 3) = 22 + (puts t [im]).length * 62)
    have HL := lH (⟨hl1,hl2,puts_srt [im] hsr⟩ : okT [im] 3 = true ∧ CN [im] ∧ Srt (puts t [im]))
    have HMA := lH hma
    have HMB := lH hmb
    have HFA := lH hfa
    have HADD := lH hadd
    have HSE := lH hs
    have HG := lH (⟨hg,htl,hgk,hf,hc⟩ : g ≤ k + 1 ∧ t.length ≤ k ∧ (0 < g ∧ g ≤ 1073741824) ∧ d.f = -1 ∧ d.c = R)
    have HK := lH hk
    -- the box of what happens
    obtain ⟨U0,hU0⟩ : ∃ Q_ : World,wo.alloc (.cells zO 31) = Q_ := ⟨_,rfl⟩
    have u0 : Bx U0 wo.heap.size zO 31 := hU0 ▸ Bx.new _ _ _
    have bU0 : Below wo.heap.size wo U0 := hU0 ▸ below1 _ _
    have pU0 := u0.plain (n := 3) rfl
    obtain ⟨U1,hU1⟩ : ∃ Q_ : World,U0.setRow wo.heap.size #[.int .i64 x0,.int .i64 x1,.int .i64 x2] = Q_ := ⟨_,rfl⟩
    have u1 : Bx U1 wo.heap.size #[.int .i64 x0,.int .i64 x1,.int .i64 x2] 31 := hU1 ▸ u0.put _
    have bU1 : Below wo.heap.size wo U1 := hU1 ▸ below_setRow bU0 (Nat.le_refl _) _
    have s1 : U1.cell? ⟨wo.heap.size,1,none⟩ = some (.int .i64 x1) := by rw [u1.cell];rfl
    have s2 : U1.cell? ⟨wo.heap.size,2,none⟩ = some (.int .i64 x2) := by rw [u1.cell];rfl
    clear hra him hsz hadd hfa hiok hicn hl1 hl2 hsr hko hwl hpl hok2 hRb hma hmb hcl hat hs3 hg htl hgk hf hc htop hfi hll hs hk u0 u1
    go_wp2_with fail
    refine (one_any ma mb (by have := HMA.out;omega) (by have := HMB.out;omega) U1).mono ?_
    rintro e w2 ⟨rfl,hb2⟩
    rw [HIM.out]
    have b2 := nx bU1 hb2
    obtain ⟨U3,hU3⟩ : ∃ Q_ : World,w2.alloc (.cells (ci zeroI) 44) = Q_ := ⟨_,rfl⟩
    have u3 : Bx U3 w2.heap.size (ci zeroI) 44 := hU3 ▸ Bx.new _ _ _
    have bU3 : Below w2.heap.size w2 U3 := hU3 ▸ below1 _ _
    have pU3 := u3.plain (n := 25) rfl
    obtain ⟨U4,hU4⟩ : ∃ Q_ : World,U3.setRow w2.heap.size (ci im) = Q_ := ⟨_,rfl⟩
    have u4 : Bx U4 w2.heap.size (ci im) 44 := hU4 ▸ u3.put _
    have bU4 : Below w2.heap.size w2 U4 := hU4 ▸ below_setRow bU3 (Nat.le_refl _) _
    have b4 := nx b2 bU4
    have hx4 := hx.stays b4
    have HF := lH (show ∀ u,Below U4.heap.size U4 u → Rc.part 6 u (.pointer (some ⟨kb,0,none⟩)) = cs ∧ u.cell? ⟨kb,6,none⟩ = some (.slice a t.length c) ∧ u.cell? ⟨kb,7,none⟩ = some (.int .i64 z) ∧ u.cell? ⟨kb,8,none⟩ = some (.int .i64 g) ∧ row u w2.heap.size = ci im from fun u hu => by
      have h := hx4.stays hu
      have hk := kC_at HSE.out (.slice a t.length c) z g
      refine ⟨by rw [Rc.part_at,h.row];exact kC_ext HSE.out _ _ _,?_,?_,?_,(u4.stays hu).row⟩
      · rw [h.cell];exact hk.1
      · rw [h.cell];exact hk.2.1
      · rw [h.cell];exact hk.2.2)
    obtain ⟨p0,p6,p7,p8,pi⟩ := HF.out U4 (Below.refl _ _)
    have hse := HSE.out
    obtain ⟨U5,hU5⟩ : ∃ Q_ : World,U4.alloc (.cells (ci im) 44) = Q_ := ⟨_,rfl⟩
    have bU5 : Below U4.heap.size U4 U5 := hU5 ▸ below1 _ _
    have hw9 := hb.size
    have hq4 : q ≤ U4.heap.size := by have := b4.size;omega
    have hone5 : TI q [im] (.slice (some ⟨U4.heap.size,0,none⟩) 1 1) U5 := hU5 ▸ TI.one (n := q) im (w := U4) hq4
    have b5 := nx b4 bU5
    have bw5 := nx hb b5
    go_wp2_with fail
    refine (append_is HA.out (.agg cs) (.slice a t.length c) _ U5 (hdv.stays b5) (hti.stays b5) hone5 (by have := bU5.size;omega) HFI.out.ok (HT.out.below bw5) (by have := HG.out;omega) (by have := HG.out;omega) (by have := HG.out;omega) (by simp) HS0.out.1).mono ?_
    rintro e w6 ⟨v6,tv6,rfl,hb6,hd6,ht6⟩
    obtain ⟨c6,rfl,hs6,o6,_,_⟩ := dv_open hd6
    obtain ⟨a6,k6,rfl⟩ := ht6.len
    have b6 := nx b5 hb6
    obtain ⟨U7,hU7⟩ : ∃ Q_ : World,w6.alloc (.cells z6 27) = Q_ := ⟨_,rfl⟩
    have u7 : Bx U7 w6.heap.size z6 27 := hU7 ▸ Bx.new _ _ _
    have bU7 : Below w6.heap.size w6 U7 := hU7 ▸ below1 _ _
    have pU7 := u7.plain (n := 6) rfl
    obtain ⟨U8,hU8⟩ : ∃ Q_ : World,U7.setRow w6.heap.size c6 = Q_ := ⟨_,rfl⟩
    have u8 : Bx U8 w6.heap.size c6 27 := hU8 ▸ u7.put _
    have bU8 : Below w6.heap.size w6 U8 := hU8 ▸ below_setRow bU7 (Nat.le_refl _) _
    have b8 := nx b6 bU8
    have b48 : Below U4.heap.size U4 U8 := nx (nx bU5 hb6) bU8
    have bw8 := nx hb b8
    clear p0 p6 p7 p8 pi pU0 s1 s2 pU3
    obtain ⟨p0,p6,p7,p8,pi⟩ := HF.out U8 b48
    obtain ⟨U9,hU9⟩ : ∃ Q_ : World,U8.alloc (.cells (ci im) 44) = Q_ := ⟨_,rfl⟩
    have bU9 : Below U8.heap.size U8 U9 := hU9 ▸ below1 _ _
    have hq8 : q ≤ U8.heap.size := by have := b48.size;omega
    have hone9 : TI q [im] (.slice (some ⟨U8.heap.size,0,none⟩) 1 1) U9 := hU9 ▸ TI.one (n := q) im (w := U8) hq8
    have b9 := nx b8 bU9
    have D6 := lH (hd6.stays bU8)
    have T6 := lH (ht6.stays bU8)
    clear hd6 ht6 u7
    go_wp2_with fail
    refine (lwith_any q t [im] _ _ U9 (hti.stays b9) hone9 (by have := bU9.size;omega) (by have := HG.out;omega) (by simp) HS0.out.1).mono ?_
    rintro e w10 ⟨wv,rfl,hb10,hwt10⟩
    have b10 := nx b9 hb10
    clear pU7
    go_wp2_with fail
    refine (size_any q (puts t [im]) wv 3 w10 hwt10 (by have := b10.size;omega) (by have := HS0.out;omega) (HT.out.below (nx hb b10))).mono ?_
    rintro e w11 ⟨rfl,hb11⟩
    have b11 := nx b10 hb11
    rw [HSZ.out]
    clear p0 p6 p7 p8 pi
    have b411 : Below U4.heap.size U4 w11 := nx (nx (nx b48 bU9) hb10) hb11
    obtain ⟨p0,p6,p7,p8,pi⟩ := HF.out w11 b411
    have u11 := ((u8.stays bU9).stays hb10).stays hb11
    have D11 := lH (((D6.out.stays bU9).stays hb10).stays hb11)
    have T11 := lH (((T6.out.stays bU9).stays hb10).stays hb11)
    have r11 := u11.row
    have bw11 := nx hb b11
    clear D6 T6
    rcases HADD.out with ⟨e1,e2,e3,-⟩ | ⟨-,e2,-⟩ | ⟨e1,e2,e3,e4,e5,e6,e7,-⟩
    · subst e2
      have hfits : decide ((Wa.wl (rwL (puts t [im]) 1 3) : Int) ≤ R) = false := decide_eq_false (by have := HG.out;omega)
      have hB := HTOP.out.tab
      simp only at D11 T11 ⊢
      clear e3 e1
      go_wp2_with fail
      refine (table_is (lH hB) _ w11 D11.out (by have := bw11.size;omega) (HFI.out.ok.mono (by decide) (by decide)) (HT.out.below bw11)).mono ?_
      rintro e w12 ⟨v12,rfl,hb12,ht12⟩
      simp only at ht12 ⊢
      have b412 := nx b411 hb12
      clear p0 p6 p7 p8 pi r11
      obtain ⟨p0,p6,p7,p8,pi⟩ := HF.out w12 b412
      have u12 := u11.stays hb12
      have r12 := u12.row
      go_wp2_with fail
      refine (same_is (lH (sameL_refl t)) _ _ w12 ht12 ((hti.stays b4).stays b412) (by have := HG.out;omega) (by have := HG.out;omega)).mono ?_
      rintro e w13 ⟨rfl,hb13⟩
      have b413 := nx b412 hb13
      clear p0 p6 p7 p8 pi r12
      obtain ⟨p0,p6,p7,p8,pi⟩ := HF.out w13 b413
      have u13 := u12.stays hb13
      have r13 := u13.row
      go_wp2_with fail
      refine (disks_yes d _ _ w13 ((D11.out.stays hb12).stays hb13) ((hdv.stays b4).stays b413) (by have := HFI.out.ok.len;omega)).mono ?_
      rintro e w14 ⟨rfl,hb14⟩
      have b414 := nx b413 hb14
      have b14 : Below wo.heap.size wo w14 := nx b4 b414
      have bw14 := nx hb b14
      clear p0 p6 p7 p8 pi r13
      have u14 := u13.stays hb14
      obtain ⟨_,_,_,_,pi⟩ := HF.out w14 b414
      have D14 := lH (((D11.out.stays hb12).stays hb13).stays hb14)
      have T14 := lH (((T11.out.stays hb12).stays hb13).stays hb14)
      have i14 := HF.out
      have hF17 : ∀ u,Below w14.heap.size w14 u → row u w6.heap.size = c6 ∧ row u w2.heap.size = ci im := fun u hu => ⟨(u14.stays hu).row,(HF.out u (nx b414 hu)).2.2.2.2⟩
      clear i14 pi
      obtain ⟨rb,hrb⟩ : ∃ x,addP (Dk.rooP d 20000) t z g 3 [im] = x := ⟨_,rfl⟩
      have hfb := (HFI.out.roo 20000).add t z g 3 [im]
      have hadb := add_out (n := 3) (d := Dk.rooP d 20000) (t := t) (l := [im]) (z := z) (g := g) (HTOP.out.set rfl rfl rfl rfl) (by show -1 ≤ d.f;have := HG.out;omega) (by show lim 20000 60000 ≤ 60000;decide) (by simp) (by simp) HL.out.1 HL.out.2.1
      rw [hrb] at hfb hadb
      have hcb : (Dk.rooP d 20000).c = 20000 := by show lim 20000 60000 = 20000;decide
      have hob : rb.e = 0 ∧ rb.t = puts t [im] ∧ Top 3 rb.d (puts t [im]) rb.z rb.g true := by
        rcases hadb with ⟨_,_,e3,_⟩ | ⟨_,e2,_⟩ | ⟨e1,e2,_,_,_,_,e7,_⟩
        · exfalso;have := HG.out;have := HS0.out;omega
        · exact absurd HG.out.2.2.2.1 e2
        · exact ⟨e1,e2,e7⟩
      obtain ⟨f1,f2,f3⟩ := hob
      have F2 := lH f2
      have HTB := lH f3.tab
      have HFB := lH hfb
      have HB := lH hrb
      have HSM := lH (show sameL rb.t (puts t [im]) = true by rw [f2];exact sameL_refl _)
      have HSM2 := lH (show sameL (puts t [im]) rb.t = true by rw [f2];exact sameL_refl _)
      have HLR := lH (show rb.t.length ≤ 1000000 ∧ (puts t [im]).length ≤ 1000000 by rw [f2];have := HS0.out;omega)
      obtain ⟨c7,hs7,o7,hD7,hcall7⟩ := room_free D14.out 20000
      have HD7 := lH hD7
      have hq14 : q ≤ w14.heap.size := by have := bw14.size;omega
      clear hD7 f2 f3 hadb hfb hrb hcb ht12 hfits u11 u12 u13 D11 T11 hwt10 hone9 hone5
      go_wp2
      refine Rf.rg [0,1,2,3,4,5,6,7,8,9,10,11,12,13,14,15,16,17,18,19] ?_
      repeat (first | (refine Rf.Steps.sk ?_;simp only [Act.put,sA,sB,sC]) | (refine Rf.Steps.pu (v := ?_) ?_ ?_;rotate_left;(intro w_ hS_;have hk_ := hF17 w_ hS_;go_simp <;> with_reducible rfl);simp only [Act.put,sA,sB,sC]) | (refine Rf.Steps.ca (v := ?_) (f := ?_) (args := ?_) ?_ ?_ ?_;rotate_left 3;(intro w_ hS_;have hk_ := hF17 w_ hS_;go_simp <;> first | with_reducible rfl | (constructor <;> with_reducible rfl));(intro w_ hS_;have hk_ := hF17 w_ hS_;first | (go_at_call 20;refine (hcall7 _).mono ?_;first | (rintro e w_ ⟨rfl,rfl⟩;refine ⟨?_,Below.refl _ _⟩;with_reducible rfl) | (rintro e w_ ⟨rfl,hb_⟩;refine ⟨?_,hb_⟩;with_reducible rfl)));simp only [Act.put,sA,sB,sC]))
      refine Rf.Steps.two (i := 6) (j := 14) (ord := [7,8,9,10,11,12,13,15,16,17,18,19]) (by kernel_rfl) ?_ ?_
      · refine Rf.One.val (fun v u => ∃ b,v = .slice (some ⟨b,0,none⟩) 1 1 ∧ TI q [im] v u) (fun v _ _ h k => by obtain ⟨b,h1,h2⟩ := h;exact ⟨b,h1,h2.stays k⟩) (by rfl) (by rfl) ?_ ?_
        · intro w_ hS_
          refine ⟨_,_,?_,below1 _ _,w_.heap.size,rfl,TI.one im (by have := (hS_).size;omega)⟩
          go_simp
        intro vs us hvs
        simp only [Act.put,sA,sB,sC]
        obtain ⟨bs,rfl,_⟩ := hvs
        refine Rf.Steps.two (i := 7) (j := 14) (ord := [8,9,10,11,12,13,15,16,17,18,19]) (by kernel_rfl) ?_ ?_
        · refine Rf.One.call (fun v u => ∃ dv tv,v = .tuple #[dv,tv,.int .i64 rb.z,.int .i64 rb.g,.int .i64 rb.e] ∧ DV q rb.d dv u ∧ TI q rb.t tv u) (fun v _ _ h k => by obtain ⟨dv,tv,h1,h2,h3⟩ := h;exact ⟨dv,tv,h1,h2.stays k,h3.stays k⟩) (f := ?_) (args := ?_) (by rfl) (by rfl) ?_ ?_ ?_
          rotate_left 2
          · intro w_ hS_;have hk_ := (fun u hu => True.intro) w_ hS_;go_simp <;> first | with_reducible rfl | (constructor <;> with_reducible rfl)
          · intro w_ hS_;have hk_ := (fun u hu => True.intro) w_ hS_;(go_at_call 11;refine (append_is HB (.agg c7) (.slice a6 t.length k6) _ w_ (HD7.out _ (D14.out.stays (hS_.1))) (T14.out.stays (hS_.1)) (by obtain ⟨b_,e_,t_⟩ := hS_.2;exact t_) (by have := (hS_.1).size;omega) (HFI.out.roo 20000).ok (HT.out.below (nx bw14 (hS_.1))) (by have := HG.out;omega) (by have := HG.out;omega) (by have := HG.out;omega) (by simp) HS0.out.1).mono ?_;rintro e w_ ⟨dv,tv,rfl,hb_,hd_,ht_⟩;exact ⟨_,rfl,hb_,dv,tv,rfl,hd_,ht_⟩)
          intro vc u_ hvc
          simp only [Act.put,sA,sB,sC]
          obtain ⟨dv,tv9,rfl,hdc,htc⟩ := hvc
          obtain ⟨cs2,rfl,hs2,o2,_,_⟩ := dv_open hdc
          obtain ⟨a9,c9,rfl⟩ := htc.len
          clear hdc htc
          show Rf.Steps _ _ _ _ [8,9,10,11,12,13,14,15,16,17,18,19] _ _ _
          repeat (first | (refine Rf.Steps.sk ?_;simp only [Act.put,sA,sB,sC]) | (refine Rf.Steps.pu (v := ?_) ?_ ?_;rotate_left;(intro w_ hS_;skip;go_simp <;> with_reducible rfl);simp only [Act.put,sA,sB,sC]))
          refine Rf.Steps.forced (i := 14) (by kernel_rfl) ?_
          refine Rf.One.val (fun v u => ∃ b cs,v = .pointer (some ⟨b,0,none⟩) ∧ Bx u b cs 27 ∧ cs.size = 6 ∧ w14.heap.size ≤ b) (fun v _ _ h k => by obtain ⟨b,cs,h1,h2,h3,h4⟩ := h;exact ⟨b,cs,h1,h2.stays k,h3,h4⟩) (by rfl) (by rfl) ?_ ?_
          · intro w_ hS_
            refine ⟨_,_,?_,below1 _ _,w_.heap.size,z6,rfl,Bx.new _ _ _,rfl,(hS_.1.1).size⟩
            go_simp
          intro v3 u3 hv3
          simp only [Act.put,sA,sB,sC]
          obtain ⟨b3,cs3,rfl,hx3,hs3,hb3⟩ := hv3
          clear hx3 hs3 cs3
          refine Rf.Steps.forced (i := 15) (by kernel_rfl) ?_
          refine Rf.One.store (fun u => (((Below w14.heap.size w14 u ∧ (∃ b,(.slice (some ⟨bs,0,none⟩) 1 1 : Value) = .slice (some ⟨b,0,none⟩) 1 1 ∧ TI q [im] (.slice (some ⟨bs,0,none⟩) 1 1) u)) ∧ (∃ dv tv,(.tuple #[.agg cs2,.slice a9 rb.t.length c9,.int .i64 rb.z,.int .i64 rb.g,.int .i64 rb.e] : Value) = .tuple #[dv,tv,.int .i64 rb.z,.int .i64 rb.g,.int .i64 rb.e] ∧ DV q rb.d dv u ∧ TI q rb.t tv u)) ∧ (∃ b cs,(.pointer (some ⟨b3,0,none⟩) : Value) = .pointer (some ⟨b,0,none⟩) ∧ Bx u b cs 27 ∧ cs.size = 6 ∧ w14.heap.size ≤ b)) ∧ Bx u b3 cs2 27 ∧ DV q rb.d (.agg cs2) u ∧ TI q rb.t (.slice a9 rb.t.length c9) u) (fun _ _ h k => ⟨⟨⟨⟨nx (h.1.1.1.1) k,(by obtain ⟨b,e1,h2⟩ := h.1.1.1.2;exact ⟨b,e1,h2.stays k⟩)⟩,(by obtain ⟨dv,tv,e1,h2,h3⟩ := h.1.1.2;exact ⟨dv,tv,e1,h2.stays k,h3.stays k⟩)⟩,(by obtain ⟨b,cs,e1,h2,h3,h4⟩ := h.1.2;exact ⟨b,cs,e1,h2.stays k,h3,h4⟩)⟩,h.2.1.stays k,h.2.2.1.stays k,h.2.2.2.stays k⟩) (fun u h => h.1) (by rfl) (by rfl) ?_ ?_
          · intro w_ hS_
            have hX_ := hS_.1.1.1
            obtain ⟨bb,cc,e1,hx_,hs_,hb_⟩ := hS_.2
            simp only [Value.pointer.injEq,Option.some.injEq,Addr.mk.injEq,and_true] at e1
            subst e1
            obtain ⟨_,_,ht_⟩ := hS_.1.1.2
            obtain ⟨dv_,tv_,e2,hd_,htt_⟩ := hS_.1.2
            simp only [Value.tuple.injEq] at e2
            have e3 : dv_ = .agg cs2 := by have := congrArg (fun x : Array Value => x[0]?) e2;simpa using this.symm
            have e4 : tv_ = .slice a9 rb.t.length c9 := by have := congrArg (fun x : Array Value => x[1]?) e2;simpa using this.symm
            subst e3 e4
            have pl_ := hx_.plain (n := 6) hs_
            have n1 := below_setRow hX_ hb_ cs2
            have n2 := hx_.put cs2
            have hqb : q ≤ b3 := by omega
            have n3 := ti_row cs2 ht_ hx_ (by decide) hqb
            have n4 := dv_row cs2 hd_ hx_ (by decide) hqb
            have n5 := ti_row cs2 htt_ hx_ (by decide) hqb
            refine ⟨_,?_,⟨⟨⟨n1,⟨bs,rfl,n3⟩⟩,⟨.agg cs2,_,rfl,n4,n5⟩⟩,⟨b3,cs2,rfl,n2,hs2,hb_⟩⟩,n2,n4,n5⟩
            go_simp
          repeat (first | (refine Rf.Steps.sk ?_;simp only [Act.put,sA,sB,sC]) | (refine Rf.Steps.pu (v := ?_) ?_ ?_;rotate_left;(intro w_ hS_;skip;go_simp <;> with_reducible rfl);simp only [Act.put,sA,sB,sC]))
          refine Rf.Steps.nil (by kernel_rfl) ?_
          intro w9 hS9
          have b9 : Below w14.heap.size w14 w9 := hS9.1.1.1.1
          have x9 := hS9.2.1
          have D9 := lH hS9.2.2.1
          have T9 := lH hS9.2.2.2
          clear hS9
          have bw9 := nx bw14 b9
          have r9x := x9.row
          go_wp2_with fail
          refine (table_is HTB _ w9 D9.out (by have := bw9.size;omega) (HFB.out.ok.mono (by decide) (by decide)) (HT.out.below bw9)).mono ?_
          rintro e w15 ⟨v15,rfl,hb15,ht15⟩
          simp only at ht15 ⊢
          have b15 := nx b9 hb15
          have b415 := nx b414 b15
          have T15 := lH (T9.out.stays hb15)
          clear r9x
          obtain ⟨p0,p6,p7,p8,pi⟩ := HF.out w15 b415
          obtain ⟨U16,hU16⟩ : ∃ Q_ : World,w15.alloc (.cells (ci im) 44) = Q_ := ⟨_,rfl⟩
          have bU16 : Below w15.heap.size w15 U16 := hU16 ▸ below1 _ _
          have hq15 : q ≤ w15.heap.size := by have := b15.size;omega
          have hone16 : TI q [im] (.slice (some ⟨w15.heap.size,0,none⟩) 1 1) U16 := hU16 ▸ TI.one (n := q) im (w := w15) hq15
          have b416 := nx b415 bU16
          go_wp2_with fail
          refine (lwith_any q t [im] _ _ U16 ((hti.stays b4).stays b416) hone16 (by have := bU16.size;omega) (by have := HG.out;omega) (by simp) HS0.out.1).mono ?_
          rintro e w17 ⟨wv7,rfl,hb17,hwt17⟩
          go_wp2_with fail
          refine (same_is HSM _ _ w17 ((T15.out.stays bU16).stays hb17) hwt17 HLR.out.1 HLR.out.2).mono ?_
          rintro e w18 ⟨rfl,hb18⟩
          go_wp2_with fail
          refine (same_is HSM2 _ _ w18 (((ht15.stays bU16).stays hb17).stays hb18) (((T15.out.stays bU16).stays hb17).stays hb18) HLR.out.2 HLR.out.1).mono ?_
          rintro e w19 ⟨rfl,hb19⟩
          have b19 := nx (nx (nx (nx b15 bU16) hb17) hb18) hb19
          have bo19 := nx b14 b19
          have HEND := lH (show Below w.heap.size w w19 ∧ kb < w19.heap.size ∧ ∃ (d : Ds) (t : List Ins) (z g : Int) (cs : Array Value) (a : Option Addr) (c : Nat),Bx w19 kb (kC cs (.slice a t.length c) z g) 61 ∧ DV q d (.agg cs) w19 ∧ TI q t (.slice a t.length c) w19 ∧ Top 3 d t z g true ∧ Fine d ∧ d.f = -1 ∧ d.c = R ∧ g ≤ (k + 1 : Nat) + 1 ∧ t.length ≤ k + 1 ∧ cs.size = 6 ∧ oneAll (.agg cs) = true from
            ⟨nx hb bo19,by have := bo19.size;omega,d,t,z,g,cs,a,c,hx.stays bo19,hdv.stays bo19,hti.stays bo19,HTOP.out,HFI.out,HG.out.2.2.2.1,HG.out.2.2.2.2,by have := HG.out.1;omega,by have := HG.out.2.1;omega,HSE.out,o1⟩)
          clear p0 p6 p7 p8 pi
          go_wp2
          go_roundw
          case rel => first | exact ⟨k + 1,by omega,by go_num,HEND.out⟩ | ((repeat apply Exists.intro);exact ⟨⟨k + 1,by omega,by go_num,HEND.out⟩,rfl⟩)
          case measure => simp [intOf];omega
        · refine Rf.One.val (fun v u => ∃ b cs,v = .pointer (some ⟨b,0,none⟩) ∧ Bx u b cs 27 ∧ cs.size = 6 ∧ w14.heap.size ≤ b) (fun v _ _ h k => by obtain ⟨b,cs,h1,h2,h3,h4⟩ := h;exact ⟨b,cs,h1,h2.stays k,h3,h4⟩) (by rfl) (by rfl) ?_ ?_
          · intro w_ hS_
            refine ⟨_,_,?_,below1 _ _,w_.heap.size,z6,rfl,Bx.new _ _ _,rfl,(hS_.1).size⟩
            go_simp
          intro v3 u3 hv3
          simp only [Act.put,sA,sB,sC]
          obtain ⟨b3,cs3,rfl,hx3,hs3,hb3⟩ := hv3
          clear hx3 hs3 cs3
          refine Rf.Steps.forced (i := 7) (by kernel_rfl) ?_
          refine Rf.One.call (fun v u => ∃ dv tv,v = .tuple #[dv,tv,.int .i64 rb.z,.int .i64 rb.g,.int .i64 rb.e] ∧ DV q rb.d dv u ∧ TI q rb.t tv u) (fun v _ _ h k => by obtain ⟨dv,tv,h1,h2,h3⟩ := h;exact ⟨dv,tv,h1,h2.stays k,h3.stays k⟩) (f := ?_) (args := ?_) (by rfl) (by rfl) ?_ ?_ ?_
          rotate_left 2
          · intro w_ hS_;have hk_ := (fun u hu => True.intro) w_ hS_;go_simp <;> first | with_reducible rfl | (constructor <;> with_reducible rfl)
          · intro w_ hS_;have hk_ := (fun u hu => True.intro) w_ hS_;(go_at_call 11;refine (append_is HB (.agg c7) (.slice a6 t.length k6) _ w_ (HD7.out _ (D14.out.stays (hS_.1.1))) (T14.out.stays (hS_.1.1)) (by obtain ⟨b_,e_,t_⟩ := hS_.1.2;exact t_) (by have := (hS_.1.1).size;omega) (HFI.out.roo 20000).ok (HT.out.below (nx bw14 (hS_.1.1))) (by have := HG.out;omega) (by have := HG.out;omega) (by have := HG.out;omega) (by simp) HS0.out.1).mono ?_;rintro e w_ ⟨dv,tv,rfl,hb_,hd_,ht_⟩;exact ⟨_,rfl,hb_,dv,tv,rfl,hd_,ht_⟩)
          intro vc u_ hvc
          simp only [Act.put,sA,sB,sC]
          obtain ⟨dv,tv9,rfl,hdc,htc⟩ := hvc
          obtain ⟨cs2,rfl,hs2,o2,_,_⟩ := dv_open hdc
          obtain ⟨a9,c9,rfl⟩ := htc.len
          clear hdc htc
          repeat (first | (refine Rf.Steps.sk ?_;simp only [Act.put,sA,sB,sC]) | (refine Rf.Steps.pu (v := ?_) ?_ ?_;rotate_left;(intro w_ hS_;skip;go_simp <;> with_reducible rfl);simp only [Act.put,sA,sB,sC]))
          refine Rf.Steps.forced (i := 15) (by kernel_rfl) ?_
          refine Rf.One.store (fun u => (((Below w14.heap.size w14 u ∧ (∃ b,(.slice (some ⟨bs,0,none⟩) 1 1 : Value) = .slice (some ⟨b,0,none⟩) 1 1 ∧ TI q [im] (.slice (some ⟨bs,0,none⟩) 1 1) u)) ∧ (∃ b cs,(.pointer (some ⟨b3,0,none⟩) : Value) = .pointer (some ⟨b,0,none⟩) ∧ Bx u b cs 27 ∧ cs.size = 6 ∧ w14.heap.size ≤ b)) ∧ (∃ dv tv,(.tuple #[.agg cs2,.slice a9 rb.t.length c9,.int .i64 rb.z,.int .i64 rb.g,.int .i64 rb.e] : Value) = .tuple #[dv,tv,.int .i64 rb.z,.int .i64 rb.g,.int .i64 rb.e] ∧ DV q rb.d dv u ∧ TI q rb.t tv u)) ∧ Bx u b3 cs2 27 ∧ DV q rb.d (.agg cs2) u ∧ TI q rb.t (.slice a9 rb.t.length c9) u) (fun _ _ h k => ⟨⟨⟨⟨nx (h.1.1.1.1) k,(by obtain ⟨b,e1,h2⟩ := h.1.1.1.2;exact ⟨b,e1,h2.stays k⟩)⟩,(by obtain ⟨b,cs,e1,h2,h3,h4⟩ := h.1.1.2;exact ⟨b,cs,e1,h2.stays k,h3,h4⟩)⟩,(by obtain ⟨dv,tv,e1,h2,h3⟩ := h.1.2;exact ⟨dv,tv,e1,h2.stays k,h3.stays k⟩)⟩,h.2.1.stays k,h.2.2.1.stays k,h.2.2.2.stays k⟩) (fun u h => h.1) (by rfl) (by rfl) ?_ ?_
          · intro w_ hS_
            have hX_ := hS_.1.1.1
            obtain ⟨bb,cc,e1,hx_,hs_,hb_⟩ := hS_.1.2
            simp only [Value.pointer.injEq,Option.some.injEq,Addr.mk.injEq,and_true] at e1
            subst e1
            obtain ⟨_,_,ht_⟩ := hS_.1.1.2
            obtain ⟨dv_,tv_,e2,hd_,htt_⟩ := hS_.2
            simp only [Value.tuple.injEq] at e2
            have e3 : dv_ = .agg cs2 := by have := congrArg (fun x : Array Value => x[0]?) e2;simpa using this.symm
            have e4 : tv_ = .slice a9 rb.t.length c9 := by have := congrArg (fun x : Array Value => x[1]?) e2;simpa using this.symm
            subst e3 e4
            have pl_ := hx_.plain (n := 6) hs_
            have n1 := below_setRow hX_ hb_ cs2
            have n2 := hx_.put cs2
            have hqb : q ≤ b3 := by omega
            have n3 := ti_row cs2 ht_ hx_ (by decide) hqb
            have n4 := dv_row cs2 hd_ hx_ (by decide) hqb
            have n5 := ti_row cs2 htt_ hx_ (by decide) hqb
            refine ⟨_,?_,⟨⟨⟨n1,⟨bs,rfl,n3⟩⟩,⟨b3,cs2,rfl,n2,hs2,hb_⟩⟩,⟨.agg cs2,_,rfl,n4,n5⟩⟩,n2,n4,n5⟩
            go_simp
          repeat (first | (refine Rf.Steps.sk ?_;simp only [Act.put,sA,sB,sC]) | (refine Rf.Steps.pu (v := ?_) ?_ ?_;rotate_left;(intro w_ hS_;skip;go_simp <;> with_reducible rfl);simp only [Act.put,sA,sB,sC]))
          refine Rf.Steps.nil (by kernel_rfl) ?_
          intro w9 hS9
          have b9 : Below w14.heap.size w14 w9 := hS9.1.1.1.1
          have x9 := hS9.2.1
          have D9 := lH hS9.2.2.1
          have T9 := lH hS9.2.2.2
          clear hS9
          have bw9 := nx bw14 b9
          have r9x := x9.row
          go_wp2_with fail
          refine (table_is HTB _ w9 D9.out (by have := bw9.size;omega) (HFB.out.ok.mono (by decide) (by decide)) (HT.out.below bw9)).mono ?_
          rintro e w15 ⟨v15,rfl,hb15,ht15⟩
          simp only at ht15 ⊢
          have b15 := nx b9 hb15
          have b415 := nx b414 b15
          have T15 := lH (T9.out.stays hb15)
          clear r9x
          obtain ⟨p0,p6,p7,p8,pi⟩ := HF.out w15 b415
          obtain ⟨U16,hU16⟩ : ∃ Q_ : World,w15.alloc (.cells (ci im) 44) = Q_ := ⟨_,rfl⟩
          have bU16 : Below w15.heap.size w15 U16 := hU16 ▸ below1 _ _
          have hq15 : q ≤ w15.heap.size := by have := b15.size;omega
          have hone16 : TI q [im] (.slice (some ⟨w15.heap.size,0,none⟩) 1 1) U16 := hU16 ▸ TI.one (n := q) im (w := w15) hq15
          have b416 := nx b415 bU16
          go_wp2_with fail
          refine (lwith_any q t [im] _ _ U16 ((hti.stays b4).stays b416) hone16 (by have := bU16.size;omega) (by have := HG.out;omega) (by simp) HS0.out.1).mono ?_
          rintro e w17 ⟨wv7,rfl,hb17,hwt17⟩
          go_wp2_with fail
          refine (same_is HSM _ _ w17 ((T15.out.stays bU16).stays hb17) hwt17 HLR.out.1 HLR.out.2).mono ?_
          rintro e w18 ⟨rfl,hb18⟩
          go_wp2_with fail
          refine (same_is HSM2 _ _ w18 (((ht15.stays bU16).stays hb17).stays hb18) (((T15.out.stays bU16).stays hb17).stays hb18) HLR.out.2 HLR.out.1).mono ?_
          rintro e w19 ⟨rfl,hb19⟩
          have b19 := nx (nx (nx (nx b15 bU16) hb17) hb18) hb19
          have bo19 := nx b14 b19
          have HEND := lH (show Below w.heap.size w w19 ∧ kb < w19.heap.size ∧ ∃ (d : Ds) (t : List Ins) (z g : Int) (cs : Array Value) (a : Option Addr) (c : Nat),Bx w19 kb (kC cs (.slice a t.length c) z g) 61 ∧ DV q d (.agg cs) w19 ∧ TI q t (.slice a t.length c) w19 ∧ Top 3 d t z g true ∧ Fine d ∧ d.f = -1 ∧ d.c = R ∧ g ≤ (k + 1 : Nat) + 1 ∧ t.length ≤ k + 1 ∧ cs.size = 6 ∧ oneAll (.agg cs) = true from
            ⟨nx hb bo19,by have := bo19.size;omega,d,t,z,g,cs,a,c,hx.stays bo19,hdv.stays bo19,hti.stays bo19,HTOP.out,HFI.out,HG.out.2.2.2.1,HG.out.2.2.2.2,by have := HG.out.1;omega,by have := HG.out.2.1;omega,HSE.out,o1⟩)
          clear p0 p6 p7 p8 pi
          go_wp2
          go_roundw
          case rel => first | exact ⟨k + 1,by omega,by go_num,HEND.out⟩ | ((repeat apply Exists.intro);exact ⟨⟨k + 1,by omega,by go_num,HEND.out⟩,rfl⟩)
          case measure => simp [intOf];omega
      · refine Rf.One.val (fun v u => ∃ b cs,v = .pointer (some ⟨b,0,none⟩) ∧ Bx u b cs 27 ∧ cs.size = 6 ∧ w14.heap.size ≤ b) (fun v _ _ h k => by obtain ⟨b,cs,h1,h2,h3,h4⟩ := h;exact ⟨b,cs,h1,h2.stays k,h3,h4⟩) (by rfl) (by rfl) ?_ ?_
        · intro w_ hS_
          refine ⟨_,_,?_,below1 _ _,w_.heap.size,z6,rfl,Bx.new _ _ _,rfl,(hS_).size⟩
          go_simp
        intro v3 u3 hv3
        simp only [Act.put,sA,sB,sC]
        obtain ⟨b3,cs3,rfl,hx3,hs3,hb3⟩ := hv3
        clear hx3 hs3 cs3
        refine Rf.Steps.forced (i := 6) (by kernel_rfl) ?_
        refine Rf.One.val (fun v u => ∃ b,v = .slice (some ⟨b,0,none⟩) 1 1 ∧ TI q [im] v u) (fun v _ _ h k => by obtain ⟨b,h1,h2⟩ := h;exact ⟨b,h1,h2.stays k⟩) (by rfl) (by rfl) ?_ ?_
        · intro w_ hS_
          refine ⟨_,_,?_,below1 _ _,w_.heap.size,rfl,TI.one im (by have := (hS_.1).size;omega)⟩
          go_simp
        intro vs us hvs
        simp only [Act.put,sA,sB,sC]
        obtain ⟨bs,rfl,_⟩ := hvs
        refine Rf.Steps.forced (i := 7) (by kernel_rfl) ?_
        refine Rf.One.call (fun v u => ∃ dv tv,v = .tuple #[dv,tv,.int .i64 rb.z,.int .i64 rb.g,.int .i64 rb.e] ∧ DV q rb.d dv u ∧ TI q rb.t tv u) (fun v _ _ h k => by obtain ⟨dv,tv,h1,h2,h3⟩ := h;exact ⟨dv,tv,h1,h2.stays k,h3.stays k⟩) (f := ?_) (args := ?_) (by rfl) (by rfl) ?_ ?_ ?_
        rotate_left 2
        · intro w_ hS_;have hk_ := (fun u hu => True.intro) w_ hS_;go_simp <;> first | with_reducible rfl | (constructor <;> with_reducible rfl)
        · intro w_ hS_;have hk_ := (fun u hu => True.intro) w_ hS_;(go_at_call 11;refine (append_is HB (.agg c7) (.slice a6 t.length k6) _ w_ (HD7.out _ (D14.out.stays (hS_.1.1))) (T14.out.stays (hS_.1.1)) (by obtain ⟨b_,e_,t_⟩ := hS_.2;exact t_) (by have := (hS_.1.1).size;omega) (HFI.out.roo 20000).ok (HT.out.below (nx bw14 (hS_.1.1))) (by have := HG.out;omega) (by have := HG.out;omega) (by have := HG.out;omega) (by simp) HS0.out.1).mono ?_;rintro e w_ ⟨dv,tv,rfl,hb_,hd_,ht_⟩;exact ⟨_,rfl,hb_,dv,tv,rfl,hd_,ht_⟩)
        intro vc u_ hvc
        simp only [Act.put,sA,sB,sC]
        obtain ⟨dv,tv9,rfl,hdc,htc⟩ := hvc
        obtain ⟨cs2,rfl,hs2,o2,_,_⟩ := dv_open hdc
        obtain ⟨a9,c9,rfl⟩ := htc.len
        clear hdc htc
        repeat (first | (refine Rf.Steps.sk ?_;simp only [Act.put,sA,sB,sC]) | (refine Rf.Steps.pu (v := ?_) ?_ ?_;rotate_left;(intro w_ hS_;skip;go_simp <;> with_reducible rfl);simp only [Act.put,sA,sB,sC]))
        refine Rf.Steps.forced (i := 15) (by kernel_rfl) ?_
        refine Rf.One.store (fun u => (((Below w14.heap.size w14 u ∧ (∃ b cs,(.pointer (some ⟨b3,0,none⟩) : Value) = .pointer (some ⟨b,0,none⟩) ∧ Bx u b cs 27 ∧ cs.size = 6 ∧ w14.heap.size ≤ b)) ∧ (∃ b,(.slice (some ⟨bs,0,none⟩) 1 1 : Value) = .slice (some ⟨b,0,none⟩) 1 1 ∧ TI q [im] (.slice (some ⟨bs,0,none⟩) 1 1) u)) ∧ (∃ dv tv,(.tuple #[.agg cs2,.slice a9 rb.t.length c9,.int .i64 rb.z,.int .i64 rb.g,.int .i64 rb.e] : Value) = .tuple #[dv,tv,.int .i64 rb.z,.int .i64 rb.g,.int .i64 rb.e] ∧ DV q rb.d dv u ∧ TI q rb.t tv u)) ∧ Bx u b3 cs2 27 ∧ DV q rb.d (.agg cs2) u ∧ TI q rb.t (.slice a9 rb.t.length c9) u) (fun _ _ h k => ⟨⟨⟨⟨nx (h.1.1.1.1) k,(by obtain ⟨b,cs,e1,h2,h3,h4⟩ := h.1.1.1.2;exact ⟨b,cs,e1,h2.stays k,h3,h4⟩)⟩,(by obtain ⟨b,e1,h2⟩ := h.1.1.2;exact ⟨b,e1,h2.stays k⟩)⟩,(by obtain ⟨dv,tv,e1,h2,h3⟩ := h.1.2;exact ⟨dv,tv,e1,h2.stays k,h3.stays k⟩)⟩,h.2.1.stays k,h.2.2.1.stays k,h.2.2.2.stays k⟩) (fun u h => h.1) (by rfl) (by rfl) ?_ ?_
        · intro w_ hS_
          have hX_ := hS_.1.1.1
          obtain ⟨bb,cc,e1,hx_,hs_,hb_⟩ := hS_.1.1.2
          simp only [Value.pointer.injEq,Option.some.injEq,Addr.mk.injEq,and_true] at e1
          subst e1
          obtain ⟨_,_,ht_⟩ := hS_.1.2
          obtain ⟨dv_,tv_,e2,hd_,htt_⟩ := hS_.2
          simp only [Value.tuple.injEq] at e2
          have e3 : dv_ = .agg cs2 := by have := congrArg (fun x : Array Value => x[0]?) e2;simpa using this.symm
          have e4 : tv_ = .slice a9 rb.t.length c9 := by have := congrArg (fun x : Array Value => x[1]?) e2;simpa using this.symm
          subst e3 e4
          have pl_ := hx_.plain (n := 6) hs_
          have n1 := below_setRow hX_ hb_ cs2
          have n2 := hx_.put cs2
          have hqb : q ≤ b3 := by omega
          have n3 := ti_row cs2 ht_ hx_ (by decide) hqb
          have n4 := dv_row cs2 hd_ hx_ (by decide) hqb
          have n5 := ti_row cs2 htt_ hx_ (by decide) hqb
          refine ⟨_,?_,⟨⟨⟨n1,⟨b3,cs2,rfl,n2,hs2,hb_⟩⟩,⟨bs,rfl,n3⟩⟩,⟨.agg cs2,_,rfl,n4,n5⟩⟩,n2,n4,n5⟩
          go_simp
        repeat (first | (refine Rf.Steps.sk ?_;simp only [Act.put,sA,sB,sC]) | (refine Rf.Steps.pu (v := ?_) ?_ ?_;rotate_left;(intro w_ hS_;skip;go_simp <;> with_reducible rfl);simp only [Act.put,sA,sB,sC]))
        refine Rf.Steps.nil (by kernel_rfl) ?_
        intro w9 hS9
        have b9 : Below w14.heap.size w14 w9 := hS9.1.1.1.1
        have x9 := hS9.2.1
        have D9 := lH hS9.2.2.1
        have T9 := lH hS9.2.2.2
        clear hS9
        have bw9 := nx bw14 b9
        have r9x := x9.row
        go_wp2_with fail
        refine (table_is HTB _ w9 D9.out (by have := bw9.size;omega) (HFB.out.ok.mono (by decide) (by decide)) (HT.out.below bw9)).mono ?_
        rintro e w15 ⟨v15,rfl,hb15,ht15⟩
        simp only at ht15 ⊢
        have b15 := nx b9 hb15
        have b415 := nx b414 b15
        have T15 := lH (T9.out.stays hb15)
        clear r9x
        obtain ⟨p0,p6,p7,p8,pi⟩ := HF.out w15 b415
        obtain ⟨U16,hU16⟩ : ∃ Q_ : World,w15.alloc (.cells (ci im) 44) = Q_ := ⟨_,rfl⟩
        have bU16 : Below w15.heap.size w15 U16 := hU16 ▸ below1 _ _
        have hq15 : q ≤ w15.heap.size := by have := b15.size;omega
        have hone16 : TI q [im] (.slice (some ⟨w15.heap.size,0,none⟩) 1 1) U16 := hU16 ▸ TI.one (n := q) im (w := w15) hq15
        have b416 := nx b415 bU16
        go_wp2_with fail
        refine (lwith_any q t [im] _ _ U16 ((hti.stays b4).stays b416) hone16 (by have := bU16.size;omega) (by have := HG.out;omega) (by simp) HS0.out.1).mono ?_
        rintro e w17 ⟨wv7,rfl,hb17,hwt17⟩
        go_wp2_with fail
        refine (same_is HSM _ _ w17 ((T15.out.stays bU16).stays hb17) hwt17 HLR.out.1 HLR.out.2).mono ?_
        rintro e w18 ⟨rfl,hb18⟩
        go_wp2_with fail
        refine (same_is HSM2 _ _ w18 (((ht15.stays bU16).stays hb17).stays hb18) (((T15.out.stays bU16).stays hb17).stays hb18) HLR.out.2 HLR.out.1).mono ?_
        rintro e w19 ⟨rfl,hb19⟩
        have b19 := nx (nx (nx (nx b15 bU16) hb17) hb18) hb19
        have bo19 := nx b14 b19
        have HEND := lH (show Below w.heap.size w w19 ∧ kb < w19.heap.size ∧ ∃ (d : Ds) (t : List Ins) (z g : Int) (cs : Array Value) (a : Option Addr) (c : Nat),Bx w19 kb (kC cs (.slice a t.length c) z g) 61 ∧ DV q d (.agg cs) w19 ∧ TI q t (.slice a t.length c) w19 ∧ Top 3 d t z g true ∧ Fine d ∧ d.f = -1 ∧ d.c = R ∧ g ≤ (k + 1 : Nat) + 1 ∧ t.length ≤ k + 1 ∧ cs.size = 6 ∧ oneAll (.agg cs) = true from
          ⟨nx hb bo19,by have := bo19.size;omega,d,t,z,g,cs,a,c,hx.stays bo19,hdv.stays bo19,hti.stays bo19,HTOP.out,HFI.out,HG.out.2.2.2.1,HG.out.2.2.2.2,by have := HG.out.1;omega,by have := HG.out.2.1;omega,HSE.out,o1⟩)
        clear p0 p6 p7 p8 pi
        go_wp2
        go_roundw
        case rel => first | exact ⟨k + 1,by omega,by go_num,HEND.out⟩ | ((repeat apply Exists.intro);exact ⟨⟨k + 1,by omega,by go_num,HEND.out⟩,rfl⟩)
        case measure => simp [intOf];omega
    · exact absurd HG.out.2.2.2.1 e2
    · have hx11 := hx.stays b11
      have pk11 := hx11.plain (n := 9) (kC_size HSE.out _ _ _)
      have hs9n := kC_size hs6 (.slice a6 ra.t.length k6) ra.z ra.g
      have ho9n := kC_one o6 a6 ra.t.length k6 ra.z ra.g
      obtain ⟨Z,hZ⟩ : ∃ Q_ : World,w11.setRow kb (kC c6 (.slice a6 ra.t.length k6) ra.z ra.g) = Q_ := ⟨_,rfl⟩
      have bwk : w.heap.size ≤ kb := by have := hb1.size;have := HKB.out;omega
      have hkl11 := hx11.lt
      have HEND := lH (show Below w.heap.size w Z ∧ kb < Z.heap.size ∧ ∃ (d : Ds) (t : List Ins) (z g : Int) (cs : Array Value) (a : Option Addr) (c : Nat),Bx Z kb (kC cs (.slice a t.length c) z g) 61 ∧ DV q d (.agg cs) Z ∧ TI q t (.slice a t.length c) Z ∧ Top 3 d t z g true ∧ Fine d ∧ d.f = -1 ∧ d.c = R ∧ g ≤ (k + 1 : Nat) + 1 ∧ t.length ≤ k + 1 ∧ cs.size = 6 ∧ oneAll (.agg cs) = true from
        ⟨hZ ▸ below_setRow bw11 bwk _,(hZ ▸ hx11.put _ : Bx Z kb _ _).lt,ra.d,ra.t,ra.z,ra.g,c6,a6,k6,hZ ▸ hx11.put _,hZ ▸ dv_row _ D11.out hx11 (by decide) hqk,hZ ▸ ti_row _ T11.out hx11 (by decide) hqk,e2 ▸ e7,HFA.out,e4 HG.out.2.2.2.1,by rw [e3];exact HG.out.2.2.2.2,by have := HG.out;omega,by rw [e2];exact HS0.out.2.2.1,hs6,o6⟩)
      clear e2 e3 e4 e5 e6 e7
      go_wp2
      go_roundw
      case rel => first | exact ⟨k + 1,by omega,by go_num,HEND.out⟩ | ((repeat apply Exists.intro);exact ⟨⟨k + 1,by omega,by go_num,HEND.out⟩,rfl⟩)
      case measure => simp [intOf];omega
end Go.Proofs.YtnnbjhpkgndclaaGreatDoor.St
