/- Layer 17: StoreOpens. -/
import Derived.Test.YtnnbjhpkgndclaaGreatDoorQsZZ
import Derived.Test.YtnnbjhpkgndclaaGreatDoorQsBY
import Derived.Test.YtnnbjhpkgndclaaGreatDoorQsCB
import Derived.Test.YtnnbjhpkgndclaaGreatDoorQsBP
import Derived.Test.YtnnbjhpkgndclaaGreatDoorQsBZ
set_option linter.unusedVariables false
namespace Go.Proofs.YtnnbjhpkgndclaaGreatDoor.St
open Go.RowKit
open Go.Proofs.YtnnbjhpkgndclaaGreatDoor.Rw
open Go.Proofs.YtnnbjhpkgndclaaGreatDoor.Da
open Go.Proofs.YtnnbjhpkgndclaaGreatDoor.Bv
open Go.Proofs.YtnnbjhpkgndclaaGreatDoor.Rc (Ins ci zeroI okI)
open Go.Proofs.YtnnbjhpkgndclaaGreatDoor.Dk (Ds DV Post2 PostD Ok newP new_any at2 lim nul disks_yes armP appP craP staP arm_any crash_any start_any)
set_option maxRecDepth 8000 in
set_option maxHeartbeats 8000000 in
theorem walkOpens (l : List O3) (v : Value) (fl : List Int) (vf : Value) (w : World) (h : PL (Bs.of w.heap.size) l v w) (hwf : wfOs l) (hf : NL (Bs.of w.heap.size) fl vf w) (hwn : wfNs fl) (hT : Tbs w) :
    Calls Tryz.prog 7 #[v,vf] w fun e w' => e = .returned (.bool true) ∧ Below w.heap.size w w' := by
  have hlm : l.length ≤ maxLen := hwf.1
  have hfm : fl.length ≤ maxLen := hwn.1
  unfold maxLen at hlm hfm
  clear hwf hwn
  have HT := lH hT
  obtain ⟨q,hq⟩ : ∃ n,n = w.heap.size := ⟨_,rfl⟩
  have hq0 : q ≤ w.heap.size := by omega
  obtain ⟨n1,hn1⟩ : ∃ n,l.length = n := ⟨_,rfl⟩
  obtain ⟨n2,hn2⟩ : ∃ n,fl.length = n := ⟨_,rfl⟩
  have HCL := lH (show ∀ u,Below w.heap.size w u → PL (Bs.of w.heap.size) l v u from fun u hu => Is.stays eO3 31 h hu)
  have HNL := lH (show ∀ u,Below w.heap.size w u → NL (Bs.of w.heap.size) fl vf u from fun u hu => Is.stays eN 3 hf hu)
  obtain ⟨a0,c0,rfl⟩ := h.len
  obtain ⟨a8,c8,rfl⟩ := hf.len
  rw [hn1] at hlm ⊢
  rw [hn2] at hfm ⊢
  clear h hf
  have HN := lH hn1
  have HN2 := lH hn2
  by_cases hl : (40 : Int) < n1
  · have hd : decide ((40 : Int) < n1) = true := decide_eq_true hl
    clear hn1 hn2 hT hq
    go_enter Tryz.func7,Tryz.ntmps7
    go_wp2_with fail
    refine (awake_any w HT.out).mono ?_
    rintro e w1 ⟨rfl,hb1⟩
    go_wp2
    go_ret
    exact ⟨rfl,hb1⟩
  by_cases hl2 : (8 : Int) < n2
  · have hd : decide ((40 : Int) < n1) = false := decide_eq_false hl
    have hd2 : decide ((8 : Int) < n2) = true := decide_eq_true hl2
    clear hn1 hn2 hT hq
    go_enter Tryz.func7,Tryz.ntmps7
    go_wp2_with fail
    refine (awake_any w HT.out).mono ?_
    rintro e w1 ⟨rfl,hb1⟩
    go_wp2
    go_ret
    exact ⟨rfl,hb1⟩
  have hd : decide ((40 : Int) < n1) = false := decide_eq_false hl
  have hd2 : decide ((8 : Int) < n2) = false := decide_eq_false hl2
  have HN40 := lH (show n1 ≤ 40 ∧ n2 ≤ 8 by omega)
  obtain ⟨r,hr⟩ : ∃ r,opnP (newP 8000) 3 = r := ⟨_,rfl⟩
  have hnew := open_new 8000
  have hop := (fine_new 8000).opn 3
  have hlim : lim 8000 60000 = 8000 := by decide
  rw [hr,hlim] at hnew
  rw [hr] at hop
  obtain ⟨r1,r2,r3,r4,r5,r6,r7,r8,r9⟩ := hnew.resolve_left (fun h => by have := h.1;omega)
  have HR := lH hr
  have HO := lH hop.1
  have HTop := lH r8
  have HRF := lH (⟨r6,r7⟩ : r.d.c = 8000 ∧ r.d.f = -1)
  clear hr hnew hop hlim r9 r8 r7 r6 hT hq hn1 hn2 hl hl2 r1
  go_enter Tryz.func7,Tryz.ntmps7
  go_wp2_with fail
  refine (opened_is HR w hq0 HT.out).mono ?_
  rintro e w1 ⟨cs,a,c,rfl,hb1,hd1,ht1,hs,o1⟩
  rw [r2,r3,r4,r5]
  rw [r3] at ht1
  obtain ⟨Y,hY⟩ : ∃ Q_ : World,w1.alloc (.cells z9 61) = Q_ := ⟨_,rfl⟩
  have yY : Bx Y w1.heap.size z9 61 := hY ▸ Bx.new _ _ _
  have bY : Below w1.heap.size w1 Y := hY ▸ below1 _ _
  have pY := yY.plain (n := 9) rfl
  have hs9 := kC_size hs (.slice a 0 c) 0 1
  have ho9 := kC_one o1 a 0 c 0 1
  obtain ⟨X,hX⟩ : ∃ Q_ : World,Y.setRow w1.heap.size (kC cs (.slice a 0 c) 0 1) = Q_ := ⟨_,rfl⟩
  have xX : Bx X w1.heap.size (kC cs (.slice a 0 c) 0 1) 61 := hX ▸ yY.put _
  have hX2 : Below w1.heap.size w1 X := hX ▸ below_setRow bY (Nat.le_refl _) _
  have bX := nx hb1 hX2
  obtain ⟨kb,hkb⟩ : ∃ n,n = w1.heap.size := ⟨_,rfl⟩
  have hqk : q ≤ kb := by have := hb1.size;omega
  have h0 : ∃ (d : Ds) (t : List Ins) (z g : Int) (cs : Array Value) (a : Option Addr) (c : Nat),Bx X kb (kC cs (.slice a t.length c) z g) 61 ∧ DV q d (.agg cs) X ∧ TI q t (.slice a t.length c) X ∧ Top 3 d t z g true ∧ Fine d ∧ d.f = -1 ∧ d.c = 8000 ∧ g ≤ (0 : Nat) + 1 ∧ t.length ≤ 0 ∧ cs.size = 6 ∧ oneAll (.agg cs) = true :=
    ⟨r.d,[],0,1,cs,a,c,hkb ▸ xX,hd1.stays hX2,ht1.stays hX2,HTop.out,HO.out,HRF.out.2,HRF.out.1,by decide,Nat.le_refl 0,hs,o1⟩
  have H0 := lH h0
  have HKB := lH hkb
  clear h0 hkb hd1 ht1 xX yY HTop HO HRF
  go_wp2
  rw [← HKB.out]
  go_loopw [48] (fun i wr => ∃ k : Nat,k ≤ n1 ∧ i = .int .i64 k ∧ Below w.heap.size w wr ∧ kb < wr.heap.size ∧ ∃ (d : Ds) (t : List Ins) (z g : Int) (cs : Array Value) (a : Option Addr) (c : Nat),Bx wr kb (kC cs (.slice a t.length c) z g) 61 ∧ DV q d (.agg cs) wr ∧ TI q t (.slice a t.length c) wr ∧ Top 3 d t z g true ∧ Fine d ∧ d.f = -1 ∧ d.c = 8000 ∧ g ≤ k + 1 ∧ t.length ≤ k ∧ cs.size = 6 ∧ oneAll (.agg cs) = true) (fun i _ => n1 - (intOf i).toNat)
  case atStart =>
    refine ⟨0,Nat.zero_le _,rfl,bX,?_,H0.out⟩
    obtain ⟨_,_,_,_,_,_,_,hx,_⟩ := H0.out
    exact hx.lt
  case round =>
    clear H0
    obtain ⟨k,hk,rfl,hb,hkl,d,t,z,g,cs,a,c,hx,hdv,hti,htop,hfi,hf,hc,hg,htl,hs,o1⟩ := hrel
    obtain ⟨wo,rfl⟩ : ∃ wo : World,wo = wr := ⟨_,rfl⟩
    by_cases hlt : k < n1
    case neg =>
      have hlt2 : ¬ (k : Int) < n1 := by omega
      obtain rfl : k = n1 := by omega
      have hgk := htop.gok
      have hnn := HN40.out
      obtain ⟨dt,hdt⟩ : ∃ x,Dk.appP d z torn = x := ⟨_,rfl⟩
      have hto := torn_out htop hfi hf
      have hokt := hfi.ok.appP z torn
      rw [hdt] at hto hokt
      obtain ⟨wt,ht1,ht2,ht3⟩ := hto
      have hwl : Wa.wl (rwL t 1 3) ≤ 8000 := by rw [wl_rw];show 22 + t.length * 62 ≤ 8000;omega
      have HAPP := lH hdt
      have HOKT := lH (hokt.mono (show 300000 + torn.size ≤ 1000000 by decide) (show 300 + 1 ≤ 1000 by decide))
      have HT0 := lH (⟨ht1,ht2,ht3.trans hc,by omega⟩ : Top 3 (back dt.1 1 0) t z g wt ∧ Fine (back dt.1 1 0) ∧ (back dt.1 1 0).c = 8000 ∧ g ≤ 41 + (0 : Nat))
      have HWL := lH hwl
      have HTL := lH (show t.length ≤ 1000000 by omega)
      have HFI := lH hfi
      have hkc := kC_at hs (.slice a t.length c) z g
      have p0 : Rc.part 6 wo (.pointer (some ⟨kb,0,none⟩)) = cs := by rw [Rc.part_at,hx.row];exact kC_ext hs _ _ _
      have p7 : wo.cell? ⟨kb,7,none⟩ = some (.int .i64 z) := by rw [hx.cell];exact hkc.2.1
      clear hgk hnn hokt ht1 ht2 ht3 hdt hwl htop hfi hf hc hg htl
      go_wp2_with fail
      refine (Dk.append_any q d (.agg cs) z torn wo hdv (by have := hb.size;omega) (HFI.out.ok.mono (by decide) (by decide)) (by decide)).mono ?_
      rintro e w2 ⟨v2,rfl,hb2,hd2'⟩
      rw [HAPP.out] at hd2' ⊢
      obtain ⟨c2,rfl,hs2,o2,_,_⟩ := dv_open hd2'
      obtain ⟨U3,hU3⟩ : ∃ Q_ : World,w2.alloc (.cells z6 27) = Q_ := ⟨_,rfl⟩
      have u3 : Bx U3 w2.heap.size z6 27 := hU3 ▸ Bx.new _ _ _
      have bU3 : Below w2.heap.size w2 U3 := hU3 ▸ below1 _ _
      have pU3 := u3.plain (n := 6) rfl
      obtain ⟨U4,hU4⟩ : ∃ Q_ : World,U3.setRow w2.heap.size c2 = Q_ := ⟨_,rfl⟩
      have u4' : Bx U4 w2.heap.size c2 27 := hU4 ▸ u3.put _
      have bU4 : Below w2.heap.size w2 U4 := hU4 ▸ below_setRow bU3 (Nat.le_refl _) _
      have b4 := nx hb2 bU4
      have bw4 := nx hb b4
      have r4' := u4'.row
      have D4 := hd2'.stays bU4
      obtain ⟨db,hdb⟩ : ∃ n,n = w2.heap.size := ⟨_,rfl⟩
      have hqd : q ≤ db := by have := hb.size;have := hb2.size;omega
      have hwd : w.heap.size ≤ db := by have := hb.size;have := hb2.size;omega
      have hkd : kb < db := by have := hx.lt;have := hb2.size;omega
      clear p0 p7
      go_wp2_with fail
      refine (crash_any q dt.1 (.agg c2) 1 0 U4 D4 (by have := bw4.size;omega) HOKT.out).mono ?_
      rintro e w5 ⟨v5,rfl,hb5,hd5⟩
      clear pU3 r4'
      go_wp2_with fail
      refine (start_any q _ v5 w5 hd5).mono ?_
      rintro e w6 ⟨v6,rfl,hb6,hd6⟩
      have b46 := nx hb5 hb6
      have u6 := u4'.stays b46
      have b6 := nx b4 b46
      obtain ⟨c6,rfl,hs6,o6,_,_⟩ := dv_open hd6
      have p6 := u6.plain (n := 6) hs2
      obtain ⟨Z,hZ⟩ : ∃ Q_ : World,w6.setRow w2.heap.size c6 = Q_ := ⟨_,rfl⟩
      have z6' : Bx Z db c6 27 := by rw [hdb];exact hZ ▸ u6.put _
      have hne : kb ≠ w2.heap.size := by omega
      have bZ : Below w.heap.size w Z := hZ ▸ below_setRow (nx hb b6) (by omega) _
      have hxZ : Bx Z kb (kC cs (.slice a t.length c) z g) 61 := hZ ▸ (hx.stays b6).put' hne _
      have h0 : ∃ (d : Ds) (z1 g1 : Int) (w1 : Bool) (c1 : Array Value),Bx Z db c1 27 ∧ DV q d (.agg c1) Z ∧ (Top 3 d t z1 g1 w1 ∧ Fine d ∧ d.c = 8000 ∧ g1 ≤ 41 + (0 : Nat)) ∧ c1.size = 6 ∧ oneAll (.agg c1) = true :=
        ⟨_,z,g,wt,c6,z6',hZ ▸ dv_row _ hd6 u6 (by decide) (by omega),HT0.out,hs6,o6⟩
      have H0 := lH (⟨bZ,hxZ,hZ ▸ ti_row _ (hti.stays b6) u6 (by decide) (by omega),h0⟩ : Below w.heap.size w Z ∧ Bx Z kb (kC cs (.slice a t.length c) z g) 61 ∧ TI q t (.slice a t.length c) Z ∧ ∃ (d : Ds) (z1 g1 : Int) (w1 : Bool) (c1 : Array Value),Bx Z db c1 27 ∧ DV q d (.agg c1) Z ∧ (Top 3 d t z1 g1 w1 ∧ Fine d ∧ d.c = 8000 ∧ g1 ≤ 41 + (0 : Nat)) ∧ c1.size = 6 ∧ oneAll (.agg c1) = true)
      have HDB := lH hdb
      have HKC := lH hkc.1
      clear h0 hdb hkc z6' hxZ bZ hd6 hd5 u6 hx hti hdv hd2' u3 u4' D4 hb hb2 hb5 hb6 b4 bw4 b46 b6 bU3 bU4 HT0 HOKT HAPP hne
      go_wp2
      rw [← HDB.out]
      go_loopw [100] (fun i wr => ∃ k2 : Nat,k2 ≤ n2 ∧ i = .int .i64 k2 ∧ Below w.heap.size w wr ∧ Bx wr kb (kC cs (.slice a t.length c) z g) 61 ∧ TI q t (.slice a t.length c) wr ∧ ∃ (d : Ds) (z1 g1 : Int) (w1 : Bool) (c1 : Array Value),Bx wr db c1 27 ∧ DV q d (.agg c1) wr ∧ (Top 3 d t z1 g1 w1 ∧ Fine d ∧ d.c = 8000 ∧ g1 ≤ 41 + k2) ∧ c1.size = 6 ∧ oneAll (.agg c1) = true) (fun i _ => n2 - (intOf i).toNat)
      case atStart => exact ⟨0,Nat.zero_le _,rfl,H0.out⟩
      case round =>
        clear H0
        obtain ⟨k2,hk2,rfl,hb,hx,hti,d1,z1,g1,w1',c1,hy,hdv,⟨htop,hfi,hc,hg⟩,hs1,o1'⟩ := hrel
        obtain ⟨wp,rfl⟩ : ∃ wp : World,wp = wr := ⟨_,rfl⟩
        by_cases hlt : k2 < n2
        case neg =>
          have hlt2 : ¬ (k2 : Int) < n2 := by omega
          obtain rfl : k2 = n2 := by omega
          obtain ⟨rr,hrr⟩ : ∃ x,opnP (Dk.armP d1 (-1)) 3 = x := ⟨_,rfl⟩
          have hfa := hfi.arm (-1) (by omega)
          have hnn := HN40.out
          have hwl := HWL.out
          have hful := full_open (htop.set (e := Dk.armP d1 (-1)) rfl rfl rfl rfl) hfa rfl (by omega) (by show _ ≤ d1.c;omega)
          rw [hrr] at hful
          obtain ⟨e1,e2,e3,e4⟩ := hful
          have HRR := lH hrr
          have HFA := lH hfa
          have HFO := lH e4
          have HOW := lH (open_whole e3 (by decide))
          have HSM := lH (show sameL rr.t t = true by rw [e2];exact sameL_refl _)
          have HSM2 := lH (show sameL t rr.t = true by rw [e2];exact sameL_refl _)
          have HLR := lH (show rr.t.length ≤ 1000000 by rw [e2];exact HTL.out)
          have hry := hy.row
          clear e2 e3 e4 hfa hrr htop hfi hc hg hnn hwl hk2 hlt
          go_wp2_with fail
          refine (arm_any q d1 (.agg c1) (-1) wp hdv).mono ?_
          rintro e w2 ⟨v2,rfl,hb2,hd2⟩
          clear hry
          have bw2 := nx hb hb2
          go_wp2_with fail
          refine (open_is HRR v2 w2 hd2 (by have := bw2.size;omega) HFA.out.ok (HT.out.below bw2)).mono ?_
          rintro e w3 ⟨v3,tv3,rfl,hb3,hd3,ht3⟩
          obtain ⟨c3,rfl,hs3,o3,_,_⟩ := dv_open hd3
          obtain ⟨a3,k3,rfl⟩ := ht3.len
          have b3 := nx hb2 hb3
          have y3 := hy.stays b3
          have py3 := y3.plain (n := 6) hs1
          obtain ⟨V3,hV3⟩ : ∃ Q_ : World,w3.setRow db c3 = Q_ := ⟨_,rfl⟩
          have yV3 : Bx V3 db c3 27 := hV3 ▸ y3.put _
          have bV3 : Below w.heap.size w V3 := hV3 ▸ below_setRow (nx hb b3) hwd _
          have dV3 : DV q rr.d (.agg c3) V3 := hV3 ▸ dv_row _ hd3 y3 (by decide) hqd
          have tV3 : TI q t (.slice a t.length c) V3 := hV3 ▸ ti_row _ (hti.stays b3) y3 (by decide) hqd
          have sV3 : TI q rr.t (.slice a3 rr.t.length k3) V3 := hV3 ▸ ti_row _ ht3 y3 (by decide) hqd
          have xV3 : Bx V3 kb (kC cs (.slice a t.length c) z g) 61 := hV3 ▸ (hx.stays b3).put' (by omega) _
          have rV3 := yV3.row
          go_wp2_with fail
          refine (open_is HOW (.agg c3) V3 dV3 (by have := bV3.size;omega) HFO.out.ok (HT.out.below bV3)).mono ?_
          rintro e w4 ⟨v4,tv4,rfl,hb4,hd4,ht4⟩
          simp only at hd4 ht4 ⊢
          obtain ⟨c4,rfl,hs4,o4,_,_⟩ := dv_open hd4
          obtain ⟨a4,k4,rfl⟩ := ht4.len
          obtain ⟨U5,hU5⟩ : ∃ Q_ : World,w4.alloc (.cells z6 27) = Q_ := ⟨_,rfl⟩
          have u5 : Bx U5 w4.heap.size z6 27 := hU5 ▸ Bx.new _ _ _
          have bU5 : Below w4.heap.size w4 U5 := hU5 ▸ below1 _ _
          have pU5 := u5.plain (n := 6) rfl
          obtain ⟨U6,hU6⟩ : ∃ Q_ : World,U5.setRow w4.heap.size c4 = Q_ := ⟨_,rfl⟩
          have u6 : Bx U6 w4.heap.size c4 27 := hU6 ▸ u5.put _
          have bU6 : Below w4.heap.size w4 U6 := hU6 ▸ below_setRow bU5 (Nat.le_refl _) _
          have b36 := nx hb4 bU6
          have bw6 := nx bV3 b36
          have S6 := sV3.stays b36
          have T6 := tV3.stays b36
          have y6 := yV3.stays b36
          have p6 : U6.cell? ⟨kb,6,none⟩ = some (.slice a t.length c) := by rw [(xV3.stays b36).cell];exact HKC.out
          clear rV3 py3
          go_wp2_with fail
          refine (same_is HSM _ _ U6 S6 T6 HLR.out HTL.out).mono ?_
          rintro e w7 ⟨rfl,hb7⟩
          clear pU5 p6
          go_wp2_with fail
          refine (same_is HSM2 _ _ w7 ((ht4.stays bU6).stays hb7) (S6.stays hb7) HTL.out HLR.out).mono ?_
          rintro e w8 ⟨rfl,hb8⟩
          have b68 := nx hb7 hb8
          have r8a := (u6.stays b68).row
          have r8b := (y6.stays b68).row
          go_wp2_with fail
          refine (disks_yes rr.d _ _ w8 ((hd4.stays bU6).stays b68) ((dV3.stays b36).stays b68) (by have := HFO.out.ok.len;omega)).mono ?_
          rintro e w9 ⟨rfl,hb9⟩
          have bw9 := nx (nx bw6 b68) hb9
          clear r8a r8b
          go_wp2_with fail
          refine (awake_any w9 (HT.out.below bw9)).mono ?_
          rintro e w10 ⟨rfl,hb10⟩
          go_wp2
          go_ret
          exact ⟨rfl,nx bw9 hb10⟩
        have hlt2 : (k2 : Int) < n2 := by omega
        have hll2 : k2 < fl.length := by rw [HN2.out];exact hlt
        have hcl := HNL.out wp hb
        rcases hcl.cases with ⟨e,_⟩ | ⟨_,bb,off,cc,e,hat⟩
        · rw [e] at hll2;cases hll2
        simp only [Value.slice.injEq] at e
        obtain ⟨rfl,-,rfl⟩ := e
        have y0 := atN hat k2 hll2
        obtain ⟨fe,hfe⟩ : ∃ s,fl[k2] = s := ⟨_,rfl⟩
        rw [hfe] at y0
        obtain ⟨mf,hmf,hf1,hf2⟩ := small64 fe 5 (by decide) (by decide)
        replace hf1 : (IntKind.u64.wrap fe).tmod 5 = mf := hf1
        obtain ⟨m3,h3⟩ : ∃ m,fe.tmod 3 = m := ⟨_,rfl⟩
        obtain ⟨m50,h50⟩ : ∃ m,fe.tmod 50 = m := ⟨_,rfl⟩
        obtain ⟨rr,hrr⟩ : ∃ x,opnP (Dk.armP d1 mf) 3 = x := ⟨_,rfl⟩
        have hfa := hfi.arm mf (by omega)
        have hnn := HN40.out
        have hwl := HWL.out
        have hfo := (hfa.opn 3).1
        have hfall := fall_out (htop.set (e := Dk.armP d1 mf) rfl rfl rfl rfl) hfa (by omega) (by show _ ≤ d1.c;omega) m3 m50
        rw [hrr] at hfall hfo
        obtain ⟨z2,g2,wt2,t1,t2,t3,t4⟩ := hfall
        have HRR := lH hrr
        have HFA := lH hfa
        have HFO := lH hfo
        have HTB := lH t2.tab
        have HTN := lH (⟨t2,t3,t4.trans hc,by omega⟩ : Top 3 (back rr.d m3 m50) t z2 g2 wt2 ∧ Fine (back rr.d m3 m50) ∧ (back rr.d m3 m50).c = 8000 ∧ g2 ≤ 41 + (k2 + 1 : Nat))
        have HK2 := lH hk2
        have hry := hy.row
        clear t2 t3 t4 hfo hfa hrr hmf hfe hat hcl hll2 htop hfi hc hg hnn hwl hk2
        go_wp2_with fail
        refine (arm_any q d1 (.agg c1) mf wp hdv).mono ?_
        rintro e w2 ⟨v2,rfl,hb2,hd2⟩
        obtain ⟨c2,rfl,hs2,o2,_,_⟩ := dv_open hd2
        have y2 := hy.stays hb2
        have py2 := y2.plain (n := 6) hs1
        obtain ⟨V,hV⟩ : ∃ Q_ : World,w2.setRow db c2 = Q_ := ⟨_,rfl⟩
        have yV : Bx V db c2 27 := hV ▸ y2.put _
        have bV : Below w.heap.size w V := hV ▸ below_setRow (nx hb hb2) hwd _
        have dV : DV q (Dk.armP d1 mf) (.agg c2) V := hV ▸ dv_row _ hd2 y2 (by decide) hqd
        have tV : TI q t (.slice a t.length c) V := hV ▸ ti_row _ (hti.stays hb2) y2 (by decide) hqd
        have xV : Bx V kb (kC cs (.slice a t.length c) z g) 61 := hV ▸ (hx.stays hb2).put' (by omega) _
        have rV := yV.row
        clear hry
        go_wp2_with fail
        refine (open_is HRR (.agg c2) V dV (by have := bV.size;omega) HFA.out.ok (HT.out.below bV)).mono ?_
        rintro e w3 ⟨v3,tv3,rfl,hb3,hd3,ht3⟩
        obtain ⟨c3,rfl,hs3,o3,_,_⟩ := dv_open hd3
        have y3 := yV.stays hb3
        have py3 := y3.plain (n := 6) hs2
        obtain ⟨V3,hV3⟩ : ∃ Q_ : World,w3.setRow db c3 = Q_ := ⟨_,rfl⟩
        have yV3 : Bx V3 db c3 27 := hV3 ▸ y3.put _
        have bV3 : Below w.heap.size w V3 := hV3 ▸ below_setRow (nx bV hb3) hwd _
        have dV3 : DV q rr.d (.agg c3) V3 := hV3 ▸ dv_row _ hd3 y3 (by decide) hqd
        have tV3 : TI q t (.slice a t.length c) V3 := hV3 ▸ ti_row _ (tV.stays hb3) y3 (by decide) hqd
        have xV3 : Bx V3 kb (kC cs (.slice a t.length c) z g) 61 := hV3 ▸ (xV.stays hb3).put' (by omega) _
        have rV3 := yV3.row
        clear rV py2
        go_wp2_with fail
        refine (crash_any q rr.d (.agg c3) m3 m50 V3 dV3 (by have := bV3.size;omega) (HFO.out.ok.mono (by decide) (by decide))).mono ?_
        rintro e w4 ⟨v4,rfl,hb4,hd4⟩
        clear rV3 py3
        go_wp2_with fail
        refine (start_any q _ v4 w4 hd4).mono ?_
        rintro e w5 ⟨v5,rfl,hb5,hd5⟩
        obtain ⟨c5,rfl,hs5,o5,_,_⟩ := dv_open hd5
        have b35 := nx hb4 hb5
        have y5 := yV3.stays b35
        have py5 := y5.plain (n := 6) hs3
        obtain ⟨V5,hV5⟩ : ∃ Q_ : World,w5.setRow db c5 = Q_ := ⟨_,rfl⟩
        have yV5 : Bx V5 db c5 27 := hV5 ▸ y5.put _
        have bV5 : Below w.heap.size w V5 := hV5 ▸ below_setRow (nx bV3 b35) hwd _
        have dV5 : DV q (back rr.d m3 m50) (.agg c5) V5 := hV5 ▸ dv_row _ hd5 y5 (by decide) hqd
        have tV5 : TI q t (.slice a t.length c) V5 := hV5 ▸ ti_row _ (tV3.stays b35) y5 (by decide) hqd
        have xV5 : Bx V5 kb (kC cs (.slice a t.length c) z g) 61 := hV5 ▸ (xV3.stays b35).put' (by omega) _
        have rV5 := yV5.row
        go_wp2_with fail
        refine (table_is HTB (.agg c5) V5 dV5 (by have := bV5.size;omega) (HTN.out.2.1.ok.mono (by decide) (by decide)) (HT.out.below bV5)).mono ?_
        rintro e w6 ⟨v6,rfl,hb6,ht6⟩
        simp only at ht6 ⊢
        have p6 : w6.cell? ⟨kb,6,none⟩ = some (.slice a t.length c) := by rw [(xV5.stays hb6).cell];exact HKC.out
        clear rV5 py5
        go_wp2_with fail
        refine (same_is (lH (sameL_refl t)) _ _ w6 ht6 (tV5.stays hb6) HTL.out HTL.out).mono ?_
        rintro e w7 ⟨rfl,hb7⟩
        have b57 := nx hb6 hb7
        have HEND := lH (show Below w.heap.size w w7 ∧ Bx w7 kb (kC cs (.slice a t.length c) z g) 61 ∧ TI q t (.slice a t.length c) w7 ∧ ∃ (d : Ds) (z1 g1 : Int) (w1 : Bool) (c1 : Array Value),Bx w7 db c1 27 ∧ DV q d (.agg c1) w7 ∧ (Top 3 d t z1 g1 w1 ∧ Fine d ∧ d.c = 8000 ∧ g1 ≤ 41 + (k2 + 1 : Nat)) ∧ c1.size = 6 ∧ oneAll (.agg c1) = true from
          ⟨nx bV5 b57,xV5.stays b57,tV5.stays b57,_,z2,g2,wt2,c5,yV5.stays b57,dV5.stays b57,HTN.out,hs5,o5⟩)
        clear p6
        go_wp2
        go_roundw
        case rel => first | exact ⟨k2 + 1,by omega,by go_num,HEND.out⟩ | ((repeat apply Exists.intro);exact ⟨⟨k2 + 1,by omega,by go_num,HEND.out⟩,rfl⟩)
        case measure => simp [intOf];omega
    have hlt2 : (k : Int) < n1 := by omega
    have hll : k < l.length := by rw [HN.out];exact hlt
    have hcl := HCL.out wo hb
    rcases hcl.cases with ⟨e,_⟩ | ⟨_,bb,off,cc,e,hat⟩
    · rw [e] at hll;cases hll
    simp only [Value.slice.injEq] at e
    obtain ⟨rfl,-,rfl⟩ := e
    obtain ⟨y0,y1,y2⟩ := atP hat k hll
    obtain ⟨⟨x0,x1,x2⟩,hs3⟩ : ∃ s,l[k] = s := ⟨_,rfl⟩
    rw [hs3] at y0 y1 y2
    simp only at y0 y1 y2
    obtain ⟨ma,hma,ha1,ha2⟩ := small64 x1 60 (by decide) (by decide)
    obtain ⟨mb,hmb,hb1',hb2'⟩ := small64 x2 1000 (by decide) (by decide)
    replace ha1 : (IntKind.u64.wrap x1).tmod 60 = ma := ha1
    replace hb1' : (IntKind.u64.wrap x2).tmod 1000 = mb := hb1'
    obtain ⟨im,him⟩ : ∃ im,oneP ma mb = im := ⟨_,rfl⟩
    have hiok : okI im 3 = true := by rw [← him];exact one_ok hma.1 hmb.1
    have hicn : cn im = im := by rw [← him];exact one_cn ma mb
    have hl1 : okT [im] 3 = true := by rw [okT_iff];intro i hi;simp at hi;subst hi;exact hiok
    have hl2 : CN [im] := fun i hi => by simp at hi;subst hi;exact hicn
    obtain ⟨hsr,hko,-⟩ := htop.tbl
    have hgk := htop.gok
    have hnn := HN40.out
    have hpl : (puts t [im]).length ≤ k + 1 := by have := puts_len t [im];simp only [List.length_cons,List.length_nil] at this;omega
    have hwl : Wa.wl (rwL (puts t [im]) 1 3) = 22 + (puts t [im]).length * 62 := by rw [wl_rw];rfl
    obtain ⟨ra,hra⟩ : ∃ x,addP d t z g 3 [im] = x := ⟨_,rfl⟩
    have hfa := hfi.add t z g 3 [im]
    have hadd : ra.e = 0 ∧ ra.t = puts t [im] ∧ ra.d.c = d.c ∧ ra.d.f = -1 ∧ ra.g ≤ g + 1 ∧ Top 3 ra.d (puts t [im]) ra.z ra.g true := by
      have h := add_out (n := 3) (d := d) (t := t) (l := [im]) htop (by omega) (by omega) (by simp) (by simp) hl1 hl2
      rw [hra] at h
      rcases h with ⟨_,_,e3,_⟩ | ⟨_,e2,_⟩ | ⟨e1,e2,e3,e4,e5,e6,e7,_⟩
      · exfalso;omega
      · exact absurd hf e2
      · exact ⟨e1,e2,e3,e4 hf,e6,e7⟩
    obtain ⟨e1,e2,e3,e4,e6,e7⟩ := hadd
    rw [hra] at hfa
    have HA := lH hra
    have HIM := lH him
    have HTOP := lH htop
    have HFI := lH hfi
    have HS0 := lH (⟨hsr,hko,hpl,hwl⟩ : Srt t ∧ okT t 3 = true ∧ (puts t [im]).length ≤ k + 1 ∧ Wa.wl (rwL (puts t [im]) 1 3) = 22 + (puts t [im]).length * 62)
    have HMA := lH hma
    have HMB := lH hmb
    have HFA := lH hfa
    have HAD := lH (⟨e2,e3,e4,e6,e7⟩ : ra.t = puts t [im] ∧ ra.d.c = d.c ∧ ra.d.f = -1 ∧ ra.g ≤ g + 1 ∧ Top 3 ra.d (puts t [im]) ra.z ra.g true)
    have HSE := lH hs
    have HG := lH (⟨hg,htl,hgk,hf,hc⟩ : g ≤ k + 1 ∧ t.length ≤ k ∧ (0 < g ∧ g ≤ 1073741824) ∧ d.f = -1 ∧ d.c = 8000)
    have HK := lH hk
    obtain ⟨U0,hU0⟩ : ∃ Q_ : World,wo.alloc (.cells zO 31) = Q_ := ⟨_,rfl⟩
    have u0 : Bx U0 wo.heap.size zO 31 := hU0 ▸ Bx.new _ _ _
    have bU0 : Below wo.heap.size wo U0 := hU0 ▸ below1 _ _
    have pU0 := u0.plain (n := 3) rfl
    obtain ⟨U1,hU1⟩ : ∃ Q_ : World,U0.setRow wo.heap.size #[.int .i64 x0,.int .i64 x1,.int .i64 x2] = Q_ := ⟨_,rfl⟩
    have u1 : Bx U1 wo.heap.size #[.int .i64 x0,.int .i64 x1,.int .i64 x2] 31 := hU1 ▸ u0.put _
    have bU1 : Below wo.heap.size wo U1 := hU1 ▸ below_setRow bU0 (Nat.le_refl _) _
    have hx1 := hx.stays bU1
    have bw1 := nx hb bU1
    have hqU : q ≤ U1.heap.size := by have := bw1.size;omega
    have hF9 : ∀ u,Below U1.heap.size U1 u → Rc.part 6 u (.pointer (some ⟨kb,0,none⟩)) = cs ∧ u.cell? ⟨kb,6,none⟩ = some (.slice a t.length c) ∧ u.cell? ⟨kb,7,none⟩ = some (.int .i64 z) ∧ u.cell? ⟨kb,8,none⟩ = some (.int .i64 g) ∧ u.cell? ⟨wo.heap.size,1,none⟩ = some (.int .i64 x1) ∧ u.cell? ⟨wo.heap.size,2,none⟩ = some (.int .i64 x2) := fun u hu => by
      have h := hx1.stays hu
      have h1 := u1.stays hu
      have hk := kC_at hs (.slice a t.length c) z g
      refine ⟨by rw [Rc.part_at,h.row];exact kC_ext hs _ _ _,?_,?_,?_,by rw [h1.cell];rfl,by rw [h1.cell];rfl⟩
      · rw [h.cell];exact hk.1
      · rw [h.cell];exact hk.2.1
      · rw [h.cell];exact hk.2.2
    have hone9 : ∀ u,Calls Tryz.prog 10 #[.int .i64 ma,.int .i64 mb] u fun e w' => e = .returned (.agg (ci im)) ∧ Below u.heap.size u w' := fun u => by
      have h := one_any ma mb (by omega) (by omega) u
      rwa [him] at h
    have D1 := lH (hdv.stays bU1)
    have T1 := lH (hti.stays bU1)
    clear hra him hfa hiok hicn hl1 hl2 hsr hko hwl hpl hma hmb hcl hat hs3 hg htl hgk hf hc htop hfi hll hk e2 e3 e4 e6 e7 hnn hdv hti
    go_wp2
    refine Rf.rg [0,1,2,3,4,5,6,7,8,9,10,11,12,13,14,15,16,17,18,19,20,21,22,23,24,25,26,27,28,29,30,31,32] ?_
    repeat (first | (refine Rf.Steps.sk ?_;simp only [Act.put,sA,sB,sC]) | (refine Rf.Steps.pu (v := ?_) ?_ ?_;rotate_left;(intro w_ hS_;have hk_ := hF9 w_ hS_;go_simp <;> with_reducible rfl);simp only [Act.put,sA,sB,sC]) | (refine Rf.Steps.ca (v := ?_) (f := ?_) (args := ?_) ?_ ?_ ?_;rotate_left 3;(intro w_ hS_;have hk_ := hF9 w_ hS_;go_simp <;> first | with_reducible rfl | (constructor <;> with_reducible rfl));(intro w_ hS_;have hk_ := hF9 w_ hS_;first | (go_at_call 10;refine (hone9 _).mono ?_;first | (rintro e w_ ⟨rfl,rfl⟩;refine ⟨?_,Below.refl _ _⟩;with_reducible rfl) | (rintro e w_ ⟨rfl,hb_⟩;refine ⟨?_,hb_⟩;with_reducible rfl)));simp only [Act.put,sA,sB,sC]))
    refine Rf.Steps.two (i := 19) (j := 27) (ord := [20,21,22,23,24,25,26,28,29,30,31,32]) (by kernel_rfl) ?_ ?_
    · refine Rf.One.val (fun v u => ∃ b,v = .slice (some ⟨b,0,none⟩) 1 1 ∧ TI q [im] v u) (fun v _ _ h k => by obtain ⟨b,h1,h2⟩ := h;exact ⟨b,h1,h2.stays k⟩) (by rfl) (by rfl) ?_ ?_
      · intro w_ hS_
        refine ⟨_,_,?_,below1 _ _,w_.heap.size,rfl,TI.one im (by have := (hS_).size;omega)⟩
        go_simp
      intro vs us hvs
      simp only [Act.put,sA,sB,sC]
      obtain ⟨bs,rfl,_⟩ := hvs
      refine Rf.Steps.two (i := 20) (j := 27) (ord := [21,22,23,24,25,26,28,29,30,31,32]) (by kernel_rfl) ?_ ?_
      · refine Rf.One.call (fun v u => ∃ dv tv,v = .tuple #[dv,tv,.int .i64 ra.z,.int .i64 ra.g,.int .i64 ra.e] ∧ DV q ra.d dv u ∧ TI q ra.t tv u) (fun v _ _ h k => by obtain ⟨dv,tv,h1,h2,h3⟩ := h;exact ⟨dv,tv,h1,h2.stays k,h3.stays k⟩) (f := ?_) (args := ?_) (by rfl) (by rfl) ?_ ?_ ?_
        rotate_left 2
        · intro w_ hS_;have hk_ := (fun u hu => True.intro) w_ hS_;go_simp <;> first | with_reducible rfl | (constructor <;> with_reducible rfl)
        · intro w_ hS_;have hk_ := (fun u hu => True.intro) w_ hS_;(go_at_call 11;refine (append_is HA (.agg cs) (.slice a t.length c) _ w_ (D1.out.stays (hS_.1)) (T1.out.stays (hS_.1)) (by obtain ⟨b_,e_,t_⟩ := hS_.2;exact t_) (by have := (hS_.1).size;omega) HFI.out.ok (HT.out.below (nx bw1 (hS_.1))) (by have := HG.out;omega) (by have := HG.out;omega) (by have := HG.out;have := HN40.out;omega) (by simp) HS0.out.1).mono ?_;rintro e w_ ⟨dv,tv,rfl,hb_,hd_,ht_⟩;exact ⟨_,rfl,hb_,dv,tv,rfl,hd_,ht_⟩)
        intro vc u_ hvc
        simp only [Act.put,sA,sB,sC]
        obtain ⟨dv,tv9,rfl,hdc,htc⟩ := hvc
        obtain ⟨cs2,rfl,hs2,o2,_,_⟩ := dv_open hdc
        obtain ⟨a9,c9,rfl⟩ := htc.len
        clear hdc htc
        show Rf.Steps _ _ _ _ [21,22,23,24,25,26,27,28,29,30,31,32] _ _ _
        repeat (first | (refine Rf.Steps.sk ?_;simp only [Act.put,sA,sB,sC]) | (refine Rf.Steps.pu (v := ?_) ?_ ?_;rotate_left;(intro w_ hS_;skip;go_simp <;> with_reducible rfl);simp only [Act.put,sA,sB,sC]))
        refine Rf.Steps.forced (i := 27) (by kernel_rfl) ?_
        refine Rf.One.val (fun v u => ∃ b cs,v = .pointer (some ⟨b,0,none⟩) ∧ Bx u b cs 27 ∧ cs.size = 6 ∧ U1.heap.size ≤ b) (fun v _ _ h k => by obtain ⟨b,cs,h1,h2,h3,h4⟩ := h;exact ⟨b,cs,h1,h2.stays k,h3,h4⟩) (by rfl) (by rfl) ?_ ?_
        · intro w_ hS_
          refine ⟨_,_,?_,below1 _ _,w_.heap.size,z6,rfl,Bx.new _ _ _,rfl,(hS_.1.1).size⟩
          go_simp
        intro v3 u3 hv3
        simp only [Act.put,sA,sB,sC]
        obtain ⟨b3,cs3,rfl,hx3,hs3,hb3⟩ := hv3
        clear hx3 hs3 cs3
        refine Rf.Steps.forced (i := 28) (by kernel_rfl) ?_
        refine Rf.One.store (fun u => (((Below U1.heap.size U1 u ∧ (∃ b,(.slice (some ⟨bs,0,none⟩) 1 1 : Value) = .slice (some ⟨b,0,none⟩) 1 1 ∧ TI q [im] (.slice (some ⟨bs,0,none⟩) 1 1) u)) ∧ (∃ dv tv,(.tuple #[.agg cs2,.slice a9 ra.t.length c9,.int .i64 ra.z,.int .i64 ra.g,.int .i64 ra.e] : Value) = .tuple #[dv,tv,.int .i64 ra.z,.int .i64 ra.g,.int .i64 ra.e] ∧ DV q ra.d dv u ∧ TI q ra.t tv u)) ∧ (∃ b cs,(.pointer (some ⟨b3,0,none⟩) : Value) = .pointer (some ⟨b,0,none⟩) ∧ Bx u b cs 27 ∧ cs.size = 6 ∧ U1.heap.size ≤ b)) ∧ Bx u b3 cs2 27 ∧ DV q ra.d (.agg cs2) u ∧ TI q ra.t (.slice a9 ra.t.length c9) u) (fun _ _ h k => ⟨⟨⟨⟨nx (h.1.1.1.1) k,(by obtain ⟨b,e1,h2⟩ := h.1.1.1.2;exact ⟨b,e1,h2.stays k⟩)⟩,(by obtain ⟨dv,tv,e1,h2,h3⟩ := h.1.1.2;exact ⟨dv,tv,e1,h2.stays k,h3.stays k⟩)⟩,(by obtain ⟨b,cs,e1,h2,h3,h4⟩ := h.1.2;exact ⟨b,cs,e1,h2.stays k,h3,h4⟩)⟩,h.2.1.stays k,h.2.2.1.stays k,h.2.2.2.stays k⟩) (fun u h => h.1) (by rfl) (by rfl) ?_ ?_
        · intro w_ hS_
          have hX_ := hS_.1.1.1
          obtain ⟨bb,cc,e1,hx_,hs_,hb_⟩ := hS_.2
          simp only [Value.pointer.injEq,Option.some.injEq,Addr.mk.injEq,and_true] at e1
          subst e1
          obtain ⟨_,_,ht_⟩ := hS_.1.1.2
          obtain ⟨dv_,tv_,e2,hd_,htt_⟩ := hS_.1.2
          simp only [Value.tuple.injEq] at e2
          have e3 : dv_ = .agg cs2 := by have := congrArg (fun x : Array Value => x[0]?) e2;simpa using this.symm
          have e4 : tv_ = .slice a9 ra.t.length c9 := by have := congrArg (fun x : Array Value => x[1]?) e2;simpa using this.symm
          subst e3 e4
          have pl_ := hx_.plain (n := 6) hs_
          have n1 := below_setRow hX_ hb_ cs2
          have n2 := hx_.put cs2
          have hqb : q ≤ b3 := by omega
          have n3 := ti_row cs2 ht_ hx_ (by decide) hqb
          have n4 := dv_row cs2 hd_ hx_ (by decide) hqb
          have n5 := ti_row cs2 htt_ hx_ (by decide) hqb
          refine ⟨_,?_,⟨⟨⟨n1,⟨bs,rfl,n3⟩⟩,⟨.agg cs2,_,rfl,n4,n5⟩⟩,⟨b3,cs2,rfl,n2,hs2,hb_⟩⟩,n2,n4,n5⟩
          go_simp
        repeat (first | (refine Rf.Steps.sk ?_;simp only [Act.put,sA,sB,sC]) | (refine Rf.Steps.pu (v := ?_) ?_ ?_;rotate_left;(intro w_ hS_;skip;go_simp <;> with_reducible rfl);simp only [Act.put,sA,sB,sC]))
        refine Rf.Steps.nil (by kernel_rfl) ?_
        intro w9 hS9
        have b9 : Below U1.heap.size U1 w9 := hS9.1.1.1.1
        have x9 := hS9.2.1
        have D9 := lH hS9.2.2.1
        have T9 := lH hS9.2.2.2
        clear hS9
        have bw9 := nx bw1 b9
        have r9x := x9.row
        have hx9 := hx1.stays b9
        have pk9 := hx9.plain (n := 9) (kC_size HSE.out _ _ _)
        have hs9n := kC_size hs2 (.slice a9 ra.t.length c9) ra.z ra.g
        have ho9n := kC_one o2 a9 ra.t.length c9 ra.z ra.g
        obtain ⟨Z,hZ⟩ : ∃ Q_ : World,w9.setRow kb (kC cs2 (.slice a9 ra.t.length c9) ra.z ra.g) = Q_ := ⟨_,rfl⟩
        have bwk : w.heap.size ≤ kb := by have := hb1.size;have := HKB.out;omega
        have HEND := lH (show Below w.heap.size w Z ∧ kb < Z.heap.size ∧ ∃ (d : Ds) (t : List Ins) (z g : Int) (cs : Array Value) (a : Option Addr) (c : Nat),Bx Z kb (kC cs (.slice a t.length c) z g) 61 ∧ DV q d (.agg cs) Z ∧ TI q t (.slice a t.length c) Z ∧ Top 3 d t z g true ∧ Fine d ∧ d.f = -1 ∧ d.c = 8000 ∧ g ≤ (k + 1 : Nat) + 1 ∧ t.length ≤ k + 1 ∧ cs.size = 6 ∧ oneAll (.agg cs) = true from
          ⟨hZ ▸ below_setRow bw9 bwk _,(hZ ▸ hx9.put _ : Bx Z kb _ _).lt,ra.d,ra.t,ra.z,ra.g,cs2,a9,c9,hZ ▸ hx9.put _,hZ ▸ dv_row _ D9.out hx9 (by decide) hqk,hZ ▸ ti_row _ T9.out hx9 (by decide) hqk,HAD.out.1 ▸ HAD.out.2.2.2.2,HFA.out,HAD.out.2.2.1,by rw [HAD.out.2.1];exact HG.out.2.2.2.2,by have := HG.out;have := HAD.out;omega,by rw [HAD.out.1];exact HS0.out.2.2.1,hs2,o2⟩)
        go_wp2
        go_roundw
        case rel => first | exact ⟨k + 1,by omega,by go_num,HEND.out⟩ | ((repeat apply Exists.intro);exact ⟨⟨k + 1,by omega,by go_num,HEND.out⟩,rfl⟩)
        case measure => simp [intOf];omega
      · refine Rf.One.val (fun v u => ∃ b cs,v = .pointer (some ⟨b,0,none⟩) ∧ Bx u b cs 27 ∧ cs.size = 6 ∧ U1.heap.size ≤ b) (fun v _ _ h k => by obtain ⟨b,cs,h1,h2,h3,h4⟩ := h;exact ⟨b,cs,h1,h2.stays k,h3,h4⟩) (by rfl) (by rfl) ?_ ?_
        · intro w_ hS_
          refine ⟨_,_,?_,below1 _ _,w_.heap.size,z6,rfl,Bx.new _ _ _,rfl,(hS_.1).size⟩
          go_simp
        intro v3 u3 hv3
        simp only [Act.put,sA,sB,sC]
        obtain ⟨b3,cs3,rfl,hx3,hs3,hb3⟩ := hv3
        clear hx3 hs3 cs3
        refine Rf.Steps.forced (i := 20) (by kernel_rfl) ?_
        refine Rf.One.call (fun v u => ∃ dv tv,v = .tuple #[dv,tv,.int .i64 ra.z,.int .i64 ra.g,.int .i64 ra.e] ∧ DV q ra.d dv u ∧ TI q ra.t tv u) (fun v _ _ h k => by obtain ⟨dv,tv,h1,h2,h3⟩ := h;exact ⟨dv,tv,h1,h2.stays k,h3.stays k⟩) (f := ?_) (args := ?_) (by rfl) (by rfl) ?_ ?_ ?_
        rotate_left 2
        · intro w_ hS_;have hk_ := (fun u hu => True.intro) w_ hS_;go_simp <;> first | with_reducible rfl | (constructor <;> with_reducible rfl)
        · intro w_ hS_;have hk_ := (fun u hu => True.intro) w_ hS_;(go_at_call 11;refine (append_is HA (.agg cs) (.slice a t.length c) _ w_ (D1.out.stays (hS_.1.1)) (T1.out.stays (hS_.1.1)) (by obtain ⟨b_,e_,t_⟩ := hS_.1.2;exact t_) (by have := (hS_.1.1).size;omega) HFI.out.ok (HT.out.below (nx bw1 (hS_.1.1))) (by have := HG.out;omega) (by have := HG.out;omega) (by have := HG.out;have := HN40.out;omega) (by simp) HS0.out.1).mono ?_;rintro e w_ ⟨dv,tv,rfl,hb_,hd_,ht_⟩;exact ⟨_,rfl,hb_,dv,tv,rfl,hd_,ht_⟩)
        intro vc u_ hvc
        simp only [Act.put,sA,sB,sC]
        obtain ⟨dv,tv9,rfl,hdc,htc⟩ := hvc
        obtain ⟨cs2,rfl,hs2,o2,_,_⟩ := dv_open hdc
        obtain ⟨a9,c9,rfl⟩ := htc.len
        clear hdc htc
        repeat (first | (refine Rf.Steps.sk ?_;simp only [Act.put,sA,sB,sC]) | (refine Rf.Steps.pu (v := ?_) ?_ ?_;rotate_left;(intro w_ hS_;skip;go_simp <;> with_reducible rfl);simp only [Act.put,sA,sB,sC]))
        refine Rf.Steps.forced (i := 28) (by kernel_rfl) ?_
        refine Rf.One.store (fun u => (((Below U1.heap.size U1 u ∧ (∃ b,(.slice (some ⟨bs,0,none⟩) 1 1 : Value) = .slice (some ⟨b,0,none⟩) 1 1 ∧ TI q [im] (.slice (some ⟨bs,0,none⟩) 1 1) u)) ∧ (∃ b cs,(.pointer (some ⟨b3,0,none⟩) : Value) = .pointer (some ⟨b,0,none⟩) ∧ Bx u b cs 27 ∧ cs.size = 6 ∧ U1.heap.size ≤ b)) ∧ (∃ dv tv,(.tuple #[.agg cs2,.slice a9 ra.t.length c9,.int .i64 ra.z,.int .i64 ra.g,.int .i64 ra.e] : Value) = .tuple #[dv,tv,.int .i64 ra.z,.int .i64 ra.g,.int .i64 ra.e] ∧ DV q ra.d dv u ∧ TI q ra.t tv u)) ∧ Bx u b3 cs2 27 ∧ DV q ra.d (.agg cs2) u ∧ TI q ra.t (.slice a9 ra.t.length c9) u) (fun _ _ h k => ⟨⟨⟨⟨nx (h.1.1.1.1) k,(by obtain ⟨b,e1,h2⟩ := h.1.1.1.2;exact ⟨b,e1,h2.stays k⟩)⟩,(by obtain ⟨b,cs,e1,h2,h3,h4⟩ := h.1.1.2;exact ⟨b,cs,e1,h2.stays k,h3,h4⟩)⟩,(by obtain ⟨dv,tv,e1,h2,h3⟩ := h.1.2;exact ⟨dv,tv,e1,h2.stays k,h3.stays k⟩)⟩,h.2.1.stays k,h.2.2.1.stays k,h.2.2.2.stays k⟩) (fun u h => h.1) (by rfl) (by rfl) ?_ ?_
        · intro w_ hS_
          have hX_ := hS_.1.1.1
          obtain ⟨bb,cc,e1,hx_,hs_,hb_⟩ := hS_.1.2
          simp only [Value.pointer.injEq,Option.some.injEq,Addr.mk.injEq,and_true] at e1
          subst e1
          obtain ⟨_,_,ht_⟩ := hS_.1.1.2
          obtain ⟨dv_,tv_,e2,hd_,htt_⟩ := hS_.2
          simp only [Value.tuple.injEq] at e2
          have e3 : dv_ = .agg cs2 := by have := congrArg (fun x : Array Value => x[0]?) e2;simpa using this.symm
          have e4 : tv_ = .slice a9 ra.t.length c9 := by have := congrArg (fun x : Array Value => x[1]?) e2;simpa using this.symm
          subst e3 e4
          have pl_ := hx_.plain (n := 6) hs_
          have n1 := below_setRow hX_ hb_ cs2
          have n2 := hx_.put cs2
          have hqb : q ≤ b3 := by omega
          have n3 := ti_row cs2 ht_ hx_ (by decide) hqb
          have n4 := dv_row cs2 hd_ hx_ (by decide) hqb
          have n5 := ti_row cs2 htt_ hx_ (by decide) hqb
          refine ⟨_,?_,⟨⟨⟨n1,⟨bs,rfl,n3⟩⟩,⟨b3,cs2,rfl,n2,hs2,hb_⟩⟩,⟨.agg cs2,_,rfl,n4,n5⟩⟩,n2,n4,n5⟩
          go_simp
        repeat (first | (refine Rf.Steps.sk ?_;simp only [Act.put,sA,sB,sC]) | (refine Rf.Steps.pu (v := ?_) ?_ ?_;rotate_left;(intro w_ hS_;skip;go_simp <;> with_reducible rfl);simp only [Act.put,sA,sB,sC]))
        refine Rf.Steps.nil (by kernel_rfl) ?_
        intro w9 hS9
        have b9 : Below U1.heap.size U1 w9 := hS9.1.1.1.1
        have x9 := hS9.2.1
        have D9 := lH hS9.2.2.1
        have T9 := lH hS9.2.2.2
        clear hS9
        have bw9 := nx bw1 b9
        have r9x := x9.row
        have hx9 := hx1.stays b9
        have pk9 := hx9.plain (n := 9) (kC_size HSE.out _ _ _)
        have hs9n := kC_size hs2 (.slice a9 ra.t.length c9) ra.z ra.g
        have ho9n := kC_one o2 a9 ra.t.length c9 ra.z ra.g
        obtain ⟨Z,hZ⟩ : ∃ Q_ : World,w9.setRow kb (kC cs2 (.slice a9 ra.t.length c9) ra.z ra.g) = Q_ := ⟨_,rfl⟩
        have bwk : w.heap.size ≤ kb := by have := hb1.size;have := HKB.out;omega
        have HEND := lH (show Below w.heap.size w Z ∧ kb < Z.heap.size ∧ ∃ (d : Ds) (t : List Ins) (z g : Int) (cs : Array Value) (a : Option Addr) (c : Nat),Bx Z kb (kC cs (.slice a t.length c) z g) 61 ∧ DV q d (.agg cs) Z ∧ TI q t (.slice a t.length c) Z ∧ Top 3 d t z g true ∧ Fine d ∧ d.f = -1 ∧ d.c = 8000 ∧ g ≤ (k + 1 : Nat) + 1 ∧ t.length ≤ k + 1 ∧ cs.size = 6 ∧ oneAll (.agg cs) = true from
          ⟨hZ ▸ below_setRow bw9 bwk _,(hZ ▸ hx9.put _ : Bx Z kb _ _).lt,ra.d,ra.t,ra.z,ra.g,cs2,a9,c9,hZ ▸ hx9.put _,hZ ▸ dv_row _ D9.out hx9 (by decide) hqk,hZ ▸ ti_row _ T9.out hx9 (by decide) hqk,HAD.out.1 ▸ HAD.out.2.2.2.2,HFA.out,HAD.out.2.2.1,by rw [HAD.out.2.1];exact HG.out.2.2.2.2,by have := HG.out;have := HAD.out;omega,by rw [HAD.out.1];exact HS0.out.2.2.1,hs2,o2⟩)
        go_wp2
        go_roundw
        case rel => first | exact ⟨k + 1,by omega,by go_num,HEND.out⟩ | ((repeat apply Exists.intro);exact ⟨⟨k + 1,by omega,by go_num,HEND.out⟩,rfl⟩)
        case measure => simp [intOf];omega
    · refine Rf.One.val (fun v u => ∃ b cs,v = .pointer (some ⟨b,0,none⟩) ∧ Bx u b cs 27 ∧ cs.size = 6 ∧ U1.heap.size ≤ b) (fun v _ _ h k => by obtain ⟨b,cs,h1,h2,h3,h4⟩ := h;exact ⟨b,cs,h1,h2.stays k,h3,h4⟩) (by rfl) (by rfl) ?_ ?_
      · intro w_ hS_
        refine ⟨_,_,?_,below1 _ _,w_.heap.size,z6,rfl,Bx.new _ _ _,rfl,(hS_).size⟩
        go_simp
      intro v3 u3 hv3
      simp only [Act.put,sA,sB,sC]
      obtain ⟨b3,cs3,rfl,hx3,hs3,hb3⟩ := hv3
      clear hx3 hs3 cs3
      refine Rf.Steps.forced (i := 19) (by kernel_rfl) ?_
      refine Rf.One.val (fun v u => ∃ b,v = .slice (some ⟨b,0,none⟩) 1 1 ∧ TI q [im] v u) (fun v _ _ h k => by obtain ⟨b,h1,h2⟩ := h;exact ⟨b,h1,h2.stays k⟩) (by rfl) (by rfl) ?_ ?_
      · intro w_ hS_
        refine ⟨_,_,?_,below1 _ _,w_.heap.size,rfl,TI.one im (by have := (hS_.1).size;omega)⟩
        go_simp
      intro vs us hvs
      simp only [Act.put,sA,sB,sC]
      obtain ⟨bs,rfl,_⟩ := hvs
      refine Rf.Steps.forced (i := 20) (by kernel_rfl) ?_
      refine Rf.One.call (fun v u => ∃ dv tv,v = .tuple #[dv,tv,.int .i64 ra.z,.int .i64 ra.g,.int .i64 ra.e] ∧ DV q ra.d dv u ∧ TI q ra.t tv u) (fun v _ _ h k => by obtain ⟨dv,tv,h1,h2,h3⟩ := h;exact ⟨dv,tv,h1,h2.stays k,h3.stays k⟩) (f := ?_) (args := ?_) (by rfl) (by rfl) ?_ ?_ ?_
      rotate_left 2
      · intro w_ hS_;have hk_ := (fun u hu => True.intro) w_ hS_;go_simp <;> first | with_reducible rfl | (constructor <;> with_reducible rfl)
      · intro w_ hS_;have hk_ := (fun u hu => True.intro) w_ hS_;(go_at_call 11;refine (append_is HA (.agg cs) (.slice a t.length c) _ w_ (D1.out.stays (hS_.1.1)) (T1.out.stays (hS_.1.1)) (by obtain ⟨b_,e_,t_⟩ := hS_.2;exact t_) (by have := (hS_.1.1).size;omega) HFI.out.ok (HT.out.below (nx bw1 (hS_.1.1))) (by have := HG.out;omega) (by have := HG.out;omega) (by have := HG.out;have := HN40.out;omega) (by simp) HS0.out.1).mono ?_;rintro e w_ ⟨dv,tv,rfl,hb_,hd_,ht_⟩;exact ⟨_,rfl,hb_,dv,tv,rfl,hd_,ht_⟩)
      intro vc u_ hvc
      simp only [Act.put,sA,sB,sC]
      obtain ⟨dv,tv9,rfl,hdc,htc⟩ := hvc
      obtain ⟨cs2,rfl,hs2,o2,_,_⟩ := dv_open hdc
      obtain ⟨a9,c9,rfl⟩ := htc.len
      clear hdc htc
      repeat (first | (refine Rf.Steps.sk ?_;simp only [Act.put,sA,sB,sC]) | (refine Rf.Steps.pu (v := ?_) ?_ ?_;rotate_left;(intro w_ hS_;skip;go_simp <;> with_reducible rfl);simp only [Act.put,sA,sB,sC]))
      refine Rf.Steps.forced (i := 28) (by kernel_rfl) ?_
      refine Rf.One.store (fun u => (((Below U1.heap.size U1 u ∧ (∃ b cs,(.pointer (some ⟨b3,0,none⟩) : Value) = .pointer (some ⟨b,0,none⟩) ∧ Bx u b cs 27 ∧ cs.size = 6 ∧ U1.heap.size ≤ b)) ∧ (∃ b,(.slice (some ⟨bs,0,none⟩) 1 1 : Value) = .slice (some ⟨b,0,none⟩) 1 1 ∧ TI q [im] (.slice (some ⟨bs,0,none⟩) 1 1) u)) ∧ (∃ dv tv,(.tuple #[.agg cs2,.slice a9 ra.t.length c9,.int .i64 ra.z,.int .i64 ra.g,.int .i64 ra.e] : Value) = .tuple #[dv,tv,.int .i64 ra.z,.int .i64 ra.g,.int .i64 ra.e] ∧ DV q ra.d dv u ∧ TI q ra.t tv u)) ∧ Bx u b3 cs2 27 ∧ DV q ra.d (.agg cs2) u ∧ TI q ra.t (.slice a9 ra.t.length c9) u) (fun _ _ h k => ⟨⟨⟨⟨nx (h.1.1.1.1) k,(by obtain ⟨b,cs,e1,h2,h3,h4⟩ := h.1.1.1.2;exact ⟨b,cs,e1,h2.stays k,h3,h4⟩)⟩,(by obtain ⟨b,e1,h2⟩ := h.1.1.2;exact ⟨b,e1,h2.stays k⟩)⟩,(by obtain ⟨dv,tv,e1,h2,h3⟩ := h.1.2;exact ⟨dv,tv,e1,h2.stays k,h3.stays k⟩)⟩,h.2.1.stays k,h.2.2.1.stays k,h.2.2.2.stays k⟩) (fun u h => h.1) (by rfl) (by rfl) ?_ ?_
      · intro w_ hS_
        have hX_ := hS_.1.1.1
        obtain ⟨bb,cc,e1,hx_,hs_,hb_⟩ := hS_.1.1.2
        simp only [Value.pointer.injEq,Option.some.injEq,Addr.mk.injEq,and_true] at e1
        subst e1
        obtain ⟨_,_,ht_⟩ := hS_.1.2
        obtain ⟨dv_,tv_,e2,hd_,htt_⟩ := hS_.2
        simp only [Value.tuple.injEq] at e2
        have e3 : dv_ = .agg cs2 := by have := congrArg (fun x : Array Value => x[0]?) e2;simpa using this.symm
        have e4 : tv_ = .slice a9 ra.t.length c9 := by have := congrArg (fun x : Array Value => x[1]?) e2;simpa using this.symm
        subst e3 e4
        have pl_ := hx_.plain (n := 6) hs_
        have n1 := below_setRow hX_ hb_ cs2
        have n2 := hx_.put cs2
        have hqb : q ≤ b3 := by omega
        have n3 := ti_row cs2 ht_ hx_ (by decide) hqb
        have n4 := dv_row cs2 hd_ hx_ (by decide) hqb
        have n5 := ti_row cs2 htt_ hx_ (by decide) hqb
        refine ⟨_,?_,⟨⟨⟨n1,⟨b3,cs2,rfl,n2,hs2,hb_⟩⟩,⟨bs,rfl,n3⟩⟩,⟨.agg cs2,_,rfl,n4,n5⟩⟩,n2,n4,n5⟩
        go_simp
      repeat (first | (refine Rf.Steps.sk ?_;simp only [Act.put,sA,sB,sC]) | (refine Rf.Steps.pu (v := ?_) ?_ ?_;rotate_left;(intro w_ hS_;skip;go_simp <;> with_reducible rfl);simp only [Act.put,sA,sB,sC]))
      refine Rf.Steps.nil (by kernel_rfl) ?_
      intro w9 hS9
      have b9 : Below U1.heap.size U1 w9 := hS9.1.1.1.1
      have x9 := hS9.2.1
      have D9 := lH hS9.2.2.1
      have T9 := lH hS9.2.2.2
      clear hS9
      have bw9 := nx bw1 b9
      have r9x := x9.row
      have hx9 := hx1.stays b9
      have pk9 := hx9.plain (n := 9) (kC_size HSE.out _ _ _)
      have hs9n := kC_size hs2 (.slice a9 ra.t.length c9) ra.z ra.g
      have ho9n := kC_one o2 a9 ra.t.length c9 ra.z ra.g
      obtain ⟨Z,hZ⟩ : ∃ Q_ : World,w9.setRow kb (kC cs2 (.slice a9 ra.t.length c9) ra.z ra.g) = Q_ := ⟨_,rfl⟩
      have bwk : w.heap.size ≤ kb := by have := hb1.size;have := HKB.out;omega
      have HEND := lH (show Below w.heap.size w Z ∧ kb < Z.heap.size ∧ ∃ (d : Ds) (t : List Ins) (z g : Int) (cs : Array Value) (a : Option Addr) (c : Nat),Bx Z kb (kC cs (.slice a t.length c) z g) 61 ∧ DV q d (.agg cs) Z ∧ TI q t (.slice a t.length c) Z ∧ Top 3 d t z g true ∧ Fine d ∧ d.f = -1 ∧ d.c = 8000 ∧ g ≤ (k + 1 : Nat) + 1 ∧ t.length ≤ k + 1 ∧ cs.size = 6 ∧ oneAll (.agg cs) = true from
        ⟨hZ ▸ below_setRow bw9 bwk _,(hZ ▸ hx9.put _ : Bx Z kb _ _).lt,ra.d,ra.t,ra.z,ra.g,cs2,a9,c9,hZ ▸ hx9.put _,hZ ▸ dv_row _ D9.out hx9 (by decide) hqk,hZ ▸ ti_row _ T9.out hx9 (by decide) hqk,HAD.out.1 ▸ HAD.out.2.2.2.2,HFA.out,HAD.out.2.2.1,by rw [HAD.out.2.1];exact HG.out.2.2.2.2,by have := HG.out;have := HAD.out;omega,by rw [HAD.out.1];exact HS0.out.2.2.1,hs2,o2⟩)
      go_wp2
      go_roundw
      case rel => first | exact ⟨k + 1,by omega,by go_num,HEND.out⟩ | ((repeat apply Exists.intro);exact ⟨⟨k + 1,by omega,by go_num,HEND.out⟩,rfl⟩)
      case measure => simp [intOf];omega
end Go.Proofs.YtnnbjhpkgndclaaGreatDoor.St
