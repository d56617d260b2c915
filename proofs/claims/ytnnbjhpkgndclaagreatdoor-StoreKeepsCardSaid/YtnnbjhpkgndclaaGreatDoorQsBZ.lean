/- Of the statements of layer 17: with. -/
import Derived.Test.YtnnbjhpkgndclaaGreatDoorQsZZ
import Derived.Test.YtnnbjhpkgndclaaGreatDoorQsBJ
set_option linter.unusedVariables false
namespace Go.Proofs.YtnnbjhpkgndclaaGreatDoor.St
open Go.RowKit
open Go.Proofs.YtnnbjhpkgndclaaGreatDoor.Rw
open Go.Proofs.YtnnbjhpkgndclaaGreatDoor.Da
open Go.Proofs.YtnnbjhpkgndclaaGreatDoor.Bv
open Go.Proofs.YtnnbjhpkgndclaaGreatDoor.Rc (Ins ci zeroI)
theorem less_of (x i : Ins) : lessI x i = decide (x.pr < i.pr ∨ (x.pr = i.pr ∧ x.ps < i.ps)) := rfl
theorem five_ways (x i : Ins) : x.pr < i.pr ∨ (x.pr = i.pr ∧ x.ps < i.ps) ∨ i.pr < x.pr ∨ (x.pr = i.pr ∧ i.ps < x.ps) ∨ (x.pr = i.pr ∧ x.ps = i.ps) := by omega
set_option maxRecDepth 8000 in
set_option maxHeartbeats 16000000 in
theorem lwith_any (q : Nat) (l more : List Ins) (v mv : Value) (w : World) (h : TI q l v w) (hmo : TI q more mv w) (hq : q ≤ w.heap.size) (hm : l.length ≤ 100000) (hm2 : more.length ≤ 1000) (hs : Srt l) :
    Calls Tryz.prog 26 #[v,mv] w (Post1 (TI q (puts l more)) w) := by
  obtain ⟨a2,c2,rfl⟩ := hmo.len
  have HMo := lH hmo
  have HS := lH hs
  obtain ⟨n2,hn2⟩ : ∃ m,more.length = m := ⟨_,rfl⟩
  have HN2 := lH hn2
  have H := lH h
  rw [hn2] at hm2 ⊢
  clear hmo hs hn2 h
  go_enter Tryz.func26,Tryz.ntmps26
  go_wp2
  go_loopw [0,14] (fun lv j wr => ∃ k2 : Nat,k2 ≤ n2 ∧ j = .int .i64 k2 ∧ TI q (puts l (more.take k2)) lv wr ∧ Below w.heap.size w wr) (fun _ j _ => n2 - (intOf j).toNat)
  case atStart => exact ⟨0,Nat.zero_le _,rfl,H.out,Below.refl _ _⟩
  case round =>
    obtain ⟨k2,hk2,rfl,htl,hb0⟩ := hrel
    obtain ⟨w9,h9⟩ : ∃ x : World,x = wr := ⟨_,rfl⟩
    subst h9
    by_cases hlt0 : k2 < n2
    · have hkl2 : k2 < more.length := by rw [HN2.out];exact hlt0
      have hlt02 : (k2 : Int) < n2 := by omega
      obtain ⟨b2,o2,c2',e2,hx2,_,hbb2⟩ := TI.get HMo.out hb0 hkl2
      rw [HN2.out] at e2
      simp only [Value.slice.injEq] at e2
      obtain ⟨rfl,-,rfl⟩ := e2
      have HNext : Hid (put more[k2] (puts l (more.take k2)) = puts l (more.take (k2 + 1))) := lH (by rw [List.take_succ_eq_append_getElem hkl2,puts_app];rfl)
      obtain ⟨i,hi⟩ : ∃ i,more[k2] = i := ⟨_,rfl⟩
      rw [hi] at hx2 HNext
      obtain ⟨cur,hcur⟩ : ∃ c,puts l (more.take k2) = c := ⟨_,rfl⟩
      have hcs : Srt cur := hcur ▸ puts_srt _ HS.out
      have hcl : cur.length ≤ 200000 := by have := puts_len l (more.take k2);rw [hcur,List.length_take] at this;omega
      rw [hcur] at htl HNext
      have HT := lH htl
      obtain ⟨a1,c1,rfl⟩ := htl.len
      obtain ⟨m,hmm⟩ : ∃ m,cur.length = m := ⟨_,rfl⟩
      have HN := lH hmm
      have HCs := lH hcs
      rw [hmm] at hcl HT ⊢
      obtain ⟨U,hU⟩ : ∃ Q_ : World,(w9.alloc (.cells (ci zeroI) 44)).setRow w9.heap.size (ci i) = Q_ := ⟨_,rfl⟩
      have bU0 : Below w9.heap.size w9 U := hU ▸ below_setRow (below1 _ _) (Nat.le_refl _) _
      have bU : Below w.heap.size w U := nx hb0 bU0
      have xU : Bx U w9.heap.size (ci i) 44 := hU ▸ Bx.put (Bx.new _ _ _) _
      have hplain0 := (Bx.new w9 (ci zeroI) 44).plain (n := 25) rfl
      have hwU : w9.heap.size < U.heap.size := xU.lt
      have HTU := lH (HT.out.stays bU0)
      have hWw : w.heap.size ≤ w9.heap.size := hb0.size
      clear hi hcur htl hcs hmm
      go_wp2
      go_loopw [7,8,20] (fun t dn x wr => ∃ (k : Nat) (out : List Ins) (done : Bool),k ≤ m ∧ x = .int .i64 k ∧ dn = .bool done ∧ OwnI q U.heap.size out t wr ∧ PutI cur i k out done ∧ Below w.heap.size w wr ∧ Below U.heap.size U wr ∧ Bx wr w9.heap.size (ci i) 44) (fun _ _ x _ => m - (intOf x).toNat)
      case atStart => exact ⟨0,[],false,Nat.zero_le _,rfl,rfl,Own.nil _ _ _,.inl ⟨rfl,(fun x hx => by cases hx),rfl⟩,bU,Below.refl _ _,xU⟩
      case round =>
        obtain ⟨k,out,done,hk,rfl,rfl,ho,hpi,hb,hbU,xi⟩ := hrel
        have hol := putI_len hpi
        rw [HN.out] at hol
        have HO := lH ho
        have HPI := lH hpi
        have hqU : q ≤ U.heap.size := by have := bU.size;omega
        have hszU : U.heap.size ≤ wr.heap.size := hbU.size
        have hwU' : w.heap.size ≤ U.heap.size := bU.size
        clear ho hpi
        by_cases hlt : k < m
        · have hkl : k < cur.length := by rw [HN.out];exact hlt
          have hlt2 : (k : Int) < m := by omega
          obtain ⟨b,off,c,e,hx,_,hbb⟩ := TI.get HTU.out hbU hkl
          rw [HN.out] at e
          simp only [Value.slice.injEq] at e
          obtain ⟨rfl,-,rfl⟩ := e
          obtain ⟨x,hxx⟩ : ∃ x,cur[k] = x := ⟨_,rfl⟩
          have HX := lH hxx
          rw [hxx] at hx
          clear hxx
          obtain ⟨V,hV⟩ : ∃ Q_ : World,(wr.alloc (.cells (ci zeroI) 44)).setRow wr.heap.size (ci x) = Q_ := ⟨_,rfl⟩
          have xV : Bx V wr.heap.size (ci x) 44 := hV ▸ Bx.put (Bx.new _ _ _) _
          have bV : Below wr.heap.size wr V := hV ▸ below_setRow (below1 _ _) (Nat.le_refl _) _
          have iV := xi.stays bV
          have b1 := nx hb bV
          have b1U := nx hbU bV
          have hplain := (Bx.new wr (ci zeroI) 44).plain (n := 25) rfl
          have rx := xV.row
          have ri := iV.row
          have px0 := xV.cell 0
          have px1 := xV.cell 1
          have pi0 := iV.cell 0
          have pi1 := iV.cell 1
          have sV := bV.size
          have hown : ∀ v',OwnI q U.heap.size out v' wr → v'.ownBlock ≠ some wr.heap.size := fun v' h e => by have := own_lt h e;omega
          have hownV := HO.out.stays bV
          have HLs := lH (less_of x i)
          have HAt := lH (at_eq x i)
          cases done with
          | true =>
            rcases five_ways x i with hw | hw | hw | hw | hw
            · have d1 : decide (x.pr > i.pr) = false := decide_eq_false (by omega)
              have d2 : (x.pr == i.pr) = false := by simp;omega
              have hp := putI_on HPI.out hkl
              rw [HX.out] at hp
              have hat : (x.pr == i.pr && x.ps == i.ps) = false := by rw [at_eq];exact hp.1
              have HP2 := lH hp.2
              obtain ⟨v',w',hrun,hown',hbl,_⟩ := app_oneK hownV hqU (show U.heap.size ≤ V.heap.size by omega) x (by omega)
              have bl := hbl U.heap.size V (Nat.le_refl _) (Below.refl _ _)
              have bw := hbl w.heap.size w hwU' b1
              have bwU := hbl U.heap.size U (Nat.le_refl _) b1U
              have HO2 := lH hown'
              have i2 := iV.low bl hwU
              clear hown' hbl hp
              clear hw
              go_wp2
              go_roundw
              case rel => exact ⟨k + 1,out ++ [x],true,by omega,by go_num,rfl,HO2.out,HP2.out,bw,bwU,i2⟩
              case measure => simp [intOf];omega
            · have d1 : decide (x.pr > i.pr) = false := decide_eq_false (by omega)
              have d2 : (x.pr == i.pr) = true := by simp;omega
              have d3 : decide (x.ps ≥ i.ps) = false := decide_eq_false (by omega)
              have d4 : (x.ps == i.ps) = false := by simp;omega
              have hp := putI_on HPI.out hkl
              rw [HX.out] at hp
              have hat : (x.pr == i.pr && x.ps == i.ps) = false := by rw [at_eq];exact hp.1
              have HP2 := lH hp.2
              obtain ⟨v',w',hrun,hown',hbl,_⟩ := app_oneK hownV hqU (show U.heap.size ≤ V.heap.size by omega) x (by omega)
              have bl := hbl U.heap.size V (Nat.le_refl _) (Below.refl _ _)
              have bw := hbl w.heap.size w hwU' b1
              have bwU := hbl U.heap.size U (Nat.le_refl _) b1U
              have HO2 := lH hown'
              have i2 := iV.low bl hwU
              clear hown' hbl hp
              clear hw
              go_wp2
              go_roundw
              case rel => exact ⟨k + 1,out ++ [x],true,by omega,by go_num,rfl,HO2.out,HP2.out,bw,bwU,i2⟩
              case measure => simp [intOf];omega
            · have d1 : decide (x.pr > i.pr) = true := decide_eq_true (by omega)
              have d2 : (x.pr == i.pr) = false := by simp;omega
              have hp := putI_on HPI.out hkl
              rw [HX.out] at hp
              have hat : (x.pr == i.pr && x.ps == i.ps) = false := by rw [at_eq];exact hp.1
              have HP2 := lH hp.2
              obtain ⟨v',w',hrun,hown',hbl,_⟩ := app_oneK hownV hqU (show U.heap.size ≤ V.heap.size by omega) x (by omega)
              have bl := hbl U.heap.size V (Nat.le_refl _) (Below.refl _ _)
              have bw := hbl w.heap.size w hwU' b1
              have bwU := hbl U.heap.size U (Nat.le_refl _) b1U
              have HO2 := lH hown'
              have i2 := iV.low bl hwU
              clear hown' hbl hp
              clear hw
              go_wp2
              go_roundw
              case rel => exact ⟨k + 1,out ++ [x],true,by omega,by go_num,rfl,HO2.out,HP2.out,bw,bwU,i2⟩
              case measure => simp [intOf];omega
            · have d1 : decide (x.pr > i.pr) = false := decide_eq_false (by omega)
              have d2 : (x.pr == i.pr) = true := by simp;omega
              have d3 : decide (x.ps ≥ i.ps) = true := decide_eq_true (by omega)
              have d4 : (x.ps == i.ps) = false := by simp;omega
              have hp := putI_on HPI.out hkl
              rw [HX.out] at hp
              have hat : (x.pr == i.pr && x.ps == i.ps) = false := by rw [at_eq];exact hp.1
              have HP2 := lH hp.2
              obtain ⟨v',w',hrun,hown',hbl,_⟩ := app_oneK hownV hqU (show U.heap.size ≤ V.heap.size by omega) x (by omega)
              have bl := hbl U.heap.size V (Nat.le_refl _) (Below.refl _ _)
              have bw := hbl w.heap.size w hwU' b1
              have bwU := hbl U.heap.size U (Nat.le_refl _) b1U
              have HO2 := lH hown'
              have i2 := iV.low bl hwU
              clear hown' hbl hp
              clear hw
              go_wp2
              go_roundw
              case rel => exact ⟨k + 1,out ++ [x],true,by omega,by go_num,rfl,HO2.out,HP2.out,bw,bwU,i2⟩
              case measure => simp [intOf];omega
            · have hp := putI_on HPI.out hkl
              rw [HX.out] at hp
              exact absurd (atI_iff.2 hw) (by rw [hp.1];decide)
          | false =>
            rcases five_ways x i with hw | hw | hw | hw | hw
            · have d1 : decide (x.pr > i.pr) = false := decide_eq_false (by omega)
              have d2 : (x.pr == i.pr) = false := by simp;omega
              have hl : lessI x i = true := by rw [lessI_iff];omega
              have hp := putI_less HPI.out hkl (by rw [HX.out];exact hl)
              rw [HX.out] at hp
              have hat : (x.pr == i.pr && x.ps == i.ps) = false := by rw [at_eq,← Bool.not_eq_true,atI_iff];omega
              have HP2 := lH hp
              obtain ⟨v',w',hrun,hown',hbl,_⟩ := app_oneK hownV hqU (show U.heap.size ≤ V.heap.size by omega) x (by omega)
              have bl := hbl U.heap.size V (Nat.le_refl _) (Below.refl _ _)
              have bw := hbl w.heap.size w hwU' b1
              have bwU := hbl U.heap.size U (Nat.le_refl _) b1U
              have HO2 := lH hown'
              have i2 := iV.low bl hwU
              clear hown' hbl hp hl
              clear hw
              go_wp2
              go_roundw
              case rel => exact ⟨k + 1,out ++ [x],false,by omega,by go_num,rfl,HO2.out,HP2.out,bw,bwU,i2⟩
              case measure => simp [intOf];omega
            · have d1 : decide (x.pr > i.pr) = false := decide_eq_false (by omega)
              have d2 : (x.pr == i.pr) = true := by simp;omega
              have d3 : decide (x.ps ≥ i.ps) = false := decide_eq_false (by omega)
              have d4 : (x.ps == i.ps) = false := by simp;omega
              have hl : lessI x i = true := by rw [lessI_iff];omega
              have hp := putI_less HPI.out hkl (by rw [HX.out];exact hl)
              rw [HX.out] at hp
              have hat : (x.pr == i.pr && x.ps == i.ps) = false := by rw [at_eq,← Bool.not_eq_true,atI_iff];omega
              have HP2 := lH hp
              obtain ⟨v',w',hrun,hown',hbl,_⟩ := app_oneK hownV hqU (show U.heap.size ≤ V.heap.size by omega) x (by omega)
              have bl := hbl U.heap.size V (Nat.le_refl _) (Below.refl _ _)
              have bw := hbl w.heap.size w hwU' b1
              have bwU := hbl U.heap.size U (Nat.le_refl _) b1U
              have HO2 := lH hown'
              have i2 := iV.low bl hwU
              clear hown' hbl hp hl
              clear hw
              go_wp2
              go_roundw
              case rel => exact ⟨k + 1,out ++ [x],false,by omega,by go_num,rfl,HO2.out,HP2.out,bw,bwU,i2⟩
              case measure => simp [intOf];omega
            · have d1 : decide (x.pr > i.pr) = true := decide_eq_true (by omega)
              have d2 : (x.pr == i.pr) = false := by simp;omega
              have hl : lessI x i = false := by rw [← Bool.not_eq_true,lessI_iff];omega
              have ha : atI x i = false := by rw [← Bool.not_eq_true,atI_iff];omega
              have hp := putI_more HCs.out HPI.out hkl (by rw [HX.out];exact hl) (by rw [HX.out];exact ha)
              rw [HX.out] at hp
              have HP2 := lH hp
              have hat : (x.pr == i.pr && x.ps == i.ps) = false := by rw [at_eq];exact ha
              obtain ⟨v',w',hrun,hown',hbl,hkp⟩ := app_oneK hownV hqU (show U.heap.size ≤ V.heap.size by omega) i (by omega)
              have bl := hbl U.heap.size V (Nat.le_refl _) (Below.refl _ _)
              have bw := hbl w.heap.size w hwU' b1
              have bwU := hbl U.heap.size U (Nat.le_refl _) b1U
              have i2 := iV.low bl hwU
              have x2 := hkp _ _ _ xV (hown _ HO.out)
              have r3 := x2.row
              have r4 := i2.row
              have s2 := bl.size
              obtain ⟨v3,w3,hrun3,hown3,hbl3,_⟩ := app_oneK hown' hqU (show U.heap.size ≤ w'.heap.size by omega) x (by simp;omega)
              have bl3 := hbl3 U.heap.size w' (Nat.le_refl _) (Below.refl _ _)
              have bw3 := hbl3 w.heap.size w hwU' bw
              have bw3U := hbl3 U.heap.size U (Nat.le_refl _) bwU
              have HO3 := lH hown3
              have i3 := i2.low bl3 hwU
              clear hown' hbl hkp hp hl ha hown3 hbl3
              clear hw
              go_wp2
              go_roundw
              case rel => exact ⟨k + 1,out ++ [i] ++ [x],true,by omega,by go_num,rfl,HO3.out,HP2.out,bw3,bw3U,i3⟩
              case measure => simp [intOf];omega
            · have d1 : decide (x.pr > i.pr) = false := decide_eq_false (by omega)
              have d2 : (x.pr == i.pr) = true := by simp;omega
              have d3 : decide (x.ps ≥ i.ps) = true := decide_eq_true (by omega)
              have d4 : (x.ps == i.ps) = false := by simp;omega
              have hl : lessI x i = false := by rw [← Bool.not_eq_true,lessI_iff];omega
              have ha : atI x i = false := by rw [← Bool.not_eq_true,atI_iff];omega
              have hp := putI_more HCs.out HPI.out hkl (by rw [HX.out];exact hl) (by rw [HX.out];exact ha)
              rw [HX.out] at hp
              have HP2 := lH hp
              have hat : (x.pr == i.pr && x.ps == i.ps) = false := by rw [at_eq];exact ha
              obtain ⟨v',w',hrun,hown',hbl,hkp⟩ := app_oneK hownV hqU (show U.heap.size ≤ V.heap.size by omega) i (by omega)
              have bl := hbl U.heap.size V (Nat.le_refl _) (Below.refl _ _)
              have bw := hbl w.heap.size w hwU' b1
              have bwU := hbl U.heap.size U (Nat.le_refl _) b1U
              have i2 := iV.low bl hwU
              have x2 := hkp _ _ _ xV (hown _ HO.out)
              have r3 := x2.row
              have r4 := i2.row
              have s2 := bl.size
              obtain ⟨v3,w3,hrun3,hown3,hbl3,_⟩ := app_oneK hown' hqU (show U.heap.size ≤ w'.heap.size by omega) x (by simp;omega)
              have bl3 := hbl3 U.heap.size w' (Nat.le_refl _) (Below.refl _ _)
              have bw3 := hbl3 w.heap.size w hwU' bw
              have bw3U := hbl3 U.heap.size U (Nat.le_refl _) bwU
              have HO3 := lH hown3
              have i3 := i2.low bl3 hwU
              clear hown' hbl hkp hp hl ha hown3 hbl3
              clear hw
              go_wp2
              go_roundw
              case rel => exact ⟨k + 1,out ++ [i] ++ [x],true,by omega,by go_num,rfl,HO3.out,HP2.out,bw3,bw3U,i3⟩
              case measure => simp [intOf];omega
            · have d1 : decide (x.pr > i.pr) = false := decide_eq_false (by omega)
              have d2 : (x.pr == i.pr) = true := by simp;omega
              have d3 : decide (x.ps ≥ i.ps) = true := decide_eq_true (by omega)
              have d4 : (x.ps == i.ps) = true := by simp;omega
              have hl : lessI x i = false := by rw [← Bool.not_eq_true,lessI_iff];omega
              have ha : atI x i = true := by rw [atI_iff];omega
              have hp := putI_at HCs.out HPI.out hkl (by rw [HX.out];exact hl) (by rw [HX.out];exact ha)
              have HP2 := lH hp
              have hat : (x.pr == i.pr && x.ps == i.ps) = true := by rw [at_eq];exact ha
              obtain ⟨v',w',hrun,hown',hbl,hkp⟩ := app_oneK hownV hqU (show U.heap.size ≤ V.heap.size by omega) i (by omega)
              have bl := hbl U.heap.size V (Nat.le_refl _) (Below.refl _ _)
              have bw := hbl w.heap.size w hwU' b1
              have bwU := hbl U.heap.size U (Nat.le_refl _) b1U
              have HO2 := lH hown'
              have i2 := iV.low bl hwU
              have x2 := hkp _ _ _ xV (hown _ HO.out)
              have r3 := x2.row
              have r4 := i2.row
              clear hown' hbl hkp hp hl ha
              clear hw
              go_wp2
              go_roundw
              case rel => exact ⟨k + 1,out ++ [i],true,by omega,by go_num,rfl,HO2.out,HP2.out,bw,bwU,i2⟩
              case measure => simp [intOf];omega
        · obtain rfl : k = m := by omega
          have hd : cur.drop k = [] := List.drop_of_length_le (by rw [HN.out];exact Nat.le_refl _)
          have ri := xi.row
          cases done with
          | true =>
            have HF : Hid (out = puts l (more.take (k2 + 1))) := lH (by
              rcases HPI.out with ⟨h,_⟩ | ⟨_,h1,_⟩
              · cases h
              · rw [← HNext.out,h1,hd,List.append_nil])
            go_wp2
            go_roundw
            case rel => exact ⟨k2 + 1,by omega,by go_num,by rw [← HF.out];exact OwnI.ti HO.out hqU,hb⟩
            case measure => simp [intOf];omega
          | false =>
            have HF : Hid (out ++ [i] = puts l (more.take (k2 + 1))) := lH (by
              rcases HPI.out with ⟨_,_,h1⟩ | ⟨h,_⟩
              · rw [← HNext.out,h1,hd];rfl
              · cases h)
            obtain ⟨v',w',hrun,hown',hbl,_⟩ := app_oneK HO.out hqU hszU i (by omega)
            have bw := hbl w.heap.size w hwU' hb
            have HO2 := lH hown'
            clear hown' hbl
            go_wp2
            go_roundw
            case rel => exact ⟨k2 + 1,by omega,by go_num,by rw [← HF.out];exact OwnI.ti HO2.out hqU,bw⟩
            case measure => simp [intOf];omega
    · obtain rfl : k2 = n2 := by omega
      rw [List.take_of_length_le (by rw [HN2.out];exact Nat.le_refl _)] at htl
      have HT := lH htl
      go_wp2
      go_ret
      exact ⟨_,rfl,hb0,HT.out⟩
end Go.Proofs.YtnnbjhpkgndclaaGreatDoor.St
