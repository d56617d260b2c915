/- Layer 17: the document's own less, put, mark, marked. -/
import Derived.Test.YtnnbjhpkgndclaaGreatDoorQsZZ
import Derived.Test.YtnnbjhpkgndclaaGreatDoorQsBF
import Derived.Test.YtnnbjhpkgndclaaGreatDoorQsAS
set_option linter.unusedVariables false
namespace Go.Proofs.YtnnbjhpkgndclaaGreatDoor.St
open Go.RowKit
open Go.Proofs.YtnnbjhpkgndclaaGreatDoor.Rw
open Go.Proofs.YtnnbjhpkgndclaaGreatDoor.Da
open Go.Proofs.YtnnbjhpkgndclaaGreatDoor.Bv
open Go.Proofs.YtnnbjhpkgndclaaGreatDoor.Fx (enc enc_size dec putV getV)
open Go.Proofs.YtnnbjhpkgndclaaGreatDoor.Rc (Ins ci zeroI)
theorem neqPl (a b c d : Int) (w : World) : (binOp .neq 34 (.agg #[.int .i64 a,.int .i64 b]) (.agg #[.int .i64 c,.int .i64 d])).run Tryz.prog w = .ok (.bool (!(a == c && b == d))) w := by
  rw [run_neq_struct,Rc.eqP2 9998];rfl
theorem guardPl (op : BinOp) (x y : Operand) (a b c d : Int) (w : World) : (eqGuard op 34 x y (.agg #[.int .i64 a,.int .i64 b]) (.agg #[.int .i64 c,.int .i64 d])).run Tryz.prog w = .ok () w :=
  run_eqGuard_agg w op _ x y _ _ (by kernel_rfl)
attribute [go_sem ↓] neqPl guardPl
set_option maxHeartbeats 800000 in
theorem rless_any (i j : Ins) (w : World) : Calls Tryz.prog 60 #[.agg #[.int .i64 i.pr,.int .i64 i.ps],.agg #[.int .i64 j.pr,.int .i64 j.ps]] w fun e w' => e = .returned (.bool (lessI i j)) ∧ Below w.heap.size w w' := by
  by_cases h : i.pr = j.pr
  · have h1 : (i.pr != j.pr) = false := by simpa using h
    have H : Hid (lessI i j = decide (i.ps < j.ps)) := lH (by
      rw [Bool.eq_iff_iff,lessI_iff,decide_eq_true_eq];omega)
    rw [H.out]
    clear h
    go_enter Tryz.func60,Tryz.ntmps60
    go_wp2
    go_ret
    exact ⟨rfl,below2 _ _ _⟩
  · have h1 : (i.pr != j.pr) = true := by simpa using h
    have H : Hid (lessI i j = decide (i.pr < j.pr)) := lH (by
      rw [Bool.eq_iff_iff,lessI_iff,decide_eq_true_eq];omega)
    rw [H.out]
    clear h
    go_enter Tryz.func60,Tryz.ntmps60
    go_wp2
    go_ret
    exact ⟨rfl,below2 _ _ _⟩
theorem rless_is {i j : Ins} {b : Bool} (H : Hid (lessI i j = b)) (w : World) : Calls Tryz.prog 60 #[.agg #[.int .i64 i.pr,.int .i64 i.ps],.agg #[.int .i64 j.pr,.int .i64 j.ps]] w fun e w' => e = .returned (.bool b) ∧ Below w.heap.size w w' := by
  rw [← H.out];exact rless_any i j w
theorem at_eq (x i : Ins) : (x.pr == i.pr && x.ps == i.ps) = atI x i := by
  unfold atI;rw [Bool.eq_iff_iff];simp
def PutI (l : List Ins) (i : Ins) (k : Nat) (out : List Ins) (done : Bool) : Prop :=
  (done = false ∧ (∀ x ∈ out,lessI x i = true) ∧ put i l = out ++ put i (l.drop k)) ∨ (done = true ∧ put i l = out ++ l.drop k ∧ ∀ x ∈ l.drop k,atI x i = false)
theorem drop_cons {α : Type} {l : List α} {k : Nat} (h : k < l.length) : l.drop k = l[k] :: l.drop (k + 1) := List.drop_eq_getElem_cons h
theorem putI_less {l : List Ins} {i : Ins} {k : Nat} {out : List Ins} (h : PutI l i k out false) (hk : k < l.length) (hx : lessI l[k] i = true) : PutI l i (k + 1) (out ++ [l[k]]) false := by
  rcases h with ⟨_,h1,h2⟩ | ⟨h,_⟩
  · refine .inl ⟨rfl,fun x hm => ?_,?_⟩
    · rcases List.mem_append.1 hm with hm | hm
      · exact h1 x hm
      · rw [List.mem_singleton.1 hm];exact hx
    · rw [h2,drop_cons hk,put,if_pos hx,List.append_assoc];rfl
  · cases h
theorem putI_at {l : List Ins} {i : Ins} {k : Nat} {out : List Ins} (hs : Srt l) (h : PutI l i k out false) (hk : k < l.length) (hx : lessI l[k] i = false) (ha : atI l[k] i = true) : PutI l i (k + 1) (out ++ [i]) true := by
  rcases h with ⟨_,h1,h2⟩ | ⟨h,_⟩
  · refine .inr ⟨rfl,?_,fun x hm => ?_⟩
    · rw [h2,drop_cons hk,put,if_neg (by rw [hx];decide),if_pos ha,List.append_assoc];rfl
    · have hd := List.pairwise_cons.1 (drop_cons hk ▸ hs.sublist (List.drop_sublist k l))
      have h3 := hd.1 x hm
      rw [lessI_iff] at h3;rw [atI_iff] at ha
      rw [← Bool.not_eq_true,atI_iff];omega
  · cases h
theorem putI_more {l : List Ins} {i : Ins} {k : Nat} {out : List Ins} (hs : Srt l) (h : PutI l i k out false) (hk : k < l.length) (hx : lessI l[k] i = false) (ha : atI l[k] i = false) : PutI l i (k + 1) (out ++ [i] ++ [l[k]]) true := by
  rcases h with ⟨_,h1,h2⟩ | ⟨h,_⟩
  · refine .inr ⟨rfl,?_,fun x hm => ?_⟩
    · rw [h2,drop_cons hk,put,if_neg (by rw [hx];decide),if_neg (by rw [ha];decide)];simp
    · have hd := List.pairwise_cons.1 (drop_cons hk ▸ hs.sublist (List.drop_sublist k l))
      have h3 := hd.1 x hm
      rw [← Bool.not_eq_true,lessI_iff] at hx;rw [← Bool.not_eq_true,atI_iff] at ha
      rw [lessI_iff] at h3
      rw [← Bool.not_eq_true,atI_iff];omega
  · cases h
theorem putI_on {l : List Ins} {i : Ins} {k : Nat} {out : List Ins} (h : PutI l i k out true) (hk : k < l.length) : atI l[k] i = false ∧ PutI l i (k + 1) (out ++ [l[k]]) true := by
  rcases h with ⟨h,_⟩ | ⟨_,h1,h2⟩
  · cases h
  · rw [drop_cons hk] at h1 h2
    exact ⟨h2 _ List.mem_cons_self,.inr ⟨rfl,by rw [h1,List.append_assoc];rfl,fun x hm => h2 x (List.mem_cons_of_mem _ hm)⟩⟩
theorem putI_len {l : List Ins} {i : Ins} {k : Nat} {out : List Ins} {done : Bool} (h : PutI l i k out done) : out.length ≤ l.length + 1 := by
  have h4 := put_len i l
  rcases h with ⟨_,_,h2⟩ | ⟨_,h2,_⟩ <;> (rw [h2,List.length_append] at h4;omega)
def Post1 (F : Value → World → Prop) (w : World) (e : Ending) (w' : World) : Prop := ∃ v,e = .returned v ∧ Below w.heap.size w w' ∧ F v w'
set_option maxRecDepth 8000 in
set_option maxHeartbeats 8000000 in
theorem rput_any (q : Nat) (l : List Ins) (v : Value) (i : Ins) (w : World) (h : TI q l v w) (hq : q ≤ w.heap.size) (hm : l.length ≤ 1000000) (hs : Srt l) :
    Calls Tryz.prog 34 #[v,.agg (ci i)] w (Post1 (OwnI q w.heap.size (put i l)) w) := by
  obtain ⟨a1,c1,rfl⟩ := h.len
  have H := lH h
  have HS := lH hs
  obtain ⟨m,hmm⟩ : ∃ m,l.length = m := ⟨_,rfl⟩
  have HN := lH hmm
  rw [hmm] at hm ⊢
  obtain ⟨U,hU⟩ : ∃ Q_ : World,w.alloc (.cells (ci i) 44) = Q_ := ⟨_,rfl⟩
  have bU : Below w.heap.size w U := hU ▸ below1 w _
  have xU : Bx U w.heap.size (ci i) 44 := hU ▸ Bx.new _ _ _
  obtain ⟨p,hp⟩ : ∃ p,put i l = p := ⟨_,rfl⟩
  have HP := lH hp
  rw [hp]
  clear h hmm hs hp
  go_enter Tryz.func34,Tryz.ntmps34
  go_wp2
  have hwU : w.heap.size < U.heap.size := xU.lt
  go_loopw [5,6,11] (fun t dn x wr => ∃ (k : Nat) (out : List Ins) (done : Bool),k ≤ m ∧ x = .int .i64 k ∧ dn = .bool done ∧ OwnI q U.heap.size out t wr ∧ PutI l i k out done ∧ Below w.heap.size w wr ∧ Bx wr w.heap.size (ci i) 44 ∧ U.heap.size ≤ wr.heap.size) (fun _ _ x _ => m - (intOf x).toNat)
  case atStart => exact ⟨0,[],false,Nat.zero_le _,rfl,rfl,Own.nil _ _ _,.inl ⟨rfl,(fun x hx => by cases hx),rfl⟩,bU,xU,Nat.le_refl _⟩
  case round =>
    obtain ⟨k,out,done,hk,rfl,rfl,ho,hpi,hb,xi,hsz⟩ := hrel
    have hol := putI_len hpi
    rw [HN.out] at hol
    have HO := lH ho
    have HPI := lH hpi
    have hqU : q ≤ U.heap.size := by omega
    clear ho hpi
    by_cases hlt : k < m
    · have hkl : k < l.length := by rw [HN.out];exact hlt
      have hlt2 : (k : Int) < m := by omega
      obtain ⟨b,off,c,e,hx,_,hbb⟩ := TI.get H.out hb hkl
      rw [HN.out] at e
      simp only [Value.slice.injEq] at e
      obtain ⟨rfl,-,rfl⟩ := e
      obtain ⟨x,hxx⟩ : ∃ x,l[k] = x := ⟨_,rfl⟩
      have HX := lH hxx
      rw [hxx] at hx
      clear hxx
      obtain ⟨V,hV⟩ : ∃ Q_ : World,(wr.alloc (.cells (ci zeroI) 44)).setRow wr.heap.size (ci x) = Q_ := ⟨_,rfl⟩
      have xV : Bx V wr.heap.size (ci x) 44 := hV ▸ Bx.put (Bx.new _ _ _) _
      have bV : Below wr.heap.size wr V := hV ▸ below_setRow (below1 _ _) (Nat.le_refl _) _
      have iV := xi.stays bV
      have b1 := nx hb bV
      have hplain := (Bx.new wr (ci zeroI) 44).plain (n := 25) rfl
      have rx := xV.row
      have ri := iV.row
      have hown : ∀ v',OwnI q U.heap.size out v' wr → v'.ownBlock ≠ some wr.heap.size := fun v' h e => by have := own_lt h e;omega
      cases done with
      | true =>
        have hp := putI_on HPI.out hkl
        rw [HX.out] at hp
        have hat : (x.pr == i.pr && x.ps == i.ps) = false := by rw [at_eq];exact hp.1
        have HP2 := lH hp.2
        obtain ⟨v',w',hrun,hown',hbl,_⟩ := app_oneK (HO.out.stays bV) hqU (show U.heap.size ≤ V.heap.size by have := bV.size;omega) x (by omega)
        have bl := hbl U.heap.size V (Nat.le_refl _) (Below.refl _ _)
        have bw := hbl w.heap.size w (Nat.le_of_lt hwU) b1
        have HO2 := lH hown'
        have i2 := iV.low bl hwU
        have sz2 := bl.size
        clear hown' hbl hp
        go_wp2
        go_roundw
        case rel => exact ⟨k + 1,out ++ [x],true,by omega,by go_num,rfl,HO2.out,HP2.out,bw,i2,by have := bV.size;omega⟩
        case measure => simp [intOf];omega
      | false =>
        cases hl : lessI x i with
        | true =>
          have hp := putI_less HPI.out hkl (by rw [HX.out];exact hl)
          rw [HX.out] at hp
          have HP2 := lH hp
          have HL := lH hl
          have hat : (x.pr == i.pr && x.ps == i.ps) = false := by
            rw [at_eq,← Bool.not_eq_true,atI_iff];rw [lessI_iff] at hl;omega
          clear hl hp
          go_wp2_with fail
          refine (rless_is HL V).mono ?_
          rintro e w1 ⟨rfl,hb1⟩
          have x1 := xV.stays hb1
          have i1 := iV.stays hb1
          have r1 := x1.row
          have r2 := i1.row
          obtain ⟨v',w',hrun,hown',hbl,_⟩ := app_oneK ((HO.out.stays bV).stays hb1) hqU (show U.heap.size ≤ w1.heap.size by have := bV.size;have := hb1.size;omega) x (by omega)
          have bl := hbl U.heap.size w1 (Nat.le_refl _) (Below.refl _ _)
          have bw := hbl w.heap.size w (Nat.le_of_lt hwU) (nx b1 hb1)
          have HO2 := lH hown'
          have i2 := i1.low bl hwU
          have sz2 := bl.size
          have sz1 := hb1.size
          have szV := bV.size
          clear hown' hbl rx ri
          go_wp2
          go_roundw
          case rel => exact ⟨k + 1,out ++ [x],false,by omega,by go_num,rfl,HO2.out,HP2.out,bw,i2,by omega⟩
          case measure => simp [intOf];omega
        | false =>
          have HL := lH hl
          cases ha : atI x i with
          | true =>
            have hp := putI_at HS.out HPI.out hkl (by rw [HX.out];exact hl) (by rw [HX.out];exact ha)
            have HP2 := lH hp
            have hat : (x.pr == i.pr && x.ps == i.ps) = true := by rw [at_eq];exact ha
            clear hl hp ha
            go_wp2_with fail
            refine (rless_is HL V).mono ?_
            rintro e w1 ⟨rfl,hb1⟩
            have x1 := xV.stays hb1
            have i1 := iV.stays hb1
            have r2 := i1.row
            obtain ⟨v',w',hrun,hown',hbl,hkp⟩ := app_oneK ((HO.out.stays bV).stays hb1) hqU (show U.heap.size ≤ w1.heap.size by have := bV.size;have := hb1.size;omega) i (by omega)
            have bl := hbl U.heap.size w1 (Nat.le_refl _) (Below.refl _ _)
            have bw := hbl w.heap.size w (Nat.le_of_lt hwU) (nx b1 hb1)
            have HO2 := lH hown'
            have i2 := i1.low bl hwU
            have x2 := hkp _ _ _ x1 (hown _ HO.out)
            have r3 := x2.row
            have r4 := i2.row
            have sz2 := bl.size
            have sz1 := hb1.size
            have szV := bV.size
            clear hown' hbl hkp rx ri
            go_wp2
            go_roundw
            case rel => exact ⟨k + 1,out ++ [i],true,by omega,by go_num,rfl,HO2.out,HP2.out,bw,i2,by omega⟩
            case measure => simp [intOf];omega
          | false =>
            have hp := putI_more HS.out HPI.out hkl (by rw [HX.out];exact hl) (by rw [HX.out];exact ha)
            rw [HX.out] at hp
            have HP2 := lH hp
            have hat : (x.pr == i.pr && x.ps == i.ps) = false := by rw [at_eq];exact ha
            clear hl hp ha
            go_wp2_with fail
            refine (rless_is HL V).mono ?_
            rintro e w1 ⟨rfl,hb1⟩
            have x1 := xV.stays hb1
            have i1 := iV.stays hb1
            have r2 := i1.row
            obtain ⟨v',w',hrun,hown',hbl,hkp⟩ := app_oneK ((HO.out.stays bV).stays hb1) hqU (show U.heap.size ≤ w1.heap.size by have := bV.size;have := hb1.size;omega) i (by omega)
            have bl := hbl U.heap.size w1 (Nat.le_refl _) (Below.refl _ _)
            have bw := hbl w.heap.size w (Nat.le_of_lt hwU) (nx b1 hb1)
            have HO2 := lH hown'
            have i2 := i1.low bl hwU
            have x2 := hkp _ _ _ x1 (hown _ HO.out)
            have r3 := x2.row
            have r4 := i2.row
            have sz2 := bl.size
            have sz1 := hb1.size
            have szV := bV.size
            obtain ⟨v3,w3,hrun3,hown3,hbl3,_⟩ := app_oneK hown' hqU (show U.heap.size ≤ w'.heap.size by omega) x (by simp;omega)
            have bl3 := hbl3 U.heap.size w' (Nat.le_refl _) (Below.refl _ _)
            have bw3 := hbl3 w.heap.size w (Nat.le_of_lt hwU) bw
            have HO3 := lH hown3
            have i3 := i2.low bl3 hwU
            have sz3 := bl3.size
            clear hown' hbl hkp rx ri hown3 hbl3
            go_wp2
            go_roundw
            case rel => exact ⟨k + 1,out ++ [i] ++ [x],true,by omega,by go_num,rfl,HO3.out,HP2.out,bw3,i3,by omega⟩
            case measure => simp [intOf];omega
    · obtain rfl : k = m := by omega
      have hd : l.drop k = [] := List.drop_of_length_le (by rw [HN.out];exact Nat.le_refl _)
      have ri := xi.row
      cases done with
      | true =>
        have HF : Hid (out = p) := lH (by
          rcases HPI.out with ⟨h,_⟩ | ⟨_,h1,_⟩
          · cases h
          · rw [← HP.out,h1,hd,List.append_nil])
        go_wp2
        go_ret
        exact ⟨_,rfl,hb,by rw [← HF.out];exact own_less (Nat.le_of_lt hwU) HO.out⟩
      | false =>
        have HF : Hid (out ++ [i] = p) := lH (by
          rcases HPI.out with ⟨_,_,h1⟩ | ⟨h,_⟩
          · rw [← HP.out,h1,hd];rfl
          · cases h)
        obtain ⟨v',w',hrun,hown',hbl,_⟩ := app_oneK HO.out hqU hsz i (by omega)
        have bw := hbl w.heap.size w (Nat.le_of_lt hwU) hb
        have HO2 := lH hown'
        clear hown' hbl
        go_wp2
        go_ret
        exact ⟨_,rfl,bw,by rw [← HF.out];exact own_less (Nat.le_of_lt hwU) HO2.out⟩
end Go.Proofs.YtnnbjhpkgndclaaGreatDoor.St
namespace Go.Proofs.YtnnbjhpkgndclaaGreatDoor.St
open Go.RowKit
open Go.Proofs.YtnnbjhpkgndclaaGreatDoor.Rw
open Go.Proofs.YtnnbjhpkgndclaaGreatDoor.Da
open Go.Proofs.YtnnbjhpkgndclaaGreatDoor.Bv
open Go.Proofs.YtnnbjhpkgndclaaGreatDoor.Rc (Ins ci cv zeroI okI eqIns fnC nI nA isI fV qV dV isI_of)
def SameL (a b : List Ins) : Prop := a.length = b.length ∧ ∀ j (h : j < a.length) (h' : j < b.length),eqIns a[j] b[j] = true
noncomputable def sameL (a b : List Ins) : Bool := @decide (SameL a b) (Classical.propDecidable _)
theorem sameL_yes {a b : List Ins} (h : SameL a b) : sameL a b = true := @decide_eq_true _ (Classical.propDecidable _) h
theorem sameL_no {a b : List Ins} (h : ¬ SameL a b) : sameL a b = false := @decide_eq_false _ (Classical.propDecidable _) h
theorem eqIns_refl (i : Ins) : eqIns i i = true := Rc.eqIns_iff.2 ⟨rfl,rfl,rfl,rfl,rfl,rfl,rfl,fun _ _ => rfl,rfl,fun _ _ => rfl,rfl⟩
theorem sameL_refl (a : List Ins) : sameL a a = true := sameL_yes ⟨rfl,fun j h _ => eqIns_refl _⟩
set_option maxRecDepth 8000 in
set_option maxHeartbeats 4000000 in
theorem same_any (q q' : Nat) (a b : List Ins) (va vb : Value) (w : World) (ha : TI q a va w) (hb : TI q' b vb w) (hm : a.length ≤ 1000000) (hm2 : b.length ≤ 1000000) :
    Calls Tryz.prog 14 #[va,vb] w fun e w' => e = .returned (.bool (sameL a b)) ∧ Below w.heap.size w w' := by
  obtain ⟨a1,c1,rfl⟩ := ha.len
  obtain ⟨a2,c2,rfl⟩ := hb.len
  have HA := lH ha
  have HB := lH hb
  obtain ⟨m,hmm⟩ : ∃ m,a.length = m := ⟨_,rfl⟩
  obtain ⟨m2,hmm2⟩ : ∃ m,b.length = m := ⟨_,rfl⟩
  obtain ⟨r,hr⟩ : ∃ r,sameL a b = r := ⟨_,rfl⟩
  have HR := lH hr
  have HN := lH hmm
  have HN2 := lH hmm2
  rw [hr]
  rw [hmm] at hm ⊢
  rw [hmm2] at hm2 ⊢
  clear ha hb hmm hmm2 hr
  by_cases hne : m = m2
  · subst hne
    have hd : ((m : Int) != m) = false := by simp
    go_enter Tryz.func14,Tryz.ntmps14
    go_wp2
    go_loopw [13] (fun i wr => ∃ k : Nat,k ≤ m ∧ i = .int .i64 k ∧ (∀ j (h : j < a.length) (h' : j < b.length),j < k → eqIns a[j] b[j] = true) ∧ Below w.heap.size w wr) (fun i _ => m - (intOf i).toNat)
    case atStart => exact ⟨0,Nat.zero_le _,rfl,fun j _ _ h => absurd h (Nat.not_lt_zero _),Below.refl _ _⟩
    case round =>
      obtain ⟨k,hk,rfl,heq,hbw⟩ := hrel
      have HEq := lH heq
      clear heq
      by_cases hlt : k < m
      · have hlt2 : (k : Int) < m := by omega
        have hka : k < a.length := by rw [HN.out];exact hlt
        have hkb : k < b.length := by rw [HN2.out];exact hlt
        obtain ⟨ba,oa,ca,ea,_⟩ := TI.get HA.out hbw hka
        obtain ⟨bb,ob,cb,eb,_⟩ := TI.get HB.out hbw hkb
        simp only [Value.slice.injEq] at ea eb
        obtain ⟨rfl,-,rfl⟩ := ea
        obtain ⟨rfl,-,rfl⟩ := eb
        obtain ⟨x,hx⟩ : ∃ x,a[k] = x := ⟨_,rfl⟩
        obtain ⟨y,hy⟩ : ∃ y,b[k] = y := ⟨_,rfl⟩
        have hK : ∀ u,Below wr.heap.size wr u → (row u ba).extract (oa + k * 25) (oa + k * 25 + 25) = ci x ∧ (row u bb).extract (ob + k * 25) (ob + k * 25 + 25) = ci y := fun u hu => by
          obtain ⟨b1,o1,c1,e1,h1,_⟩ := TI.get HA.out (nx hbw hu) hka
          obtain ⟨b2,o2,c2,e2,h2,_⟩ := TI.get HB.out (nx hbw hu) hkb
          simp only [Value.slice.injEq,Option.some.injEq,Addr.mk.injEq] at e1 e2
          obtain ⟨⟨rfl,rfl,_⟩,_,rfl⟩ := e1
          obtain ⟨⟨rfl,rfl,_⟩,_,rfl⟩ := e2
          rw [hx] at h1;rw [hy] at h2
          exact ⟨h1,h2⟩
        have HX := lH hx
        have HY := lH hy
        clear hx hy
        cases hq : eqIns x y with
        | true =>
          have hq' : (!eqIns x y) = false := by rw [hq];rfl
          have HE2 : Hid (∀ j (h : j < a.length) (h' : j < b.length),j < k + 1 → eqIns a[j] b[j] = true) := lH fun j h h' hj => by
            by_cases e : j = k
            · subst e;rw [HX.out,HY.out];exact hq
            · exact HEq.out j h h' (by omega)
          go_wp2
          refine Rg.region (by kernel_rfl) (by kernel_rfl) (by kernel_rfl) (fun _ _ d _ _ h => by cases d <;> exact h) _ rfl ?_
          repeat (first | (refine Rg.Seq.skip (by rfl) ?_;simp only [Act.put,sA,sB,sC]) | (refine Rg.Seq.pure (v := ?_) (by rfl) ?_ ?_;rotate_left;(intro w_ hS_;have hk_ := hK w_ hS_;go_simp <;> with_reducible rfl);simp only [Act.put,sA,sB,sC]))
          intro w1 hb1
          go_wp2
          go_roundw
          case rel => exact ⟨k + 1,by omega,by go_num,HE2.out,nx hbw hb1⟩
          case measure => simp [intOf];omega
        | false =>
          have hq' : (!eqIns x y) = true := by rw [hq];rfl
          have HF : Hid (r = false) := lH (by
            rw [← HR.out];refine sameL_no fun h => ?_
            have := h.2 k hka hkb
            rw [HX.out,HY.out,hq] at this;cases this)
          go_wp2
          refine Rg.region (by kernel_rfl) (by kernel_rfl) (by kernel_rfl) (fun _ _ d _ _ h => by cases d <;> exact h) _ rfl ?_
          repeat (first | (refine Rg.Seq.skip (by rfl) ?_;simp only [Act.put,sA,sB,sC]) | (refine Rg.Seq.pure (v := ?_) (by rfl) ?_ ?_;rotate_left;(intro w_ hS_;have hk_ := hK w_ hS_;go_simp <;> with_reducible rfl);simp only [Act.put,sA,sB,sC]))
          intro w1 hb1
          go_wp2
          go_ret
          exact ⟨by rw [HF.out];rfl,nx hbw hb1⟩
      · obtain rfl : k = m := by omega
        have HF : Hid (r = true) := lH (by
          rw [← HR.out]
          exact sameL_yes ⟨by rw [HN.out,HN2.out],fun j h h' => HEq.out j h h' (by rw [← HN.out];exact h)⟩)
        go_wp2
        go_ret
        exact ⟨by rw [HF.out];rfl,hbw⟩
  · have hd : ((m : Int) != m2) = true := by simp;omega
    have HF : Hid (r = false) := lH (by
      rw [← HR.out];exact sameL_no fun h => hne (by rw [← HN.out,← HN2.out];exact h.1))
    go_enter Tryz.func14,Tryz.ntmps14
    go_wp2
    go_ret
    exact ⟨by rw [HF.out];rfl,Below.refl _ _⟩
theorem same_is {q q' : Nat} {a b : List Ins} {r : Bool} (H : Hid (sameL a b = r)) (va vb : Value) (w : World) (ha : TI q a va w) (hb : TI q' b vb w) (hm : a.length ≤ 1000000) (hm2 : b.length ≤ 1000000) :
    Calls Tryz.prog 14 #[va,vb] w fun e w' => e = .returned (.bool r) ∧ Below w.heap.size w w' := by
  rw [← H.out];exact same_any q q' a b va vb w ha hb hm hm2
def oneP (n m : Int) : Ins := ⟨n % 3,1 + n / 3 % 4,m % 5,n % 3,0,0,3,Cm.v9 (n % 5) (1 + m % 9) 1 0 0 0 0 0 (m % 100),m % 50,Ve.zeroV,false⟩
theorem one_ok {n m : Int} (hn : 0 ≤ n) (hm : 0 ≤ m) : okI (oneP n m) 3 = true := by
  refine Rc.okI_iff.2 ⟨by decide,?_,?_,rfl,?_,(show (0 : Int) ≤ 3 ∧ (3 : Int) ≤ 3 by decide),?_,.inl (show (3 : Int) ≠ 0 by decide)⟩
  · show 0 ≤ n % 3 ∧ n % 3 < 3 ∧ 1 ≤ 1 + n / 3 % 4 ∧ 1 + n / 3 % 4 ≤ 400;omega
  · show Ba.valB (m % 5) (n % 3) = true
    unfold Ba.valB;rw [decide_eq_true_eq];omega
  · show Ba.lessB (m % 5) (n % 3) 0 0 = false
    unfold Ba.lessB;rw [decide_eq_false_iff_not];omega
  · refine Rc.okV_iff.2 ⟨?_,?_,?_,by kernel_rfl⟩
    · show (Cm.zeroB _ || Cm.limB _) = true
      rw [(Cm.lim_eq _).2 ?_,Bool.or_true]
      show (1 ≤ (1 : Int) ∧ (1 : Int) ≤ 8) ∧ (0 ≤ n % 5 ∧ n % 5 ≤ 63) ∧ (1 ≤ 1 + m % 9 ∧ 1 + m % 9 ≤ 1125899906842624) ∧ (0 ≤ (0 : Int) ∧ (0 : Int) ≤ 5) ∧ (0 ≤ (0 : Int) ∧ (0 : Int) ≤ 7) ∧ (0 ≤ (0 : Int) ∧ (0 : Int) ≤ 1073741824) ∧ (0 ≤ (0 : Int) ∧ (0 : Int) ≤ 2) ∧ (0 ≤ (0 : Int) ∧ (0 : Int) ≤ 1125899906842624) ∧ (0 ≤ m % 100 ∧ m % 100 ≤ 1125899906842624)
      omega
    · show 0 ≤ m % 50;omega
    · show m % 50 ≤ 1073741824;omega
theorem one_cn (n m : Int) : cn (oneP n m) = oneP n m := by
  have e1 : (fun k => if k < 9 then (oneP n m).c k else 0) = (oneP n m).c := by
    funext k
    match k with
    | 0 => rfl | 1 => rfl | 2 => rfl | 3 => rfl | 4 => rfl | 5 => rfl | 6 => rfl | 7 => rfl | 8 => rfl
    | k + 9 => rfl
  have e2 : (fun k => if k < 7 then (oneP n m).d k else 0) = (oneP n m).d := by
    funext k
    show (if k < 7 then Ve.zeroV k else 0) = Ve.zeroV k
    split <;> rfl
  unfold cn
  rw [e1,e2]
section
variable (a : Act) (dst : Option Tmp) (ty : TypeId) (pos : String) (after : Array Edge) (guard : Option (Nat × Bool)) (w : World)
theorem bCmd (x y z : Operand) (hx : isI (a.eval x) = true) (hy : isI (a.eval y) = true) (hz : isI (a.eval z) = true) : (execOp a.eval { dst,op := .build 38 #[(2,.const (.int .i64 1)),(0,x),(1,y),(8,z)],type := ty,pos,after,guard }).run Tryz.prog w = .ok (.value (.agg (Cm.fc (Cm.v9 (nI (a.eval x)) (nI (a.eval y)) 1 0 0 0 0 0 (nI (a.eval z)))))) w := by
  replace hx := isI_of hx
  generalize nI (a.eval x) = fx at hx ⊢
  replace hy := isI_of hy
  generalize nI (a.eval y) = fy at hy ⊢
  replace hz := isI_of hz
  generalize nI (a.eval z) = fz at hz ⊢
  have := run_build (P := Tryz.prog) w 38 #[(2,.int .i64 1),(0,.int .i64 fx),(1,.int .i64 fy),(8,.int .i64 fz)] (Cm.fc (Cm.v9 fx fy 1 0 0 0 0 0 fz)) (by kernel_rfl)
  have hc : a.eval (.const (.int .i64 1)) = .int .i64 1 := rfl
  simp [execOp,hx,hy,hz,hc,this]
theorem bVal (x y : Operand) (hx : a.eval x = .agg (Cm.fc (fnC (a.eval x)))) (hy : isI (a.eval y) = true) : (execOp a.eval { dst,op := .build 42 #[(0,x),(1,y)],type := ty,pos,after,guard }).run Tryz.prog w = .ok (.value (.agg (cv (fnC (a.eval x)) (nI (a.eval y)) Ve.zeroV))) w := by
  generalize fnC (a.eval x) = fx at hx ⊢
  replace hy := isI_of hy
  generalize nI (a.eval y) = fy at hy ⊢
  have := run_build (P := Tryz.prog) w 42 #[(0,.agg (Cm.fc fx)),(1,.int .i64 fy)] (cv fx fy Ve.zeroV) (by kernel_rfl)
  simp [execOp,hx,hy,this]
theorem bIns (x s v : Operand) (hx : a.eval x = .agg #[.int .i64 (nA (a.eval x) 0),.int .i64 (nA (a.eval x) 1)]) (hs : a.eval s = .agg #[.int .i64 (nA (a.eval s) 0),.int .i64 (nA (a.eval s) 1)]) (hv : a.eval v = .agg (cv (fV (a.eval v)) (qV (a.eval v)) (dV (a.eval v)))) : (execOp a.eval { dst,op := .build 44 #[(0,x),(1,s),(3,.const (.int .i64 3)),(4,v)],type := ty,pos,after,guard }).run Tryz.prog w = .ok (.value (.agg (ci ⟨nA (a.eval x) 0,nA (a.eval x) 1,nA (a.eval s) 0,nA (a.eval s) 1,0,0,3,fV (a.eval v),qV (a.eval v),dV (a.eval v),false⟩))) w := by
  generalize nA (a.eval x) 0 = fx at hx ⊢
  generalize nA (a.eval x) 1 = gx at hx ⊢
  generalize nA (a.eval s) 0 = fs at hs ⊢
  generalize nA (a.eval s) 1 = gs at hs ⊢
  generalize fV (a.eval v) = fv at hv ⊢
  generalize qV (a.eval v) = gv at hv ⊢
  generalize dV (a.eval v) = kv at hv ⊢
  have := run_build (P := Tryz.prog) w 44 #[(0,.agg #[.int .i64 fx,.int .i64 gx]),(1,.agg #[.int .i64 fs,.int .i64 gs]),(3,.int .i64 3),(4,.agg (cv fv gv kv))] (ci ⟨fx,gx,fs,gs,0,0,3,fv,gv,kv,false⟩) (by kernel_rfl)
  have hc : a.eval (.const (.int .i64 3)) = .int .i64 3 := rfl
  simp [execOp,hx,hs,hv,hc,this]
end
attribute [go_sem ↓] bCmd bVal bIns
set_option maxRecDepth 8000 in
set_option maxHeartbeats 2000000 in
theorem one_any (n m : Int) (hn : 0 ≤ n ∧ n ≤ 1000) (hm : 0 ≤ m ∧ m ≤ 1000) (w : World) :
    Calls Tryz.prog 10 #[.int .i64 n,.int .i64 m] w fun e w' => e = .returned (.agg (ci (oneP n m))) ∧ Below w.heap.size w w' := by
  have H := lH (show ci ⟨n % 3,1 + n / 3 % 4,m % 5,n % 3,0,0,3,Cm.v9 (n % 5) (1 + m % 9) 1 0 0 0 0 0 (m % 100),m % 50,Ve.zeroV,false⟩ = ci (oneP n m) from rfl)
  have hnn : ¬ n < 0 := by omega
  have hmm : ¬ m < 0 := by omega
  obtain ⟨U,hU⟩ : ∃ Q_ : World,w.alloc (.cells (ci zeroI) 44) = Q_ := ⟨_,rfl⟩
  have bU : Below w.heap.size w U := hU ▸ below1 w _
  have xU : Bx U w.heap.size (ci zeroI) 44 := hU ▸ Bx.new _ _ _
  have pU := xU.plain (n := 25) rfl
  go_enter Tryz.func10,Tryz.ntmps10
  go_wp2
  exact bodyPost_ret (v := .agg (ci (oneP n m))) (Rc.ret_I Tryz.results10 _ _ (oneP n m) (xU.put _).row) rfl ⟨rfl,below_setRow bU (Nat.le_refl _) _⟩
end Go.Proofs.YtnnbjhpkgndclaaGreatDoor.St
