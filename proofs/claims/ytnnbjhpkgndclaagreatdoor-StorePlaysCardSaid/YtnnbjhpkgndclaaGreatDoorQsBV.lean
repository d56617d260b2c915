/- Layer 17: the document's own read of a zone. -/
import Derived.Test.YtnnbjhpkgndclaaGreatDoorQsZZ
import Derived.Test.YtnnbjhpkgndclaaGreatDoorQsBQ
import Derived.Test.YtnnbjhpkgndclaaGreatDoorQsBM
set_option linter.unusedVariables false
namespace Go.Proofs.YtnnbjhpkgndclaaGreatDoor.St
open Go.RowKit
open Go.Proofs.YtnnbjhpkgndclaaGreatDoor.Rw
open Go.Proofs.YtnnbjhpkgndclaaGreatDoor.Da
open Go.Proofs.YtnnbjhpkgndclaaGreatDoor.Bv
open Go.Proofs.YtnnbjhpkgndclaaGreatDoor.Fx (enc enc_size dec putV getV)
open Go.Proofs.YtnnbjhpkgndclaaGreatDoor.Rc (Ins ci zeroI rdI rdE)
open Go.Proofs.YtnnbjhpkgndclaaGreatDoor.Wa (TL OwnT scan ScP wl)
abbrev cR (g e : Int) (t : Value) (c : Bool) : Array Value := #[.int .i64 g,.int .i64 e,t,.bool c]
section
variable (ρ : Operand → Value) (dst : Option Tmp) (ty : TypeId) (pos : String) (after : Array Edge) (guard : Option (Nat × Bool)) (w : World)
theorem loadR (x : Operand) (h : (rowOf w (ρ x)).size = 4) : (execOp ρ { dst,op := .load 91 x,type := ty,pos,after,guard }).run Tryz.prog w = .ok (.value (.agg (rowOf w (ρ x)))) w :=
  exec_load (n := 3) ρ dst ty pos after guard w Tryz.underlying91 rfl (by kernel_rfl) x h
theorem storeR (p x : Operand) (h : plainAt 4 w (ρ p) = true) (hs : (ρ x).cells.size = 4) (h1 : oneAll (ρ x) = true) (ha : ρ x = .agg (ρ x).cells) : (execOp ρ { dst,op := .store 91 p x,type := ty,pos,after,guard }).run Tryz.prog w = .ok .skip (putRow w (ρ p) (ρ x).cells) :=
  exec_store (n := 3) ρ dst ty pos after guard w (by kernel_rfl) p x h hs h1 ha
end
attribute [go_sem ↓] loadR storeR
theorem oneR (g e : Int) (a : Option Addr) (m c : Nat) (x : Bool) : oneAll (.agg #[.int .i64 g,.int .i64 e,.slice a m c,.bool x]) = true := by simp [oneAll,Value.cells,Value.oneCell']
attribute [go_sem] oneR
theorem ret_R1 {fn : Func} {p : Tmp} (h : fn.results = #[.cell p 91]) (tmps : Array Value) (w : World) {cs : Array Value} (hs : cs.size = 4) (hr : rowOf w (tmps.getD p undef) = cs) : (results fn tmps).run Tryz.prog w = .ok (.agg cs) w :=
  ret1 (n := 3) h Tryz.underlying91 rfl (by kernel_rfl) tmps w hs hr
theorem ti_cell {q b : Nat} {l : List Ins} {v : Value} {w : World} {cur : Array Value} {t : TypeId} (o : Nat) (c : Value) (h : TI q l v w) (hx : Bx w b cur t) (ht : t ≠ 44) (hq : q ≤ b) : TI q l v (w.setCell ⟨b,o,none⟩ c) :=
  Is.keep eI 44 h (Dk.keeps_setCell o c hx (fun hm => ht (by simpa [eI,Ro.Flat.enc,Enc.flat] using hm)) hq)
theorem tl_cell {q b : Nat} {l : List ByteArray} {v : Value} {w : World} {cur : Array Value} {t : TypeId} (o : Nat) (c : Value) (h : TL q l v w) (hx : Bx w b cur t) (ht : t ≠ 9) (hq : q ≤ b) : TL q l v (w.setCell ⟨b,o,none⟩ c) :=
  Is.keep Wa.eT 9 h (Dk.keeps_setCell o c hx (fun hm => ht (by simpa [Wa.eT,Enc.flat] using hm)) hq)
theorem mkN_isE {x : ByteArray} {n : Int} (h : mkN x 67 ≠ 0) : isE x n = false := by
  unfold mkN at h
  split at h
  · rename_i hx
    unfold isE
    exact decide_eq_false fun k => by rw [hx.2] at k;exact absurd k.1 (by decide)
  · exact absurd rfl h
def RdP (q : Nat) (s : ByteArray) (z : Zs) (w : World) (e : Ending) (w' : World) : Prop := ∃ v e9,e = .returned (.agg (cR z.g e9 v z.c)) ∧ Below w.heap.size w w' ∧ TI q z.t v w' ∧ (z.c = true → ((e9 = s.size) ↔ z.w = true))
def RdK (n : Int) (L : List ByteArray) (z : Zs) (E : Bool) (k : Nat) (g : Int) (t : List Ins) (c : Bool) : Prop :=
  (k = 0 ∧ g = 0 ∧ t = [] ∧ c = false) ∨ (1 ≤ k ∧ g = z.g ∧ 0 < g ∧ g < 4294967296 ∧ ∃ A,vis n g (L.drop k) t c = (z.t,z.c,A) ∧ z.w = (A && E))
set_option maxRecDepth 8000 in
set_option maxHeartbeats 8000000 in
theorem rread_any (q : Nat) (s : ByteArray) (n : Int) (w : World) (hs : s.size ≤ 1000000) (hq : q ≤ w.heap.size) (ht : Tbs w) :
    Calls Tryz.prog 45 #[.string s,.int .i64 n] w (RdP q s (zs s n) w) := by
  obtain ⟨⟨L,a⟩,hr⟩ : ∃ p,scan s = p := ⟨_,rfl⟩
  obtain ⟨hfew,hal⟩ := Wa.scan_few hr
  have hsc := (Wa.scan_spec s).1
  rw [hr] at hsc
  obtain ⟨hsh,_,_,haw,_⟩ := Wa.sc_back hsc (Nat.zero_le _)
  simp only [Nat.zero_add] at haw
  have HR := lH hr
  have HSh := lH hsh
  have HA := lH haw
  obtain ⟨z,hz⟩ : ∃ z,zs s n = z := ⟨_,rfl⟩
  have HZ := lH hz
  rw [hz]
  obtain ⟨U,hU⟩ : ∃ Q_ : World,(w.alloc (.cells (cR 0 0 (.slice none 0 0) false) 91)).alloc (.cells (cR 0 0 (.slice none 0 0) false) 91) = Q_ := ⟨_,rfl⟩
  have bU : Below w.heap.size w U := hU ▸ below2 w _ _
  obtain ⟨xA,xB⟩ : Bx U w.heap.size (cR 0 0 (.slice none 0 0) false) 91 ∧ Bx U (w.heap.size + 1) (cR 0 0 (.slice none 0 0) false) 91 := hU ▸ bx2 w _ _ _ _
  have HT := lH ht
  clear hr hsc hsh haw hz ht
  obtain ⟨m,hm⟩ : ∃ m,L.length = m := ⟨_,rfl⟩
  have HN := lH hm
  rw [hm] at hfew
  go_enter Tryz.func45,Tryz.ntmps45
  go_wp2_with fail
  refine (Wa.rScan_is HR q hs _ (by have := bU.size;omega)).mono ?_
  rintro e w1 ⟨v1,rfl,hb1,ho1⟩
  have htl := ho1.tl (show q ≤ U.heap.size by have := bU.size;omega)
  obtain ⟨a5,c5,rfl⟩ := htl.len
  simp only at htl ⊢
  rw [hm] at htl ⊢
  have HTl := lH htl
  have yA := xA.stays hb1
  have yB := xB.stays hb1
  have b1 := nx bU hb1
  clear htl ho1 hm xA xB hU
  go_wp2
  go_loopw [6,20] (fun at_ i wr => ∃ (k : Nat) (g : Int) (t : List Ins) (c : Bool) (ta : Option Addr) (cc : Nat),k ≤ m ∧ i = .int .i64 k ∧ at_ = .int .i64 (wl (L.take k) : Nat) ∧ RdK n L z (decide (a = s.size)) k g t c ∧ Bx wr w.heap.size (cR 0 0 (.slice none 0 0) false) 91 ∧ Bx wr (w.heap.size + 1) (cR g 0 (.slice ta t.length cc) c) 91 ∧ TI q t (.slice ta t.length cc) wr ∧ Srt t ∧ t.length ≤ k ∧ Below w.heap.size w wr ∧ TL q L (.slice a5 m c5) wr) (fun _ i _ => m - (intOf i).toNat)
  case atStart => exact ⟨0,0,[],false,none,0,Nat.zero_le _,rfl,by simp [wl],.inl ⟨rfl,rfl,rfl,rfl⟩,yA,yB,Is.nil _ _ _ _,List.Pairwise.nil,Nat.le_refl _,b1,HTl.out⟩
  case round =>
    obtain ⟨k,g,t,c,ta,tc,hk,rfl,rfl,hrd,zA,zB,hti,hsr,htl,hbw,htlw⟩ := hrel
    have TIt := lH hti
    have HSt := lH hsr
    have TLw := lH htlw
    have HRd := lH hrd
    have hszw := hbw.size
    clear hti hsr htlw hrd yA yB
    by_cases hlt : k < m
    · have hkl : k < L.length := by rw [HN.out];exact hlt
      have hlt2 : (k : Int) < m := by omega
      obtain ⟨b,off,c',e',hc,hbb⟩ := Wa.TL.get TLw.out (Below.refl _ _) hkl
      rw [HN.out] at e'
      simp only [Value.slice.injEq] at e'
      obtain ⟨rfl,-,rfl⟩ := e'
      have hxs := HSh.out _ (List.getElem_mem hkl)
      have HW := lH (tlw hkl)
      have hdr := drop_cons hkl
      have hwt := Wa.wl_take L k
      have HEnd : Hid (wl (L.take k) < s.size) := lH (by
        rw [hdr,wl] at hwt
        have := HA.out;omega)
      have hwb : wl (L.take k) ≤ 1000000 := by have := HEnd.out;omega
      obtain ⟨x,hx⟩ : ∃ x,L[k] = x := ⟨_,rfl⟩
      rw [hx] at hc hxs HW hdr
      have HDr := lH hdr
      have HXk := lH hx
      have hxm : x.size ≤ maxLen := by unfold maxLen;omega
      clear hdr hwt hx
      rcases HRd.out with ⟨rfl,rfl,rfl,rfl⟩ | ⟨hk1,rfl,hg0,hg1,A,hv,hAw⟩
      · obtain ⟨G,hG⟩ : ∃ G,mkN x 72 = G := ⟨_,rfl⟩
        have HG := lH hG
        have HGen : Hid (genN L = G) := lH (by
          have hd := HDr.out
          rw [List.drop_zero] at hd
          rw [hd];exact hG)
        have t0 := zB.thawed 0
        have l0 := zB.lt
        have k0 := zB.cell 0
        have hc0 := hc
        simp only [Nat.add_zero] at hc0
        have hw00 : wl ([] : List ByteArray) = 0 := rfl
        clear hG hc
        go_wp2_with fail
        refine (rmarked_is (.inl ⟨rfl,rfl⟩) hxm HG _).mono ?_
        rintro e w' ⟨rfl,rfl⟩
        obtain ⟨X,hX⟩ : ∃ Q_ : World,wr.setCell ⟨w.heap.size + 1,0,none⟩ (.int .i64 G) = Q_ := ⟨_,rfl⟩
        have zX : Bx X (w.heap.size + 1) (cR G 0 (.slice ta 0 tc) false) 91 := hX ▸ zB.set 0 _
        have yX : Bx X w.heap.size (cR 0 0 (.slice none 0 0) false) 91 := hX ▸ zA.set' (by omega) 0 _
        have tX := hX ▸ ti_cell 0 (.int .i64 G) TIt.out zB (by decide) (show q ≤ w.heap.size + 1 by omega)
        have lX := hX ▸ tl_cell 0 (.int .i64 G) TLw.out zB (by decide) (show q ≤ w.heap.size + 1 by omega)
        have bX : Below w.heap.size w X := hX ▸ hbw.trans (low_setCell 0 _ (by omega))
        have cX := zX.cell 0
        have pX := yX.plain (n := 4) rfl
        have TX := lH tX
        have LX := lH lX
        clear zA zB tX lX
        by_cases hG0 : G = 0
        · subst hG0
          have HZ0 : Hid (z = zero) := lH (HZ.out.symm.trans (zs_zero HR.out HGen.out))
          go_wp2
          exact bodyPost_ret (v := .agg (cR 0 0 (.slice none 0 0) false)) (ret_R1 Tryz.results45 _ _ rfl (yX.put _).row) rfl ⟨.slice none 0 0,0,by rw [HZ0.out];rfl,below_setRow bX (Nat.le_refl _) _,by rw [HZ0.out];exact Is.nil _ _ _ _,fun h => by rw [HZ0.out] at h;cases h⟩
        · have hG1 : (G == 0) = false := by simpa using hG0
          have hGr : 0 ≤ G ∧ G < 4294967296 := by
            rw [← HG.out];unfold mkN;split
            · exact gen_rep x
            · omega
          have HRd1 : Hid (RdK n L z (decide (a = s.size)) 1 G [] false) := lH (by
            have hd := HDr.out
            rw [List.drop_zero] at hd
            have hf := zs_form (n := n) (x := x) (r := L.drop 1) (a := a) (s := s) (by rw [HR.out];exact congrArg (fun y => (y,a)) hd) (by rw [HG.out];exact hG0)
            rw [HZ.out,HG.out] at hf
            refine .inr ⟨Nat.le_refl _,by rw [hf],by omega,hGr.2,(vis n G (L.drop 1) [] false).2.2,by rw [hf],by rw [hf]⟩)
          go_wp2
          go_roundw
          case rel =>
            exact ⟨1,G,[],false,ta,tc,by omega,by go_num,by have hw9 : wl (L.take 1) = wl [] + (x.size + 6) := HW.out;have hw0 : wl [] = 0 := rfl;rw [hw9];simp only [hw0];push_cast;go_num,HRd1.out,yX,zX,TX.out,List.Pairwise.nil,Nat.zero_le _,bX,LX.out⟩
          case measure => simp [intOf];omega
      · have hgp : 0 < z.g ∧ z.g < 4294967296 := ⟨hg0,hg1⟩
        have hk0 : ((k : Int) == 0) = false := by simp;omega
        rw [HDr.out,vis] at hv
        have HV := lH hv
        have HAw9 := lH hAw
        have HAw : Hid (A = false → z.w = false) := lH fun h => by rw [hAw,h];rfl
        clear hv hAw
        cases c with
        | false =>
          obtain ⟨G,hG⟩ : ∃ G,mkN x 67 = G := ⟨_,rfl⟩
          have HG := lH hG
          have hK : ∀ u,Below wr.heap.size wr u → u.cell? ⟨w.heap.size + 1,3,none⟩ = some (.bool false) ∧ u.cell? ⟨w.heap.size + 1,0,none⟩ = some (.int .i64 z.g) := fun u hu => ⟨(zB.stays hu).cell 3,(zB.stays hu).cell 0⟩
          by_cases hGg : G = z.g
          · have hGe : (G == z.g) = true := by simpa using hGg
            have HV2 : Hid (vis n z.g (L.drop (k + 1)) t true = (z.t,z.c,A)) := lH (by
              have := HV.out
              rwa [if_neg (by rw [mkN_isE (by rw [hG,hGg];omega)];decide),if_pos ⟨hG.trans hGg,rfl⟩] at this)
            clear hG hGg
            go_wp2
            refine Rg.region (by kernel_rfl) (by kernel_rfl) (by kernel_rfl) (fun _ _ d _ _ h => by cases d <;> exact h) _ rfl ?_
            repeat (first | (refine Rg.Seq.skip (by rfl) ?_;simp only [Act.put,sA,sB,sC]) | (refine Rg.Seq.pure (v := ?_) (by rfl) ?_ ?_;rotate_left;(intro w_ hS_;have hk_ := hK w_ hS_;go_simp <;> with_reducible rfl);simp only [Act.put,sA,sB,sC]) | (refine Rg.Seq.call (v := ?_) (f := ?_) (args := ?_) (by rfl) ?_ ?_ ?_;rotate_left 3;(intro w_ hS_;have hk_ := hK w_ hS_;go_simp <;> first | with_reducible rfl | (constructor <;> with_reducible rfl));(intro w_ hS_;first | (go_at_call 75;refine (rmarked_b (.inr ⟨rfl,rfl⟩) hxm HG _).mono ?_;rintro e w_ ⟨rfl,hb_⟩;refine ⟨?_,nx hS_ hb_⟩;with_reducible rfl));simp only [Act.put,sA,sB,sC]))
            intro w3 hb3
            have zB1 := zB.stays hb3
            have zA1 := zA.stays hb3
            have t3 := zB1.thawed 3
            have l3 := zB1.lt
            have k3 := zB1.cell 3
            have ti3 := TIt.out.stays hb3
            have tl3 := TL.stays TLw.out hb3
            have b3 := nx hbw hb3
            clear zA zB
            go_wp2
            go_roundw
            case rel => exact ⟨k + 1,z.g,t,true,ta,tc,by omega,by go_num,by rw [HW.out];push_cast;go_num,.inr ⟨by omega,rfl,hgp.1,hgp.2,A,HV2.out,HAw9.out⟩,zA1.set' (by omega) 3 _,zB1.set 3 _,ti_cell 3 _ ti3 zB1 (by decide) (by omega),HSt.out,by omega,b3.trans (low_setCell 3 _ (by omega)),tl_cell 3 _ tl3 zB1 (by decide) (by omega)⟩
            case measure => simp [intOf];omega
          · have hGe : (G == z.g) = false := by simpa using hGg
            have HNo : Hid (isE x n = false → t = z.t ∧ false = z.c ∧ A = false) := lH fun hE => by
              have := HV.out
              rw [if_neg (by rw [hE];decide),if_neg (fun h => hGg (hG.symm.trans h.1))] at this
              simp only [Prod.mk.injEq] at this
              exact ⟨this.1,this.2.1,this.2.2.symm⟩
            clear hG hGg
            go_wp2
            refine Rg.region (by kernel_rfl) (by kernel_rfl) (by kernel_rfl) (fun _ _ d _ _ h => by cases d <;> exact h) _ rfl ?_
            repeat (first | (refine Rg.Seq.skip (by rfl) ?_;simp only [Act.put,sA,sB,sC]) | (refine Rg.Seq.pure (v := ?_) (by rfl) ?_ ?_;rotate_left;(intro w_ hS_;have hk_ := hK w_ hS_;go_simp <;> with_reducible rfl);simp only [Act.put,sA,sB,sC]) | (refine Rg.Seq.call (v := ?_) (f := ?_) (args := ?_) (by rfl) ?_ ?_ ?_;rotate_left 3;(intro w_ hS_;have hk_ := hK w_ hS_;go_simp <;> first | with_reducible rfl | (constructor <;> with_reducible rfl));(intro w_ hS_;first | (go_at_call 75;refine (rmarked_b (.inr ⟨rfl,rfl⟩) hxm HG _).mono ?_;rintro e w_ ⟨rfl,hb_⟩;refine ⟨?_,nx hS_ hb_⟩;with_reducible rfl));simp only [Act.put,sA,sB,sC]))
            intro w3 hb3
            replace zB := zB.stays hb3
            replace zA := zA.stays hb3
            replace TIt := lH (TIt.out.stays hb3)
            replace TLw := lH (TL.stays TLw.out hb3)
            replace hbw := nx hbw hb3
            clear hK
            by_cases h82 : x.data[0]? = some 82
            · have hsz1 := (head_of h82).1
              have q1 : decide ((x.size : Int) < 1) = false := decide_eq_false (by omega)
              have hlt0 : 0 < x.size := by omega
              have hltI : (0 : Int) < x.size := by omega
              have hleI : (1 : Int) ≤ x.size := by omega
              have q2 : ((x[0].toNat : Int) != 82) = false := by
                have hd0 : x.data[0]? = some x[0] := by rw [Array.getElem?_eq_getElem (by exact hlt0)];rfl
                rw [hd0] at h82
                rw [Option.some.inj h82];rfl
              have hrs : (rest x).size ≤ 1000000 := by unfold rest;rw [ByteArray.size_extract];omega
              obtain ⟨y,hy⟩ : ∃ y,rdE (rest x) n = y := ⟨_,rfl⟩
              by_cases hy0 : y = 0
              · subst hy0
                have hEt : isE x n = true := decide_eq_true ⟨h82,hy⟩
                have HRI : Hid (rdI (rest x) n = Rc.insAt (rest x) n ∧ rdE (rest x) n = 0) := lH ⟨by unfold rdI;rw [if_pos hy],hy⟩
                have hci : ci (Rc.insAt (rest x) n) = ci (inI x n) := (Rc.ci_congr (cn_same _)).symm
                obtain ⟨i,hi⟩ : ∃ i,inI x n = i := ⟨_,rfl⟩
                have HV2 : Hid (vis n z.g (L.drop (k + 1)) (put i t) false = (z.t,z.c,A)) := lH (by have := HV.out;rwa [if_pos hEt,hi] at this)
                rw [hi] at hci
                clear hy hEt hi h82
                go_wp2_with fail
                refine (rReadI_is HRI hrs _).mono ?_
                rintro e w5 ⟨rfl,hb5⟩
                rw [hci]
                have zB1 := zB.stays hb5
                have zA1 := zA.stays hb5
                obtain ⟨V,hV⟩ : ∃ Q_ : World,(w5.alloc (.cells (ci zeroI) 44)).setRow w5.heap.size (ci i) = Q_ := ⟨_,rfl⟩
                have xV : Bx V w5.heap.size (ci i) 44 := hV ▸ Bx.put (Bx.new _ _ _) _
                have bV : Below w5.heap.size w5 V := hV ▸ below_setRow (below1 _ _) (Nat.le_refl _) _
                have b5 := nx hbw (nx hb5 bV)
                have r1 := xV.row
                have hplain := (Bx.new w5 (ci zeroI) 44).plain (n := 25) rfl
                have zB2 := zB1.stays bV
                have zA2 := zA1.stays bV
                have c1 := zB2.cell 2
                have tiV := (TIt.out.stays hb5).stays bV
                have tlV := TL.stays (TL.stays TLw.out hb5) bV
                go_wp2_with fail
                refine (rput_any q t _ i V tiV (by have := b5.size;omega) (by omega) HSt.out).mono ?_
                rintro e w6 ⟨v6,rfl,hb6,ho6⟩
                have ti6 := OwnI.ti ho6 (show q ≤ V.heap.size by have := b5.size;omega)
                obtain ⟨a6,c6,rfl⟩ := ti6.len
                have b6 := nx b5 hb6
                have zB3 := zB2.stays hb6
                have zA3 := zA2.stays hb6
                have t6 := zB3.thawed 2
                have l6 := zB3.lt
                have k6 := zB3.cell 2
                have tl6 := tlV.stays hb6
                have hpl := put_len i t
                clear r1 hplain xV hV c1 zB1 zA1 zB2 zA2 tiV tlV zA zB
                go_wp2
                go_roundw
                case rel =>
                  exact ⟨k + 1,z.g,put i t,false,a6,c6,by omega,by go_num,by rw [HW.out];push_cast;go_num,.inr ⟨by omega,rfl,hgp.1,hgp.2,A,HV2.out,HAw9.out⟩,zA3.set' (by omega) 2 _,zB3.set 2 _,ti_cell 2 _ ti6 zB3 (by decide) (by omega),put_srt i HSt.out,by omega,b6.trans (low_setCell 2 _ (by omega)),tl_cell 2 _ tl6 zB3 (by decide) (by omega)⟩
                case measure => simp [intOf];omega
              · have hEf : isE x n = false := decide_eq_false fun h => hy0 (hy.symm.trans h.2)
                have HTCA := lH (HNo.out hEf)
                have HRI : Hid (rdI (rest x) n = zeroI ∧ rdE (rest x) n = y) := lH ⟨by unfold rdI;rw [if_neg (fun h => hy0 (hy.symm.trans h))],hy⟩
                have hyn : (y != 0) = true := by simpa using hy0
                clear hy hEf h82
                go_wp2_with fail
                refine (rReadI_is HRI hrs _).mono ?_
                rintro e w5 ⟨rfl,hb5⟩
                have zB1 := zB.stays hb5
                have zA1 := zA.stays hb5
                obtain ⟨V,hV⟩ : ∃ Q_ : World,(w5.alloc (.cells (ci zeroI) 44)).setRow w5.heap.size (ci zeroI) = Q_ := ⟨_,rfl⟩
                have bV : Below w5.heap.size w5 V := hV ▸ below_setRow (below1 _ _) (Nat.le_refl _) _
                have b5 := nx hbw (nx hb5 bV)
                have hplain := (Bx.new w5 (ci zeroI) 44).plain (n := 25) rfl
                have zB2 := zB1.stays bV
                have zA2 := zA1.stays bV
                have tiV := (TIt.out.stays hb5).stays bV
                have t1 := zB2.thawed 1
                have l1 := zB2.lt
                have k1 := zB2.cell 1
                obtain ⟨X,hX⟩ : ∃ Q_ : World,V.setCell ⟨w.heap.size + 1,1,none⟩ (.int .i64 (wl (L.take k) : Nat)) = Q_ := ⟨_,rfl⟩
                have zX : Bx X (w.heap.size + 1) (cR z.g (wl (L.take k) : Nat) (.slice ta t.length tc) false) 91 := hX ▸ zB2.set 1 _
                have yX : Bx X w.heap.size (cR 0 0 (.slice none 0 0) false) 91 := hX ▸ zA2.set' (by omega) 1 _
                have tX := hX ▸ ti_cell 1 (.int .i64 (wl (L.take k) : Nat)) tiV zB2 (by decide) (show q ≤ w.heap.size + 1 by omega)
                have bX : Below w.heap.size w X := hX ▸ b5.trans (low_setCell 1 _ (by omega))
                have rX := zX.row
                have pX := yX.plain (n := 4) rfl
                have TX := lH tX
                clear hplain zB1 zA1 zB2 zA2 tiV tX zA zB
                go_wp2
                exact bodyPost_ret (v := .agg (cR z.g (wl (L.take k) : Nat) (.slice ta t.length tc) false)) (ret_R1 Tryz.results45 _ _ rfl (yX.put _).row) rfl ⟨_,_,by rw [HTCA.out.2.1],below_setRow bX (Nat.le_refl _) _,by rw [← HTCA.out.1];exact ti_row _ TX.out yX (by decide) (by omega),fun _ => ⟨fun h => absurd h (by have := HEnd.out;omega),fun h => absurd (h.symm.trans (HAw.out HTCA.out.2.2)) (by decide)⟩⟩
            · have HTCA := lH (HNo.out (decide_eq_false fun h => h82 h.1))
              have t1 := zB.thawed 1
              have l1 := zB.lt
              have k1 := zB.cell 1
              obtain ⟨X,hX⟩ : ∃ Q_ : World,w3.setCell ⟨w.heap.size + 1,1,none⟩ (.int .i64 (wl (L.take k) : Nat)) = Q_ := ⟨_,rfl⟩
              have zX : Bx X (w.heap.size + 1) (cR z.g (wl (L.take k) : Nat) (.slice ta t.length tc) false) 91 := hX ▸ zB.set 1 _
              have yX : Bx X w.heap.size (cR 0 0 (.slice none 0 0) false) 91 := hX ▸ zA.set' (by omega) 1 _
              have tX := hX ▸ ti_cell 1 (.int .i64 (wl (L.take k) : Nat)) TIt.out zB (by decide) (show q ≤ w.heap.size + 1 by omega)
              have bX : Below w.heap.size w X := hX ▸ hbw.trans (low_setCell 1 _ (by omega))
              have rX := zX.row
              have pX := yX.plain (n := 4) rfl
              have TX := lH tX
              clear tX zA zB
              by_cases hs1 : 1 ≤ x.size
              · have q1 : decide ((x.size : Int) < 1) = false := decide_eq_false (by omega)
                have hltI : (0 : Int) < x.size := by omega
                have hlt0 : 0 < x.size := by omega
                have q2 : ((x[0].toNat : Int) != 82) = true := by
                  have hd0 : x.data[0]? = some x[0] := by rw [Array.getElem?_eq_getElem (by exact hlt0)];rfl
                  rw [hd0] at h82
                  simp
                  intro h;exact h82 (by rw [show x[0] = 82 from UInt8.toNat_inj.1 (by show x[0].toNat = 82;omega)])
                go_wp2
                exact bodyPost_ret (v := .agg (cR z.g (wl (L.take k) : Nat) (.slice ta t.length tc) false)) (ret_R1 Tryz.results45 _ _ rfl (yX.put _).row) rfl ⟨_,_,by rw [HTCA.out.2.1],below_setRow bX (Nat.le_refl _) _,by rw [← HTCA.out.1];exact ti_row _ TX.out yX (by decide) (by omega),fun _ => ⟨fun h => absurd h (by have := HEnd.out;omega),fun h => absurd (h.symm.trans (HAw.out HTCA.out.2.2)) (by decide)⟩⟩
              · have q1 : decide ((x.size : Int) < 1) = true := decide_eq_true (by omega)
                go_wp2
                exact bodyPost_ret (v := .agg (cR z.g (wl (L.take k) : Nat) (.slice ta t.length tc) false)) (ret_R1 Tryz.results45 _ _ rfl (yX.put _).row) rfl ⟨_,_,by rw [HTCA.out.2.1],below_setRow bX (Nat.le_refl _) _,by rw [← HTCA.out.1];exact ti_row _ TX.out yX (by decide) (by omega),fun _ => ⟨fun h => absurd h (by have := HEnd.out;omega),fun h => absurd (h.symm.trans (HAw.out HTCA.out.2.2)) (by decide)⟩⟩
        | true =>
          have hK : ∀ u,Below wr.heap.size wr u → u.cell? ⟨w.heap.size + 1,3,none⟩ = some (.bool true) ∧ u.cell? ⟨w.heap.size + 1,0,none⟩ = some (.int .i64 z.g) := fun u hu => ⟨(zB.stays hu).cell 3,(zB.stays hu).cell 0⟩
          have HNo : Hid (isE x n = false → t = z.t ∧ true = z.c ∧ A = false) := lH fun hE => by
            have := HV.out
            rw [if_neg (by rw [hE];decide),if_neg (fun h => absurd h.2 (by decide))] at this
            simp only [Prod.mk.injEq] at this
            exact ⟨this.1,this.2.1,this.2.2.symm⟩
          go_wp2
          refine Rg.region (by kernel_rfl) (by kernel_rfl) (by kernel_rfl) (fun _ _ d _ _ h => by cases d <;> exact h) _ rfl ?_
          repeat (first | (refine Rg.Seq.skip (by rfl) ?_;simp only [Act.put,sA,sB,sC]) | (refine Rg.Seq.pure (v := ?_) (by rfl) ?_ ?_;rotate_left;(intro w_ hS_;have hk_ := hK w_ hS_;go_simp <;> with_reducible rfl);simp only [Act.put,sA,sB,sC]))
          intro w3 hb3
          replace zB := zB.stays hb3
          replace zA := zA.stays hb3
          replace TIt := lH (TIt.out.stays hb3)
          replace TLw := lH (TL.stays TLw.out hb3)
          replace hbw := nx hbw hb3
          clear hK
          by_cases h82 : x.data[0]? = some 82
          · have hsz1 := (head_of h82).1
            have q1 : decide ((x.size : Int) < 1) = false := decide_eq_false (by omega)
            have hlt0 : 0 < x.size := by omega
            have hltI : (0 : Int) < x.size := by omega
            have hleI : (1 : Int) ≤ x.size := by omega
            have q2 : ((x[0].toNat : Int) != 82) = false := by
              have hd0 : x.data[0]? = some x[0] := by rw [Array.getElem?_eq_getElem (by exact hlt0)];rfl
              rw [hd0] at h82
              rw [Option.some.inj h82];rfl
            have hrs : (rest x).size ≤ 1000000 := by unfold rest;rw [ByteArray.size_extract];omega
            obtain ⟨y,hy⟩ : ∃ y,rdE (rest x) n = y := ⟨_,rfl⟩
            by_cases hy0 : y = 0
            · subst hy0
              have hEt : isE x n = true := decide_eq_true ⟨h82,hy⟩
              have HRI : Hid (rdI (rest x) n = Rc.insAt (rest x) n ∧ rdE (rest x) n = 0) := lH ⟨by unfold rdI;rw [if_pos hy],hy⟩
              have hci : ci (Rc.insAt (rest x) n) = ci (inI x n) := (Rc.ci_congr (cn_same _)).symm
              obtain ⟨i,hi⟩ : ∃ i,inI x n = i := ⟨_,rfl⟩
              have HV2 : Hid (vis n z.g (L.drop (k + 1)) (put i t) true = (z.t,z.c,A)) := lH (by have := HV.out;rwa [if_pos hEt,hi] at this)
              rw [hi] at hci
              clear hy hEt hi h82
              go_wp2_with fail
              refine (rReadI_is HRI hrs _).mono ?_
              rintro e w5 ⟨rfl,hb5⟩
              rw [hci]
              have zB1 := zB.stays hb5
              have zA1 := zA.stays hb5
              obtain ⟨V,hV⟩ : ∃ Q_ : World,(w5.alloc (.cells (ci zeroI) 44)).setRow w5.heap.size (ci i) = Q_ := ⟨_,rfl⟩
              have xV : Bx V w5.heap.size (ci i) 44 := hV ▸ Bx.put (Bx.new _ _ _) _
              have bV : Below w5.heap.size w5 V := hV ▸ below_setRow (below1 _ _) (Nat.le_refl _) _
              have b5 := nx hbw (nx hb5 bV)
              have r1 := xV.row
              have hplain := (Bx.new w5 (ci zeroI) 44).plain (n := 25) rfl
              have zB2 := zB1.stays bV
              have zA2 := zA1.stays bV
              have c1 := zB2.cell 2
              have tiV := (TIt.out.stays hb5).stays bV
              have tlV := TL.stays (TL.stays TLw.out hb5) bV
              go_wp2_with fail
              refine (rput_any q t _ i V tiV (by have := b5.size;omega) (by omega) HSt.out).mono ?_
              rintro e w6 ⟨v6,rfl,hb6,ho6⟩
              have ti6 := OwnI.ti ho6 (show q ≤ V.heap.size by have := b5.size;omega)
              obtain ⟨a6,c6,rfl⟩ := ti6.len
              have b6 := nx b5 hb6
              have zB3 := zB2.stays hb6
              have zA3 := zA2.stays hb6
              have t6 := zB3.thawed 2
              have l6 := zB3.lt
              have k6 := zB3.cell 2
              have tl6 := tlV.stays hb6
              have hpl := put_len i t
              clear r1 hplain xV hV c1 zB1 zA1 zB2 zA2 tiV tlV zA zB
              go_wp2
              go_roundw
              case rel =>
                exact ⟨k + 1,z.g,put i t,true,a6,c6,by omega,by go_num,by rw [HW.out];push_cast;go_num,.inr ⟨by omega,rfl,hgp.1,hgp.2,A,HV2.out,HAw9.out⟩,zA3.set' (by omega) 2 _,zB3.set 2 _,ti_cell 2 _ ti6 zB3 (by decide) (by omega),put_srt i HSt.out,by omega,b6.trans (low_setCell 2 _ (by omega)),tl_cell 2 _ tl6 zB3 (by decide) (by omega)⟩
              case measure => simp [intOf];omega
            · have hEf : isE x n = false := decide_eq_false fun h => hy0 (hy.symm.trans h.2)
              have HTCA := lH (HNo.out hEf)
              have HRI : Hid (rdI (rest x) n = zeroI ∧ rdE (rest x) n = y) := lH ⟨by unfold rdI;rw [if_neg (fun h => hy0 (hy.symm.trans h))],hy⟩
              have hyn : (y != 0) = true := by simpa using hy0
              clear hy hEf h82
              go_wp2_with fail
              refine (rReadI_is HRI hrs _).mono ?_
              rintro e w5 ⟨rfl,hb5⟩
              have zB1 := zB.stays hb5
              have zA1 := zA.stays hb5
              obtain ⟨V,hV⟩ : ∃ Q_ : World,(w5.alloc (.cells (ci zeroI) 44)).setRow w5.heap.size (ci zeroI) = Q_ := ⟨_,rfl⟩
              have bV : Below w5.heap.size w5 V := hV ▸ below_setRow (below1 _ _) (Nat.le_refl _) _
              have b5 := nx hbw (nx hb5 bV)
              have hplain := (Bx.new w5 (ci zeroI) 44).plain (n := 25) rfl
              have zB2 := zB1.stays bV
              have zA2 := zA1.stays bV
              have tiV := (TIt.out.stays hb5).stays bV
              have t1 := zB2.thawed 1
              have l1 := zB2.lt
              have k1 := zB2.cell 1
              obtain ⟨X,hX⟩ : ∃ Q_ : World,V.setCell ⟨w.heap.size + 1,1,none⟩ (.int .i64 (wl (L.take k) : Nat)) = Q_ := ⟨_,rfl⟩
              have zX : Bx X (w.heap.size + 1) (cR z.g (wl (L.take k) : Nat) (.slice ta t.length tc) true) 91 := hX ▸ zB2.set 1 _
              have yX : Bx X w.heap.size (cR 0 0 (.slice none 0 0) false) 91 := hX ▸ zA2.set' (by omega) 1 _
              have tX := hX ▸ ti_cell 1 (.int .i64 (wl (L.take k) : Nat)) tiV zB2 (by decide) (show q ≤ w.heap.size + 1 by omega)
              have bX : Below w.heap.size w X := hX ▸ b5.trans (low_setCell 1 _ (by omega))
              have rX := zX.row
              have pX := yX.plain (n := 4) rfl
              have TX := lH tX
              clear hplain zB1 zA1 zB2 zA2 tiV tX zA zB
              go_wp2
              exact bodyPost_ret (v := .agg (cR z.g (wl (L.take k) : Nat) (.slice ta t.length tc) true)) (ret_R1 Tryz.results45 _ _ rfl (yX.put _).row) rfl ⟨_,_,by rw [HTCA.out.2.1],below_setRow bX (Nat.le_refl _) _,by rw [← HTCA.out.1];exact ti_row _ TX.out yX (by decide) (by omega),fun _ => ⟨fun h => absurd h (by have := HEnd.out;omega),fun h => absurd (h.symm.trans (HAw.out HTCA.out.2.2)) (by decide)⟩⟩
          · have HTCA := lH (HNo.out (decide_eq_false fun h => h82 h.1))
            have t1 := zB.thawed 1
            have l1 := zB.lt
            have k1 := zB.cell 1
            obtain ⟨X,hX⟩ : ∃ Q_ : World,w3.setCell ⟨w.heap.size + 1,1,none⟩ (.int .i64 (wl (L.take k) : Nat)) = Q_ := ⟨_,rfl⟩
            have zX : Bx X (w.heap.size + 1) (cR z.g (wl (L.take k) : Nat) (.slice ta t.length tc) true) 91 := hX ▸ zB.set 1 _
            have yX : Bx X w.heap.size (cR 0 0 (.slice none 0 0) false) 91 := hX ▸ zA.set' (by omega) 1 _
            have tX := hX ▸ ti_cell 1 (.int .i64 (wl (L.take k) : Nat)) TIt.out zB (by decide) (show q ≤ w.heap.size + 1 by omega)
            have bX : Below w.heap.size w X := hX ▸ hbw.trans (low_setCell 1 _ (by omega))
            have rX := zX.row
            have pX := yX.plain (n := 4) rfl
            have TX := lH tX
            clear tX zA zB
            by_cases hs1 : 1 ≤ x.size
            · have q1 : decide ((x.size : Int) < 1) = false := decide_eq_false (by omega)
              have hltI : (0 : Int) < x.size := by omega
              have hlt0 : 0 < x.size := by omega
              have q2 : ((x[0].toNat : Int) != 82) = true := by
                have hd0 : x.data[0]? = some x[0] := by rw [Array.getElem?_eq_getElem (by exact hlt0)];rfl
                rw [hd0] at h82
                simp
                intro h;exact h82 (by rw [show x[0] = 82 from UInt8.toNat_inj.1 (by show x[0].toNat = 82;omega)])
              go_wp2
              exact bodyPost_ret (v := .agg (cR z.g (wl (L.take k) : Nat) (.slice ta t.length tc) true)) (ret_R1 Tryz.results45 _ _ rfl (yX.put _).row) rfl ⟨_,_,by rw [HTCA.out.2.1],below_setRow bX (Nat.le_refl _) _,by rw [← HTCA.out.1];exact ti_row _ TX.out yX (by decide) (by omega),fun _ => ⟨fun h => absurd h (by have := HEnd.out;omega),fun h => absurd (h.symm.trans (HAw.out HTCA.out.2.2)) (by decide)⟩⟩
            · have q1 : decide ((x.size : Int) < 1) = true := decide_eq_true (by omega)
              go_wp2
              exact bodyPost_ret (v := .agg (cR z.g (wl (L.take k) : Nat) (.slice ta t.length tc) true)) (ret_R1 Tryz.results45 _ _ rfl (yX.put _).row) rfl ⟨_,_,by rw [HTCA.out.2.1],below_setRow bX (Nat.le_refl _) _,by rw [← HTCA.out.1];exact ti_row _ TX.out yX (by decide) (by omega),fun _ => ⟨fun h => absurd h (by have := HEnd.out;omega),fun h => absurd (h.symm.trans (HAw.out HTCA.out.2.2)) (by decide)⟩⟩
    · obtain rfl : k = m := by omega
      have hdl : L.drop k = [] := List.drop_of_length_le (by rw [HN.out];exact Nat.le_refl _)
      have HWl : Hid (wl (L.take k) = a) := lH (by rw [List.take_of_length_le (by rw [HN.out];exact Nat.le_refl _)];exact HA.out.symm)
      have t1 := zB.thawed 1
      have l1 := zB.lt
      have k1 := zB.cell 1
      obtain ⟨X,hX⟩ : ∃ Q_ : World,wr.setCell ⟨w.heap.size + 1,1,none⟩ (.int .i64 (wl (L.take k) : Nat)) = Q_ := ⟨_,rfl⟩
      have zX : Bx X (w.heap.size + 1) (cR g (wl (L.take k) : Nat) (.slice ta t.length tc) c) 91 := hX ▸ zB.set 1 _
      have yX : Bx X w.heap.size (cR 0 0 (.slice none 0 0) false) 91 := hX ▸ zA.set' (by omega) 1 _
      have tX := hX ▸ ti_cell 1 (.int .i64 (wl (L.take k) : Nat)) TIt.out zB (by decide) (show q ≤ w.heap.size + 1 by omega)
      have bX : Below w.heap.size w X := hX ▸ hbw.trans (low_setCell 1 _ (by omega))
      have rX := zX.row
      have pX := yX.plain (n := 4) rfl
      have TX := lH tX
      have HFin : Hid (z.g = g ∧ z.t = t ∧ z.c = c ∧ (z.c = true → (((wl (L.take k) : Nat) : Int) = s.size ↔ z.w = true))) := lH (by
        rcases HRd.out with ⟨rfl,rfl,rfl,rfl⟩ | ⟨hk1,rfl,hg0,hg1,A,hv,hAw⟩
        · have hL : L = [] := by rw [List.drop_zero] at hdl;exact hdl
          have hz0 : z = zero := HZ.out.symm.trans (zs_zero HR.out (by rw [hL];rfl))
          rw [hz0];exact ⟨rfl,rfl,rfl,fun h => by cases h⟩
        · rw [hdl,vis] at hv
          simp only [Prod.mk.injEq] at hv
          obtain ⟨h1,h2,h3⟩ := hv
          refine ⟨rfl,h1.symm,h2.symm,fun _ => ?_⟩
          rw [hAw,← h3,HWl.out,Bool.true_and,decide_eq_true_eq];omega)
      clear tX zA zB
      go_wp2
      exact bodyPost_ret (v := .agg (cR g (wl (L.take k) : Nat) (.slice ta t.length tc) c)) (ret_R1 Tryz.results45 _ _ rfl (yX.put _).row) rfl ⟨_,_,by rw [HFin.out.1,HFin.out.2.2.1],below_setRow bX (Nat.le_refl _) _,by rw [HFin.out.2.1];exact ti_row _ TX.out yX (by decide) (by omega),HFin.out.2.2.2⟩
end Go.Proofs.YtnnbjhpkgndclaaGreatDoor.St
