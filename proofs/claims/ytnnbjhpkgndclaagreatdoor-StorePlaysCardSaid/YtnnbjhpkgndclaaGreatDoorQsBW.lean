/- Layer 17: the document's own loads, Size, fresh. -/
import Derived.Test.YtnnbjhpkgndclaaGreatDoorQsZZ
import Derived.Test.YtnnbjhpkgndclaaGreatDoorQsBQ
import Derived.Test.YtnnbjhpkgndclaaGreatDoorQsBM
import Derived.Test.YtnnbjhpkgndclaaGreatDoorQsBU
import Derived.Test.YtnnbjhpkgndclaaGreatDoorQsBT
import Derived.Test.YtnnbjhpkgndclaaGreatDoorQsBC
import Derived.Test.YtnnbjhpkgndclaaGreatDoorQsBV
set_option linter.unusedVariables false
namespace Go.Proofs.YtnnbjhpkgndclaaGreatDoor.St
open Go.RowKit
open Go.Proofs.YtnnbjhpkgndclaaGreatDoor.Rw
open Go.Proofs.YtnnbjhpkgndclaaGreatDoor.Da
open Go.Proofs.YtnnbjhpkgndclaaGreatDoor.Ro
open Go.Proofs.YtnnbjhpkgndclaaGreatDoor.Bv
open Go.Proofs.YtnnbjhpkgndclaaGreatDoor.Rc (Ins ci zeroI okI wrS wrE insF cat rWrite_is)
open Go.Proofs.YtnnbjhpkgndclaaGreatDoor.Wa (TL OwnT layN fitsN Short app_one wl)
open Go.Proofs.YtnnbjhpkgndclaaGreatDoor.Dk (Ds DV Post2 PostD Ok appP eraP synP rAppend_any rSync_any rErase_any ret_D2)
theorem own_oneT (q : Nat) (x : ByteArray) (w : World) (Bo : Nat) (hB : Bo ≤ w.heap.size) : OwnT q Bo [x] (.slice (some ⟨w.heap.size,0,none⟩) 1 1) (w.alloc (.cells #[.string x] 9)) := by
  have h : Row fT 9 w.heap.size 1 [x] (w.alloc (.cells #[.string x] 9)) := by
    refine ⟨⟨[.string x],heap_alloc_new w _,rfl,fun j y hx k u hu => ?_⟩,Nat.le_refl _⟩
    cases j with
    | zero => simp only [List.getElem?_cons_zero,Option.some.injEq] at hx;subst hx;rw [Nat.zero_mul,Nat.zero_add];exact hu
    | succ j => simp at hx
  exact Row.own (e := fT) (B := Bs.of q) h hB (by decide)
def rwC (t : List Ins) (g n : Int) : List ByteArray := mark 72 (clp g) :: (t.map (ent n) ++ [mark 67 (clp g)])
theorem rwC_is {t : List Ins} {g n : Int} (h : g ≤ 1073741824) : rwC t g n = rwL t g n := by unfold rwC rwL clp;rw [if_pos h]
def LdP (q Bo : Nat) (M : List ByteArray) (b : Bool) (w : World) (e : Ending) (w' : World) : Prop :=
  ∃ v,e = .returned (.tuple #[v,.bool b]) ∧ Below w.heap.size w w' ∧ (b = true → OwnT q Bo M v w') ∧ (b = false → v = .slice none 0 0)
set_option maxRecDepth 8000 in
set_option maxHeartbeats 8000000 in
theorem rloads_any (q : Nat) (t : List Ins) (tv : Value) (g n : Int) (w : World) (h : TI q t tv w) (hq : q ≤ w.heap.size) (hm : t.length ≤ 100000) (hg : 0 ≤ g) :
    Calls Tryz.prog 49 #[.int .i64 g,tv,.int .i64 n] w (LdP q w.heap.size (rwC t g n) (okT t n) w) := by
  obtain ⟨a1,c1,rfl⟩ := h.len
  have H := lH h
  obtain ⟨m,hmn⟩ : ∃ m,t.length = m := ⟨_,rfl⟩
  have HN := lH hmn
  rw [hmn] at hm ⊢
  obtain ⟨x0,hx0⟩ : ∃ x,mark 72 (clp g) = x := ⟨_,rfl⟩
  obtain ⟨z0,hz0⟩ : ∃ x,mark 67 (clp g) = x := ⟨_,rfl⟩
  have HX0 := lH hx0
  have HZ0 := lH hz0
  have HM : Hid (rwC t g n = x0 :: (t.map (ent n) ++ [z0])) := lH (by unfold rwC;rw [hx0,hz0])
  rw [HM.out]
  clear h hmn hx0 hz0
  go_enter Tryz.func49,Tryz.ntmps49
  go_wp2_with fail
  refine (rmark_is (.inl ⟨rfl,rfl⟩) hg HX0 _).mono ?_
  rintro e w0 ⟨rfl,hb0⟩
  obtain ⟨W,hW⟩ : ∃ Q_ : World,w0.alloc (.cells #[.string x0] 9) = Q_ := ⟨_,rfl⟩
  have oW := hW ▸ own_oneT q x0 w0 w.heap.size hb0.size
  have bW : Below w.heap.size w W := nx hb0 (hW ▸ below1 w0 _)
  have OW := lH oW
  clear oW
  go_wp2
  go_loopw [8,18] (fun s i wr => ∃ k : Nat,k ≤ m ∧ i = .int .i64 k ∧ OwnT q w.heap.size (x0 :: (t.take k).map (ent n)) s wr ∧ okT (t.take k) n = true ∧ Below w.heap.size w wr) (fun _ i _ => m - (intOf i).toNat)
  case atStart => exact ⟨0,Nat.zero_le _,rfl,OW.out,rfl,bW⟩
  case round =>
    obtain ⟨k,hk,rfl,ho,hok,hb⟩ := hrel
    have HO := lH ho
    have HOK := lH hok
    clear ho hok
    by_cases hlt : k < m
    · have hkl : k < t.length := by rw [HN.out];exact hlt
      have hlt2 : (k : Int) < m := by omega
      obtain ⟨b,off,c,e,hx,_,hbb⟩ := TI.get H.out hb hkl
      rw [HN.out] at e
      simp only [Value.slice.injEq] at e
      obtain ⟨rfl,-,rfl⟩ := e
      have HTk := lH (okT_take (n := n) hkl)
      have HB := lH (fun hbad => okT_bad (n := n) hkl hbad)
      obtain ⟨i,hi⟩ : ∃ i,t[k] = i := ⟨_,rfl⟩
      have HI := lH hi
      rw [hi] at hx HTk HB
      obtain ⟨V,hV⟩ : ∃ Q_ : World,(wr.alloc (.cells (ci zeroI) 44)).setRow wr.heap.size (ci i) = Q_ := ⟨_,rfl⟩
      have xV : Bx V wr.heap.size (ci i) 44 := hV ▸ Bx.put (Bx.new _ _ _) _
      have bV : Below wr.heap.size wr V := hV ▸ below_setRow (below1 _ _) (Nat.le_refl _) _
      have b1 := nx hb bV
      have r1 := xV.row
      have hplain := (Bx.new wr (ci zeroI) 44).plain (n := 25) rfl
      clear hi
      cases ho : okI i n with
      | true =>
        have hwr : Hid (wrS i n = cat (insF i n.toNat) ∧ wrE i n = 0) := lH (by unfold wrS wrE;rw [ho];exact ⟨rfl,rfl⟩)
        obtain ⟨y,hy⟩ : ∃ y,cat (insF i n.toNat) = y := ⟨_,rfl⟩
        have hys : y.size ≤ 1000 := by rw [← hy,Rc.ins_size];have := (Rc.okI_iff.1 ho).1;omega
        have hys2 : 1 + y.size ≤ 9223372036854775807 := by omega
        rw [hy] at hwr
        have HE : Hid (x0 :: (t.take (k + 1)).map (ent n) = (x0 :: (t.take k).map (ent n)) ++ [⟨#[82]⟩ ++ y]) := lH (by
          rw [List.take_succ_eq_append_getElem hkl,List.map_append,HI.out];simp [ent,hy])
        have HK1 : Hid (okT (t.take (k + 1)) n = true) := lH (by rw [HTk.out,HOK.out,ho];rfl)
        clear hy ho
        go_wp2_with fail
        refine (rWrite_is hwr _).mono ?_
        rintro e w1 ⟨rfl,hb1⟩
        have b2 := nx b1 hb1
        obtain ⟨v',w',hrun,hown',hbl⟩ := app_one ((HO.out.stays bV).stays hb1) hq b2.size (⟨#[82]⟩ ++ y) (by rw [List.length_cons,List.length_map,List.length_take];omega)
        have HR := lH (show OwnT q w.heap.size (x0 :: (t.take (k + 1)).map (ent n)) v' w' ∧ Below w.heap.size w w' from ⟨by rw [HE.out];exact hown',hbl _ _ (Nat.le_refl _) b2⟩)
        clear hown' hbl xV r1 hplain
        go_wp2
        go_roundw
        case rel => exact ⟨k + 1,by omega,by go_num,HR.out.1,HK1.out,HR.out.2⟩
        case measure => simp [intOf];omega
      | false =>
        have hwr : Hid (wrS i n = ByteArray.empty ∧ wrE i n = 1) := lH (by unfold wrS wrE;rw [ho];exact ⟨rfl,rfl⟩)
        have HF := lH (HB.out ho)
        clear ho
        go_wp2_with fail
        refine (rWrite_is hwr _).mono ?_
        rintro e w1 ⟨rfl,hb1⟩
        go_wp2
        go_ret2
        exact ⟨_,by rw [HF.out];rfl,nx b1 hb1,(fun h => absurd (HF.out.symm.trans h) (by decide)),fun _ => rfl⟩
    · obtain rfl : k = m := by omega
      rw [List.take_of_length_le (by rw [HN.out];exact Nat.le_refl _)] at HO HOK
      go_wp2_with fail
      refine (rmark_is (.inr ⟨rfl,rfl⟩) hg HZ0 _).mono ?_
      rintro e w1 ⟨rfl,hb1⟩
      have b2 := nx hb hb1
      obtain ⟨v',w',hrun,hown',hbl⟩ := app_one (HO.out.stays hb1) hq b2.size z0 (by rw [List.length_cons,List.length_map,HN.out];omega)
      have HR := lH (show OwnT q w.heap.size (x0 :: (t.map (ent n) ++ [z0])) v' w' ∧ Below w.heap.size w w' from ⟨hown',hbl _ _ (Nat.le_refl _) b2⟩)
      clear hown' hbl
      go_wp2
      go_ret2
      exact ⟨_,by rw [HOK.out];rfl,HR.out.2,fun _ => HR.out.1,fun h => absurd (HOK.out.symm.trans h) (by decide)⟩
theorem rloads_is {q : Nat} {t : List Ins} {tv : Value} {g n : Int} {M : List ByteArray} {b : Bool} (H : Hid (rwC t g n = M ∧ okT t n = b)) (w : World) (h : TI q t tv w) (hq : q ≤ w.heap.size) (hm : t.length ≤ 100000) (hg : 0 ≤ g) :
    Calls Tryz.prog 49 #[.int .i64 g,tv,.int .i64 n] w (LdP q w.heap.size M b w) := by
  obtain ⟨rfl,rfl⟩ := H.out
  exact rloads_any q t tv g n w h hq hm hg
set_option maxRecDepth 8000 in
set_option maxHeartbeats 4000000 in
theorem rsize_any (q : Nat) (t : List Ins) (tv : Value) (n : Int) (w : World) (ht : TI q t tv w) (hq : q ≤ w.heap.size) (hm : t.length ≤ 50000) :
    Calls Tryz.prog 24 #[tv,.int .i64 n] w fun e w' => e = .returned (.int .i64 (sizP t n)) ∧ Below w.heap.size w w' := by
  obtain ⟨M,hM⟩ : ∃ M,rwL t 1 n = M := ⟨_,rfl⟩
  have hC : rwC t 1 n = M := (rwC_is (by decide)).trans hM
  cases hok : okT t n with
  | false =>
    have HZ : Hid (sizP t n = 0) := lH (by unfold sizP;rw [hok,if_neg (by decide)])
    have HK := lH (⟨hC,hok⟩ : rwC t 1 n = M ∧ okT t n = false)
    rw [HZ.out]
    clear hok hM hC
    go_enter Tryz.func24,Tryz.ntmps24
    go_wp2_with fail
    refine (rloads_is HK w ht hq (by omega) (by decide)).mono ?_
    rintro e w1 ⟨v1,rfl,hb1,he1,he2⟩
    obtain rfl := he2 rfl
    clear he1 he2
    go_wp2
    go_ret
    exact ⟨rfl,hb1⟩
  | true =>
    have HZ : Hid (sizP t n = (wl M : Nat)) := lH (by unfold sizP;rw [hok,if_pos rfl,hM])
    have HK := lH (⟨hC,hok⟩ : rwC t 1 n = M ∧ okT t n = true)
    have HSh : Hid (Short M) := lH (hM ▸ short_rw hok)
    obtain ⟨m,hmm⟩ : ∃ m,M.length = m := ⟨_,rfl⟩
    have hml : m ≤ 60000 := by rw [← hmm,← hM,rwL];simp;omega
    have HN := lH hmm
    rw [HZ.out]
    clear hok hM hmm hC
    go_enter Tryz.func24,Tryz.ntmps24
    go_wp2_with fail
    refine (rloads_is HK w ht hq (by omega) (by decide)).mono ?_
    rintro e w2 ⟨v2,rfl,hb2,he1,_⟩
    have HL2 := lH (Wa.OwnT.tl (he1 rfl) hq)
    obtain ⟨a2,c2,e2⟩ := HL2.out.len
    rw [HN.out] at e2
    subst e2
    clear he1
    go_wp2
    go_loopw [7,20] (fun s i wr => ∃ k : Nat,k ≤ m ∧ i = .int .i64 k ∧ s = .int .i64 (wl (M.take k) : Nat) ∧ w2 = wr) (fun _ i _ => m - (intOf i).toNat)
    case atStart => exact ⟨0,Nat.zero_le _,rfl,by simp [wl],rfl⟩
    case round =>
      obtain ⟨k,hk,rfl,rfl,rfl⟩ := hrel
      by_cases hlt : k < m
      · have hkl : k < M.length := by rw [HN.out];exact hlt
        have hlt2 : (k : Int) < m := by omega
        obtain ⟨b,off,c,e,hc,_⟩ := Wa.TL.get HL2.out (Below.refl _ _) hkl
        rw [HN.out] at e
        simp only [Value.slice.injEq] at e
        obtain ⟨rfl,-,rfl⟩ := e
        have hsx := HSh.out _ (List.getElem_mem hkl)
        have hw1 := wl_le M HSh.out k
        have HW := lH (tlw hkl)
        obtain ⟨x,hx⟩ : ∃ x,M[k] = x := ⟨_,rfl⟩
        rw [hx] at hc hsx HW
        obtain ⟨z,hz⟩ : ∃ z,wl (M.take k) = z := ⟨_,rfl⟩
        rw [hz] at hw1 HW ⊢
        clear hx hz
        go_wp2
        go_roundw
        case rel => exact ⟨k + 1,by omega,by go_num,by rw [HW.out];push_cast;go_num,trivial⟩
        case measure => simp [intOf];omega
      · obtain rfl : k = m := by omega
        have HF : Hid (wl (M.take k) = wl M) := lH (by rw [List.take_of_length_le (by rw [HN.out];exact Nat.le_refl _)])
        go_wp2
        go_ret
        exact ⟨by rw [← HF.out];rfl,hb2⟩
end Go.Proofs.YtnnbjhpkgndclaaGreatDoor.St
namespace Go.Proofs.YtnnbjhpkgndclaaGreatDoor.St
open Go.RowKit
open Go.Proofs.YtnnbjhpkgndclaaGreatDoor.Rw
open Go.Proofs.YtnnbjhpkgndclaaGreatDoor.Da
open Go.Proofs.YtnnbjhpkgndclaaGreatDoor.Bv
open Go.Proofs.YtnnbjhpkgndclaaGreatDoor.Rc (Ins ci zeroI okI)
open Go.Proofs.YtnnbjhpkgndclaaGreatDoor.Wa (TL OwnT layN fitsN Short wl)
open Go.Proofs.YtnnbjhpkgndclaaGreatDoor.Dk (Ds DV Post2 PostD Ok appP eraP synP rAppend_any rSync_any rErase_any ret_D2)
theorem rlay_is {q : Nat} {l : List ByteArray} {x : ByteArray} {k : Int} (H : Hid (layN ByteArray.empty l = (x,k))) (v : Value) (w : World) (h : TL q l v w) (hl : l.length ≤ 1000000) (hz : ∀ x ∈ l,x.size ≤ maxLen) :
    Calls Tryz.prog 35 #[v] w fun e w' => e = .returned (.tuple #[.string x,.int .i64 k]) ∧ Below w.heap.size w w' := by
  have h2 := Wa.rLay_any q l v w h hl hz
  rw [H.out] at h2;exact h2
theorem rfits_is {q : Nat} {l : List ByteArray} {r : Int} {b : Bool} (H : Hid (fitsN r l = b)) (v : Value) (w : World) (h : TL q l v w) (hl : l.length ≤ 1000000) (hz : ∀ x ∈ l,x.size ≤ 1000000000) (hr : 0 ≤ r ∧ r ≤ 60000) :
    Calls Tryz.prog 65 #[v,.int .i64 r] w fun e w' => e = .returned (.bool b) ∧ Below w.heap.size w w' := by
  rw [← H.out];exact Wa.rFits_any q l v r w h hl hz (by omega)
set_option maxRecDepth 8000 in
set_option maxHeartbeats 8000000 in
theorem rfresh_any (q : Nat) (d : Ds) (v tv : Value) (t : List Ins) (z g n : Int) (w : World) (h : DV q d v w) (ht : TI q t tv w) (hq : q ≤ w.heap.size) (hk : Ok 400000 400 d) (hm : t.length ≤ 50000) (hg : 0 ≤ g ∧ g ≤ 1099511627776) :
    Calls Tryz.prog 38 #[v,.int .i64 z,.int .i64 (g + 1),tv,.int .i64 n] w (Post2 q (rewP d t z g n) w) := by
  obtain ⟨cs,rfl,hs,h1,hc3,_⟩ := dv_open h
  obtain ⟨U,hU⟩ : ∃ Q_ : World,(w.alloc (.cells cs 27)).alloc (.cells z6 27) = Q_ := ⟨_,rfl⟩
  have bU : Below w.heap.size w U := hU ▸ below2 w _ _
  obtain ⟨xA,xB⟩ : Bx U w.heap.size cs 27 ∧ Bx U (w.heap.size + 1) z6 27 := hU ▸ bx2 w _ _ _ _
  have HD := lH (show ∀ u,Below U.heap.size U u → DV q d (.agg cs) u from fun u hu => h.stays (nx bU hu))
  have hqU : q ≤ U.heap.size := by have := bU.size;omega
  obtain ⟨r,hr⟩ : ∃ r,rewP d t z g n = r := ⟨_,rfl⟩
  have HR := lH hr
  rw [hr]
  obtain ⟨G,hG⟩ : ∃ G,g + 1 = G := ⟨_,rfl⟩
  rw [hG]
  obtain ⟨C,hC⟩ : ∃ C,rwC t G n = C := ⟨_,rfl⟩
  obtain ⟨ok,hok⟩ : ∃ b,okT t n = b := ⟨_,rfl⟩
  have HC := lH (⟨hC,hok⟩ : rwC t G n = C ∧ okT t n = ok)
  clear h hr hC hok
  go_enter Tryz.func38,Tryz.ntmps38
  go_wp2_with fail
  refine (rloads_is HC U (ht.stays bU) hqU (by omega) (by omega)).mono ?_
  rintro e w1 ⟨v1,rfl,hb1,he1,he2⟩
  have b1 := nx bU hb1
  have yA := xA.stays hb1
  have yB := xB.stays hb1
  have rA := yA.row
  have pB := yB.plain (n := 6) rfl
  cases ok with
  | false =>
    have HX : Hid (r = (d,1)) := lH (HR.out.symm.trans (rew_no HC.out.2))
    obtain rfl := he2 rfl
    clear he1 he2
    go_wp2
    exact bodyPost_ret (v := .tuple #[.agg cs,.int .i64 1]) (ret_D2 Tryz.results38 _ _ hs (yB.put _).row) rfl (post2 HX rfl (below_setRow b1 (by omega) _) (dv_row cs (HD.out _ hb1) yB (by decide) (by omega)))
  | true =>
    have HO1 := lH (he1 rfl)
    have HOK := lH HC.out.2
    clear he1 he2
    by_cases hgb : 1073741824 ≤ g
    · have HX : Hid (r = (d,10)) := lH (HR.out.symm.trans (rew_gen HOK.out hgb))
      have hg1 : decide (G > 1073741824) = true := decide_eq_true (by omega)
      go_wp2
      exact bodyPost_ret (v := .tuple #[.agg cs,.int .i64 10]) (ret_D2 Tryz.results38 _ _ hs (yB.put _).row) rfl (post2 HX rfl (below_setRow b1 (by omega) _) (dv_row cs (HD.out _ hb1) yB (by decide) (by omega)))
    · have hg1 : decide (G > 1073741824) = false := decide_eq_false (by omega)
      obtain ⟨M,hM⟩ : ∃ M,rwL t (g + 1) n = M := ⟨_,rfl⟩
      have hCM : C = M := by rw [← HC.out.1,rwC_is (by omega),← hG,hM]
      subst hCM
      have HM := lH hM
      have hMl : C.length ≤ 60000 := by rw [← hM,rwL];simp;omega
      have HSh : Hid (Short C) := lH (hM ▸ short_rw HOK.out)
      obtain ⟨f,hf⟩ : ∃ f,fitsN d.c C = f := ⟨_,rfl⟩
      have HF := lH hf
      have HL2 := lH (Wa.OwnT.tl HO1.out hqU)
      have cA := yA.cell 3
      rw [hc3] at cA
      clear hM hf
      go_wp2_with fail
      refine (rfits_is HF v1 w1 HL2.out (by omega) (fun x hx => by have := HSh.out x hx;omega) hk.c).mono ?_
      rintro e w3 ⟨rfl,hb3⟩
      have b3 := nx b1 hb3
      have hb13 := nx hb1 hb3
      have zA := yA.stays hb3
      have zB := yB.stays hb3
      have rA2 := zA.row
      have pB2 := zB.plain (n := 6) rfl
      clear yA yB rA pB xA xB cA
      cases f with
      | false =>
        have HX : Hid (r = (d,10)) := lH (HR.out.symm.trans (rew_full HOK.out (by omega) HM.out HF.out))
        go_wp2
        exact bodyPost_ret (v := .tuple #[.agg cs,.int .i64 10]) (ret_D2 Tryz.results38 _ _ hs (zB.put _).row) rfl (post2 HX rfl (below_setRow b3 (by omega) _) (dv_row cs (HD.out _ hb13) zB (by decide) (by omega)))
      | true =>
        obtain ⟨⟨x,k⟩,hx⟩ : ∃ p,layN ByteArray.empty C = p := ⟨_,rfl⟩
        have hxs : x.size ≤ 60000 := by have := Wa.layN_max ByteArray.empty C (by decide);rw [hx] at this;exact this
        have HX := lH hx
        clear hx
        go_wp2_with fail
        refine (rlay_is HX v1 w3 (HL2.out.stays hb3) (by omega) (short_size HSh.out)).mono ?_
        rintro e w4 ⟨rfl,hb4⟩
        have b4 := nx b3 hb4
        have yA := zA.stays hb4
        have yB := zB.stays hb4
        have rA := yA.row
        have pB := yB.plain (n := 6) rfl
        have hb14 := nx hb13 hb4
        clear zA zB rA2 pB2
        by_cases h0 : k = 0
        · subst h0
          have HG := lH (HR.out.symm.trans (rew_go HOK.out (by omega) HM.out HF.out HX.out))
          obtain ⟨⟨p,k⟩,hp⟩ : ∃ p,eraP d z = p := ⟨_,rfl⟩
          have hke := hk.eraP z
          rw [hp] at hke
          have HP := lH hp
          have hDV := HD.out _ hb14
          clear hp
          go_wp2_with fail
          refine (rErase_any q d _ z w4 hDV (by have := b4.size;omega) (hk.mono (by decide) (by decide))).mono ?_
          rintro e w5 ⟨v5,rfl,hb5,hd5⟩
          rw [HP.out] at hd5 ⊢
          simp only at hd5 hke ⊢
          have b5 := nx b4 hb5
          have zA := yA.stays hb5
          have zB := yB.stays hb5
          obtain ⟨cs1,rfl,hs1,o1,_,_⟩ := dv_open hd5
          have pA := zA.plain (n := 6) hs
          obtain ⟨X,hX⟩ : ∃ Q_ : World,w5.setRow w.heap.size cs1 = Q_ := ⟨_,rfl⟩
          have wA : Bx X w.heap.size cs1 27 := hX ▸ zA.put _
          have wB : Bx X (w.heap.size + 1) z6 27 := hX ▸ zB.put' (by omega) _
          have bX : Below w.heap.size w X := hX ▸ below_setRow b5 (Nat.le_refl _) _
          have dX : DV q p (.agg cs1) X := hX ▸ dv_row cs1 hd5 zA (by decide) hq
          have rz := wA.row
          have pz := wB.plain (n := 6) rfl
          clear zA zB rA pB yA yB hd5 hDV
          by_cases h0 : k = 0
          · subst h0
            obtain ⟨⟨p2,k2⟩,hp2⟩ : ∃ r,appP p z x = r := ⟨_,rfl⟩
            have hka := hke.appP z x
            rw [hp2] at hka
            have HW := lH hp2
            have HG2 : Hid (r = wriP p z x) := lH (by rw [HG.out,HP.out,if_pos rfl])
            clear hp2
            go_wp2_with fail
            refine (rAppend_any q p _ z x X dX (by have := bX.size;omega) (hke.mono (by decide) (by decide)) (by omega)).mono ?_
            rintro e w6 ⟨v6,rfl,hb6,hd6⟩
            rw [HW.out] at hd6 ⊢
            simp only at hd6 hka ⊢
            obtain ⟨cs2,rfl,hs2,o2,_,_⟩ := dv_open hd6
            have b6 := nx bX hb6
            have zA := wA.stays hb6
            have zB := wB.stays hb6
            have pA2 := zA.plain (n := 6) hs1
            obtain ⟨Y,hY⟩ : ∃ Q_ : World,w6.setRow w.heap.size cs2 = Q_ := ⟨_,rfl⟩
            have vA : Bx Y w.heap.size cs2 27 := hY ▸ zA.put _
            have vB : Bx Y (w.heap.size + 1) z6 27 := hY ▸ zB.put' (by omega) _
            have bY : Below w.heap.size w Y := hY ▸ below_setRow b6 (Nat.le_refl _) _
            have dY : DV q p2 (.agg cs2) Y := hY ▸ dv_row cs2 hd6 zA (by decide) hq
            have ry := vA.row
            have py := vB.plain (n := 6) rfl
            clear zA zB rz pz hd6 pA
            by_cases h0 : k2 = 0
            · subst h0
              obtain ⟨⟨p3,k3⟩,hp3⟩ : ∃ r,synP p2 = r := ⟨_,rfl⟩
              have HS := lH hp3
              have HP2 : Hid (r = (p3,k3)) := lH (by rw [HG2.out];unfold wriP;rw [HW.out,if_pos rfl,hp3])
              clear hp3
              go_wp2_with fail
              refine (rSync_any q p2 _ Y dY (by have := bY.size;omega) (hka.mono (by omega) (by decide))).mono ?_
              rintro e w7 ⟨v7,rfl,hb7,hd7⟩
              rw [HS.out] at hd7 ⊢
              simp only at hd7 ⊢
              obtain ⟨cs3,rfl,hs3,o3,_,_⟩ := dv_open hd7
              have b7 := nx bY hb7
              have zA := vA.stays hb7
              have zB := vB.stays hb7
              have pA3 := zA.plain (n := 6) hs2
              obtain ⟨Z,hZ⟩ : ∃ Q_ : World,w7.setRow w.heap.size cs3 = Q_ := ⟨_,rfl⟩
              have uA : Bx Z w.heap.size cs3 27 := hZ ▸ zA.put _
              have uB : Bx Z (w.heap.size + 1) z6 27 := hZ ▸ zB.put' (by omega) _
              have bZ : Below w.heap.size w Z := hZ ▸ below_setRow b7 (Nat.le_refl _) _
              have dZ : DV q p3 (.agg cs3) Z := hZ ▸ dv_row cs3 hd7 zA (by decide) hq
              have rz3 := uA.row
              have pz3 := uB.plain (n := 6) rfl
              clear zA zB ry py hd7 pA2
              go_wp2
              exact bodyPost_ret (v := .tuple #[.agg cs3,.int .i64 k3]) (ret_D2 Tryz.results38 _ _ hs3 (uB.put _).row) rfl (post2 HP2 rfl (below_setRow bZ (by omega) _) (dv_row cs3 dZ uB (by decide) (by omega)))
            · have HP2 : Hid (r = (p2,k2)) := lH (by rw [HG2.out];unfold wriP;rw [HW.out,if_neg h0])
              have hk0 : (k2 == 0) = false := by simpa using h0
              go_wp2
              exact bodyPost_ret (v := .tuple #[.agg cs2,.int .i64 k2]) (ret_D2 Tryz.results38 _ _ hs2 (vB.put _).row) rfl (post2 HP2 rfl (below_setRow bY (by omega) _) (dv_row cs2 dY vB (by decide) (by omega)))
          · have HP2 : Hid (r = (p,k)) := lH (by rw [HG.out,HP.out,if_neg h0])
            have hk0 : (k == 0) = false := by simpa using h0
            go_wp2
            exact bodyPost_ret (v := .tuple #[.agg cs1,.int .i64 k]) (ret_D2 Tryz.results38 _ _ hs1 (wB.put _).row) rfl (post2 HP2 rfl (below_setRow bX (by omega) _) (dv_row cs1 dX wB (by decide) (by omega)))
        · have HP2 : Hid (r = (d,k)) := lH (HR.out.symm.trans (rew_lay HOK.out (by omega) HM.out HF.out HX.out h0))
          have hk0 : (k != 0) = true := by simpa using h0
          go_wp2
          exact bodyPost_ret (v := .tuple #[.agg cs,.int .i64 k]) (ret_D2 Tryz.results38 _ _ hs (yB.put _).row) rfl (post2 HP2 rfl (below_setRow b4 (by omega) _) (dv_row cs (HD.out _ hb14) yB (by decide) (by omega)))
theorem rfresh_is {q : Nat} {d : Ds} {t : List Ins} {z g n : Int} {r : Ds × Int} (H : Hid (rewP d t z g n = r)) (v tv : Value) (w : World) (h : DV q d v w) (ht : TI q t tv w) (hq : q ≤ w.heap.size) (hk : Ok 400000 400 d) (hm : t.length ≤ 50000) (hg : 0 ≤ g ∧ g ≤ 1099511627776) :
    Calls Tryz.prog 38 #[v,.int .i64 z,.int .i64 (g + 1),tv,.int .i64 n] w (Post2 q r w) := by
  rw [← H.out];exact rfresh_any q d v tv t z g n w h ht hq hk hm hg
end Go.Proofs.YtnnbjhpkgndclaaGreatDoor.St
namespace Go.Proofs.YtnnbjhpkgndclaaGreatDoor.St
open Go.RowKit
open Go.Proofs.YtnnbjhpkgndclaaGreatDoor.Rw
open Go.Proofs.YtnnbjhpkgndclaaGreatDoor.Da
open Go.Proofs.YtnnbjhpkgndclaaGreatDoor.Bv
open Go.Proofs.YtnnbjhpkgndclaaGreatDoor.Rc (Ins ci zeroI okI)
open Go.Proofs.YtnnbjhpkgndclaaGreatDoor.Wa (TL OwnT layN fitsN Short wl)
open Go.Proofs.YtnnbjhpkgndclaaGreatDoor.Dk (Ds DV Post2 PostD Ok readS readE at2 rRead_is PostS now_wt)
theorem rread_is {q : Nat} {s : ByteArray} {n : Int} {z : Zs} (H : Hid (zs s n = z)) (w : World) (hs : s.size ≤ 1000000) (hq : q ≤ w.heap.size) (ht : Tbs w) :
    Calls Tryz.prog 45 #[.string s,.int .i64 n] w (RdP q s z w) := by
  rw [← H.out];exact rread_any q s n w hs hq ht
abbrev zR : Array Value := cR 0 0 (.slice none 0 0) false
theorem pick_no {x y : Zs} (hx : x.c = false) (hy : y.c = false) : pick x y = (zero,0) := by
  unfold pick;rw [if_neg (fun h => by rw [hy] at h;exact absurd h.1 (by decide)),if_neg (by rw [hx];decide)]
theorem pick_a {x y : Zs} (hx : x.c = true) (h : y.c = false ∨ y.g ≤ x.g) : pick x y = (x,0) := by
  unfold pick;rw [if_pos hx,if_neg (fun k => by
    rcases h with h | h
    · rw [h] at k;exact absurd k.1 (by decide)
    · have := k.2;omega)]
theorem pick_b {x y : Zs} (hy : y.c = true) (h0 : 0 < y.g) (h : x.c = false ∨ x.g < y.g) : pick x y = (y,1) := by
  have key : (if x.c = true then x else zero).g < y.g := by
    rcases h with h | h
    · rw [if_neg (by rw [h];decide)];exact h0
    · by_cases k : x.c = true
      · rw [if_pos k];exact h
      · rw [if_neg k];exact h0
  unfold pick
  rw [if_pos ⟨hy,key⟩]
set_option maxRecDepth 8000 in
set_option maxHeartbeats 8000000 in
theorem rtable_any (q : Nat) (d : Ds) (v : Value) (n : Int) (w : World) (h : DV q d v w) (hq : q ≤ w.heap.size) (hk : Ok 500000 500 d) (hT : Tbs w) :
    Calls Tryz.prog 22 #[v,.int .i64 n] w (TabP q (tabP d n) w) := by
  obtain ⟨cs,rfl,hs,h1,_,_⟩ := dv_open h
  obtain ⟨U,hU⟩ : ∃ Q_ : World,w.alloc (.cells cs 27) = Q_ := ⟨_,rfl⟩
  have bU : Below w.heap.size w U := hU ▸ below1 w _
  have xA : Bx U w.heap.size cs 27 := hU ▸ Bx.new _ _ _
  have HD := lH (show ∀ u,Below w.heap.size w u → DV q d (.agg cs) u ∧ Tbs u from fun u hu => ⟨h.stays hu,hT.below hu⟩)
  have hwt := hk.wt
  have hln := hk.len
  have hnw := now_wt d
  have rA := xA.row
  clear h hT
  cases hdn : d.n with
  | true =>
    have HZ : Hid (tabP d n = (zero,0)) := lH (by unfold tabP;rw [hdn,if_pos rfl])
    rw [HZ.out]
    have HE0 := lH (show readE d 0 = 15 by unfold readE;rw [hdn,if_pos rfl])
    have HS0 := lH (show readS d 0 = Dk.nul by unfold readS;rw [HE0.out,if_neg (by decide)])
    have HE1 := lH (show readE d 1 = 15 by unfold readE;rw [hdn,if_pos rfl])
    have HS1 := lH (show readS d 1 = Dk.nul by unfold readS;rw [HE1.out,if_neg (by decide)])
    clear hdn
    go_enter Tryz.func22,Tryz.ntmps22
    go_wp2_with fail
    refine (rRead_is HS0 HE0 (HD.out U bU).1 (by have := bU.size;omega) (by omega) (by omega)).mono ?_
    rintro e w1 ⟨rfl,hb1⟩
    have b1 := nx bU hb1
    have rA1 := (xA.stays hb1).row
    clear rA
    go_wp2_with fail
    refine (rRead_is HS1 HE1 (HD.out w1 b1).1 (by have := b1.size;omega) (by omega) (by omega)).mono ?_
    rintro e w2 ⟨rfl,hb2⟩
    go_wp2
    exact bodyPost_ret (v := .tuple #[.slice none 0 0,.int .i64 0,.int .i64 0,.bool false]) (ret_T4 Tryz.results22 _ _) rfl ⟨_,rfl,nx b1 hb2,Is.nil _ _ _ _⟩
  | false =>
    have HZ : Hid (tabP d n = pick (zs d.now.1 n) (zs d.now.2 n)) := lH (by unfold tabP;rw [hdn,if_neg (by decide)])
    have HE0 := lH (show readE d 0 = 0 from readE_of hdn (.inl rfl))
    have HS0 := lH (show readS d 0 = d.now.1 by unfold readS;rw [HE0.out,if_pos rfl];rfl)
    have HE1 := lH (show readE d 1 = 0 from readE_of hdn (.inr rfl))
    have HS1 := lH (show readS d 1 = d.now.2 by unfold readS;rw [HE1.out,if_pos rfl];rfl)
    have hfy := (zs_table d.now.2 n).2.2.2.2.2.2
    obtain ⟨sa,hsa⟩ : ∃ s,d.now.1 = s := ⟨_,rfl⟩
    obtain ⟨sb,hsb⟩ : ∃ s,d.now.2 = s := ⟨_,rfl⟩
    rw [hsa] at HS0 HZ hnw
    rw [hsb] at HS1 HZ hfy hnw
    obtain ⟨x,hx⟩ : ∃ z,zs sa n = z := ⟨_,rfl⟩
    obtain ⟨y,hy⟩ : ∃ z,zs sb n = z := ⟨_,rfl⟩
    rw [hx,hy] at HZ
    rw [hy] at hfy
    have HX := lH hx
    have HY := lH hy
    have HFy := lH hfy
    clear hdn hsa hsb hx hy hfy
    go_enter Tryz.func22,Tryz.ntmps22
    go_wp2_with fail
    refine (rRead_is HS0 HE0 (HD.out U bU).1 (by have := bU.size;omega) (by omega) (by omega)).mono ?_
    rintro e w1 ⟨rfl,hb1⟩
    have b1 := nx bU hb1
    have rA1 := (xA.stays hb1).row
    clear rA
    go_wp2_with fail
    refine (rRead_is HS1 HE1 (HD.out w1 b1).1 (by have := b1.size;omega) (by omega) (by omega)).mono ?_
    rintro e w2 ⟨rfl,hb2⟩
    have b2 := nx b1 hb2
    clear rA1
    go_wp2_with fail
    refine (rread_is (q := q) HX w2 (by omega) (by have := b2.size;omega) (HD.out w2 b2).2).mono ?_
    rintro e w3 ⟨v3,e3,rfl,hb3,ti3,hw3⟩
    have b3 := nx b2 hb3
    have T3 := lH ti3
    have HW3 := lH hw3
    obtain ⟨a3,c3,rfl⟩ := ti3.len
    clear ti3 hw3
    go_wp2_with fail
    refine (rread_is (q := q) HY w3 (by omega) (by have := b3.size;omega) (HD.out w3 b3).2).mono ?_
    rintro e w4 ⟨v4,e4,rfl,hb4,ti4,hw4⟩
    have b4 := nx b3 hb4
    have T4 := lH ti4
    have HW4 := lH hw4
    obtain ⟨a4,c4,rfl⟩ := ti4.len
    clear ti4 hw4
    obtain ⟨V0,hV0⟩ : ∃ Q_ : World,(w4.alloc (.cells zR 91)).alloc (.cells zR 91) = Q_ := ⟨_,rfl⟩
    have bV0 : Below w4.heap.size w4 V0 := hV0 ▸ below2 w4 _ _
    obtain ⟨m0,m1⟩ : Bx V0 w4.heap.size zR 91 ∧ Bx V0 (w4.heap.size + 1) zR 91 := hV0 ▸ bx2 w4 _ _ _ _
    have pm0 := m0.plain (n := 4) rfl
    obtain ⟨V1,hV1⟩ : ∃ Q_ : World,V0.setRow w4.heap.size (cR x.g e3 (.slice a3 x.t.length c3) x.c) = Q_ := ⟨_,rfl⟩
    have n0 : Bx V1 w4.heap.size (cR x.g e3 (.slice a3 x.t.length c3) x.c) 91 := hV1 ▸ m0.put _
    have n1 : Bx V1 (w4.heap.size + 1) zR 91 := hV1 ▸ m1.put' (by omega) _
    have bV1 : Below w4.heap.size w4 V1 := hV1 ▸ below_setRow bV0 (Nat.le_refl _) _
    have pn1 := n1.plain (n := 4) rfl
    obtain ⟨V,hV⟩ : ∃ Q_ : World,V1.setRow (w4.heap.size + 1) (cR y.g e4 (.slice a4 y.t.length c4) y.c) = Q_ := ⟨_,rfl⟩
    have o0 : Bx V w4.heap.size (cR x.g e3 (.slice a3 x.t.length c3) x.c) 91 := hV ▸ n0.put' (by omega) _
    have o1 : Bx V (w4.heap.size + 1) (cR y.g e4 (.slice a4 y.t.length c4) y.c) 91 := hV ▸ n1.put _
    have bV : Below w4.heap.size w4 V := hV ▸ below_setRow bV1 (by omega) _
    have b5 := nx b4 bV
    have T3V := lH ((T3.out.stays hb4).stays bV)
    have T4V := lH (T4.out.stays bV)
    have x0 := o0.cell 0
    have x1 := o0.cell 1
    have x2 := o0.cell 2
    have x3 := o0.cell 3
    have y0 := o1.cell 0
    have y1 := o1.cell 1
    have y2 := o1.cell 2
    have y3 := o1.cell 3
    clear m0 m1 n0 n1
    cases hyc : y.c with
    | false =>
      rw [hyc] at y3 hV
      cases hxc : x.c with
      | false =>
        have HP : Hid (tabP d n = (zero,0)) := lH (HZ.out.trans (pick_no hxc hyc))
        rw [hxc] at x3 hV1
        go_wp2
        exact bodyPost_ret (v := .tuple #[.slice none 0 0,.int .i64 0,.int .i64 0,.bool false]) (ret_T4 Tryz.results22 _ _) rfl ⟨_,by rw [HP.out];rfl,b5,by rw [HP.out];exact Is.nil _ _ _ _⟩
      | true =>
        have HP : Hid (tabP d n = (x,0)) := lH (HZ.out.trans (pick_a hxc (.inl hyc)))
        have HB : Hid ((e3 == (sa.size : Int)) = x.w) := lH (by rw [Bool.eq_iff_iff,beq_iff_eq];exact HW3.out hxc)
        rw [hxc] at x3 hV1
        go_wp2
        go_region
        go_wp2
        exact bodyPost_ret (v := .tuple #[.slice a3 x.t.length c3,.int .i64 0,.int .i64 x.g,.bool (e3 == (sa.size : Int))]) (ret_T4 Tryz.results22 _ _) rfl ⟨_,by rw [HP.out,HB.out],b5.drew,by rw [HP.out];exact T3V.out.stays (Below.refl _ _).drew⟩
    | true =>
      rw [hyc] at y3 hV
      by_cases hxg : x.c = true ∧ y.g ≤ x.g
      · have hxc := hxg.1
        have HP : Hid (tabP d n = (x,0)) := lH (HZ.out.trans (pick_a hxc (.inr hxg.2)))
        have HB : Hid ((e3 == (sa.size : Int)) = x.w) := lH (by rw [Bool.eq_iff_iff,beq_iff_eq];exact HW3.out hxc)
        have hge : decide (x.g ≥ y.g) = true := decide_eq_true hxg.2
        rw [hxc] at x3 hV1
        clear hxg
        go_wp2
        go_region
        go_wp2
        exact bodyPost_ret (v := .tuple #[.slice a3 x.t.length c3,.int .i64 0,.int .i64 x.g,.bool (e3 == (sa.size : Int))]) (ret_T4 Tryz.results22 _ _) rfl ⟨_,by rw [HP.out,HB.out],b5.drew,by rw [HP.out];exact T3V.out.stays (Below.refl _ _).drew⟩
      · have HP : Hid (tabP d n = (y,1)) := lH (HZ.out.trans (pick_b hyc (HFy.out hyc) (by
          cases hxc : x.c with
          | false => exact .inl rfl
          | true => exact .inr (by rcases Int.lt_or_le x.g y.g with h | h
                                   · exact h
                                   · exact absurd ⟨hxc,h⟩ hxg))))
        have HB : Hid ((e4 == (sb.size : Int)) = y.w) := lH (by rw [Bool.eq_iff_iff,beq_iff_eq];exact HW4.out hyc)
        cases hxc : x.c with
        | false =>
          rw [hxc] at x3 hV1
          clear hxg
          go_wp2
          go_region
          go_wp2
          exact bodyPost_ret (v := .tuple #[.slice a4 y.t.length c4,.int .i64 1,.int .i64 y.g,.bool (e4 == (sb.size : Int))]) (ret_T4 Tryz.results22 _ _) rfl ⟨_,by rw [HP.out,HB.out],b5.drew,by rw [HP.out];exact T4V.out.stays (Below.refl _ _).drew⟩
        | true =>
          have hge : decide (x.g ≥ y.g) = false := decide_eq_false (fun h => hxg ⟨hxc,h⟩)
          rw [hxc] at x3 hV1
          clear hxg
          go_wp2
          go_region
          go_wp2
          exact bodyPost_ret (v := .tuple #[.slice a4 y.t.length c4,.int .i64 1,.int .i64 y.g,.bool (e4 == (sb.size : Int))]) (ret_T4 Tryz.results22 _ _) rfl ⟨_,by rw [HP.out,HB.out],b5.drew,by rw [HP.out];exact T4V.out.stays (Below.refl _ _).drew⟩
theorem rtable_is {q : Nat} {d : Ds} {n : Int} {p : Zs × Int} (H : Hid (tabP d n = p)) (v : Value) (w : World) (h : DV q d v w) (hq : q ≤ w.heap.size) (hk : Ok 500000 500 d) (hT : Tbs w) :
    Calls Tryz.prog 22 #[v,.int .i64 n] w (TabP q p w) := by
  rw [← H.out];exact rtable_any q d v n w h hq hk hT
set_option maxRecDepth 8000 in
set_option maxHeartbeats 8000000 in
theorem ropen_any (q : Nat) (d : Ds) (v : Value) (n : Int) (w : World) (h : DV q d v w) (hq : q ≤ w.heap.size) (hk : Ok 300000 300 d) (hT : Tbs w) :
    Calls Tryz.prog 18 #[v,.int .i64 n] w (AnP q (opnP d n) w) := by
  obtain ⟨cs,rfl,hs,h1,_,hc5⟩ := dv_open h
  obtain ⟨U,hU⟩ : ∃ Q_ : World,(w.alloc (.cells cs 27)).alloc (.cells z6 27) = Q_ := ⟨_,rfl⟩
  have bU : Below w.heap.size w U := hU ▸ below2 w _ _
  obtain ⟨xA,xB⟩ : Bx U w.heap.size cs 27 ∧ Bx U (w.heap.size + 1) z6 27 := hU ▸ bx2 w _ _ _ _
  have HD := lH (show ∀ u,Below w.heap.size w u → DV q d (.agg cs) u ∧ Tbs u from fun u hu => ⟨h.stays hu,hT.below hu⟩)
  obtain ⟨r,hr⟩ : ∃ r,opnP d n = r := ⟨_,rfl⟩
  have HR := lH hr
  rw [hr]
  have rA := xA.row
  have cA := xA.cell 5
  rw [hc5] at cA
  have pB := xB.plain (n := 6) rfl
  clear h hT hr
  cases hdn : d.n with
  | true =>
    have HX : Hid (r = ⟨d,[],0,0,15⟩) := lH (by rw [← HR.out];unfold opnP;rw [hdn,if_pos rfl])
    rw [hdn] at cA
    clear hdn
    go_enter Tryz.func18,Tryz.ntmps18
    go_wp2
    exact bodyPost_ret (v := .tuple #[.agg cs,.slice none 0 0,.int .i64 0,.int .i64 0,.int .i64 15]) (ret_D5 Tryz.results18 _ _ hs (xB.put _).row) rfl (anP HX (below_setRow bU (by omega) _) (dv_row cs (HD.out _ bU).1 xB (by decide) (by omega)) (Is.nil _ _ _ _))
  | false =>
    rw [hdn] at cA
    by_cases hn : 1 ≤ n ∧ n ≤ 7
    · have HO : Hid (r = (if (tabP d n).1.w then ⟨d,(tabP d n).1.t,(tabP d n).2,(tabP d n).1.g,0⟩
     else if (rewP d (tabP d n).1.t (if 0 < (tabP d n).1.g then 1 - (tabP d n).2 else 0) (tabP d n).1.g n).2 = 0 then
      ⟨(rewP d (tabP d n).1.t (if 0 < (tabP d n).1.g then 1 - (tabP d n).2 else 0) (tabP d n).1.g n).1,(tabP d n).1.t,if 0 < (tabP d n).1.g then 1 - (tabP d n).2 else 0,(tabP d n).1.g + 1,0⟩
     else ⟨(rewP d (tabP d n).1.t (if 0 < (tabP d n).1.g then 1 - (tabP d n).2 else 0) (tabP d n).1.g n).1,[],0,0,(rewP d (tabP d n).1.t (if 0 < (tabP d n).1.g then 1 - (tabP d n).2 else 0) (tabP d n).1.g n).2⟩)) := lH (by
        rw [← HR.out];unfold opnP;rw [hdn,if_neg (by decide),if_pos hn])
      obtain ⟨f1,f2,f3,f4,f5,f6,f7⟩ := tab_facts d n hk.wt
      obtain ⟨⟨⟨g,t,c,wh⟩,z⟩,hz⟩ : ∃ p,tabP d n = p := ⟨_,rfl⟩
      rw [hz] at HO f1 f2 f3 f4
      simp only at HO f1 f2 f3 f4
      have HZ := lH hz
      have hn1 : decide (n < 1) = false := decide_eq_false (by omega)
      have hn2 : decide (n > 7) = false := decide_eq_false (by omega)
      clear hz HR f5 f6 f7 hdn
      go_enter Tryz.func18,Tryz.ntmps18
      go_wp2_with fail
      refine (rtable_is HZ _ U (HD.out _ bU).1 (by have := bU.size;omega) (hk.mono (by decide) (by decide)) (HD.out _ bU).2).mono ?_
      rintro e w1 ⟨tv,rfl,hb1,hti⟩
      simp only at hti ⊢
      have b1 := nx bU hb1
      have yA := xA.stays hb1
      have yB := xB.stays hb1
      have HTi := lH hti
      have rA1 := yA.row
      have pB1 := yB.plain (n := 6) rfl
      clear hti rA cA pB xA xB
      cases wh with
      | true =>
        have HX : Hid (r = ⟨d,t,z,g,0⟩) := lH (by rw [HO.out,if_pos rfl])
        go_wp2
        exact bodyPost_ret (v := .tuple #[.agg cs,tv,.int .i64 z,.int .i64 g,.int .i64 0]) (ret_D5 Tryz.results18 _ _ hs (yB.put _).row) rfl (anP HX (below_setRow b1 (by omega) _) (dv_row cs (HD.out _ b1).1 yB (by decide) (by omega)) (ti_row _ HTi.out yB (by decide) (by omega)))
      | false =>
        obtain ⟨to,hto⟩ : ∃ to,(if 0 < g then 1 - z else 0) = to := ⟨_,rfl⟩
        obtain ⟨⟨p,k⟩,hp⟩ : ∃ p,rewP d t to g n = p := ⟨_,rfl⟩
        have HP := lH hp
        have HO2 : Hid (r = if k = 0 then ⟨p,t,to,g + 1,0⟩ else ⟨p,[],0,0,k⟩) := lH (by rw [HO.out,if_neg (by simp),hto,hp])
        have hgw : IntKind.i64.wrap (g + 1) = g + 1 := IntWalk.i64_in _ (by omega)
        clear HO hp
        have key : ∀ (X : World),Below w1.heap.size w1 X → True := fun _ _ => trivial
        by_cases hg : 0 < g
        · have hg1 : decide (g > 0) = true := decide_eq_true hg
          obtain rfl : 1 - z = to := by rw [← hto,if_pos hg]
          have hzw : IntKind.i64.wrap (1 - z) = 1 - z := IntWalk.i64_in _ (by omega)
          go_wp2_with fail
          refine (rfresh_is HP _ tv w1 (HD.out _ b1).1 HTi.out (by have := b1.size;omega) (hk.mono (by decide) (by decide)) f4 (by omega)).mono ?_
          rintro e w2 ⟨v2,rfl,hb2,hd2⟩
          simp only at hd2 ⊢
          have b2 := nx b1 hb2
          obtain ⟨cs1,rfl,hs1,o1,_,_⟩ := dv_open hd2
          have zB := yB.stays hb2
          obtain ⟨Y,hY⟩ : ∃ Q_ : World,w2.alloc (.cells z6 27) = Q_ := ⟨_,rfl⟩
          have yY : Bx Y w2.heap.size z6 27 := hY ▸ Bx.new _ _ _
          have bY : Below w2.heap.size w2 Y := hY ▸ below1 _ _
          have pY := yY.plain (n := 6) rfl
          obtain ⟨X,hX⟩ : ∃ Q_ : World,Y.setRow w2.heap.size cs1 = Q_ := ⟨_,rfl⟩
          have wA : Bx X w2.heap.size cs1 27 := hX ▸ yY.put _
          have hX2 : Below w2.heap.size w2 X := hX ▸ below_setRow bY (Nat.le_refl _) _
          have wB := zB.stays hX2
          have bX := nx b2 hX2
          have dX := hd2.stays hX2
          have TX := lH ((HTi.out.stays hb2).stays hX2)
          have rX := wA.row
          have pX := wB.plain (n := 6) rfl
          clear rA1 pB1 yA yB zB hd2 yY
          by_cases h0 : k = 0
          · subst h0
            have HX : Hid (r = ⟨p,t,1 - z,g + 1,0⟩) := lH (by rw [HO2.out,if_pos rfl])
            go_wp2
            exact bodyPost_ret (v := .tuple #[.agg cs1,tv,.int .i64 (1 - z),.int .i64 (g + 1),.int .i64 0]) (ret_D5 Tryz.results18 _ _ hs1 (wB.put _).row) rfl (anP HX (below_setRow bX (by omega) _) (dv_row cs1 dX wB (by decide) (by omega)) (ti_row _ TX.out wB (by decide) (by omega)))
          · have HX : Hid (r = ⟨p,[],0,0,k⟩) := lH (by rw [HO2.out,if_neg h0])
            have hk0 : (k != 0) = true := by simpa using h0
            go_wp2
            exact bodyPost_ret (v := .tuple #[.agg cs1,.slice none 0 0,.int .i64 0,.int .i64 0,.int .i64 k]) (ret_D5 Tryz.results18 _ _ hs1 (wB.put _).row) rfl (anP HX (below_setRow bX (by omega) _) (dv_row cs1 dX wB (by decide) (by omega)) (Is.nil _ _ _ _))
        · have hg1 : decide (g > 0) = false := decide_eq_false hg
          obtain rfl : (0 : Int) = to := by rw [← hto,if_neg hg]
          go_wp2_with fail
          refine (rfresh_is HP _ tv w1 (HD.out _ b1).1 HTi.out (by have := b1.size;omega) (hk.mono (by decide) (by decide)) f4 (by omega)).mono ?_
          rintro e w2 ⟨v2,rfl,hb2,hd2⟩
          simp only at hd2 ⊢
          have b2 := nx b1 hb2
          obtain ⟨cs1,rfl,hs1,o1,_,_⟩ := dv_open hd2
          have zB := yB.stays hb2
          obtain ⟨Y,hY⟩ : ∃ Q_ : World,w2.alloc (.cells z6 27) = Q_ := ⟨_,rfl⟩
          have yY : Bx Y w2.heap.size z6 27 := hY ▸ Bx.new _ _ _
          have bY : Below w2.heap.size w2 Y := hY ▸ below1 _ _
          have pY := yY.plain (n := 6) rfl
          obtain ⟨X,hX⟩ : ∃ Q_ : World,Y.setRow w2.heap.size cs1 = Q_ := ⟨_,rfl⟩
          have wA : Bx X w2.heap.size cs1 27 := hX ▸ yY.put _
          have hX2 : Below w2.heap.size w2 X := hX ▸ below_setRow bY (Nat.le_refl _) _
          have wB := zB.stays hX2
          have bX := nx b2 hX2
          have dX := hd2.stays hX2
          have TX := lH ((HTi.out.stays hb2).stays hX2)
          have rX := wA.row
          have pX := wB.plain (n := 6) rfl
          clear rA1 pB1 yA yB zB hd2 yY
          by_cases h0 : k = 0
          · subst h0
            have HX : Hid (r = ⟨p,t,0,g + 1,0⟩) := lH (by rw [HO2.out,if_pos rfl])
            go_wp2
            exact bodyPost_ret (v := .tuple #[.agg cs1,tv,.int .i64 (0),.int .i64 (g + 1),.int .i64 0]) (ret_D5 Tryz.results18 _ _ hs1 (wB.put _).row) rfl (anP HX (below_setRow bX (by omega) _) (dv_row cs1 dX wB (by decide) (by omega)) (ti_row _ TX.out wB (by decide) (by omega)))
          · have HX : Hid (r = ⟨p,[],0,0,k⟩) := lH (by rw [HO2.out,if_neg h0])
            have hk0 : (k != 0) = true := by simpa using h0
            go_wp2
            exact bodyPost_ret (v := .tuple #[.agg cs1,.slice none 0 0,.int .i64 0,.int .i64 0,.int .i64 k]) (ret_D5 Tryz.results18 _ _ hs1 (wB.put _).row) rfl (anP HX (below_setRow bX (by omega) _) (dv_row cs1 dX wB (by decide) (by omega)) (Is.nil _ _ _ _))
    · have HX : Hid (r = ⟨d,[],0,0,1⟩) := lH (by rw [← HR.out];unfold opnP;rw [hdn,if_neg (by decide),if_neg hn])
      clear hdn
      by_cases hn1 : n < 1
      · have hn1' : decide (n < 1) = true := decide_eq_true hn1
        go_enter Tryz.func18,Tryz.ntmps18
        go_wp2
        exact bodyPost_ret (v := .tuple #[.agg cs,.slice none 0 0,.int .i64 0,.int .i64 0,.int .i64 1]) (ret_D5 Tryz.results18 _ _ hs (xB.put _).row) rfl (anP HX (below_setRow bU (by omega) _) (dv_row cs (HD.out _ bU).1 xB (by decide) (by omega)) (Is.nil _ _ _ _))
      · have hn1' : decide (n < 1) = false := decide_eq_false hn1
        have hn2' : decide (n > 7) = true := decide_eq_true (by omega)
        go_enter Tryz.func18,Tryz.ntmps18
        go_wp2
        exact bodyPost_ret (v := .tuple #[.agg cs,.slice none 0 0,.int .i64 0,.int .i64 0,.int .i64 1]) (ret_D5 Tryz.results18 _ _ hs (xB.put _).row) rfl (anP HX (below_setRow bU (by omega) _) (dv_row cs (HD.out _ bU).1 xB (by decide) (by omega)) (Is.nil _ _ _ _))
end Go.Proofs.YtnnbjhpkgndclaaGreatDoor.St
namespace Go.Proofs.YtnnbjhpkgndclaaGreatDoor.St
open Go.RowKit
open Go.Proofs.YtnnbjhpkgndclaaGreatDoor.Rw
open Go.Proofs.YtnnbjhpkgndclaaGreatDoor.Da
open Go.Proofs.YtnnbjhpkgndclaaGreatDoor.Bv
open Go.Proofs.YtnnbjhpkgndclaaGreatDoor.Rc (Ins ci zeroI okI wrS wrE insF cat rWrite_is)
open Go.Proofs.YtnnbjhpkgndclaaGreatDoor.Wa (TL OwnT layN fitsN Short wl eT elemT typesT)
open Go.Proofs.YtnnbjhpkgndclaaGreatDoor.Dk (Ds DV Post2 PostD Ok appP synP rAppend_any rSync_any)
theorem app_oneT {n Bo : Nat} {l : List ByteArray} {v : Value} {w : World} (h : OwnT n Bo l v w) (hn : n ≤ Bo) (hB : Bo ≤ w.heap.size) (x : ByteArray) (hl : l.length ≤ 1000000) :
    ∃ v' w',appRun Tryz.prog 75 75 v (.slice (some ⟨w.heap.size,0,none⟩) 1 1) (w.alloc (.cells #[.string x] 9)) = .ok v' w' ∧ OwnT n Bo (l ++ [x]) v' w' ∧ (∀ k w0,k ≤ Bo → Below k w0 w → Below k w0 w') ∧ (∀ b cs T,Bx w b cs T → v.ownBlock ≠ some b → Bx w' b cs T) ∧ ∀ t tv,TI n t tv w → TI n t tv w' := by
  obtain ⟨v',w',h1,h2,h4,h3,h5⟩ := Own.append elemT 75 typesT (B := Bs.of n) ⟨hn,fun _ h => False.elim h⟩ (by simp;omega) (Own.stays h (below1 w _)) (tl_one x (Nat.le_trans hn hB)) (m := [x]) (by simp;omega) (by decide)
  exact ⟨v',w',h1,h2,fun k w0 hk hb => h3 k w0 hk (hb.trans ((below1 w _).mono (Nat.le_trans hk hB))),fun b cs T hb hne => by
    have hb1 := hb.alloc (.cells #[.string x] 9)
    exact (h4.block b hb1.lt (fun e => hne e.symm)).trans hb1,fun t tv ht => Is.keep eI 44 (ht.stays (below1 w _)) (h5 _ (by decide))⟩
theorem ownT_lt {n Bo : Nat} {l : List ByteArray} {v : Value} {w : World} (h : OwnT n Bo l v w) {b : Nat} (e : v.ownBlock = some b) : b < w.heap.size := by
  obtain ⟨css,_,_,hr⟩ := h
  exact (hr.lt b e).2
theorem rput_is {q : Nat} {l p : List Ins} {v : Value} {i : Ins} (H : Hid (put i l = p)) (w : World) (h : TI q l v w) (hq : q ≤ w.heap.size) (hm : l.length ≤ 1000000) (hs : Srt l) :
    Calls Tryz.prog 34 #[v,.agg (ci i)] w (Post1 (OwnI q w.heap.size p) w) := by
  rw [← H.out];exact rput_any q l v i w h hq hm hs
set_option maxRecDepth 8000 in
set_option maxHeartbeats 16000000 in
theorem rappend_any (q : Nat) (d : Ds) (v tv lv : Value) (t l : List Ins) (z g n : Int) (w : World) (h : DV q d v w) (ht : TI q t tv w) (hl : TI q l lv w) (hq : q ≤ w.heap.size) (hk : Ok 300000 300 d) (hg : g ≤ 1000000000000) (hg0 : -9223372036854775808 ≤ g) (htl : t.length ≤ 40000) (hll : l.length ≤ 1000) (hsr : Srt t) :
    Calls Tryz.prog 12 #[v,tv,.int .i64 z,.int .i64 g,.int .i64 n,lv] w (AnP q (addP d t z g n l) w) := by
  obtain ⟨cs,rfl,hs,h1,_,hc5⟩ := dv_open h
  obtain ⟨U,hU⟩ : ∃ Q_ : World,(w.alloc (.cells cs 27)).alloc (.cells z6 27) = Q_ := ⟨_,rfl⟩
  have bU : Below w.heap.size w U := hU ▸ below2 w _ _
  obtain ⟨xA,xB⟩ : Bx U w.heap.size cs 27 ∧ Bx U (w.heap.size + 1) z6 27 := hU ▸ bx2 w _ _ _ _
  have HD := lH (show ∀ u,Below w.heap.size w u → DV q d (.agg cs) u ∧ TI q t tv u ∧ TI q l lv u from fun u hu => ⟨h.stays hu,ht.stays hu,hl.stays hu⟩)
  obtain ⟨a9,c9,rfl⟩ := hl.len
  obtain ⟨m,hm⟩ : ∃ m,l.length = m := ⟨_,rfl⟩
  have HM := lH hm
  rw [hm] at hll HD ⊢
  have HS := lH hsr
  obtain ⟨r,hr⟩ : ∃ r,addP d t z g n l = r := ⟨_,rfl⟩
  have HR := lH hr
  rw [hr]
  have rA := xA.row
  have cA := xA.cell 5
  rw [hc5] at cA
  have pB := xB.plain (n := 6) rfl
  have hwU2 : w.heap.size + 1 < U.heap.size := xB.lt
  clear h ht hl hr hm hsr
  cases hdn : d.n with
  | true =>
    have HX : Hid (r = ⟨d,t,z,g,15⟩) := lH (HR.out.symm.trans (add_down hdn))
    rw [hdn] at cA
    clear hdn
    go_enter Tryz.func12,Tryz.ntmps12
    go_wp2
    exact bodyPost_ret (v := .tuple #[.agg cs,tv,.int .i64 z,.int .i64 g,.int .i64 15]) (ret_D5 Tryz.results12 _ _ hs (xB.put _).row) rfl (anP HX (below_setRow bU (by omega) _) (dv_row cs (HD.out _ bU).1 xB (by decide) (by omega)) (ti_row _ (HD.out _ bU).2.1 xB (by decide) (by omega)))
  | false =>
    rw [hdn] at cA
    have HDn := lH hdn
    clear hdn
    have hml : l ≠ [] ↔ m ≠ 0 := by
      rw [← HM.out];exact ⟨fun h => by have := List.length_pos_iff.2 h;omega,fun h e => h (by rw [e];rfl)⟩
    have HML := lH hml
    clear hml
    by_cases hgood : m ≠ 0 ∧ (z = 0 ∨ z = 1) ∧ 1 ≤ g
    · have HJ : Hid (l ≠ [] ∧ (z = 0 ∨ z = 1) ∧ 1 ≤ g) := lH ⟨HML.out.2 hgood.1,hgood.2⟩
      have q1 : ((m : Int) == 0) = false := by have := hgood.1;simp;omega
      have q4 : decide (g < 1) = false := decide_eq_false (by have := hgood.2.2;omega)
      have hz01 := hgood.2.1
      have hg1 := hgood.2.2
      have hzz : (z != 0) = false ∨ ((z != 0) = true ∧ (z != 1) = false) := by
        rcases hz01 with rfl | rfl
        · exact .inl rfl
        · exact .inr ⟨rfl,rfl⟩
      clear hgood
      rcases hzz with q2 | ⟨q2,q3⟩
      · go_enter Tryz.func12,Tryz.ntmps12
        go_wp2
        go_loopw [17,18,54] (fun nv ov i wr => ∃ k : Nat,k ≤ m ∧ i = .int .i64 k ∧ TI q (puts t (l.take k)) nv wr ∧ OwnT q U.heap.size ((l.take k).map (ent n)) ov wr ∧ okT (l.take k) n = true ∧ Below w.heap.size w wr ∧ Bx wr w.heap.size cs 27 ∧ Bx wr (w.heap.size + 1) z6 27 ∧ U.heap.size ≤ wr.heap.size) (fun _ _ i _ => m - (intOf i).toNat)
        case atStart => exact ⟨0,Nat.zero_le _,rfl,(HD.out _ bU).2.1,Own.nil _ _ _,rfl,bU,xA,xB,Nat.le_refl _⟩
        case round =>
          obtain ⟨k,hk9,rfl,hnv,hov,hok,hb,yA,yB,hsz⟩ := hrel
          have HNv := lH hnv
          have HOv := lH hov
          have HOK := lH hok
          clear hnv hov hok xA xB rA cA pB hU
          by_cases hlt : k < m
          · have hkl : k < l.length := by rw [HM.out];exact hlt
            have hlt2 : (k : Int) < m := by omega
            obtain ⟨b,off,c,e,hx,_,hbb⟩ := TI.get (HD.out _ hb).2.2 (Below.refl _ _) hkl
            rw [HM.out] at e
            simp only [Value.slice.injEq] at e
            obtain ⟨rfl,-,rfl⟩ := e
            have HTk := lH (okT_take (n := n) hkl)
            have HB := lH (fun hbad => okT_bad (n := n) hkl hbad)
            have HPn : Hid (put l[k] (puts t (l.take k)) = puts t (l.take (k + 1))) := lH (by rw [List.take_succ_eq_append_getElem hkl,puts_app];rfl)
            have HSk := lH (puts_srt (l.take k) HS.out)
            have hpl : (puts t (l.take k)).length ≤ 1000000 := by have := puts_len t (l.take k);rw [List.length_take] at this;omega
            obtain ⟨i,hi⟩ : ∃ i,l[k] = i := ⟨_,rfl⟩
            have HI := lH hi
            rw [hi] at hx HTk HB HPn
            obtain ⟨V,hV⟩ : ∃ Q_ : World,(wr.alloc (.cells (ci zeroI) 44)).setRow wr.heap.size (ci i) = Q_ := ⟨_,rfl⟩
            have xV : Bx V wr.heap.size (ci i) 44 := hV ▸ Bx.put (Bx.new _ _ _) _
            have bV : Below wr.heap.size wr V := hV ▸ below_setRow (below1 _ _) (Nat.le_refl _) _
            have b1 := nx hb bV
            have r1 := xV.row
            have hplain := (Bx.new wr (ci zeroI) 44).plain (n := 25) rfl
            have zA := yA.stays bV
            have zB := yB.stays bV
            clear hi yA yB
            cases ho : okI i n with
            | true =>
              have hwr : Hid (wrS i n = cat (insF i n.toNat) ∧ wrE i n = 0) := lH (by unfold wrS wrE;rw [ho];exact ⟨rfl,rfl⟩)
              obtain ⟨y,hy⟩ : ∃ y,cat (insF i n.toNat) = y := ⟨_,rfl⟩
              have hys : y.size ≤ 1000 := by rw [← hy,Rc.ins_size];have := (Rc.okI_iff.1 ho).1;omega
              have hys2 : 1 + y.size ≤ 9223372036854775807 := by omega
              rw [hy] at hwr
              have HE : Hid ((l.take (k + 1)).map (ent n) = (l.take k).map (ent n) ++ [⟨#[82]⟩ ++ y]) := lH (by
                rw [List.take_succ_eq_append_getElem hkl,List.map_append,HI.out];simp [ent,hy])
              have HK1 : Hid (okT (l.take (k + 1)) n = true) := lH (by rw [HTk.out,HOK.out,ho];rfl)
              clear hy ho
              go_wp2_with fail
              refine (rWrite_is hwr _).mono ?_
              rintro e w1 ⟨rfl,hb1⟩
              have b2 := nx b1 hb1
              have s1 := hb1.size
              have sV := bV.size
              obtain ⟨v',w',hrun,hown',hbl,hkp,hti⟩ := app_oneT ((HOv.out.stays bV).stays hb1) (show q ≤ U.heap.size by have := bU.size;omega) (show U.heap.size ≤ w1.heap.size by omega) (⟨#[82]⟩ ++ y) (by rw [List.length_map,List.length_take];omega)
              have bl := hbl U.heap.size w1 (Nat.le_refl _) (Below.refl _ _)
              have bw := hbl w.heap.size w bU.size b2
              have s2 := bl.size
              have x2 := hkp _ _ _ (xV.stays hb1) (fun e => by have := ownT_lt HOv.out e;omega)
              have nv2 := hti _ _ ((HNv.out.stays bV).stays hb1)
              have vA := (zA.stays hb1).low bl (by have := bU.size;omega)
              have vB := (zB.stays hb1).low bl (by omega)
              have HO2 := lH hown'
              have HNv2 := lH nv2
              have r2 := x2.row
              clear hown' hbl hkp hti xV r1 hplain zA zB nv2
              go_wp2_with fail
              refine (rput_is HPn w' HNv2.out (by have := bw.size;omega) hpl HSk.out).mono ?_
              rintro e w3 ⟨v3,rfl,hb3,ho3⟩
              have HN3 := lH (OwnI.ti ho3 (show q ≤ w'.heap.size by have := bw.size;omega))
              have HO3 : Hid (OwnT q U.heap.size ((l.take (k + 1)).map (ent n)) v' w3) := lH (by rw [HE.out];exact HO2.out.stays hb3)
              have uA := vA.stays hb3
              have uB := vB.stays hb3
              have b3 := nx bw hb3
              have s3 := hb3.size
              clear ho3 vA vB x2 r2
              go_wp2
              go_roundw
              case rel => exact ⟨k + 1,by omega,by go_num,HN3.out,HO3.out,HK1.out,b3,uA,uB,by omega⟩
              case measure => simp [intOf];omega
            | false =>
              have hwr : Hid (wrS i n = ByteArray.empty ∧ wrE i n = 1) := lH (by unfold wrS wrE;rw [ho];exact ⟨rfl,rfl⟩)
              have HF := lH (HB.out ho)
              have HX : Hid (r = ⟨d,t,z,g,1⟩) := lH (HR.out.symm.trans (add_frm HDn.out HJ.out (by unfold frmE;rw [HF.out,if_neg (by decide)]) (by decide)))
              clear ho
              go_wp2_with fail
              refine (rWrite_is hwr _).mono ?_
              rintro e w1 ⟨rfl,hb1⟩
              have b2 := nx b1 hb1
              have vA := zA.stays hb1
              have vB := zB.stays hb1
              have rA2 := vA.row
              have pB2 := vB.plain (n := 6) rfl
              clear zA zB r1 hplain
              go_wp2
              exact bodyPost_ret (v := .tuple #[.agg cs,tv,.int .i64 z,.int .i64 g,.int .i64 1]) (ret_D5 Tryz.results12 _ _ hs (vB.put _).row) rfl (anP HX (below_setRow b2 (by omega) _) (dv_row cs (HD.out _ b2).1 vB (by decide) (by omega)) (ti_row _ (HD.out _ b2).2.1 vB (by decide) (by omega)))
          · obtain rfl : k = m := by omega
            have hlk : l.take k = l := List.take_of_length_le (by rw [HM.out];exact Nat.le_refl _)
            rw [hlk] at HNv HOv HOK
            clear hlk
            obtain ⟨⟨x,e9⟩,hx⟩ : ∃ p,layN ByteArray.empty (l.map (ent n)) = p := ⟨_,rfl⟩
            have hxs : x.size ≤ 60000 := by have := Wa.layN_max ByteArray.empty (l.map (ent n)) (by decide);rw [hx] at this;exact this
            have HX := lH hx
            have HF : Hid (frmS l n = x ∧ frmE l n = e9) := lH (by unfold frmS frmE;rw [HOK.out,hx];exact ⟨rfl,rfl⟩)
            have HOt := lH (Wa.OwnT.tl HOv.out (show q ≤ U.heap.size by have := bU.size;omega))
            clear hx
            go_wp2_with fail
            refine (rlay_is HX _ wr HOt.out (by rw [List.length_map,HM.out];omega) (short_size (short_ents HOK.out))).mono ?_
            rintro e w1 ⟨rfl,hb1⟩
            have b1 := nx hb hb1
            have zA := yA.stays hb1
            have zB := yB.stays hb1
            have rA1 := zA.row
            have pB1 := zB.plain (n := 6) rfl
            have HNw := lH (HNv.out.stays hb1)
            clear yA yB
            by_cases h0 : e9 = 0
            · subst h0
              have HW := lH (HR.out.symm.trans (add_wri (t := t) HDn.out HJ.out HF.out.2 HF.out.1))
              obtain ⟨⟨p,k1⟩,hp⟩ : ∃ p,appP d z x = p := ⟨_,rfl⟩
              have hka := hk.appP z x
              rw [hp] at hka
              have HP := lH hp
              clear hp
              go_wp2_with fail
              refine (rAppend_any q d _ z x w1 (HD.out _ b1).1 (by have := b1.size;omega) (hk.mono (by decide) (by decide)) (by omega)).mono ?_
              rintro e w2 ⟨v2,rfl,hb2,hd2⟩
              rw [HP.out] at hd2 ⊢
              simp only at hd2 hka ⊢
              have b2 := nx b1 hb2
              obtain ⟨cs1,rfl,hs1,o1,_,_⟩ := dv_open hd2
              have vA := zA.stays hb2
              have vB := zB.stays hb2
              obtain ⟨Y,hY⟩ : ∃ Q_ : World,w2.alloc (.cells z6 27) = Q_ := ⟨_,rfl⟩
              have yY : Bx Y w2.heap.size z6 27 := hY ▸ Bx.new _ _ _
              have bY : Below w2.heap.size w2 Y := hY ▸ below1 _ _
              have pY := yY.plain (n := 6) rfl
              obtain ⟨X,hXX⟩ : ∃ Q_ : World,Y.setRow w2.heap.size cs1 = Q_ := ⟨_,rfl⟩
              have wC : Bx X w2.heap.size cs1 27 := hXX ▸ yY.put _
              have hX2 : Below w2.heap.size w2 X := hXX ▸ below_setRow bY (Nat.le_refl _) _
              have wA := vA.stays hX2
              have wB := vB.stays hX2
              have bX := nx b2 hX2
              have dX := hd2.stays hX2
              have HNx := lH ((HNw.out.stays hb2).stays hX2)
              have hw2 : w.heap.size + 1 < w2.heap.size := vB.lt
              have rC := wC.row
              have rAX := wA.row
              have pBX := wB.plain (n := 6) rfl
              clear rA1 pB1 zA zB hd2 yY vA vB
              have hgw : IntKind.i64.wrap (g + 1) = g + 1 := IntWalk.i64_in _ (by omega)
              have hzw : IntKind.i64.wrap (1 - z) = 1 - z := IntWalk.i64_in _ (by omega)
              by_cases h0 : k1 = 0
              · subst h0
                obtain ⟨⟨p3,k3⟩,hp3⟩ : ∃ r,synP p = r := ⟨_,rfl⟩
                have hks := hka.synP
                rw [hp3] at hks
                have HS3 := lH hp3
                have HWr : Hid (wriP d z x = (p3,k3)) := lH (by unfold wriP;rw [HP.out,if_pos rfl,hp3])
                have hk310 : k3 ≠ 10 := by
                  intro h
                  unfold synP at hp3
                  split at hp3
                  · have := (Prod.mk.inj hp3).2;omega
                  split at hp3
                  · have := (Prod.mk.inj hp3).2;omega
                  · have := (Prod.mk.inj hp3).2;omega
                clear hp3
                go_wp2_with fail
                refine (rSync_any q p _ X dX (by have := bX.size;omega) (hka.mono (by omega) (by decide))).mono ?_
                rintro e w4 ⟨v4,rfl,hb4,hd4⟩
                rw [HS3.out] at hd4 ⊢
                simp only at hd4 ⊢
                obtain ⟨cs3,rfl,hs3,o3,_,_⟩ := dv_open hd4
                have b4 := nx bX hb4
                have vC := wC.stays hb4
                have vB := wB.stays hb4
                have pC := vC.plain (n := 6) hs1
                obtain ⟨Z,hZ⟩ : ∃ Q_ : World,w4.setRow w2.heap.size cs3 = Q_ := ⟨_,rfl⟩
                have uC : Bx Z w2.heap.size cs3 27 := hZ ▸ vC.put _
                have uB : Bx Z (w.heap.size + 1) z6 27 := hZ ▸ vB.put' (by omega) _
                have bZ : Below w.heap.size w Z := hZ ▸ below_setRow b4 (by omega) _
                have dZ : DV q p3 (.agg cs3) Z := hZ ▸ dv_row cs3 hd4 vC (by decide) (by omega)
                have nZ := hZ ▸ ti_row cs3 (HNx.out.stays hb4) vC (by decide) (show q ≤ w2.heap.size by omega)
                have tZ := hZ ▸ ti_row cs3 (HD.out _ b4).2.1 vC (by decide) (show q ≤ w2.heap.size by omega)
                have rZ := uC.row
                have pZ := uB.plain (n := 6) rfl
                have NZ := lH nZ
                have TZ := lH tZ
                have hk3b : (k3 == 10) = false := by simpa using hk310
                clear vC vB rC rAX pBX hd4 nZ tZ pY
                by_cases h0 : k3 = 0
                · subst h0
                  have HXX : Hid (r = ⟨p3,puts t l,z,g,0⟩) := lH (by rw [HW.out,HWr.out,if_pos rfl])
                  go_wp2
                  exact bodyPost_ret (v := .tuple #[.agg cs3,_,.int .i64 z,.int .i64 g,.int .i64 0]) (ret_D5 Tryz.results12 _ _ hs3 (uB.put _).row) rfl (anP HXX (below_setRow bZ (by omega) _) (dv_row cs3 dZ uB (by decide) (by omega)) (ti_row _ NZ.out uB (by decide) (by omega)))
                · have hk3n : (k3 != 0) = true := by simpa using h0
                  have HXX : Hid (r = ⟨p3,t,z,g,k3⟩) := lH (by rw [HW.out,HWr.out,if_neg h0,if_neg hk310])
                  go_wp2
                  exact bodyPost_ret (v := .tuple #[.agg cs3,tv,.int .i64 z,.int .i64 g,.int .i64 k3]) (ret_D5 Tryz.results12 _ _ hs3 (uB.put _).row) rfl (anP HXX (below_setRow bZ (by omega) _) (dv_row cs3 dZ uB (by decide) (by omega)) (ti_row _ TZ.out uB (by decide) (by omega)))
              · have hk1e : (k1 == 0) = false := by simpa using h0
                have hk1n : (k1 != 0) = true := by simpa using h0
                have HWr : Hid (wriP d z x = (p,k1)) := lH (by unfold wriP;rw [HP.out,if_neg h0])
                by_cases h10 : k1 = 10
                · subst h10
                  obtain ⟨⟨p2,k2⟩,hp2⟩ : ∃ r,rewP d (puts t l) (1 - z) g n = r := ⟨_,rfl⟩
                  have HP2 := lH hp2
                  have HXX : Hid (r = if k2 = 0 then ⟨p2,puts t l,1 - z,g + 1,0⟩ else ⟨p2,t,z,g,k2⟩) := lH (by rw [HW.out,HWr.out,if_neg (by simp),if_pos rfl,hp2])
                  have hpl : (puts t l).length ≤ 50000 := by have := puts_len t l;rw [HM.out] at this;omega
                  clear hp2
                  go_wp2_with fail
                  refine (rfresh_is HP2 _ _ X (HD.out _ bX).1 HNx.out (by have := bX.size;omega) (hk.mono (by decide) (by decide)) hpl (by omega)).mono ?_
                  rintro e w4 ⟨v4,rfl,hb4,hd4⟩
                  simp only at hd4 ⊢
                  obtain ⟨cs3,rfl,hs3,o3,_,_⟩ := dv_open hd4
                  have b4 := nx bX hb4
                  have vC := wC.stays hb4
                  have vB := wB.stays hb4
                  have pC := vC.plain (n := 6) hs1
                  obtain ⟨Z,hZ⟩ : ∃ Q_ : World,w4.setRow w2.heap.size cs3 = Q_ := ⟨_,rfl⟩
                  have uC : Bx Z w2.heap.size cs3 27 := hZ ▸ vC.put _
                  have uB : Bx Z (w.heap.size + 1) z6 27 := hZ ▸ vB.put' (by omega) _
                  have bZ : Below w.heap.size w Z := hZ ▸ below_setRow b4 (by omega) _
                  have dZ : DV q p2 (.agg cs3) Z := hZ ▸ dv_row cs3 hd4 vC (by decide) (by omega)
                  have nZ := hZ ▸ ti_row cs3 (HNx.out.stays hb4) vC (by decide) (show q ≤ w2.heap.size by omega)
                  have tZ := hZ ▸ ti_row cs3 (HD.out _ b4).2.1 vC (by decide) (show q ≤ w2.heap.size by omega)
                  have rZ := uC.row
                  have pZ := uB.plain (n := 6) rfl
                  have NZ := lH nZ
                  have TZ := lH tZ
                  clear vC vB rC rAX pBX hd4 nZ tZ pY
                  by_cases h0 : k2 = 0
                  · subst h0
                    have HXY : Hid (r = ⟨p2,puts t l,1 - z,g + 1,0⟩) := lH (by rw [HXX.out,if_pos rfl])
                    go_wp2
                    exact bodyPost_ret (v := .tuple #[.agg cs3,_,.int .i64 (1 - z),.int .i64 (g + 1),.int .i64 0]) (ret_D5 Tryz.results12 _ _ hs3 (uB.put _).row) rfl (anP HXY (below_setRow bZ (by omega) _) (dv_row cs3 dZ uB (by decide) (by omega)) (ti_row _ NZ.out uB (by decide) (by omega)))
                  · have hk2n : (k2 != 0) = true := by simpa using h0
                    have hk2e : (k2 == 0) = false := by simpa using h0
                    have HXY : Hid (r = ⟨p2,t,z,g,k2⟩) := lH (by rw [HXX.out,if_neg h0])
                    go_wp2
                    exact bodyPost_ret (v := .tuple #[.agg cs3,tv,.int .i64 z,.int .i64 g,.int .i64 k2]) (ret_D5 Tryz.results12 _ _ hs3 (uB.put _).row) rfl (anP HXY (below_setRow bZ (by omega) _) (dv_row cs3 dZ uB (by decide) (by omega)) (ti_row _ TZ.out uB (by decide) (by omega)))
                · have hk10 : (k1 == 10) = false := by simpa using h10
                  have HXX : Hid (r = ⟨p,t,z,g,k1⟩) := lH (by rw [HW.out,HWr.out,if_neg h0,if_neg h10])
                  have TX := lH (HD.out _ bX).2.1
                  go_wp2
                  exact bodyPost_ret (v := .tuple #[.agg cs1,tv,.int .i64 z,.int .i64 g,.int .i64 k1]) (ret_D5 Tryz.results12 _ _ hs1 (wB.put _).row) rfl (anP HXX (below_setRow bX (by omega) _) (dv_row cs1 dX wB (by decide) (by omega)) (ti_row _ TX.out wB (by decide) (by omega)))
            · have HXX : Hid (r = ⟨d,t,z,g,e9⟩) := lH (HR.out.symm.trans (add_frm HDn.out HJ.out HF.out.2 h0))
              have hk0 : (e9 != 0) = true := by simpa using h0
              go_wp2
              exact bodyPost_ret (v := .tuple #[.agg cs,tv,.int .i64 z,.int .i64 g,.int .i64 e9]) (ret_D5 Tryz.results12 _ _ hs (zB.put _).row) rfl (anP HXX (below_setRow b1 (by omega) _) (dv_row cs (HD.out _ b1).1 zB (by decide) (by omega)) (ti_row _ (HD.out _ b1).2.1 zB (by decide) (by omega)))
      · go_enter Tryz.func12,Tryz.ntmps12
        go_wp2
        go_loopw [17,18,54] (fun nv ov i wr => ∃ k : Nat,k ≤ m ∧ i = .int .i64 k ∧ TI q (puts t (l.take k)) nv wr ∧ OwnT q U.heap.size ((l.take k).map (ent n)) ov wr ∧ okT (l.take k) n = true ∧ Below w.heap.size w wr ∧ Bx wr w.heap.size cs 27 ∧ Bx wr (w.heap.size + 1) z6 27 ∧ U.heap.size ≤ wr.heap.size) (fun _ _ i _ => m - (intOf i).toNat)
        case atStart => exact ⟨0,Nat.zero_le _,rfl,(HD.out _ bU).2.1,Own.nil _ _ _,rfl,bU,xA,xB,Nat.le_refl _⟩
        case round =>
          obtain ⟨k,hk9,rfl,hnv,hov,hok,hb,yA,yB,hsz⟩ := hrel
          have HNv := lH hnv
          have HOv := lH hov
          have HOK := lH hok
          clear hnv hov hok xA xB rA cA pB hU
          by_cases hlt : k < m
          · have hkl : k < l.length := by rw [HM.out];exact hlt
            have hlt2 : (k : Int) < m := by omega
            obtain ⟨b,off,c,e,hx,_,hbb⟩ := TI.get (HD.out _ hb).2.2 (Below.refl _ _) hkl
            rw [HM.out] at e
            simp only [Value.slice.injEq] at e
            obtain ⟨rfl,-,rfl⟩ := e
            have HTk := lH (okT_take (n := n) hkl)
            have HB := lH (fun hbad => okT_bad (n := n) hkl hbad)
            have HPn : Hid (put l[k] (puts t (l.take k)) = puts t (l.take (k + 1))) := lH (by rw [List.take_succ_eq_append_getElem hkl,puts_app];rfl)
            have HSk := lH (puts_srt (l.take k) HS.out)
            have hpl : (puts t (l.take k)).length ≤ 1000000 := by have := puts_len t (l.take k);rw [List.length_take] at this;omega
            obtain ⟨i,hi⟩ : ∃ i,l[k] = i := ⟨_,rfl⟩
            have HI := lH hi
            rw [hi] at hx HTk HB HPn
            obtain ⟨V,hV⟩ : ∃ Q_ : World,(wr.alloc (.cells (ci zeroI) 44)).setRow wr.heap.size (ci i) = Q_ := ⟨_,rfl⟩
            have xV : Bx V wr.heap.size (ci i) 44 := hV ▸ Bx.put (Bx.new _ _ _) _
            have bV : Below wr.heap.size wr V := hV ▸ below_setRow (below1 _ _) (Nat.le_refl _) _
            have b1 := nx hb bV
            have r1 := xV.row
            have hplain := (Bx.new wr (ci zeroI) 44).plain (n := 25) rfl
            have zA := yA.stays bV
            have zB := yB.stays bV
            clear hi yA yB
            cases ho : okI i n with
            | true =>
              have hwr : Hid (wrS i n = cat (insF i n.toNat) ∧ wrE i n = 0) := lH (by unfold wrS wrE;rw [ho];exact ⟨rfl,rfl⟩)
              obtain ⟨y,hy⟩ : ∃ y,cat (insF i n.toNat) = y := ⟨_,rfl⟩
              have hys : y.size ≤ 1000 := by rw [← hy,Rc.ins_size];have := (Rc.okI_iff.1 ho).1;omega
              have hys2 : 1 + y.size ≤ 9223372036854775807 := by omega
              rw [hy] at hwr
              have HE : Hid ((l.take (k + 1)).map (ent n) = (l.take k).map (ent n) ++ [⟨#[82]⟩ ++ y]) := lH (by
                rw [List.take_succ_eq_append_getElem hkl,List.map_append,HI.out];simp [ent,hy])
              have HK1 : Hid (okT (l.take (k + 1)) n = true) := lH (by rw [HTk.out,HOK.out,ho];rfl)
              clear hy ho
              go_wp2_with fail
              refine (rWrite_is hwr _).mono ?_
              rintro e w1 ⟨rfl,hb1⟩
              have b2 := nx b1 hb1
              have s1 := hb1.size
              have sV := bV.size
              obtain ⟨v',w',hrun,hown',hbl,hkp,hti⟩ := app_oneT ((HOv.out.stays bV).stays hb1) (show q ≤ U.heap.size by have := bU.size;omega) (show U.heap.size ≤ w1.heap.size by omega) (⟨#[82]⟩ ++ y) (by rw [List.length_map,List.length_take];omega)
              have bl := hbl U.heap.size w1 (Nat.le_refl _) (Below.refl _ _)
              have bw := hbl w.heap.size w bU.size b2
              have s2 := bl.size
              have x2 := hkp _ _ _ (xV.stays hb1) (fun e => by have := ownT_lt HOv.out e;omega)
              have nv2 := hti _ _ ((HNv.out.stays bV).stays hb1)
              have vA := (zA.stays hb1).low bl (by have := bU.size;omega)
              have vB := (zB.stays hb1).low bl (by omega)
              have HO2 := lH hown'
              have HNv2 := lH nv2
              have r2 := x2.row
              clear hown' hbl hkp hti xV r1 hplain zA zB nv2
              go_wp2_with fail
              refine (rput_is HPn w' HNv2.out (by have := bw.size;omega) hpl HSk.out).mono ?_
              rintro e w3 ⟨v3,rfl,hb3,ho3⟩
              have HN3 := lH (OwnI.ti ho3 (show q ≤ w'.heap.size by have := bw.size;omega))
              have HO3 : Hid (OwnT q U.heap.size ((l.take (k + 1)).map (ent n)) v' w3) := lH (by rw [HE.out];exact HO2.out.stays hb3)
              have uA := vA.stays hb3
              have uB := vB.stays hb3
              have b3 := nx bw hb3
              have s3 := hb3.size
              clear ho3 vA vB x2 r2
              go_wp2
              go_roundw
              case rel => exact ⟨k + 1,by omega,by go_num,HN3.out,HO3.out,HK1.out,b3,uA,uB,by omega⟩
              case measure => simp [intOf];omega
            | false =>
              have hwr : Hid (wrS i n = ByteArray.empty ∧ wrE i n = 1) := lH (by unfold wrS wrE;rw [ho];exact ⟨rfl,rfl⟩)
              have HF := lH (HB.out ho)
              have HX : Hid (r = ⟨d,t,z,g,1⟩) := lH (HR.out.symm.trans (add_frm HDn.out HJ.out (by unfold frmE;rw [HF.out,if_neg (by decide)]) (by decide)))
              clear ho
              go_wp2_with fail
              refine (rWrite_is hwr _).mono ?_
              rintro e w1 ⟨rfl,hb1⟩
              have b2 := nx b1 hb1
              have vA := zA.stays hb1
              have vB := zB.stays hb1
              have rA2 := vA.row
              have pB2 := vB.plain (n := 6) rfl
              clear zA zB r1 hplain
              go_wp2
              exact bodyPost_ret (v := .tuple #[.agg cs,tv,.int .i64 z,.int .i64 g,.int .i64 1]) (ret_D5 Tryz.results12 _ _ hs (vB.put _).row) rfl (anP HX (below_setRow b2 (by omega) _) (dv_row cs (HD.out _ b2).1 vB (by decide) (by omega)) (ti_row _ (HD.out _ b2).2.1 vB (by decide) (by omega)))
          · obtain rfl : k = m := by omega
            have hlk : l.take k = l := List.take_of_length_le (by rw [HM.out];exact Nat.le_refl _)
            rw [hlk] at HNv HOv HOK
            clear hlk
            obtain ⟨⟨x,e9⟩,hx⟩ : ∃ p,layN ByteArray.empty (l.map (ent n)) = p := ⟨_,rfl⟩
            have hxs : x.size ≤ 60000 := by have := Wa.layN_max ByteArray.empty (l.map (ent n)) (by decide);rw [hx] at this;exact this
            have HX := lH hx
            have HF : Hid (frmS l n = x ∧ frmE l n = e9) := lH (by unfold frmS frmE;rw [HOK.out,hx];exact ⟨rfl,rfl⟩)
            have HOt := lH (Wa.OwnT.tl HOv.out (show q ≤ U.heap.size by have := bU.size;omega))
            clear hx
            go_wp2_with fail
            refine (rlay_is HX _ wr HOt.out (by rw [List.length_map,HM.out];omega) (short_size (short_ents HOK.out))).mono ?_
            rintro e w1 ⟨rfl,hb1⟩
            have b1 := nx hb hb1
            have zA := yA.stays hb1
            have zB := yB.stays hb1
            have rA1 := zA.row
            have pB1 := zB.plain (n := 6) rfl
            have HNw := lH (HNv.out.stays hb1)
            clear yA yB
            by_cases h0 : e9 = 0
            · subst h0
              have HW := lH (HR.out.symm.trans (add_wri (t := t) HDn.out HJ.out HF.out.2 HF.out.1))
              obtain ⟨⟨p,k1⟩,hp⟩ : ∃ p,appP d z x = p := ⟨_,rfl⟩
              have hka := hk.appP z x
              rw [hp] at hka
              have HP := lH hp
              clear hp
              go_wp2_with fail
              refine (rAppend_any q d _ z x w1 (HD.out _ b1).1 (by have := b1.size;omega) (hk.mono (by decide) (by decide)) (by omega)).mono ?_
              rintro e w2 ⟨v2,rfl,hb2,hd2⟩
              rw [HP.out] at hd2 ⊢
              simp only at hd2 hka ⊢
              have b2 := nx b1 hb2
              obtain ⟨cs1,rfl,hs1,o1,_,_⟩ := dv_open hd2
              have vA := zA.stays hb2
              have vB := zB.stays hb2
              obtain ⟨Y,hY⟩ : ∃ Q_ : World,w2.alloc (.cells z6 27) = Q_ := ⟨_,rfl⟩
              have yY : Bx Y w2.heap.size z6 27 := hY ▸ Bx.new _ _ _
              have bY : Below w2.heap.size w2 Y := hY ▸ below1 _ _
              have pY := yY.plain (n := 6) rfl
              obtain ⟨X,hXX⟩ : ∃ Q_ : World,Y.setRow w2.heap.size cs1 = Q_ := ⟨_,rfl⟩
              have wC : Bx X w2.heap.size cs1 27 := hXX ▸ yY.put _
              have hX2 : Below w2.heap.size w2 X := hXX ▸ below_setRow bY (Nat.le_refl _) _
              have wA := vA.stays hX2
              have wB := vB.stays hX2
              have bX := nx b2 hX2
              have dX := hd2.stays hX2
              have HNx := lH ((HNw.out.stays hb2).stays hX2)
              have hw2 : w.heap.size + 1 < w2.heap.size := vB.lt
              have rC := wC.row
              have rAX := wA.row
              have pBX := wB.plain (n := 6) rfl
              clear rA1 pB1 zA zB hd2 yY vA vB
              have hgw : IntKind.i64.wrap (g + 1) = g + 1 := IntWalk.i64_in _ (by omega)
              have hzw : IntKind.i64.wrap (1 - z) = 1 - z := IntWalk.i64_in _ (by omega)
              by_cases h0 : k1 = 0
              · subst h0
                obtain ⟨⟨p3,k3⟩,hp3⟩ : ∃ r,synP p = r := ⟨_,rfl⟩
                have hks := hka.synP
                rw [hp3] at hks
                have HS3 := lH hp3
                have HWr : Hid (wriP d z x = (p3,k3)) := lH (by unfold wriP;rw [HP.out,if_pos rfl,hp3])
                have hk310 : k3 ≠ 10 := by
                  intro h
                  unfold synP at hp3
                  split at hp3
                  · have := (Prod.mk.inj hp3).2;omega
                  split at hp3
                  · have := (Prod.mk.inj hp3).2;omega
                  · have := (Prod.mk.inj hp3).2;omega
                clear hp3
                go_wp2_with fail
                refine (rSync_any q p _ X dX (by have := bX.size;omega) (hka.mono (by omega) (by decide))).mono ?_
                rintro e w4 ⟨v4,rfl,hb4,hd4⟩
                rw [HS3.out] at hd4 ⊢
                simp only at hd4 ⊢
                obtain ⟨cs3,rfl,hs3,o3,_,_⟩ := dv_open hd4
                have b4 := nx bX hb4
                have vC := wC.stays hb4
                have vB := wB.stays hb4
                have pC := vC.plain (n := 6) hs1
                obtain ⟨Z,hZ⟩ : ∃ Q_ : World,w4.setRow w2.heap.size cs3 = Q_ := ⟨_,rfl⟩
                have uC : Bx Z w2.heap.size cs3 27 := hZ ▸ vC.put _
                have uB : Bx Z (w.heap.size + 1) z6 27 := hZ ▸ vB.put' (by omega) _
                have bZ : Below w.heap.size w Z := hZ ▸ below_setRow b4 (by omega) _
                have dZ : DV q p3 (.agg cs3) Z := hZ ▸ dv_row cs3 hd4 vC (by decide) (by omega)
                have nZ := hZ ▸ ti_row cs3 (HNx.out.stays hb4) vC (by decide) (show q ≤ w2.heap.size by omega)
                have tZ := hZ ▸ ti_row cs3 (HD.out _ b4).2.1 vC (by decide) (show q ≤ w2.heap.size by omega)
                have rZ := uC.row
                have pZ := uB.plain (n := 6) rfl
                have NZ := lH nZ
                have TZ := lH tZ
                have hk3b : (k3 == 10) = false := by simpa using hk310
                clear vC vB rC rAX pBX hd4 nZ tZ pY
                by_cases h0 : k3 = 0
                · subst h0
                  have HXX : Hid (r = ⟨p3,puts t l,z,g,0⟩) := lH (by rw [HW.out,HWr.out,if_pos rfl])
                  go_wp2
                  exact bodyPost_ret (v := .tuple #[.agg cs3,_,.int .i64 z,.int .i64 g,.int .i64 0]) (ret_D5 Tryz.results12 _ _ hs3 (uB.put _).row) rfl (anP HXX (below_setRow bZ (by omega) _) (dv_row cs3 dZ uB (by decide) (by omega)) (ti_row _ NZ.out uB (by decide) (by omega)))
                · have hk3n : (k3 != 0) = true := by simpa using h0
                  have HXX : Hid (r = ⟨p3,t,z,g,k3⟩) := lH (by rw [HW.out,HWr.out,if_neg h0,if_neg hk310])
                  go_wp2
                  exact bodyPost_ret (v := .tuple #[.agg cs3,tv,.int .i64 z,.int .i64 g,.int .i64 k3]) (ret_D5 Tryz.results12 _ _ hs3 (uB.put _).row) rfl (anP HXX (below_setRow bZ (by omega) _) (dv_row cs3 dZ uB (by decide) (by omega)) (ti_row _ TZ.out uB (by decide) (by omega)))
              · have hk1e : (k1 == 0) = false := by simpa using h0
                have hk1n : (k1 != 0) = true := by simpa using h0
                have HWr : Hid (wriP d z x = (p,k1)) := lH (by unfold wriP;rw [HP.out,if_neg h0])
                by_cases h10 : k1 = 10
                · subst h10
                  obtain ⟨⟨p2,k2⟩,hp2⟩ : ∃ r,rewP d (puts t l) (1 - z) g n = r := ⟨_,rfl⟩
                  have HP2 := lH hp2
                  have HXX : Hid (r = if k2 = 0 then ⟨p2,puts t l,1 - z,g + 1,0⟩ else ⟨p2,t,z,g,k2⟩) := lH (by rw [HW.out,HWr.out,if_neg (by simp),if_pos rfl,hp2])
                  have hpl : (puts t l).length ≤ 50000 := by have := puts_len t l;rw [HM.out] at this;omega
                  clear hp2
                  go_wp2_with fail
                  refine (rfresh_is HP2 _ _ X (HD.out _ bX).1 HNx.out (by have := bX.size;omega) (hk.mono (by decide) (by decide)) hpl (by omega)).mono ?_
                  rintro e w4 ⟨v4,rfl,hb4,hd4⟩
                  simp only at hd4 ⊢
                  obtain ⟨cs3,rfl,hs3,o3,_,_⟩ := dv_open hd4
                  have b4 := nx bX hb4
                  have vC := wC.stays hb4
                  have vB := wB.stays hb4
                  have pC := vC.plain (n := 6) hs1
                  obtain ⟨Z,hZ⟩ : ∃ Q_ : World,w4.setRow w2.heap.size cs3 = Q_ := ⟨_,rfl⟩
                  have uC : Bx Z w2.heap.size cs3 27 := hZ ▸ vC.put _
                  have uB : Bx Z (w.heap.size + 1) z6 27 := hZ ▸ vB.put' (by omega) _
                  have bZ : Below w.heap.size w Z := hZ ▸ below_setRow b4 (by omega) _
                  have dZ : DV q p2 (.agg cs3) Z := hZ ▸ dv_row cs3 hd4 vC (by decide) (by omega)
                  have nZ := hZ ▸ ti_row cs3 (HNx.out.stays hb4) vC (by decide) (show q ≤ w2.heap.size by omega)
                  have tZ := hZ ▸ ti_row cs3 (HD.out _ b4).2.1 vC (by decide) (show q ≤ w2.heap.size by omega)
                  have rZ := uC.row
                  have pZ := uB.plain (n := 6) rfl
                  have NZ := lH nZ
                  have TZ := lH tZ
                  clear vC vB rC rAX pBX hd4 nZ tZ pY
                  by_cases h0 : k2 = 0
                  · subst h0
                    have HXY : Hid (r = ⟨p2,puts t l,1 - z,g + 1,0⟩) := lH (by rw [HXX.out,if_pos rfl])
                    go_wp2
                    exact bodyPost_ret (v := .tuple #[.agg cs3,_,.int .i64 (1 - z),.int .i64 (g + 1),.int .i64 0]) (ret_D5 Tryz.results12 _ _ hs3 (uB.put _).row) rfl (anP HXY (below_setRow bZ (by omega) _) (dv_row cs3 dZ uB (by decide) (by omega)) (ti_row _ NZ.out uB (by decide) (by omega)))
                  · have hk2n : (k2 != 0) = true := by simpa using h0
                    have hk2e : (k2 == 0) = false := by simpa using h0
                    have HXY : Hid (r = ⟨p2,t,z,g,k2⟩) := lH (by rw [HXX.out,if_neg h0])
                    go_wp2
                    exact bodyPost_ret (v := .tuple #[.agg cs3,tv,.int .i64 z,.int .i64 g,.int .i64 k2]) (ret_D5 Tryz.results12 _ _ hs3 (uB.put _).row) rfl (anP HXY (below_setRow bZ (by omega) _) (dv_row cs3 dZ uB (by decide) (by omega)) (ti_row _ TZ.out uB (by decide) (by omega)))
                · have hk10 : (k1 == 10) = false := by simpa using h10
                  have HXX : Hid (r = ⟨p,t,z,g,k1⟩) := lH (by rw [HW.out,HWr.out,if_neg h0,if_neg h10])
                  have TX := lH (HD.out _ bX).2.1
                  go_wp2
                  exact bodyPost_ret (v := .tuple #[.agg cs1,tv,.int .i64 z,.int .i64 g,.int .i64 k1]) (ret_D5 Tryz.results12 _ _ hs1 (wB.put _).row) rfl (anP HXX (below_setRow bX (by omega) _) (dv_row cs1 dX wB (by decide) (by omega)) (ti_row _ TX.out wB (by decide) (by omega)))
            · have HXX : Hid (r = ⟨d,t,z,g,e9⟩) := lH (HR.out.symm.trans (add_frm HDn.out HJ.out HF.out.2 h0))
              have hk0 : (e9 != 0) = true := by simpa using h0
              go_wp2
              exact bodyPost_ret (v := .tuple #[.agg cs,tv,.int .i64 z,.int .i64 g,.int .i64 e9]) (ret_D5 Tryz.results12 _ _ hs (zB.put _).row) rfl (anP HXX (below_setRow b1 (by omega) _) (dv_row cs (HD.out _ b1).1 zB (by decide) (by omega)) (ti_row _ (HD.out _ b1).2.1 zB (by decide) (by omega)))
    · have HX : Hid (r = ⟨d,t,z,g,1⟩) := lH (HR.out.symm.trans (add_bad HDn.out (fun h => hgood ⟨HML.out.1 h.1,h.2⟩)))
      have hres := anP HX (below_setRow bU (show w.heap.size ≤ w.heap.size + 1 by omega) cs) (dv_row cs (HD.out _ bU).1 xB (by decide) (by omega)) (ti_row cs (HD.out _ bU).2.1 xB (by decide) (by omega))
      have HRes := lH hres
      clear hres
      by_cases g1 : m = 0
      · have q1 : ((m : Int) == 0) = true := by simp;omega
        go_enter Tryz.func12,Tryz.ntmps12
        go_wp2
        exact bodyPost_ret (v := .tuple #[.agg cs,tv,.int .i64 z,.int .i64 g,.int .i64 1]) (ret_D5 Tryz.results12 _ _ hs (xB.put _).row) rfl HRes.out
      · have q1 : ((m : Int) == 0) = false := by simp;omega
        by_cases g2 : z = 0
        · have q2 : (z != 0) = false := by simpa using g2
          have q4 : decide (g < 1) = true := decide_eq_true (by
            rcases Int.lt_or_le g 1 with h | h
            · exact h
            · exact absurd ⟨g1,.inl g2,h⟩ hgood)
          clear g2
          go_enter Tryz.func12,Tryz.ntmps12
          go_wp2
          exact bodyPost_ret (v := .tuple #[.agg cs,tv,.int .i64 z,.int .i64 g,.int .i64 1]) (ret_D5 Tryz.results12 _ _ hs (xB.put _).row) rfl HRes.out
        · have q2 : (z != 0) = true := by simpa using g2
          by_cases g3 : z = 1
          · have q3 : (z != 1) = false := by simpa using g3
            have q4 : decide (g < 1) = true := decide_eq_true (by
              rcases Int.lt_or_le g 1 with h | h
              · exact h
              · exact absurd ⟨g1,.inr g3,h⟩ hgood)
            clear g3
            go_enter Tryz.func12,Tryz.ntmps12
            go_wp2
            exact bodyPost_ret (v := .tuple #[.agg cs,tv,.int .i64 z,.int .i64 g,.int .i64 1]) (ret_D5 Tryz.results12 _ _ hs (xB.put _).row) rfl HRes.out
          · have q3 : (z != 1) = true := by simpa using g3
            go_enter Tryz.func12,Tryz.ntmps12
            go_wp2
            exact bodyPost_ret (v := .tuple #[.agg cs,tv,.int .i64 z,.int .i64 g,.int .i64 1]) (ret_D5 Tryz.results12 _ _ hs (xB.put _).row) rfl HRes.out
end Go.Proofs.YtnnbjhpkgndclaaGreatDoor.St
