/- Layer 17: package store's other, frame, write, rewrite. -/
import Derived.Test.YtnnbjhpkgndclaaGreatDoorQsZZ
import Derived.Test.YtnnbjhpkgndclaaGreatDoorQsBI
import Derived.Test.YtnnbjhpkgndclaaGreatDoorQsBL
set_option linter.unusedVariables false
namespace Go.Proofs.YtnnbjhpkgndclaaGreatDoor.St
open Go.RowKit
open Go.Proofs.YtnnbjhpkgndclaaGreatDoor.Rw
open Go.Proofs.YtnnbjhpkgndclaaGreatDoor.Da
open Go.Proofs.YtnnbjhpkgndclaaGreatDoor.Bv
open Go.Proofs.YtnnbjhpkgndclaaGreatDoor.Rc (Ins ci zeroI okI)
open Go.Proofs.YtnnbjhpkgndclaaGreatDoor.Wa (TL OwnT layN fitsN Short)
open Go.Proofs.YtnnbjhpkgndclaaGreatDoor.Dk (Ds DV Post2 PostD Ok appP eraP synP append_any sync_any erase_any OL ret_D2 ret_D1)
abbrev z6 : Array Value := #[.string ⟨#[]⟩,.string ⟨#[]⟩,.slice none 0 0,.int .i64 0,.int .i64 0,.bool false]
theorem dv_open {q : Nat} {d : Ds} {v : Value} {w : World} (h : DV q d v w) : ∃ cs : Array Value,v = .agg cs ∧ cs.size = 6 ∧ oneAll (.agg cs) = true ∧ cs[3]? = some (.int .i64 d.c) ∧ cs[5]? = some (.bool d.n) := by
  obtain ⟨o,rfl,h1,_⟩ := h
  obtain ⟨a,c,rfl⟩ := h1.len
  exact ⟨_,rfl,rfl,Dk.one6 _ _ _ _ _ _ _ _,rfl,rfl⟩
theorem dv_row {q b : Nat} {d : Ds} {v : Value} {w : World} {cur : Array Value} {t : TypeId} (c : Array Value) (h : DV q d v w) (hx : Bx w b cur t) (ht : t ≠ 82) (hq : q ≤ b) : DV q d v (w.setRow b c) := by
  obtain ⟨o,rfl,h1,h2⟩ := h
  exact ⟨o,rfl,h1.keep (Dk.keeps_setRow c hx (by simpa using ht) hq),h2⟩
theorem post2 {q : Nat} {p r : Ds × Int} {v : Value} {k : Int} {w w' : World} (H : Hid (r = p)) (hk : p.2 = k) (hb : Below w.heap.size w w') (h : DV q p.1 v w') : Post2 q r w (.returned (.tuple #[v,.int .i64 k])) w' := by
  rw [H.out];exact ⟨v,by rw [hk],hb,h⟩
theorem ret_T4 {P : Program} {fn : Func} {p q r s : Tmp} (h : fn.results = #[.tmp p,.tmp q,.tmp r,.tmp s]) (tmps : Array Value) (w : World) : (results fn tmps).run P w = .ok (.tuple #[tmps.getD p undef,tmps.getD q undef,tmps.getD r undef,tmps.getD s undef]) w := by simp [results,h]
theorem ret_D5 {fn : Func} {p q r s t : Tmp} (h : fn.results = #[.cell p 27,.tmp q,.tmp r,.tmp s,.tmp t]) (tmps : Array Value) (w : World) {cs : Array Value} (hs : cs.size = 6) (hr : rowOf w (tmps.getD p undef) = cs) : (results fn tmps).run Tryz.prog w = .ok (.tuple #[.agg cs,tmps.getD q undef,tmps.getD r undef,tmps.getD s undef,tmps.getD t undef]) w := by
  obtain ⟨b,e,hl⟩ := read_cell (n := 5) Tryz.underlying27 rfl (by kernel_rfl) hr hs
  have hp' : tmps[p]?.getD undef = .pointer (some ⟨b,0,none⟩) := by simpa using e
  simp [results,h,hp',asAddr,hl]
theorem bx2 (w : World) (c1 : Array Value) (t1 : TypeId) (c2 : Array Value) (t2 : TypeId) : Bx ((w.alloc (.cells c1 t1)).alloc (.cells c2 t2)) w.heap.size c1 t1 ∧ Bx ((w.alloc (.cells c1 t1)).alloc (.cells c2 t2)) (w.heap.size + 1) c2 t2 :=
  ⟨(Bx.new _ _ _).alloc _,Bx.at (by simp) _ _⟩
theorem other_any (z : Int) (w : World) (hz : 0 ≤ z ∧ z ≤ 1) : Calls Tryz.prog 32 #[.int .i64 z] w fun e w' => e = .returned (.int .i64 (1 - z)) ∧ w = w' := by
  have h : IntKind.i64.wrap (1 - z) = 1 - z := IntWalk.i64_in _ (by omega)
  go_enter Tryz.func32,Tryz.ntmps32
  go_wp2
  go_ret
  exact ⟨rfl,rfl⟩
set_option maxRecDepth 8000 in
set_option maxHeartbeats 4000000 in
theorem write_any (q : Nat) (d : Ds) (v : Value) (z : Int) (x : ByteArray) (w : World) (h : DV q d v w) (hq : q ≤ w.heap.size) (hk : Ok 500000 500 d) (hx : x.size ≤ 100000) :
    Calls Tryz.prog 30 #[v,.int .i64 z,.string x] w (Post2 q (wriP d z x) w) := by
  obtain ⟨cs,rfl,hs,h1,_,_⟩ := dv_open h
  obtain ⟨U,hU⟩ : ∃ Q_ : World,(w.alloc (.cells cs 27)).alloc (.cells z6 27) = Q_ := ⟨_,rfl⟩
  have bU : Below w.heap.size w U := hU ▸ below2 w _ _
  obtain ⟨xA,xB⟩ : Bx U w.heap.size cs 27 ∧ Bx U (w.heap.size + 1) z6 27 := hU ▸ bx2 w _ _ _ _
  have rA := xA.row
  have hD := h.stays bU
  have hk2 := hk.appP z x
  obtain ⟨⟨p,k⟩,hp⟩ : ∃ p,appP d z x = p := ⟨_,rfl⟩
  rw [hp] at hk2
  have HP := lH hp
  clear hp h
  go_enter Tryz.func30,Tryz.ntmps30
  go_wp2_with fail
  refine (append_any q d _ z x U hD (by have := bU.size;omega) (hk.mono (by decide) (by decide)) (by omega)).mono ?_
  rintro e w1 ⟨v1,rfl,hb1,hd1⟩
  rw [HP.out] at hd1 ⊢
  simp only at hd1 ⊢
  have b1 := nx bU hb1
  have yA := xA.stays hb1
  have yB := xB.stays hb1
  obtain ⟨cs1,rfl,hs1,o1,_,_⟩ := dv_open hd1
  have pA := yA.plain (n := 6) hs
  obtain ⟨X,hX⟩ : ∃ Q_ : World,w1.setRow w.heap.size cs1 = Q_ := ⟨_,rfl⟩
  have zA : Bx X w.heap.size cs1 27 := hX ▸ yA.put _
  have zB : Bx X (w.heap.size + 1) z6 27 := hX ▸ yB.put' (by omega) _
  have bX : Below w.heap.size w X := hX ▸ below_setRow b1 (Nat.le_refl _) _
  have dX : DV q p (.agg cs1) X := hX ▸ dv_row cs1 hd1 yA (by decide) hq
  have rz := zA.row
  have pz := zB.plain (n := 6) rfl
  clear xA xB rA yA yB hU hD hd1
  by_cases h0 : k = 0
  · subst h0
    obtain ⟨⟨p2,k2⟩,hp2⟩ : ∃ r,synP p = r := ⟨_,rfl⟩
    have HP2 : Hid (wriP d z x = (p2,k2)) := lH (by unfold wriP;rw [HP.out,if_pos rfl,hp2])
    have HS := lH hp2
    clear hp2
    go_wp2_with fail
    refine (sync_any q p _ X dX (by have := bX.size;omega) (hk2.mono (by omega) (by decide))).mono ?_
    rintro e w2 ⟨v2,rfl,hb2,hd2⟩
    rw [HS.out] at hd2 ⊢
    simp only at hd2 ⊢
    obtain ⟨cs2,rfl,hs2,o2,_,_⟩ := dv_open hd2
    have b2 := nx bX hb2
    have yB := zB.stays hb2
    have pB := yB.plain (n := 6) rfl
    clear rz pz
    go_wp2
    exact bodyPost_ret (v := .tuple #[.agg cs2,.int .i64 k2]) (ret_D2 Tryz.results30 _ _ hs2 (yB.put _).row) rfl (post2 HP2 rfl (below_setRow b2 (by omega) _) (dv_row cs2 hd2 yB (by decide) (by omega)))
  · have HP2 : Hid (wriP d z x = (p,k)) := lH (by unfold wriP;rw [HP.out,if_neg h0])
    have hk0 : (k != 0) = true := by simpa using h0
    go_wp2
    exact bodyPost_ret (v := .tuple #[.agg cs1,.int .i64 k]) (ret_D2 Tryz.results30 _ _ hs1 (zB.put _).row) rfl (post2 HP2 rfl (below_setRow bX (by omega) _) (dv_row cs1 dX zB (by decide) (by omega)))
theorem lay_is {q : Nat} {l : List ByteArray} {x : ByteArray} {k : Int} (H : Hid (layN ByteArray.empty l = (x,k))) (v : Value) (w : World) (h : TL q l v w) (hl : l.length ≤ 1000000) (hz : ∀ x ∈ l,x.size ≤ maxLen) (ht : Tbs w) :
    Calls Tryz.prog 48 #[v] w fun e w' => e = .returned (.tuple #[.string x,.int .i64 k]) ∧ Below w.heap.size w w' := by
  have h2 := Wa.lay_any q l v w h hl hz ht.cr
  rw [H.out] at h2;exact h2
theorem fits_is {q : Nat} {l : List ByteArray} {r : Int} {b : Bool} (H : Hid (fitsN r l = b)) (v : Value) (w : World) (h : TL q l v w) (hl : l.length ≤ 1000000) (hz : ∀ x ∈ l,x.size ≤ 1000000000) (hr : 0 ≤ r ∧ r ≤ 60000) :
    Calls Tryz.prog 54 #[v,.int .i64 r] w fun e w' => e = .returned (.bool b) ∧ Below w.heap.size w w' := by
  rw [← H.out];exact Wa.fits_any q l v r w h hl hz (by omega)
def frmS (l : List Ins) (n : Int) : ByteArray := if okT l n then (layN ByteArray.empty (l.map (ent n))).1 else ByteArray.empty
def frmE (l : List Ins) (n : Int) : Int := if okT l n then (layN ByteArray.empty (l.map (ent n))).2 else 1
theorem short_size {l : List ByteArray} (h : Short l) : ∀ x ∈ l,x.size ≤ maxLen := fun x hx => by have := h x hx;unfold maxLen;omega
set_option maxRecDepth 8000 in
set_option maxHeartbeats 2000000 in
theorem frame_any (q : Nat) (l : List Ins) (v : Value) (n : Int) (w : World) (h : TI q l v w) (hq : q ≤ w.heap.size) (hm : l.length ≤ 100000) (ht : Tbs w) :
    Calls Tryz.prog 28 #[v,.int .i64 n] w fun e w' => e = .returned (.tuple #[.string (frmS l n),.int .i64 (frmE l n)]) ∧ Below w.heap.size w w' := by
  cases hk : okT l n with
  | true =>
    obtain ⟨⟨x,k⟩,hx⟩ : ∃ p,layN ByteArray.empty (l.map (ent n)) = p := ⟨_,rfl⟩
    have HX := lH hx
    have HS : Hid (frmS l n = x) := lH (by unfold frmS;rw [hk,if_pos rfl,hx])
    have HE : Hid (frmE l n = k) := lH (by unfold frmE;rw [hk,if_pos rfl,hx])
    have HK := lH hk
    rw [HS.out,HE.out]
    clear hx hk
    go_enter Tryz.func28,Tryz.ntmps28
    go_wp2_with fail
    refine (entries_any q l v n w h hq hm ht.cm ht.rc).mono ?_
    rintro e w1 ⟨v1,rfl,hb1,h1,_⟩
    have ho := OwnT.keep (h1 HK.out) (Below.refl _ _)
    have htl := Wa.OwnT.tl ho hq
    rw [HK.out]
    simp only [if_true]
    go_wp2_with fail
    refine (lay_is HX v1 w1 htl (by rw [List.length_map];omega) (short_size (short_ents HK.out)) (ht.below hb1)).mono ?_
    rintro e w2 ⟨rfl,hb2⟩
    go_wp2
    go_ret2
    exact ⟨rfl,nx hb1 hb2⟩
  | false =>
    have HS : Hid (frmS l n = ByteArray.empty) := lH (by unfold frmS;rw [hk,if_neg (by decide)])
    have HE : Hid (frmE l n = 1) := lH (by unfold frmE;rw [hk,if_neg (by decide)])
    have HK := lH hk
    rw [HS.out,HE.out]
    clear hk
    go_enter Tryz.func28,Tryz.ntmps28
    go_wp2_with fail
    refine (entries_any q l v n w h hq hm ht.cm ht.rc).mono ?_
    rintro e w1 ⟨v1,rfl,hb1,_,h2⟩
    obtain rfl := h2 HK.out
    rw [HK.out]
    simp only [Bool.false_eq_true,if_false]
    go_wp2
    go_ret2
    exact ⟨rfl,hb1⟩
theorem frame_is {q : Nat} {l : List Ins} {x : ByteArray} {k n : Int} (H : Hid (frmS l n = x ∧ frmE l n = k)) (v : Value) (w : World) (h : TI q l v w) (hq : q ≤ w.heap.size) (hm : l.length ≤ 100000) (ht : Tbs w) :
    Calls Tryz.prog 28 #[v,.int .i64 n] w fun e w' => e = .returned (.tuple #[.string x,.int .i64 k]) ∧ Below w.heap.size w w' := by
  obtain ⟨rfl,rfl⟩ := H.out
  exact frame_any q l v n w h hq hm ht
theorem rew_no {d : Ds} {t : List Ins} {z g n : Int} (hk : okT t n = false) : rewP d t z g n = (d,1) := by unfold rewP;rw [hk,if_neg (by decide)]
theorem rew_gen {d : Ds} {t : List Ins} {z g n : Int} (hk : okT t n = true) (hg : 1073741824 ≤ g) : rewP d t z g n = (d,10) := by unfold rewP;rw [if_pos hk,if_pos hg]
theorem rew_full {d : Ds} {t : List Ins} {z g n : Int} {M : List ByteArray} (hk : okT t n = true) (hg : ¬ 1073741824 ≤ g) (hM : rwL t (g + 1) n = M) (hf : fitsN d.c M = false) : rewP d t z g n = (d,10) := by unfold rewP;rw [if_pos hk,if_neg hg,hM,hf,if_neg (by decide)]
theorem rew_lay {d : Ds} {t : List Ins} {z g n k : Int} {x : ByteArray} {M : List ByteArray} (hk : okT t n = true) (hg : ¬ 1073741824 ≤ g) (hM : rwL t (g + 1) n = M) (hf : fitsN d.c M = true) (hl : layN ByteArray.empty M = (x,k)) (h0 : k ≠ 0) : rewP d t z g n = (d,k) := by unfold rewP;rw [if_pos hk,if_neg hg,hM,hf,if_pos rfl,hl,if_neg h0]
theorem rew_go {d : Ds} {t : List Ins} {z g n : Int} {x : ByteArray} {M : List ByteArray} (hk : okT t n = true) (hg : ¬ 1073741824 ≤ g) (hM : rwL t (g + 1) n = M) (hf : fitsN d.c M = true) (hl : layN ByteArray.empty M = (x,0)) : rewP d t z g n = if (eraP d z).2 = 0 then wriP (eraP d z).1 z x else eraP d z := by unfold rewP;rw [if_pos hk,if_neg hg,hM,hf,if_pos rfl,hl,if_pos rfl]
theorem write_is {q : Nat} {d : Ds} {z : Int} {x : ByteArray} {r : Ds × Int} (H : Hid (wriP d z x = r)) (v : Value) (w : World) (h : DV q d v w) (hq : q ≤ w.heap.size) (hk : Ok 500000 500 d) (hx : x.size ≤ 100000) :
    Calls Tryz.prog 30 #[v,.int .i64 z,.string x] w (Post2 q r w) := by
  rw [← H.out];exact write_any q d v z x w h hq hk hx
set_option maxRecDepth 8000 in
set_option maxHeartbeats 8000000 in
theorem rewrite_any (q : Nat) (d : Ds) (v tv : Value) (t : List Ins) (z g n : Int) (w : World) (h : DV q d v w) (ht : TI q t tv w) (hq : q ≤ w.heap.size) (hk : Ok 400000 400 d) (hm : t.length ≤ 50000) (hg : 0 ≤ g ∧ g ≤ 1099511627776) (hT : Tbs w) :
    Calls Tryz.prog 31 #[v,tv,.int .i64 z,.int .i64 g,.int .i64 n] w (Post2 q (rewP d t z g n) w) := by
  obtain ⟨cs,rfl,hs,h1,hc3,_⟩ := dv_open h
  obtain ⟨U,hU⟩ : ∃ Q_ : World,(w.alloc (.cells cs 27)).alloc (.cells z6 27) = Q_ := ⟨_,rfl⟩
  have bU : Below w.heap.size w U := hU ▸ below2 w _ _
  obtain ⟨xA,xB⟩ : Bx U w.heap.size cs 27 ∧ Bx U (w.heap.size + 1) z6 27 := hU ▸ bx2 w _ _ _ _
  have HD := lH (show ∀ u,Below U.heap.size U u → DV q d (.agg cs) u ∧ Tbs u from fun u hu => ⟨h.stays (nx bU hu),hT.below (nx bU hu)⟩)
  have hqU : q ≤ U.heap.size := by have := bU.size;omega
  obtain ⟨r,hr⟩ : ∃ r,rewP d t z g n = r := ⟨_,rfl⟩
  have HR := lH hr
  rw [hr]
  clear h hr
  go_enter Tryz.func31,Tryz.ntmps31
  go_wp2_with fail
  refine (entries_any q t tv n U (ht.stays bU) hqU (by omega) (hT.below bU).cm (hT.below bU).rc).mono ?_
  rintro e w1 ⟨v1,rfl,hb1,he1,he2⟩
  have b1 := nx bU hb1
  have yA := xA.stays hb1
  have yB := xB.stays hb1
  have rA := yA.row
  have pB := yB.plain (n := 6) rfl
  cases hok : okT t n with
  | false =>
    have HX : Hid (r = (d,1)) := lH (HR.out.symm.trans (rew_no hok))
    obtain rfl := he2 hok
    simp only [Bool.false_eq_true,if_false]
    clear he1 he2
    go_wp2
    exact bodyPost_ret (v := .tuple #[.agg cs,.int .i64 1]) (ret_D2 Tryz.results31 _ _ hs (yB.put _).row) rfl (post2 HX rfl (below_setRow b1 (by omega) _) (dv_row cs (HD.out _ hb1).1 yB (by decide) (by omega)))
  | true =>
    have HO1 := lH (he1 hok)
    have HOK := lH hok
    simp only [if_true]
    clear he1 he2 hok
    by_cases hgb : 1073741824 ≤ g
    · have HX : Hid (r = (d,10)) := lH (HR.out.symm.trans (rew_gen HOK.out hgb))
      have hg1 : decide (g ≥ 1073741824) = true := decide_eq_true hgb
      go_wp2
      exact bodyPost_ret (v := .tuple #[.agg cs,.int .i64 10]) (ret_D2 Tryz.results31 _ _ hs (yB.put _).row) rfl (post2 HX rfl (below_setRow b1 (by omega) _) (dv_row cs (HD.out _ hb1).1 yB (by decide) (by omega)))
    · have hg1 : decide (g ≥ 1073741824) = false := decide_eq_false hgb
      have hgw : IntKind.i64.wrap (g + 1) = g + 1 := IntWalk.i64_in _ (by omega)
      obtain ⟨M,hM⟩ : ∃ M,rwL t (g + 1) n = M := ⟨_,rfl⟩
      have HM := lH hM
      have HM2 : Hid (mark 72 (g + 1) :: (t.map (ent n) ++ [mark 67 (g + 1)]) = M) := lH hM
      have hMl : M.length ≤ 60000 := by rw [← hM,rwL];simp;omega
      have HSh : Hid (Short M) := lH (hM ▸ short_rw HOK.out)
      obtain ⟨f,hf⟩ : ∃ f,fitsN d.c M = f := ⟨_,rfl⟩
      have HF := lH hf
      clear hM hf
      go_wp2_with fail
      refine (enclose_is HM2 w1 (Wa.OwnT.tl HO1.out hqU) (by have := b1.size;omega) (by rw [List.length_map];omega) ⟨by omega,by omega⟩).mono ?_
      rintro e w2 ⟨v2,rfl,hb2,ho2⟩
      have HL2 := lH (Wa.OwnT.tl ho2 (show q ≤ w1.heap.size by have := b1.size;omega))
      have b2 := nx b1 hb2
      have zA := yA.stays hb2
      have zB := yB.stays hb2
      have rA2 := zA.row
      have cA := zA.cell 3
      rw [hc3] at cA
      have hb12 := nx hb1 hb2
      clear yA yB rA pB xA xB ho2
      go_wp2_with fail
      refine (fits_is HF v2 w2 HL2.out (by omega) (fun x hx => by have := HSh.out x hx;omega) hk.c).mono ?_
      rintro e w3 ⟨rfl,hb3⟩
      have b3 := nx b2 hb3
      have yA := zA.stays hb3
      have yB := zB.stays hb3
      have rA := yA.row
      have pB := yB.plain (n := 6) rfl
      have hb13 := nx hb12 hb3
      clear zA zB rA2 cA
      cases f with
      | false =>
        have HX : Hid (r = (d,10)) := lH (HR.out.symm.trans (rew_full HOK.out (by omega) HM.out HF.out))
        go_wp2
        exact bodyPost_ret (v := .tuple #[.agg cs,.int .i64 10]) (ret_D2 Tryz.results31 _ _ hs (yB.put _).row) rfl (post2 HX rfl (below_setRow b3 (by omega) _) (dv_row cs (HD.out _ hb13).1 yB (by decide) (by omega)))
      | true =>
        obtain ⟨⟨x,k⟩,hx⟩ : ∃ p,layN ByteArray.empty M = p := ⟨_,rfl⟩
        have hxs : x.size ≤ 60000 := by have := Wa.layN_max ByteArray.empty M (by decide);rw [hx] at this;exact this
        have HX := lH hx
        clear hx
        go_wp2_with fail
        refine (lay_is HX v2 w3 (HL2.out.stays hb3) (by omega) (short_size HSh.out) (HD.out _ hb13).2).mono ?_
        rintro e w4 ⟨rfl,hb4⟩
        have b4 := nx b3 hb4
        have zA := yA.stays hb4
        have zB := yB.stays hb4
        have rA2 := zA.row
        have pB2 := zB.plain (n := 6) rfl
        have hb14 := nx hb13 hb4
        clear yA yB rA pB
        by_cases h0 : k = 0
        · subst h0
          have HG := lH (HR.out.symm.trans (rew_go HOK.out (by omega) HM.out HF.out HX.out))
          obtain ⟨⟨p,k⟩,hp⟩ : ∃ p,eraP d z = p := ⟨_,rfl⟩
          have hke := hk.eraP z
          rw [hp] at hke
          have HP := lH hp
          have hDV := (HD.out _ hb14).1
          clear hp
          go_wp2_with fail
          refine (erase_any q d _ z w4 hDV (by have := b4.size;omega) (hk.mono (by decide) (by decide))).mono ?_
          rintro e w5 ⟨v5,rfl,hb5,hd5⟩
          rw [HP.out] at hd5 ⊢
          simp only at hd5 hke ⊢
          have b5 := nx b4 hb5
          have yA := zA.stays hb5
          have yB := zB.stays hb5
          obtain ⟨cs1,rfl,hs1,o1,_,_⟩ := dv_open hd5
          have pA := yA.plain (n := 6) hs
          obtain ⟨X,hX⟩ : ∃ Q_ : World,w5.setRow w.heap.size cs1 = Q_ := ⟨_,rfl⟩
          have wA : Bx X w.heap.size cs1 27 := hX ▸ yA.put _
          have wB : Bx X (w.heap.size + 1) z6 27 := hX ▸ yB.put' (by omega) _
          have bX : Below w.heap.size w X := hX ▸ below_setRow b5 (Nat.le_refl _) _
          have dX : DV q p (.agg cs1) X := hX ▸ dv_row cs1 hd5 yA (by decide) hq
          have rz := wA.row
          have pz := wB.plain (n := 6) rfl
          clear zA zB rA2 pB2 yA yB hd5 hDV
          by_cases h0 : k = 0
          · subst h0
            obtain ⟨⟨p2,k2⟩,hp2⟩ : ∃ r,wriP p z x = r := ⟨_,rfl⟩
            have HW := lH hp2
            have HP2 : Hid (r = (p2,k2)) := lH (by rw [HG.out,HP.out,if_pos rfl,hp2])
            clear hp2
            go_wp2_with fail
            refine (write_is HW _ X dX (by have := bX.size;omega) (hke.mono (by decide) (by decide)) (by omega)).mono ?_
            rintro e w6 ⟨v6,rfl,hb6,hd6⟩
            simp only at hd6 ⊢
            obtain ⟨cs2,rfl,hs2,o2,_,_⟩ := dv_open hd6
            have b6 := nx bX hb6
            have yB := wB.stays hb6
            have pB := yB.plain (n := 6) rfl
            clear rz pz
            go_wp2
            exact bodyPost_ret (v := .tuple #[.agg cs2,.int .i64 k2]) (ret_D2 Tryz.results31 _ _ hs2 (yB.put _).row) rfl (post2 HP2 rfl (below_setRow b6 (by omega) _) (dv_row cs2 hd6 yB (by decide) (by omega)))
          · have HP2 : Hid (r = (p,k)) := lH (by rw [HG.out,HP.out,if_neg h0])
            have hk0 : (k != 0) = true := by simpa using h0
            go_wp2
            exact bodyPost_ret (v := .tuple #[.agg cs1,.int .i64 k]) (ret_D2 Tryz.results31 _ _ hs1 (wB.put _).row) rfl (post2 HP2 rfl (below_setRow bX (by omega) _) (dv_row cs1 dX wB (by decide) (by omega)))
        · have HP2 : Hid (r = (d,k)) := lH (HR.out.symm.trans (rew_lay HOK.out (by omega) HM.out HF.out HX.out h0))
          have hk0 : (k != 0) = true := by simpa using h0
          go_wp2
          exact bodyPost_ret (v := .tuple #[.agg cs,.int .i64 k]) (ret_D2 Tryz.results31 _ _ hs (zB.put _).row) rfl (post2 HP2 rfl (below_setRow b4 (by omega) _) (dv_row cs (HD.out _ hb14).1 zB (by decide) (by omega)))
end Go.Proofs.YtnnbjhpkgndclaaGreatDoor.St
namespace Go.Proofs.YtnnbjhpkgndclaaGreatDoor.St
open Go.RowKit
open Go.Proofs.YtnnbjhpkgndclaaGreatDoor.Rw
open Go.Proofs.YtnnbjhpkgndclaaGreatDoor.Da
open Go.Proofs.YtnnbjhpkgndclaaGreatDoor.Bv
open Go.Proofs.YtnnbjhpkgndclaaGreatDoor.Rc (Ins ci zeroI okI)
open Go.Proofs.YtnnbjhpkgndclaaGreatDoor.Wa (TL OwnT layN fitsN Short)
open Go.Proofs.YtnnbjhpkgndclaaGreatDoor.Dk (Ds DV Post2 PostD Ok readS readE at2 read_is PostS now_wt)
def newer (p : Zs × Int) (z : Zs) (k : Int) : Zs × Int := if z.c = true ∧ p.1.g < z.g then (z,k) else p
def stp (d : Ds) (n : Int) : Nat → Zs × Int
  | 0 => (zero,0)
  | 1 => newer (zero,0) (zs d.now.1 n) 0
  | _ => newer (newer (zero,0) (zs d.now.1 n) 0) (zs d.now.2 n) 1
theorem stp_succ (d : Ds) (n : Int) (k : Nat) (h : k < 2) : stp d n (k + 1) = newer (stp d n k) (zs (at2 d.now k) n) k := by
  match k,h with
  | 0,_ => rfl
  | 1,_ => rfl
theorem stp_tab {d : Ds} {n : Int} (h : d.n = false) : stp d n 2 = tabP d n := by
  unfold tabP
  rw [h,if_neg (by decide)]
  show newer (newer (zero,0) (zs d.now.1 n) 0) (zs d.now.2 n) 1 = _
  have h1 := (zs_table d.now.1 n).2.2.2.2.2.2
  have e : newer (zero,0) (zs d.now.1 n) 0 = (if (zs d.now.1 n).c = true then zs d.now.1 n else zero,0) := by
    unfold newer
    by_cases hc : (zs d.now.1 n).c = true
    · rw [if_pos ⟨hc,h1 hc⟩,if_pos hc]
    · rw [if_neg (fun k => hc k.1),if_neg hc]
  rw [e];rfl
def TabP (q : Nat) (p : Zs × Int) (w : World) (e : Ending) (w' : World) : Prop := ∃ v,e = .returned (.tuple #[v,.int .i64 p.2,.int .i64 p.1.g,.bool p.1.w]) ∧ Below w.heap.size w w' ∧ TI q p.1.t v w'
theorem ti_row {q b : Nat} {l : List Ins} {v : Value} {w : World} {cur : Array Value} {t : TypeId} (c : Array Value) (h : TI q l v w) (hx : Bx w b cur t) (ht : t ≠ 44) (hq : q ≤ b) : TI q l v (w.setRow b c) :=
  Is.keep eI 44 h (Dk.keeps_setRow c hx (fun hm => ht (by simpa [eI,Ro.Flat.enc,Enc.flat] using hm)) hq)
theorem stated_is {q : Nat} {s : ByteArray} {n : Int} {z : Zs} (H : Hid (zs s n = z)) (w : World) (hs : s.size ≤ 1000000) (hq : q ≤ w.heap.size) (ht : Tbs w) :
    Calls Tryz.prog 43 #[.string s,.int .i64 n] w (StP q z w) := by
  rw [← H.out];exact stated_any q s n w hs hq ht
set_option maxRecDepth 8000 in
set_option maxHeartbeats 4000000 in
theorem table_any (q : Nat) (d : Ds) (v : Value) (n : Int) (w : World) (h : DV q d v w) (hq : q ≤ w.heap.size) (hk : Ok 500000 500 d) (hT : Tbs w) :
    Calls Tryz.prog 21 #[v,.int .i64 n] w (TabP q (tabP d n) w) := by
  obtain ⟨cs,rfl,hs,h1,_,_⟩ := dv_open h
  obtain ⟨U1,hU1⟩ : ∃ Q_ : World,((w.alloc (.cells cs 27)).alloc (.cells (cZ 0 (.slice none 0 0) false false) 87)) = Q_ := ⟨_,rfl⟩
  have bU1 : Below w.heap.size w U1 := hU1 ▸ below2 w _ _
  obtain ⟨xA1,xB1⟩ : Bx U1 w.heap.size cs 27 ∧ Bx U1 (w.heap.size + 1) (cZ 0 (.slice none 0 0) false false) 87 := hU1 ▸ bx2 w _ _ _ _
  have p1 := xB1.plain (n := 4) rfl
  obtain ⟨U,hU⟩ : ∃ Q_ : World,U1.setRow (w.heap.size + 1) (cZ 0 (.slice none 0 0) false false) = Q_ := ⟨_,rfl⟩
  have xA : Bx U w.heap.size cs 27 := hU ▸ xA1.put' (by omega) _
  have xB : Bx U (w.heap.size + 1) (cZ 0 (.slice none 0 0) false false) 87 := hU ▸ xB1.put _
  have bU : Below w.heap.size w U := hU ▸ below_setRow bU1 (by omega) _
  clear xA1 xB1
  have HD := lH (show ∀ u,Below w.heap.size w u → DV q d (.agg cs) u ∧ Tbs u from fun u hu => ⟨h.stays hu,hT.below hu⟩)
  have hwt := hk.wt
  have hln := hk.len
  have hnw := now_wt d
  clear h hT
  cases hdn : d.n with
  | true =>
    have HZ : Hid (tabP d n = (zero,0)) := lH (by unfold tabP;rw [hdn,if_pos rfl])
    rw [HZ.out]
    have HE := lH (show readE d 0 = 15 by unfold readE;rw [hdn,if_pos rfl])
    have HS := lH (show readS d 0 = Dk.nul by unfold readS;rw [HE.out,if_neg (by decide)])
    have rA := xA.row
    clear hdn
    go_enter Tryz.func21,Tryz.ntmps21
    go_wp2
    go_loopw [15] (fun i wr => i = .int .i64 0 ∧ U = wr) (fun i _ => 0)
    case atStart => exact ⟨rfl,rfl⟩
    obtain ⟨rfl,rfl⟩ := hrel
    go_wp2_with fail
    refine (read_is HS HE (HD.out U bU).1 (by have := bU.size;omega) (by omega) (by omega)).mono ?_
    rintro e w1 ⟨rfl,hb1⟩
    go_wp2
    exact bodyPost_ret (v := .tuple #[.slice none 0 0,.int .i64 0,.int .i64 0,.bool false]) (ret_T4 Tryz.results21 _ _) rfl ⟨_,rfl,nx bU hb1,Is.nil _ _ _ _⟩
  | false =>
    have HZ := lH (stp_tab (n := n) hdn)
    have HE : Hid (∀ k : Nat,k < 2 → readE d k = 0) := lH fun k hk => readE_of hdn (by omega)
    go_enter Tryz.func21,Tryz.ntmps21
    go_wp2
    go_loopw [8,15] (fun wh i wr => ∃ (k : Nat) (z : Zs) (wz : Int) (a : Option Addr) (c : Nat),k ≤ 2 ∧ i = .int .i64 k ∧ wh = .int .i64 wz ∧ stp d n k = (z,wz) ∧ Bx wr (w.heap.size + 1) (cZ z.g (.slice a z.t.length c) z.c z.w) 87 ∧ TI q z.t (.slice a z.t.length c) wr ∧ Bx wr w.heap.size cs 27 ∧ Below w.heap.size w wr) (fun _ i _ => 2 - (intOf i).toNat)
    case atStart => exact ⟨0,zero,0,none,0,by omega,rfl,rfl,rfl,xB,Is.nil _ _ _ _,xA,bU⟩
    case round =>
      obtain ⟨k,z,wz,a,c,hk2,rfl,rfl,hst,yB,hti,yA,hb⟩ := hrel
      have HTi := lH hti
      have HSt := lH hst
      clear hti hst
      have hszw := hb.size
      by_cases hlt : k < 2
      · have hlt2 : (k : Int) < 2 := by omega
        have HS := lH (show readS d k = at2 d.now k by unfold readS;rw [HE.out k hlt,if_pos rfl])
        have HN := lH ((stp_succ d n k hlt).trans (by rw [HSt.out]))
        obtain ⟨x,hx⟩ : ∃ x,at2 d.now k = x := ⟨_,rfl⟩
        have hxs : x.size ≤ 1000000 := by rw [← hx];unfold at2;split <;> omega
        rw [hx] at HS HN
        obtain ⟨y,hy⟩ : ∃ y,zs x n = y := ⟨_,rfl⟩
        have HY := lH hy
        rw [hy] at HN
        have rA := yA.row
        clear hx hy
        go_wp2_with fail
        refine (read_is HS (lH (HE.out k hlt)) (HD.out wr hb).1 (by omega) (by omega) (by omega)).mono ?_
        rintro e w1 ⟨rfl,hb1⟩
        have b1 := nx hb hb1
        have zB := yB.stays hb1
        have zA := yA.stays hb1
        clear rA
        go_wp2_with fail
        refine (stated_is (q := q) HY w1 hxs (by have := b1.size;omega) (HD.out w1 b1).2).mono ?_
        rintro e w2 ⟨v2,rfl,hb2,ho2⟩
        have ti2 := OwnI.ti ho2 (by have := b1.size;omega)
        obtain ⟨a2,c2,rfl⟩ := ti2.len
        have b2 := nx b1 hb2
        obtain ⟨V1,hV1⟩ : ∃ Q_ : World,w2.alloc (.cells (cZ 0 (.slice none 0 0) false false) 87) = Q_ := ⟨_,rfl⟩
        have xV1 : Bx V1 w2.heap.size (cZ 0 (.slice none 0 0) false false) 87 := hV1 ▸ Bx.new _ _ _
        have bV1 : Below w2.heap.size w2 V1 := hV1 ▸ below1 _ _
        have pV1 := xV1.plain (n := 4) rfl
        obtain ⟨V,hV⟩ : ∃ Q_ : World,V1.setRow w2.heap.size (cZ y.g (.slice a2 y.t.length c2) y.c y.w) = Q_ := ⟨_,rfl⟩
        have xV : Bx V w2.heap.size (cZ y.g (.slice a2 y.t.length c2) y.c y.w) 87 := hV ▸ xV1.put _
        have bV : Below w2.heap.size w2 V := hV ▸ below_setRow bV1 (Nat.le_refl _) _
        have b3 := nx b2 bV
        have nB := (zB.stays hb2).stays bV
        have nA := (zA.stays hb2).stays bV
        have c2v := xV.cell 2
        have c0v := xV.cell 0
        have c0n := nB.cell 0
        have tiV := ti2.stays bV
        have TV := lH tiV
        have hne : w2.heap.size ≠ w.heap.size + 1 := by have := zB.lt;have := hb2.size;omega
        clear zB zA xV1 ho2 ti2 tiV yB yA
        by_cases hn : y.c = true ∧ z.g < y.g
        · have hc := hn.1
          have hg : decide (z.g < y.g) = true := decide_eq_true hn.2
          have hg2 : decide (y.g > z.g) = true := decide_eq_true hn.2
          have HN2 : Hid (stp d n (k + 1) = (y,(k : Int))) := lH (by rw [HN.out,newer,if_pos hn])
          have rV := xV.row
          have pN := nB.plain (n := 4) rfl
          rw [hc] at c2v hV
          go_wp2
          go_region
          go_wp2
          have nX := nB.put (cZ y.g (.slice a2 y.t.length c2) y.c y.w)
          have mX := nA.put' (show w.heap.size ≠ w.heap.size + 1 by omega) (cZ y.g (.slice a2 y.t.length c2) y.c y.w)
          have tX := ti_row (cZ y.g (.slice a2 y.t.length c2) y.c y.w) TV.out nB (by decide) (by omega)
          have bX := below_setRow b3 (show w.heap.size ≤ w.heap.size + 1 by omega) (cZ y.g (.slice a2 y.t.length c2) y.c y.w)
          have eY : cZ y.g (.slice a2 y.t.length c2) true y.w = cZ y.g (.slice a2 y.t.length c2) y.c y.w := by rw [hc]
          rw [eY]
          exact ⟨⟨k + 1,y,k,a2,c2,by omega,by go_num,rfl,HN2.out,nX.stays (Below.refl _ _).drew,tX.stays (Below.refl _ _).drew,mX.stays (Below.refl _ _).drew,bX.drew⟩,by simp [intOf];omega⟩
        · have HN2 : Hid (stp d n (k + 1) = (z,wz)) := lH (by rw [HN.out,newer,if_neg hn])
          cases hc : y.c with
          | true =>
            have hg : decide (z.g < y.g) = false := decide_eq_false fun h => hn ⟨hc,h⟩
            have hg2 : decide (y.g > z.g) = false := hg
            rw [hc] at c2v hV
            go_wp2
            go_roundw
            case rel => exact ⟨k + 1,z,wz,a,c,by omega,by go_num,rfl,HN2.out,nB,(HTi.out.stays hb1).stays (nx hb2 bV),nA,b3⟩
            case measure => simp [intOf];omega
          | false =>
            rw [hc] at c2v hV
            go_wp2
            go_roundw
            case rel => exact ⟨k + 1,z,wz,a,c,by omega,by go_num,rfl,HN2.out,nB,(HTi.out.stays hb1).stays (nx hb2 bV),nA,b3⟩
            case measure => simp [intOf];omega
      · obtain rfl : k = 2 := by omega
        have HP : Hid (tabP d n = (z,wz)) := lH (HZ.out.symm.trans HSt.out)
        have c0 := yB.cell 0
        have c1 := yB.cell 1
        have c3 := yB.cell 3
        go_wp2
        go_region
        go_wp2
        exact bodyPost_ret (v := .tuple #[.slice a z.t.length c,.int .i64 wz,.int .i64 z.g,.bool z.w]) (ret_T4 Tryz.results21 _ _) rfl ⟨_,by rw [HP.out],hb.drew,by rw [HP.out];exact HTi.out.stays (Below.refl _ _).drew⟩
theorem table_is {q : Nat} {d : Ds} {n : Int} {p : Zs × Int} (H : Hid (tabP d n = p)) (v : Value) (w : World) (h : DV q d v w) (hq : q ≤ w.heap.size) (hk : Ok 500000 500 d) (hT : Tbs w) :
    Calls Tryz.prog 21 #[v,.int .i64 n] w (TabP q p w) := by
  rw [← H.out];exact table_any q d v n w h hq hk hT
theorem lay_one {x : ByteArray} (h : x.size ≤ 2000) : layN ByteArray.empty [x] = (Cr.frm x,0) := by
  rw [layN,if_pos h,if_pos (by rw [show ByteArray.empty.size = 0 from rfl];omega),layN,ByteArray.empty_append]
theorem tlw {l : List ByteArray} {k : Nat} (h : k < l.length) : Wa.wl (l.take (k + 1)) = Wa.wl (l.take k) + (l[k].size + 6) := Wa.wl_snoc h
theorem wl_le (l : List ByteArray) (hs : Short l) (k : Nat) : Wa.wl (l.take k) ≤ 2006 * k := by
  induction k with
  | zero => simp [Wa.wl]
  | succ k ih =>
    rcases Nat.lt_or_ge k l.length with h | h
    · rw [tlw h];have := hs _ (List.getElem_mem h);omega
    · rw [List.take_of_length_le (by omega)];rw [List.take_of_length_le h] at ih;omega
set_option maxRecDepth 8000 in
set_option maxHeartbeats 4000000 in
theorem size_any (q : Nat) (t : List Ins) (tv : Value) (n : Int) (w : World) (ht : TI q t tv w) (hq : q ≤ w.heap.size) (hm : t.length ≤ 50000) (hT : Tbs w) :
    Calls Tryz.prog 23 #[tv,.int .i64 n] w fun e w' => e = .returned (.int .i64 (sizP t n)) ∧ Below w.heap.size w w' := by
  cases hok : okT t n with
  | false =>
    have HZ : Hid (sizP t n = 0) := lH (by unfold sizP;rw [hok,if_neg (by decide)])
    have HK := lH hok
    rw [HZ.out]
    clear hok
    go_enter Tryz.func23,Tryz.ntmps23
    go_wp2_with fail
    refine (entries_any q t tv n w ht hq (by omega) hT.cm hT.rc).mono ?_
    rintro e w1 ⟨v1,rfl,hb1,he1,he2⟩
    obtain rfl := he2 HK.out
    rw [HK.out]
    simp only [Bool.false_eq_true,if_false]
    clear he1 he2
    go_wp2
    go_ret
    exact ⟨rfl,hb1⟩
  | true =>
    obtain ⟨M,hM⟩ : ∃ M,rwL t 1 n = M := ⟨_,rfl⟩
    have HZ : Hid (sizP t n = (Wa.wl M : Nat)) := lH (by unfold sizP;rw [hok,if_pos rfl,hM])
    have HK := lH hok
    have HM2 : Hid (mark 72 1 :: (t.map (ent n) ++ [mark 67 1]) = M) := lH hM
    have HSh : Hid (Short M) := lH (hM ▸ short_rw hok)
    obtain ⟨m,hmm⟩ : ∃ m,M.length = m := ⟨_,rfl⟩
    have hml : m ≤ 60000 := by rw [← hmm,← hM,rwL];simp;omega
    have HN := lH hmm
    have HT := lH hT
    rw [HZ.out]
    clear hok hM hmm
    go_enter Tryz.func23,Tryz.ntmps23
    go_wp2_with fail
    refine (entries_any q t tv n w ht hq (by omega) hT.cm hT.rc).mono ?_
    rintro e w1 ⟨v1,rfl,hb1,he1,_⟩
    have HO1 := lH (Wa.OwnT.tl (he1 HK.out) hq)
    rw [HK.out]
    simp only [if_true]
    clear he1
    go_wp2_with fail
    refine (enclose_is HM2 w1 HO1.out (by have := hb1.size;omega) (by rw [List.length_map];omega) (by decide)).mono ?_
    rintro e w2 ⟨v2,rfl,hb2,ho2⟩
    have HL2 := lH (Wa.OwnT.tl ho2 (show q ≤ w1.heap.size by have := hb1.size;omega))
    have b2 := nx hb1 hb2
    obtain ⟨a2,c2,e2⟩ := HL2.out.len
    rw [HN.out] at e2
    subst e2
    clear ho2
    go_wp2
    go_loopw [7,23] (fun s i wr => ∃ k : Nat,k ≤ m ∧ i = .int .i64 k ∧ s = .int .i64 (Wa.wl (M.take k) : Nat) ∧ Below w.heap.size w wr ∧ Below w2.heap.size w2 wr) (fun _ i _ => m - (intOf i).toNat)
    case atStart => exact ⟨0,Nat.zero_le _,rfl,by simp [Wa.wl],b2,Below.refl _ _⟩
    case round =>
      obtain ⟨k,hk,rfl,rfl,hb,hbb⟩ := hrel
      by_cases hlt : k < m
      · have hkl : k < M.length := by rw [HN.out];exact hlt
        have hlt2 : (k : Int) < m := by omega
        obtain ⟨b,off,c,e,hc,_⟩ := Wa.TL.get HL2.out hbb hkl
        rw [HN.out] at e
        simp only [Value.slice.injEq] at e
        obtain ⟨rfl,-,rfl⟩ := e
        have hsx := HSh.out _ (List.getElem_mem hkl)
        have hw1 := wl_le M HSh.out k
        have HW := lH (tlw hkl)
        obtain ⟨x,hx⟩ : ∃ x,M[k] = x := ⟨_,rfl⟩
        rw [hx] at hc hsx HW
        obtain ⟨z,hz⟩ : ∃ z,Wa.wl (M.take k) = z := ⟨_,rfl⟩
        rw [hz] at hw1 HW ⊢
        obtain ⟨f,hf⟩ : ∃ f,Cr.frm x = f := ⟨_,rfl⟩
        have hfs : f.size = x.size + 6 := by rw [← hf,Cr.frm_size]
        have HL := lH ((lay_one hsx).trans (by rw [hf]))
        obtain ⟨V,hV⟩ : ∃ Q_ : World,wr.alloc (.cells #[.string x] 9) = Q_ := ⟨_,rfl⟩
        have tV := hV ▸ tl_one (q := q) x (w := wr) (by have := hb.size;omega)
        have bV : Below wr.heap.size wr V := hV ▸ below1 wr _
        have b3 := nx hb bV
        have h9 : z + f.size ≤ 1000000000 := by omega
        clear hx hz hf
        go_wp2_with fail
        refine (lay_is HL _ V tV (by simp) (fun y hy => by simp at hy;subst hy;unfold maxLen;omega) (HT.out.below b3)).mono ?_
        rintro e w3 ⟨rfl,hb3⟩
        go_wp2
        go_roundw
        case rel => exact ⟨k + 1,by omega,by go_num,by rw [HW.out,← hfs];push_cast;go_num,nx b3 hb3,nx hbb (nx bV hb3)⟩
        case measure => simp [intOf];omega
      · obtain rfl : k = m := by omega
        have HF : Hid (Wa.wl (M.take k) = Wa.wl M) := lH (by rw [List.take_of_length_le (by rw [HN.out];exact Nat.le_refl _)])
        go_wp2
        go_ret
        exact ⟨by rw [← HF.out];rfl,hb⟩
end Go.Proofs.YtnnbjhpkgndclaaGreatDoor.St
namespace Go.Proofs.YtnnbjhpkgndclaaGreatDoor.St
open Go.RowKit
open Go.Proofs.YtnnbjhpkgndclaaGreatDoor.Rw
open Go.Proofs.YtnnbjhpkgndclaaGreatDoor.Da
open Go.Proofs.YtnnbjhpkgndclaaGreatDoor.Bv
open Go.Proofs.YtnnbjhpkgndclaaGreatDoor.Rc (Ins ci zeroI okI)
open Go.Proofs.YtnnbjhpkgndclaaGreatDoor.Wa (TL OwnT layN fitsN Short)
open Go.Proofs.YtnnbjhpkgndclaaGreatDoor.Dk (Ds DV Post2 PostD Ok readS readE at2 now_wt)
def AnP (q : Nat) (r : An) (w : World) (e : Ending) (w' : World) : Prop := ∃ v tv,e = .returned (.tuple #[v,tv,.int .i64 r.z,.int .i64 r.g,.int .i64 r.e]) ∧ Below w.heap.size w w' ∧ DV q r.d v w' ∧ TI q r.t tv w'
theorem anP {q : Nat} {r s : An} {v tv : Value} {w w' : World} (H : Hid (r = s)) (hb : Below w.heap.size w w') (h : DV q s.d v w') (ht : TI q s.t tv w') : AnP q r w (.returned (.tuple #[v,tv,.int .i64 s.z,.int .i64 s.g,.int .i64 s.e])) w' := by
  rw [H.out];exact ⟨v,tv,rfl,hb,h,ht⟩
theorem tab_facts (d : Ds) (n : Int) (hw : d.wt ≤ 300000) : ((tabP d n).2 = 0 ∨ (tabP d n).2 = 1) ∧ 0 ≤ (tabP d n).1.g ∧ (tabP d n).1.g < 4294967296 ∧ (tabP d n).1.t.length ≤ 50000 ∧ Srt (tabP d n).1.t ∧ okT (tabP d n).1.t n = true ∧ CN (tabP d n).1.t := by
  have hn := now_wt d
  obtain ⟨a1,a2,a3,a4,a5,a6,_⟩ := zs_table d.now.1 n
  obtain ⟨b1,b2,b3,b4,b5,b6,_⟩ := zs_table d.now.2 n
  have hz : (0 : Int) = 0 ∨ (0 : Int) = 1 := .inl rfl
  have z : 0 ≤ zero.g ∧ zero.g < 4294967296 ∧ zero.t.length ≤ 50000 ∧ Srt zero.t ∧ okT zero.t n = true ∧ CN zero.t := ⟨by decide,by decide,Nat.zero_le _,List.Pairwise.nil,rfl,fun i hi => by cases hi⟩
  unfold tabP
  by_cases h0 : d.n = true
  · rw [if_pos h0];exact ⟨hz,z⟩
  · rw [if_neg h0]
    unfold pick
    have hb : (zs d.now.2 n).t.length ≤ 50000 := by omega
    have ha : (zs d.now.1 n).t.length ≤ 50000 := by omega
    by_cases h1 : (zs d.now.2 n).c = true ∧ (if (zs d.now.1 n).c = true then zs d.now.1 n else zero).g < (zs d.now.2 n).g
    · rw [if_pos h1];exact ⟨.inr rfl,b5,b6,hb,b1,b2,b3⟩
    · rw [if_neg h1]
      by_cases h2 : (zs d.now.1 n).c = true
      · rw [if_pos h2];exact ⟨hz,a5,a6,ha,a1,a2,a3⟩
      · rw [if_neg h2];exact ⟨hz,z⟩
theorem rewrite_is {q : Nat} {d : Ds} {t : List Ins} {z g n : Int} {r : Ds × Int} (H : Hid (rewP d t z g n = r)) (v tv : Value) (w : World) (h : DV q d v w) (ht : TI q t tv w) (hq : q ≤ w.heap.size) (hk : Ok 400000 400 d) (hm : t.length ≤ 50000) (hg : 0 ≤ g ∧ g ≤ 1099511627776) (hT : Tbs w) :
    Calls Tryz.prog 31 #[v,tv,.int .i64 z,.int .i64 g,.int .i64 n] w (Post2 q r w) := by
  rw [← H.out];exact rewrite_any q d v tv t z g n w h ht hq hk hm hg hT
set_option maxRecDepth 8000 in
set_option maxHeartbeats 8000000 in
theorem open_any (q : Nat) (d : Ds) (v : Value) (n : Int) (w : World) (h : DV q d v w) (hq : q ≤ w.heap.size) (hk : Ok 300000 300 d) (hT : Tbs w) :
    Calls Tryz.prog 17 #[v,.int .i64 n] w (AnP q (opnP d n) w) := by
  obtain ⟨cs,rfl,hs,h1,_,hc5⟩ := dv_open h
  obtain ⟨U,hU⟩ : ∃ Q_ : World,(w.alloc (.cells cs 27)).alloc (.cells z6 27) = Q_ := ⟨_,rfl⟩
  have bU : Below w.heap.size w U := hU ▸ below2 w _ _
  obtain ⟨xA,xB⟩ : Bx U w.heap.size cs 27 ∧ Bx U (w.heap.size + 1) z6 27 := hU ▸ bx2 w _ _ _ _
  have HD := lH (show ∀ u,Below w.heap.size w u → DV q d (.agg cs) u ∧ Tbs u from fun u hu => ⟨h.stays hu,hT.below hu⟩)
  obtain ⟨r,hr⟩ : ∃ r,opnP d n = r := ⟨_,rfl⟩
  have HR := lH hr
  rw [hr]
  have rA := xA.row
  have cA := xA.cell 5
  rw [hc5] at cA
  have pB := xB.plain (n := 6) rfl
  clear h hT hr
  cases hdn : d.n with
  | true =>
    have HX : Hid (r = ⟨d,[],0,0,15⟩) := lH (by rw [← HR.out];unfold opnP;rw [hdn,if_pos rfl])
    rw [hdn] at cA
    clear hdn
    go_enter Tryz.func17,Tryz.ntmps17
    go_wp2
    exact bodyPost_ret (v := .tuple #[.agg cs,.slice none 0 0,.int .i64 0,.int .i64 0,.int .i64 15]) (ret_D5 Tryz.results17 _ _ hs (xB.put _).row) rfl (anP HX (below_setRow bU (by omega) _) (dv_row cs (HD.out _ bU).1 xB (by decide) (by omega)) (Is.nil _ _ _ _))
  | false =>
    rw [hdn] at cA
    by_cases hn : 1 ≤ n ∧ n ≤ 7
    · have HO : Hid (r = (if (tabP d n).1.w then ⟨d,(tabP d n).1.t,(tabP d n).2,(tabP d n).1.g,0⟩
     else if (rewP d (tabP d n).1.t (if 0 < (tabP d n).1.g then 1 - (tabP d n).2 else 0) (tabP d n).1.g n).2 = 0 then
      ⟨(rewP d (tabP d n).1.t (if 0 < (tabP d n).1.g then 1 - (tabP d n).2 else 0) (tabP d n).1.g n).1,(tabP d n).1.t,if 0 < (tabP d n).1.g then 1 - (tabP d n).2 else 0,(tabP d n).1.g + 1,0⟩
     else ⟨(rewP d (tabP d n).1.t (if 0 < (tabP d n).1.g then 1 - (tabP d n).2 else 0) (tabP d n).1.g n).1,[],0,0,(rewP d (tabP d n).1.t (if 0 < (tabP d n).1.g then 1 - (tabP d n).2 else 0) (tabP d n).1.g n).2⟩)) := lH (by
        rw [← HR.out];unfold opnP;rw [hdn,if_neg (by decide),if_pos hn])
      obtain ⟨f1,f2,f3,f4,f5,f6,f7⟩ := tab_facts d n hk.wt
      obtain ⟨⟨⟨g,t,c,wh⟩,z⟩,hz⟩ : ∃ p,tabP d n = p := ⟨_,rfl⟩
      rw [hz] at HO f1 f2 f3 f4
      simp only at HO f1 f2 f3 f4
      have HZ := lH hz
      have hn1 : decide (n < 1) = false := decide_eq_false (by omega)
      have hn2 : decide (n > 7) = false := decide_eq_false (by omega)
      clear hz HR f5 f6 f7 hdn
      go_enter Tryz.func17,Tryz.ntmps17
      go_wp2_with fail
      refine (table_is HZ _ U (HD.out _ bU).1 (by have := bU.size;omega) (hk.mono (by decide) (by decide)) (HD.out _ bU).2).mono ?_
      rintro e w1 ⟨tv,rfl,hb1,hti⟩
      simp only at hti ⊢
      have b1 := nx bU hb1
      have yA := xA.stays hb1
      have yB := xB.stays hb1
      have HTi := lH hti
      have rA1 := yA.row
      have pB1 := yB.plain (n := 6) rfl
      clear hti rA cA pB xA xB
      cases wh with
      | true =>
        have HX : Hid (r = ⟨d,t,z,g,0⟩) := lH (by rw [HO.out,if_pos rfl])
        go_wp2
        exact bodyPost_ret (v := .tuple #[.agg cs,tv,.int .i64 z,.int .i64 g,.int .i64 0]) (ret_D5 Tryz.results17 _ _ hs (yB.put _).row) rfl (anP HX (below_setRow b1 (by omega) _) (dv_row cs (HD.out _ b1).1 yB (by decide) (by omega)) (ti_row _ HTi.out yB (by decide) (by omega)))
      | false =>
        obtain ⟨to,hto⟩ : ∃ to,(if 0 < g then 1 - z else 0) = to := ⟨_,rfl⟩
        obtain ⟨⟨p,k⟩,hp⟩ : ∃ p,rewP d t to g n = p := ⟨_,rfl⟩
        have HP := lH hp
        have HO2 : Hid (r = if k = 0 then ⟨p,t,to,g + 1,0⟩ else ⟨p,[],0,0,k⟩) := lH (by rw [HO.out,if_neg (by simp),hto,hp])
        have hgw : IntKind.i64.wrap (g + 1) = g + 1 := IntWalk.i64_in _ (by omega)
        clear HO hp
        have key : ∀ (X : World),Below w1.heap.size w1 X → True := fun _ _ => trivial
        by_cases hg : 0 < g
        · have hg1 : decide (g > 0) = true := decide_eq_true hg
          obtain rfl : 1 - z = to := by rw [← hto,if_pos hg]
          go_wp2_with fail
          refine (other_any z w1 (by omega)).mono ?_
          rintro e w' ⟨rfl,rfl⟩
          go_wp2_with fail
          refine (rewrite_is HP _ tv w1 (HD.out _ b1).1 HTi.out (by have := b1.size;omega) (hk.mono (by decide) (by decide)) f4 (by omega) (HD.out _ b1).2).mono ?_
          rintro e w2 ⟨v2,rfl,hb2,hd2⟩
          simp only at hd2 ⊢
          have b2 := nx b1 hb2
          have zA := yA.stays hb2
          have zB := yB.stays hb2
          obtain ⟨cs1,rfl,hs1,o1,_,_⟩ := dv_open hd2
          have pA := zA.plain (n := 6) hs
          obtain ⟨X,hX⟩ : ∃ Q_ : World,w2.setRow w.heap.size cs1 = Q_ := ⟨_,rfl⟩
          have wA : Bx X w.heap.size cs1 27 := hX ▸ zA.put _
          have wB : Bx X (w.heap.size + 1) z6 27 := hX ▸ zB.put' (by omega) _
          have bX : Below w.heap.size w X := hX ▸ below_setRow b2 (Nat.le_refl _) _
          have dX : DV q p (.agg cs1) X := hX ▸ dv_row cs1 hd2 zA (by decide) hq
          have tX : TI q t tv X := hX ▸ ti_row cs1 (HTi.out.stays hb2) zA (by decide) hq
          have rX := wA.row
          have pX := wB.plain (n := 6) rfl
          have TX := lH tX
          clear rA1 pB1 yA yB zA zB hd2 tX
          by_cases h0 : k = 0
          · subst h0
            have HX : Hid (r = ⟨p,t,1 - z,g + 1,0⟩) := lH (by rw [HO2.out,if_pos rfl])
            go_wp2
            exact bodyPost_ret (v := .tuple #[.agg cs1,tv,.int .i64 (1 - z),.int .i64 (g + 1),.int .i64 0]) (ret_D5 Tryz.results17 _ _ hs1 (wB.put _).row) rfl (anP HX (below_setRow bX (by omega) _) (dv_row cs1 dX wB (by decide) (by omega)) (ti_row _ TX.out wB (by decide) (by omega)))
          · have HX : Hid (r = ⟨p,[],0,0,k⟩) := lH (by rw [HO2.out,if_neg h0])
            have hk0 : (k != 0) = true := by simpa using h0
            go_wp2
            exact bodyPost_ret (v := .tuple #[.agg cs1,.slice none 0 0,.int .i64 0,.int .i64 0,.int .i64 k]) (ret_D5 Tryz.results17 _ _ hs1 (wB.put _).row) rfl (anP HX (below_setRow bX (by omega) _) (dv_row cs1 dX wB (by decide) (by omega)) (Is.nil _ _ _ _))
        · have hg1 : decide (g > 0) = false := decide_eq_false hg
          obtain rfl : (0 : Int) = to := by rw [← hto,if_neg hg]
          go_wp2_with fail
          refine (rewrite_is HP _ tv w1 (HD.out _ b1).1 HTi.out (by have := b1.size;omega) (hk.mono (by decide) (by decide)) f4 (by omega) (HD.out _ b1).2).mono ?_
          rintro e w2 ⟨v2,rfl,hb2,hd2⟩
          simp only at hd2 ⊢
          have b2 := nx b1 hb2
          have zA := yA.stays hb2
          have zB := yB.stays hb2
          obtain ⟨cs1,rfl,hs1,o1,_,_⟩ := dv_open hd2
          have pA := zA.plain (n := 6) hs
          obtain ⟨X,hX⟩ : ∃ Q_ : World,w2.setRow w.heap.size cs1 = Q_ := ⟨_,rfl⟩
          have wA : Bx X w.heap.size cs1 27 := hX ▸ zA.put _
          have wB : Bx X (w.heap.size + 1) z6 27 := hX ▸ zB.put' (by omega) _
          have bX : Below w.heap.size w X := hX ▸ below_setRow b2 (Nat.le_refl _) _
          have dX : DV q p (.agg cs1) X := hX ▸ dv_row cs1 hd2 zA (by decide) hq
          have tX : TI q t tv X := hX ▸ ti_row cs1 (HTi.out.stays hb2) zA (by decide) hq
          have rX := wA.row
          have pX := wB.plain (n := 6) rfl
          have TX := lH tX
          clear rA1 pB1 yA yB zA zB hd2 tX
          by_cases h0 : k = 0
          · subst h0
            have HX : Hid (r = ⟨p,t,0,g + 1,0⟩) := lH (by rw [HO2.out,if_pos rfl])
            go_wp2
            exact bodyPost_ret (v := .tuple #[.agg cs1,tv,.int .i64 0,.int .i64 (g + 1),.int .i64 0]) (ret_D5 Tryz.results17 _ _ hs1 (wB.put _).row) rfl (anP HX (below_setRow bX (by omega) _) (dv_row cs1 dX wB (by decide) (by omega)) (ti_row _ TX.out wB (by decide) (by omega)))
          · have HX : Hid (r = ⟨p,[],0,0,k⟩) := lH (by rw [HO2.out,if_neg h0])
            have hk0 : (k != 0) = true := by simpa using h0
            go_wp2
            exact bodyPost_ret (v := .tuple #[.agg cs1,.slice none 0 0,.int .i64 0,.int .i64 0,.int .i64 k]) (ret_D5 Tryz.results17 _ _ hs1 (wB.put _).row) rfl (anP HX (below_setRow bX (by omega) _) (dv_row cs1 dX wB (by decide) (by omega)) (Is.nil _ _ _ _))
    · have HX : Hid (r = ⟨d,[],0,0,1⟩) := lH (by rw [← HR.out];unfold opnP;rw [hdn,if_neg (by decide),if_neg hn])
      clear hdn
      by_cases hn1 : n < 1
      · have hn1' : decide (n < 1) = true := decide_eq_true hn1
        go_enter Tryz.func17,Tryz.ntmps17
        go_wp2
        exact bodyPost_ret (v := .tuple #[.agg cs,.slice none 0 0,.int .i64 0,.int .i64 0,.int .i64 1]) (ret_D5 Tryz.results17 _ _ hs (xB.put _).row) rfl (anP HX (below_setRow bU (by omega) _) (dv_row cs (HD.out _ bU).1 xB (by decide) (by omega)) (Is.nil _ _ _ _))
      · have hn1' : decide (n < 1) = false := decide_eq_false hn1
        have hn2' : decide (n > 7) = true := decide_eq_true (by omega)
        go_enter Tryz.func17,Tryz.ntmps17
        go_wp2
        exact bodyPost_ret (v := .tuple #[.agg cs,.slice none 0 0,.int .i64 0,.int .i64 0,.int .i64 1]) (ret_D5 Tryz.results17 _ _ hs (xB.put _).row) rfl (anP HX (below_setRow bU (by omega) _) (dv_row cs (HD.out _ bU).1 xB (by decide) (by omega)) (Is.nil _ _ _ _))
theorem add_down {d : Ds} {t l : List Ins} {z g n : Int} (h : d.n = true) : addP d t z g n l = ⟨d,t,z,g,15⟩ := by unfold addP;rw [h,if_pos rfl]
theorem add_bad {d : Ds} {t l : List Ins} {z g n : Int} (h : d.n = false) (k : ¬ (l ≠ [] ∧ (z = 0 ∨ z = 1) ∧ 1 ≤ g)) : addP d t z g n l = ⟨d,t,z,g,1⟩ := by
  unfold addP;rw [h,if_neg (by decide),if_neg (fun j => k ⟨j.1,j.2.1,j.2.2.1⟩)]
theorem add_frm {d : Ds} {t l : List Ins} {z g n k : Int} (h : d.n = false) (j : l ≠ [] ∧ (z = 0 ∨ z = 1) ∧ 1 ≤ g) (hk : frmE l n = k) (h0 : k ≠ 0) : addP d t z g n l = ⟨d,t,z,g,k⟩ := by
  unfold addP frmE at *
  rw [h,if_neg (by decide)]
  by_cases hok : okT l n = true
  · rw [if_pos hok] at hk
    rw [if_pos ⟨j.1,j.2.1,j.2.2,hok⟩,hk,if_neg h0]
  · rw [if_neg hok] at hk
    rw [if_neg (fun q => hok q.2.2.2),hk]
theorem add_wri {d : Ds} {t l : List Ins} {z g n : Int} {x : ByteArray} (h : d.n = false) (j : l ≠ [] ∧ (z = 0 ∨ z = 1) ∧ 1 ≤ g) (hk : frmE l n = 0) (hx : frmS l n = x) : addP d t z g n l = if (wriP d z x).2 = 0 then ⟨(wriP d z x).1,puts t l,z,g,0⟩
       else if (wriP d z x).2 = 10 then
        (if (rewP d (puts t l) (1 - z) g n).2 = 0 then ⟨(rewP d (puts t l) (1 - z) g n).1,puts t l,1 - z,g + 1,0⟩ else ⟨(rewP d (puts t l) (1 - z) g n).1,t,z,g,(rewP d (puts t l) (1 - z) g n).2⟩)
       else ⟨(wriP d z x).1,t,z,g,(wriP d z x).2⟩ := by
  have hok : okT l n = true := by
    unfold frmE at hk
    by_cases hok : okT l n = true
    · exact hok
    · rw [if_neg hok] at hk;cases hk
  unfold frmE at hk
  unfold frmS at hx
  rw [if_pos hok] at hk hx
  unfold addP
  rw [h,if_neg (by decide),if_pos ⟨j.1,j.2.1,j.2.2,hok⟩,hk,if_pos rfl,hx]
theorem wri_ten {d : Ds} {z : Int} {x : ByteArray} (h : (wriP d z x).2 = 10) : (wriP d z x).1 = d := by
  unfold wriP at *
  by_cases h0 : (Dk.appP d z x).2 = 0
  · rw [if_pos h0] at h
    unfold Dk.synP at h
    split at h
    · simp at h
    split at h <;> simp at h
  · rw [if_neg h0] at h ⊢
    unfold Dk.appP at *
    split
    · rfl
    split
    · rfl
    split
    · rfl
    · rename_i a b c
      rw [if_neg a,if_neg b,if_neg c] at h
      unfold Dk.doP at h
      split at h <;> simp at h
set_option maxRecDepth 8000 in
set_option maxHeartbeats 16000000 in
theorem append_any (q : Nat) (d : Ds) (v tv lv : Value) (t l : List Ins) (z g n : Int) (w : World) (h : DV q d v w) (ht : TI q t tv w) (hl : TI q l lv w) (hq : q ≤ w.heap.size) (hk : Ok 300000 300 d) (hT : Tbs w) (hg : g ≤ 1000000000000) (hg0 : -9223372036854775808 ≤ g) (htl : t.length ≤ 40000) (hll : l.length ≤ 1000) (hsr : Srt t) :
    Calls Tryz.prog 11 #[v,tv,.int .i64 z,.int .i64 g,.int .i64 n,lv] w (AnP q (addP d t z g n l) w) := by
  obtain ⟨cs,rfl,hs,h1,_,hc5⟩ := dv_open h
  obtain ⟨U,hU⟩ : ∃ Q_ : World,(w.alloc (.cells cs 27)).alloc (.cells z6 27) = Q_ := ⟨_,rfl⟩
  have bU : Below w.heap.size w U := hU ▸ below2 w _ _
  obtain ⟨xA,xB⟩ : Bx U w.heap.size cs 27 ∧ Bx U (w.heap.size + 1) z6 27 := hU ▸ bx2 w _ _ _ _
  have HD := lH (show ∀ u,Below w.heap.size w u → DV q d (.agg cs) u ∧ Tbs u ∧ TI q t tv u ∧ TI q l lv u from fun u hu => ⟨h.stays hu,hT.below hu,ht.stays hu,hl.stays hu⟩)
  obtain ⟨a9,c9,rfl⟩ := hl.len
  obtain ⟨m,hm⟩ : ∃ m,l.length = m := ⟨_,rfl⟩
  have HM := lH hm
  rw [hm] at hll HD ⊢
  have HS := lH hsr
  obtain ⟨r,hr⟩ : ∃ r,addP d t z g n l = r := ⟨_,rfl⟩
  have HR := lH hr
  rw [hr]
  have rA := xA.row
  have cA := xA.cell 5
  rw [hc5] at cA
  have pB := xB.plain (n := 6) rfl
  clear h hT ht hl hr hm hsr
  cases hdn : d.n with
  | true =>
    have HX : Hid (r = ⟨d,t,z,g,15⟩) := lH (HR.out.symm.trans (add_down hdn))
    rw [hdn] at cA
    clear hdn
    go_enter Tryz.func11,Tryz.ntmps11
    go_wp2
    exact bodyPost_ret (v := .tuple #[.agg cs,tv,.int .i64 z,.int .i64 g,.int .i64 15]) (ret_D5 Tryz.results11 _ _ hs (xB.put _).row) rfl (anP HX (below_setRow bU (by omega) _) (dv_row cs (HD.out _ bU).1 xB (by decide) (by omega)) (ti_row _ (HD.out _ bU).2.2.1 xB (by decide) (by omega)))
  | false =>
    rw [hdn] at cA
    have HDn := lH hdn
    clear hdn
    have hml : l ≠ [] ↔ m ≠ 0 := by
      rw [← HM.out];exact ⟨fun h => by have := List.length_pos_iff.2 h;omega,fun h e => h (by rw [e];rfl)⟩
    have HML := lH hml
    clear hml
    by_cases hgood : m ≠ 0 ∧ (z = 0 ∨ z = 1) ∧ 1 ≤ g
    · have HJ : Hid (l ≠ [] ∧ (z = 0 ∨ z = 1) ∧ 1 ≤ g) := lH ⟨HML.out.2 hgood.1,hgood.2⟩
      obtain ⟨x,hx⟩ : ∃ x,frmS l n = x := ⟨_,rfl⟩
      obtain ⟨k,hk9⟩ : ∃ k,frmE l n = k := ⟨_,rfl⟩
      have hxs : x.size ≤ 60000 := by
        rw [← hx];unfold frmS;split
        · exact Wa.layN_max _ _ (by decide)
        · exact Nat.zero_le _
      have HF := lH (⟨hx,hk9⟩ : frmS l n = x ∧ frmE l n = k)
      have q1 : ((m : Int) == 0) = false := by have := hgood.1;simp;omega
      have q2 : decide (z < 0) = false := decide_eq_false (by have := hgood.2.1;omega)
      have q3 : decide (z ≥ 2) = false := decide_eq_false (by have := hgood.2.1;omega)
      have q4 : decide (g < 1) = false := decide_eq_false (by have := hgood.2.2;omega)
      have hz01 := hgood.2.1
      have hg1 := hgood.2.2
      clear hx hk9 hgood
      go_enter Tryz.func11,Tryz.ntmps11
      go_wp2_with fail
      refine (frame_is HF _ U (HD.out _ bU).2.2.2 (by have := bU.size;omega) (by rw [HM.out];omega) (HD.out _ bU).2.1).mono ?_
      rintro e w1 ⟨rfl,hb1⟩
      have b1 := nx bU hb1
      have yA := xA.stays hb1
      have yB := xB.stays hb1
      have rA1 := yA.row
      have pB1 := yB.plain (n := 6) rfl
      clear rA cA pB xA xB
      by_cases h0 : k = 0
      · subst h0
        have HW := lH (HR.out.symm.trans (add_wri (t := t) HDn.out HJ.out HF.out.2 HF.out.1))
        go_wp2_with fail
        refine (with_any q t l tv _ w1 (HD.out _ b1).2.2.1 (HD.out _ b1).2.2.2 (by have := b1.size;omega) (by omega) (by rw [HM.out];omega) HS.out).mono ?_
        rintro e w2 ⟨mv,rfl,hb2,ho2⟩
        have HMo := lH (OwnI.ti ho2 (show q ≤ w1.heap.size by have := b1.size;omega))
        have b2 := nx b1 hb2
        have zA := yA.stays hb2
        have zB := yB.stays hb2
        have rA2 := zA.row
        have pB2 := zB.plain (n := 6) rfl
        obtain ⟨⟨p,k⟩,hp⟩ : ∃ p,wriP d z x = p := ⟨_,rfl⟩
        have HP := lH hp
        clear hp ho2 yA yB rA1 pB1
        go_wp2_with fail
        refine (write_is HP _ w2 (HD.out _ b2).1 (by have := b2.size;omega) (hk.mono (by decide) (by decide)) (by omega)).mono ?_
        rintro e w3 ⟨v3,rfl,hb3,hd3⟩
        simp only at hd3 ⊢
        have b3 := nx b2 hb3
        have yA := zA.stays hb3
        have yB := zB.stays hb3
        obtain ⟨cs1,rfl,hs1,o1,_,_⟩ := dv_open hd3
        have pA := yA.plain (n := 6) hs
        obtain ⟨X,hX⟩ : ∃ Q_ : World,w3.setRow w.heap.size cs1 = Q_ := ⟨_,rfl⟩
        have wA : Bx X w.heap.size cs1 27 := hX ▸ yA.put _
        have wB : Bx X (w.heap.size + 1) z6 27 := hX ▸ yB.put' (by omega) _
        have bX : Below w.heap.size w X := hX ▸ below_setRow b3 (Nat.le_refl _) _
        have dX : DV q p (.agg cs1) X := hX ▸ dv_row cs1 hd3 yA (by decide) hq
        have mX : TI q (puts t l) mv X := hX ▸ ti_row cs1 (HMo.out.stays hb3) yA (by decide) hq
        have rX := wA.row
        have pX := wB.plain (n := 6) rfl
        have tX : TI q t tv X := hX ▸ ti_row cs1 (HD.out _ b3).2.2.1 yA (by decide) hq
        have MX := lH mX
        have TX := lH tX
        clear rA2 pB2 yA yB zA zB hd3 mX tX
        have hgw : IntKind.i64.wrap (g + 1) = g + 1 := IntWalk.i64_in _ (by omega)
        have hzw : IntKind.i64.wrap (1 - z) = 1 - z := IntWalk.i64_in _ (by omega)
        by_cases h0 : k = 0
        · subst h0
          have HX : Hid (r = ⟨p,puts t l,z,g,0⟩) := lH (by rw [HW.out,HP.out,if_pos rfl])
          go_wp2
          exact bodyPost_ret (v := .tuple #[.agg cs1,mv,.int .i64 z,.int .i64 g,.int .i64 0]) (ret_D5 Tryz.results11 _ _ hs1 (wB.put _).row) rfl (anP HX (below_setRow bX (by omega) _) (dv_row cs1 dX wB (by decide) (by omega)) (ti_row _ MX.out wB (by decide) (by omega)))
        · have hk0 : (k == 0) = false := by simpa using h0
          have hk00 : (k != 0) = true := by simpa using h0
          by_cases h10 : k = 10
          · subst h10
            have hpd : p = d := by have := wri_ten (d := d) (z := z) (x := x) (by rw [HP.out]);rw [HP.out] at this;exact this
            subst hpd
            obtain ⟨⟨p2,k2⟩,hp2⟩ : ∃ r,rewP p (puts t l) (1 - z) g n = r := ⟨_,rfl⟩
            have HP2 := lH hp2
            have HX : Hid (r = if k2 = 0 then ⟨p2,puts t l,1 - z,g + 1,0⟩ else ⟨p2,t,z,g,k2⟩) := lH (by rw [HW.out,HP.out,if_neg (by simp),if_pos rfl,hp2])
            clear hp2
            have hpl : (puts t l).length ≤ 50000 := by have := puts_len t l;rw [HM.out] at this;omega
            have HA := lH wA
            have HB := lH wB
            have HDX := lH dX
            go_wp2
            clear dX hX
            refine Rh.rg (fun u => Below w.heap.size w u) (fun u => Below X.heap.size X u) (fun _ _ h k => nx h k) (fun _ _ h k => nx h k) (bX.drew) ((Below.refl _ _).drew) [1,2,3,4,5,0,6,7,8,9,10,11] ?_
            repeat (first | (refine Rh.Steps.sk ?_;simp only [Act.put,sA,sB,sC]) | (refine Rh.Steps.pu (v := ?_) ?_ ?_;rotate_left;(intro w_ hS_;skip;go_simp <;> with_reducible rfl);simp only [Act.put,sA,sB,sC]) | (refine Rh.Steps.ca (v := ?_) (f := ?_) (args := ?_) ?_ ?_ ?_;rotate_left 3;(intro w_ hS_;skip;go_simp <;> first | with_reducible rfl | (constructor <;> with_reducible rfl));(intro w_ hS_;skip;first | (go_at_call 32;refine (other_any z _ (by omega)).mono ?_;first | (rintro e w_ ⟨rfl,rfl⟩;refine ⟨?_,Below.refl _ _⟩;with_reducible rfl) | (rintro e w_ ⟨rfl,hb_⟩;refine ⟨?_,hb_⟩;with_reducible rfl)));simp only [Act.put,sA,sB,sC]))
            refine Rh.Steps.forced (i := 0) (by kernel_rfl) ?_
            refine Rh.One.val (fun v _ => v = .agg cs1) (fun _ _ _ h _ => h) (by rfl) (by rfl) ?_ ?_
            · intro w_ hS_ hG_
              have rr := (HA.out.stays hG_).row
              refine ⟨_,_,?_,Below.refl _ _,rfl⟩
              go_simp
            intro v8 u8 hv8
            simp only [Act.put,sA,sB,sC]
            obtain rfl : v8 = .agg cs1 := hv8
            refine Rh.Steps.forced (i := 6) (by kernel_rfl) ?_
            refine Rh.One.call (fun v u => ∃ v2,v = .tuple #[v2,.int .i64 k2] ∧ DV q p2 v2 u) (fun v _ _ h k => ⟨h.choose,h.choose_spec.1,h.choose_spec.2.stays k⟩) (f := ?_) (args := ?_) (by rfl) (by rfl) ?_ ?_ ?_
            rotate_left 2
            · intro w_ hS_ hG_;go_simp <;> first | with_reducible rfl | (constructor <;> with_reducible rfl)
            · intro w_ hS_ hG_;(go_at_call 31;refine (rewrite_is HP2 _ mv w_ (HDX.out.stays hG_.1) (MX.out.stays hG_.1) (by have := hS_.size;omega) (hk.mono (by decide) (by decide)) hpl (by omega) (HD.out _ hS_).2.1).mono ?_;rintro e w' ⟨v2,rfl,hb9,hd9⟩;exact ⟨_,rfl,hb9,v2,rfl,hd9⟩)
            intro v13 u_ hv13
            simp only [Act.put,sA,sB,sC]
            obtain ⟨v2,rfl,hd2⟩ := hv13
            obtain ⟨cs2,rfl,hs2,o2,_,_⟩ := dv_open hd2
            repeat (first | (refine Rh.Steps.sk ?_;simp only [Act.put,sA,sB,sC]) | (refine Rh.Steps.pu (v := ?_) ?_ ?_;rotate_left;(intro w_ hS_;skip;go_simp <;> with_reducible rfl);simp only [Act.put,sA,sB,sC]))
            refine Rh.Steps.forced (i := 10) (by kernel_rfl) ?_
            refine Rh.One.store (fun u => Below w.heap.size w u ∧ Bx u w.heap.size cs2 27 ∧ Bx u (w.heap.size + 1) z6 27 ∧ DV q p2 (.agg cs2) u ∧ TI q (puts t l) mv u ∧ TI q t tv u) (fun _ _ h k => ⟨nx h.1 k,h.2.1.stays k,h.2.2.1.stays k,h.2.2.2.1.stays k,h.2.2.2.2.1.stays k,h.2.2.2.2.2.stays k⟩) (by rfl) (by rfl) ?_ ?_
            · intro w_ hS_ hG_
              have ha := HA.out.stays hG_.1.1
              have hb9 := HB.out.stays hG_.1.1
              have pa := ha.plain (n := 6) hs1
              obtain ⟨v2',e2,hd'⟩ := hG_.2
              simp only [Value.tuple.injEq] at e2
              have e3 : v2' = .agg cs2 := by simpa using e2.symm
              subst e3
              have hlow := below_setRow hS_ (Nat.le_refl w.heap.size) cs2
              refine ⟨_,?_,hlow,hlow,ha.put _,hb9.put' (by omega) _,dv_row cs2 hd' ha (by decide) hq,ti_row cs2 (MX.out.stays hG_.1.1) ha (by decide) hq,ti_row cs2 (TX.out.stays hG_.1.1) ha (by decide) hq⟩
              go_simp
            repeat (first | (refine Rh.Steps.sk ?_;simp only [Act.put,sA,sB,sC]) | (refine Rh.Steps.pu (v := ?_) ?_ ?_;rotate_left;(intro w_ hS_;skip;go_simp <;> with_reducible rfl);simp only [Act.put,sA,sB,sC]))
            refine Rh.Steps.nil (by kernel_rfl) ?_
            intro u hS hG
            have HG := lH hG
            have rA3 := hG.2.1.row
            have pB3 := hG.2.2.1.plain (n := 6) rfl
            clear hG hd2
            by_cases h0 : k2 = 0
            · subst h0
              have HY : Hid (r = ⟨p2,puts t l,1 - z,g + 1,0⟩) := lH (by rw [HX.out,if_pos rfl])
              go_wp2
              refine Rh.rg (fun y => Below w.heap.size w y) (fun y => Below u.heap.size u y) (fun _ _ h k => nx h k) (fun _ _ h k => nx h k) (HG.out.1.drew) ((Below.refl _ _).drew) [1,2,3,4,5,0,6,7,8,9,10] ?_
              repeat (first | (refine Rh.Steps.sk ?_;simp only [Act.put,sA,sB,sC]) | (refine Rh.Steps.pu (v := ?_) ?_ ?_;rotate_left;(intro w_ hS_;skip;go_simp <;> with_reducible rfl);simp only [Act.put,sA,sB,sC]) | (refine Rh.Steps.ca (v := ?_) (f := ?_) (args := ?_) ?_ ?_ ?_;rotate_left 3;(intro w_ hS_;skip;go_simp <;> first | with_reducible rfl | (constructor <;> with_reducible rfl));(intro w_ hS_;skip;first | (go_at_call 32;refine (other_any z _ (by omega)).mono ?_;first | (rintro e w_ ⟨rfl,rfl⟩;refine ⟨?_,Below.refl _ _⟩;with_reducible rfl) | (rintro e w_ ⟨rfl,hb_⟩;refine ⟨?_,hb_⟩;with_reducible rfl)));simp only [Act.put,sA,sB,sC]))
              refine Rh.Steps.forced (i := 0) (by kernel_rfl) ?_
              refine Rh.One.val (fun v _ => v = .agg cs2) (fun _ _ _ h _ => h) (by rfl) (by rfl) ?_ ?_
              · intro w_ hS_ hG_
                have rr := (HG.out.2.1.stays hG_).row
                refine ⟨_,_,?_,Below.refl _ _,rfl⟩
                go_simp
              intro v8 u8 hv8
              simp only [Act.put,sA,sB,sC]
              obtain rfl : v8 = .agg cs2 := hv8
              refine Rh.Steps.forced (i := 6) (by kernel_rfl) ?_
              refine Rh.One.store (fun y => Below w.heap.size w y ∧ Bx y (w.heap.size + 1) cs2 27 ∧ DV q p2 (.agg cs2) y ∧ TI q (puts t l) mv y) (fun _ _ h k => ⟨nx h.1 k,h.2.1.stays k,h.2.2.1.stays k,h.2.2.2.stays k⟩) (by rfl) (by rfl) ?_ ?_
              · intro w_ hS_ hG_
                have ha := HG.out.2.2.1.stays hG_.1
                have pa := ha.plain (n := 6) rfl
                have hlow := below_setRow hS_ (show w.heap.size ≤ w.heap.size + 1 by omega) cs2
                refine ⟨_,?_,hlow,hlow,ha.put _,dv_row cs2 (HG.out.2.2.2.1.stays hG_.1) ha (by decide) (by omega),ti_row cs2 (HG.out.2.2.2.2.1.stays hG_.1) ha (by decide) (by omega)⟩
                go_simp
              repeat (first | (refine Rh.Steps.sk ?_;simp only [Act.put,sA,sB,sC]) | (refine Rh.Steps.pu (v := ?_) ?_ ?_;rotate_left;(intro w_ hS_;skip;go_simp <;> with_reducible rfl);simp only [Act.put,sA,sB,sC]))
              refine Rh.Steps.nil (by kernel_rfl) ?_
              intro y _ hy
              have HYG := lH hy
              clear hy rA3 pB3
              go_wp2
              exact bodyPost_ret (v := .tuple #[.agg cs2,mv,.int .i64 (1 - z),.int .i64 (g + 1),.int .i64 0]) (ret_D5 Tryz.results11 _ _ hs2 HYG.out.2.1.row) rfl (anP HY HYG.out.1 HYG.out.2.2.1 HYG.out.2.2.2)
            · have hk2 : (k2 != 0) = true := by simpa using h0
              have HY : Hid (r = ⟨p2,t,z,g,k2⟩) := lH (by rw [HX.out,if_neg h0])
              go_wp2
              exact bodyPost_ret (v := .tuple #[.agg cs2,tv,.int .i64 z,.int .i64 g,.int .i64 k2]) (ret_D5 Tryz.results11 _ _ hs2 (HG.out.2.2.1.put _).row) rfl (anP HY (below_setRow HG.out.1 (by omega) _) (dv_row cs2 HG.out.2.2.2.1 HG.out.2.2.1 (by decide) (by omega)) (ti_row _ HG.out.2.2.2.2.2 HG.out.2.2.1 (by decide) (by omega)))
          · have hk1 : (k == 10) = false := by simpa using h10
            have HX : Hid (r = ⟨p,t,z,g,k⟩) := lH (by rw [HW.out,HP.out,if_neg h0,if_neg h10])
            go_wp2
            exact bodyPost_ret (v := .tuple #[.agg cs1,tv,.int .i64 z,.int .i64 g,.int .i64 k]) (ret_D5 Tryz.results11 _ _ hs1 (wB.put _).row) rfl (anP HX (below_setRow bX (by omega) _) (dv_row cs1 dX wB (by decide) (by omega)) (ti_row _ TX.out wB (by decide) (by omega)))
      · have HX : Hid (r = ⟨d,t,z,g,k⟩) := lH (HR.out.symm.trans (add_frm HDn.out HJ.out HF.out.2 h0))
        have hk0 : (k != 0) = true := by simpa using h0
        go_wp2
        exact bodyPost_ret (v := .tuple #[.agg cs,tv,.int .i64 z,.int .i64 g,.int .i64 k]) (ret_D5 Tryz.results11 _ _ hs (yB.put _).row) rfl (anP HX (below_setRow b1 (by omega) _) (dv_row cs (HD.out _ b1).1 yB (by decide) (by omega)) (ti_row _ (HD.out _ b1).2.2.1 yB (by decide) (by omega)))
    · have HX : Hid (r = ⟨d,t,z,g,1⟩) := lH (HR.out.symm.trans (add_bad HDn.out (fun h => hgood ⟨HML.out.1 h.1,h.2⟩)))
      have hres := anP HX (below_setRow bU (show w.heap.size ≤ w.heap.size + 1 by omega) cs) (dv_row cs (HD.out _ bU).1 xB (by decide) (by omega)) (ti_row cs (HD.out _ bU).2.2.1 xB (by decide) (by omega))
      have HRes := lH hres
      clear hres
      by_cases g1 : m = 0
      · have q1 : ((m : Int) == 0) = true := by simp;omega
        go_enter Tryz.func11,Tryz.ntmps11
        go_wp2
        exact bodyPost_ret (v := .tuple #[.agg cs,tv,.int .i64 z,.int .i64 g,.int .i64 1]) (ret_D5 Tryz.results11 _ _ hs (xB.put _).row) rfl HRes.out
      · have q1 : ((m : Int) == 0) = false := by simp;omega
        by_cases g2 : z < 0
        · have q2 : decide (z < 0) = true := decide_eq_true g2
          go_enter Tryz.func11,Tryz.ntmps11
          go_wp2
          exact bodyPost_ret (v := .tuple #[.agg cs,tv,.int .i64 z,.int .i64 g,.int .i64 1]) (ret_D5 Tryz.results11 _ _ hs (xB.put _).row) rfl HRes.out
        · have q2 : decide (z < 0) = false := decide_eq_false g2
          by_cases g3 : z ≥ 2
          · have q3 : decide (z ≥ 2) = true := decide_eq_true g3
            go_enter Tryz.func11,Tryz.ntmps11
            go_wp2
            exact bodyPost_ret (v := .tuple #[.agg cs,tv,.int .i64 z,.int .i64 g,.int .i64 1]) (ret_D5 Tryz.results11 _ _ hs (xB.put _).row) rfl HRes.out
          · have q3 : decide (z ≥ 2) = false := decide_eq_false g3
            have q4 : decide (g < 1) = true := decide_eq_true (by
              rcases Int.lt_or_le g 1 with h | h
              · exact h
              · exact absurd ⟨g1,by omega,h⟩ hgood)
            go_enter Tryz.func11,Tryz.ntmps11
            go_wp2
            exact bodyPost_ret (v := .tuple #[.agg cs,tv,.int .i64 z,.int .i64 g,.int .i64 1]) (ret_D5 Tryz.results11 _ _ hs (xB.put _).row) rfl HRes.out
theorem append_is {q : Nat} {d : Ds} {t l : List Ins} {z g n : Int} {r : An} (H : Hid (addP d t z g n l = r)) (v tv lv : Value) (w : World) (h : DV q d v w) (ht : TI q t tv w) (hl : TI q l lv w) (hq : q ≤ w.heap.size) (hk : Ok 300000 300 d) (hT : Tbs w) (hg : g ≤ 1000000000000) (hg0 : -9223372036854775808 ≤ g) (htl : t.length ≤ 40000) (hll : l.length ≤ 1000) (hsr : Srt t) :
    Calls Tryz.prog 11 #[v,tv,.int .i64 z,.int .i64 g,.int .i64 n,lv] w (AnP q r w) := by
  rw [← H.out];exact append_any q d v tv lv t l z g n w h ht hl hq hk hT hg hg0 htl hll hsr
end Go.Proofs.YtnnbjhpkgndclaaGreatDoor.St
