/- Package record: GetValue. -/
import Derived.Test.YtnnbjhpkgndclaaGreatDoorQsZZ
import Derived.Test.YtnnbjhpkgndclaaGreatDoorQsAS
import Derived.Test.YtnnbjhpkgndclaaGreatDoorQsAY
import Derived.Test.YtnnbjhpkgndclaaGreatDoorQsAZ
set_option linter.unusedVariables false
namespace Go.Proofs.YtnnbjhpkgndclaaGreatDoor.Rc
open Go.RowKit
open Go.Proofs.YtnnbjhpkgndclaaGreatDoor.Rw
open Go.Proofs.YtnnbjhpkgndclaaGreatDoor.Bv
open Go.Proofs.YtnnbjhpkgndclaaGreatDoor.Fx (enc enc_size putV dec getV oB wB)
open Go.Proofs.YtnnbjhpkgndclaaGreatDoor.Cm (chkB chkE numF Tab Bld string_any row_lt getV_arg oB_nat get_is readE readC readA rdC)
def gvC (s : ByteArray) (a n : Int) : Nat → Int := if gvE s a n = 0 then readC s a else Cm.zeroF
def gvQ (s : ByteArray) (a n : Int) : Int := if gvE s a n = 0 then dec s (a.toNat + 30) 4 else 0
def gvV (s : ByteArray) (a n : Int) : Nat → Int := if gvE s a n = 0 then gvD s (a.toNat + 34) (cl n) else Ve.zeroV
def gvA (s : ByteArray) (a n : Int) : Int := if gvE s a n = 0 then a + 34 + 2 * cl n else 0
abbrev gvT (s : ByteArray) (a n : Int) : Value := .tuple #[.agg (cv (gvC s a n) (gvQ s a n) (gvV s a n)),.int .i64 (gvA s a n),.int .i64 (gvE s a n)]
theorem gv_bad {s : ByteArray} {a n x : Int} (h : gvE s a n = x) (hx : x ≠ 0) : gvT s a n = .tuple #[.agg (cv Cm.zeroF 0 Ve.zeroV),.int .i64 0,.int .i64 x] := by
  unfold gvT gvC gvQ gvV gvA
  rw [h,if_neg hx,if_neg hx,if_neg hx,if_neg hx]
theorem cv_set9 (c d : Nat → Int) (q x : Int) : (cv c q d).setIfInBounds 9 (.int .i64 x) = cv c x d := rfl
theorem cv_setD (c d : Nat → Int) (q x : Int) (k : Nat) (hk : k < 7) : (cv c q d).setIfInBounds (10 + k) (.int .i64 x) = cv c q (Ve.upd d k x) := by
  match k,hk with
  | 0,_ => rfl
  | 1,_ => rfl
  | 2,_ => rfl
  | 3,_ => rfl
  | 4,_ => rfl
  | 5,_ => rfl
  | 6,_ => rfl
theorem gvD_zero (s : ByteArray) (b : Nat) : gvD s b 0 = Ve.zeroV := by funext i;simp [gvD,Ve.zeroV]
theorem gvD_succ (s : ByteArray) (b k : Nat) : Ve.upd (gvD s b k) k (dec s (b + 2 * k) 2) = gvD s b (k + 1) := by
  funext i
  unfold Ve.upd gvD
  by_cases h : i = k
  · subst h;simp
  · by_cases h2 : i < k
    · simp [h,h2,show i < k + 1 by omega]
    · simp [h,h2,show ¬ i < k + 1 by omega]
theorem get_w {s : ByteArray} {b k : Nat} (h : b + k ≤ s.size) (hk : 1 ≤ k ∧ k ≤ 7) : getV s b k = .tuple #[.int .i64 (dec s b k),.int .i64 0] := by
  unfold getV
  rw [oB_nat,show wB ((k : Nat) : Int) = true by unfold wB;simp;omega,decide_eq_true (by omega),if_pos (by rfl),if_pos (by omega),Int.toNat_natCast,Int.toNat_natCast]
theorem get_no {s : ByteArray} {b k : Nat} (h0 : b ≤ s.size) (h : s.size < b + k) (hk : 1 ≤ k ∧ k ≤ 7) : getV s b k = .tuple #[.int .i64 0,.int .i64 2] := by
  unfold getV
  rw [oB_nat,show wB ((k : Nat) : Int) = true by unfold wB;simp;omega,decide_eq_true h0,if_pos (by rfl),if_neg (by omega)]
theorem cl_le (n : Int) : cl n ≤ 7 := by unfold cl;split <;> (try split) <;> omega
theorem rd_ok {s : ByteArray} {a : Int} (h : readE s a = 0) : ∃ b : Nat,a = b ∧ b + 30 ≤ s.size ∧ readA s a = (b + 30 : Nat) := by
  obtain ⟨b,rfl,hb,_⟩ := Cm.write_rd h
  exact ⟨b,rfl,hb,by unfold readA;rw [if_pos h];omega⟩
theorem gvE_rd {s : ByteArray} {a n : Int} (h : readE s a ≠ 0) : gvE s a n = readE s a := by unfold gvE;rw [if_neg h]
theorem gvE_short {s : ByteArray} {b : Nat} {n : Int} (h : readE s b = 0) (hs : s.size < b + 34 + 2 * cl n) : gvE s b n = 2 := by
  unfold gvE;rw [if_pos h,Int.toNat_natCast,if_pos hs]
theorem gvE_no {s : ByteArray} {b : Nat} {n : Int} (h : readE s b = 0) (hs : b + 34 + 2 * cl n ≤ s.size) (ho : okV (readC s b) (dec s (b + 30) 4) (gvD s (b + 34) (cl n)) n = false) : gvE s b n = 3 := by
  unfold gvE;rw [if_pos h,Int.toNat_natCast,if_neg (by omega),ho];rfl
theorem gv_yes {s : ByteArray} {b : Nat} {n : Int} (h : readE s b = 0) (hs : b + 34 + 2 * cl n ≤ s.size) (ho : okV (readC s b) (dec s (b + 30) 4) (gvD s (b + 34) (cl n)) n = true) : gvT s b n = .tuple #[.agg (cv (readC s b) (dec s (b + 30) 4) (gvD s (b + 34) (cl n))),.int .i64 ((b : Int) + 34 + 2 * (cl n : Nat)),.int .i64 0] := by
  have e : gvE s b n = 0 := by unfold gvE;rw [if_pos h,Int.toNat_natCast,if_neg (by omega),ho];rfl
  unfold gvT gvC gvQ gvV gvA
  rw [e,if_pos rfl,if_pos rfl,if_pos rfl,if_pos rfl,Int.toNat_natCast]
theorem read_is {s : ByteArray} {a : Int} {c : Nat → Int} {x y : Int} (H : Hid (readC s a = c ∧ readA s a = x ∧ readE s a = y)) (hs : Hid (s.size ≤ 1000000)) (w : World) (ht : Tab w) :
    Calls Tryz.prog 145 #[.string s,.int .i64 a] w fun e w' => e = .returned (.tuple #[.agg (Cm.fc c),.int .i64 x,.int .i64 y]) ∧ Below w.heap.size w w' := by
  obtain ⟨rfl,rfl,rfl⟩ := H.out
  exact Cm.read_any s a (Nat.le_trans hs.out (by decide)) w ht
set_option maxRecDepth 8000 in
set_option maxHeartbeats 8000000 in
theorem getValue_any (s : ByteArray) (a n : Int) (hs : s.size ≤ 1000000) (w : World) (ht : Tab w) :
    Calls Tryz.prog 128 #[.string s,.int .i64 a,.int .i64 n] w fun e w' => e = .returned (gvT s a n) ∧ Below w.heap.size w w' := by
  have HS := lH hs
  have HM : Hid (s.size ≤ maxLen) := lH (Nat.le_trans hs (by decide))
  obtain ⟨V,hV⟩ : ∃ Q_ : World,w.alloc (.cells (cv Cm.zeroF 0 Ve.zeroV) 42) = Q_ := ⟨_,rfl⟩
  have bV : Below w.heap.size w V := hV ▸ below1 _ _
  have B0 : Bx V w.heap.size (cv Cm.zeroF 0 Ve.zeroV) 42 := hV ▸ Bx.new _ _ _
  have HT := lH (ht.below bV)
  have HB0 := lH B0
  obtain ⟨c,hc⟩ : ∃ x,readC s a = x := ⟨_,rfl⟩
  obtain ⟨x,hx⟩ : ∃ x,readA s a = x := ⟨_,rfl⟩
  obtain ⟨y,hy⟩ : ∃ x,readE s a = x := ⟨_,rfl⟩
  have HR := lH (⟨hc,hx,hy⟩ : readC s a = c ∧ readA s a = x ∧ readE s a = y)
  clear ht B0 hc hx hy
  by_cases h0 : y = 0
  · subst h0
    obtain ⟨b,hab,hb30,hbx⟩ := rd_ok HR.out.2.2
    obtain rfl : x = (b + 30 : Nat) := HR.out.2.1.symm.trans hbx
    subst hab
    clear hbx
    have hb0 : b ≤ 1000000 := by omega
    by_cases h34 : b + 34 ≤ s.size
    · obtain ⟨M,hM⟩ : ∃ M : Int,min n 7 = M := ⟨_,rfl⟩
      have hMl : ∀ k : Nat,k ≤ cl n → ((k : Int) < M ↔ k < cl n) := fun k hk => by
        unfold cl at hk ⊢
        by_cases h1 : n < 0
        · simp only [if_pos h1] at hk ⊢
          omega
        · by_cases h2 : 7 < n
          · simp only [if_neg h1,if_pos h2];omega
          · simp only [if_neg h1,if_neg h2];omega
      have HMl := lH hMl
      have hm7 : M ≤ 7 := by omega
      obtain ⟨q,hq⟩ : ∃ q : Nat,dec s (b + 30) 4 = q := ⟨_,rfl⟩
      have HG1 : Hid (getV s (b + 30 : Nat) (4 : Nat) = .tuple #[.int .i64 q,.int .i64 0]) := lH (by rw [get_w (by omega) (by decide),hq])
      have HQ := lH hq
      have e34 : (b : Int) + 30 + 4 = (b : Int) + 34 + 2 * (0 : Nat) := by omega
      have HE34 := lH e34
      clear hMl hq e34
      go_enter Tryz.func128,Tryz.ntmps128
      go_wp2_with fail
      refine (read_is HR HS _ HT.out).mono ?_
      rintro e w1 ⟨rfl,hb1⟩
      have C0 := HB0.out.stays hb1
      obtain ⟨U,hU⟩ : ∃ Q_ : World,(w1.alloc (.cells (Cm.fc c) 38)).alloc (.cells (cv c q Ve.zeroV) 42) = Q_ := ⟨_,rfl⟩
      have bU : Below w1.heap.size w1 U := hU ▸ below2 _ _ _
      have U0 := lH (C0.stays bU)
      have U1 : Hid (Bx U (w1.heap.size + 1) (cv c q (gvD s (b + 34) 0)) 42) := lH (by rw [gvD_zero];exact hU ▸ Bx.at (by simp) _ _)
      have hlt1 : w.heap.size < w1.heap.size := C0.lt
      have HU := lH hU
      have bWU := nx bV (nx hb1 bU)
      clear C0 hU
      go_wp2_with fail
      refine (get_is HM.out HG1 _).mono ?_
      rintro e w' ⟨rfl,rfl⟩
      go_wp2
      rw [cv_set9,HU.out,HE34.out]
      clear HU bU
      go_loopw [1,41] (fun at_ j wr => ∃ (k : Nat),k ≤ cl n ∧ j = .int .i64 k ∧ at_ = .int .i64 ((b : Int) + 34 + 2 * (k : Nat)) ∧ b + 34 + 2 * k ≤ s.size ∧ Bx wr w.heap.size (cv Cm.zeroF 0 Ve.zeroV) 42 ∧ Bx wr (w1.heap.size + 1) (cv c q (gvD s (b + 34) k)) 42 ∧ Below w.heap.size w wr) (fun _ j _ => 7 - (intOf j).toNat)
      case atStart => exact ⟨0,Nat.zero_le _,rfl,rfl,h34,U0.out,U1.out,bWU⟩
      case round =>
        obtain ⟨k,hk,rfl,rfl,hks,b0,b1,hb⟩ := hrel
        have hk7 := cl_le n
        clear U0 U1 bWU
        by_cases hlt : k < cl n
        · have hlt2 : (k : Int) < M := (HMl.out k hk).2 hlt
          have hk8 : k < 7 := by omega
          have hk9 : (k : Int) < 7 := by omega
          by_cases hin : b + 34 + 2 * k + 2 ≤ s.size
          · obtain ⟨z,hz⟩ : ∃ z : Nat,dec s (b + 34 + 2 * k) 2 = z := ⟨_,rfl⟩
            have HGk : Hid (getV s ((b : Int) + 34 + 2 * (k : Nat)) 2 = .tuple #[.int .i64 z,.int .i64 0]) := lH (by rw [show (b : Int) + 34 + 2 * (k : Nat) = ((b + 34 + 2 * k : Nat) : Int) by omega,← hz];exact get_w (k := 2) hin (by decide))
            obtain ⟨X,hX⟩ : ∃ Q_ : World,wr.setCell ⟨w1.heap.size + 1,10 + k,none⟩ (.int .i64 z) = Q_ := ⟨_,rfl⟩
            have X0 : Hid (Bx X w.heap.size (cv Cm.zeroF 0 Ve.zeroV) 42) := lH (hX ▸ b0.set' (by omega) _ _)
            have X1 : Hid (Bx X (w1.heap.size + 1) (cv c q (gvD s (b + 34) (k + 1))) 42) := lH (by
              have := b1.set (10 + k) (.int .i64 z)
              rw [hX,cv_setD _ _ _ _ _ hk8,← hz,gvD_succ] at this
              exact this)
            have bX : Below w.heap.size w X := hX ▸ hb.trans (low_setCell _ _ (by omega))
            have hcl : wr.cell? ⟨w1.heap.size + 1,10 + k,none⟩ = some (.int .i64 (gvD s (b + 34) k k)) := by rw [b1.cell,dep_at _ _ _ _ hk8]
            have hfz : wr.frozen? ⟨w1.heap.size + 1,10 + k,none⟩ = false := b1.thawed _
            have e36 : (b : Int) + 34 + 2 * ((k + 1 : Nat) : Int) = (b : Int) + 34 + 2 * (k : Nat) + 2 := by omega
            have HE36 := lH e36
            clear b0 b1 e36 hz
            go_wp2_with fail
            refine (get_is HM.out HGk _).mono ?_
            rintro e w' ⟨rfl,rfl⟩
            go_wp2
            go_roundw
            case rel => first | exact ⟨k + 1,by omega,by go_num,by rw [HE36.out],by omega,X0.out,X1.out,bX⟩ | ((repeat apply Exists.intro);exact ⟨⟨k + 1,by omega,by go_num,by rw [HE36.out],by omega,X0.out,X1.out,bX⟩,rfl⟩)
            case measure => simp [intOf];omega
          · have HGk : Hid (getV s ((b : Int) + 34 + 2 * (k : Nat)) 2 = .tuple #[.int .i64 0,.int .i64 2]) := lH (by rw [show (b : Int) + 34 + 2 * (k : Nat) = ((b + 34 + 2 * k : Nat) : Int) by omega];exact get_no (k := 2) hks (by omega) (by decide))
            have hsh : s.size < b + 34 + 2 * cl n := by omega
            have HE := lH (gv_bad (gvE_short (n := n) HR.out.2.2 hsh) (by decide))
            clear hsh
            obtain ⟨X,hX⟩ : ∃ Q_ : World,wr.setCell ⟨w1.heap.size + 1,10 + k,none⟩ (.int .i64 0) = Q_ := ⟨_,rfl⟩
            have X0 : Bx X w.heap.size (cv Cm.zeroF 0 Ve.zeroV) 42 := hX ▸ b0.set' (by omega) _ _
            have bX : Below w.heap.size w X := hX ▸ hb.trans (low_setCell _ _ (by omega))
            have hcl : wr.cell? ⟨w1.heap.size + 1,10 + k,none⟩ = some (.int .i64 (gvD s (b + 34) k k)) := by rw [b1.cell,dep_at _ _ _ _ hk8]
            have hfz : wr.frozen? ⟨w1.heap.size + 1,10 + k,none⟩ = false := b1.thawed _
            obtain ⟨Y,hY⟩ : ∃ Q_ : World,X.setRow w.heap.size (cv Cm.zeroF 0 Ve.zeroV) = Q_ := ⟨_,rfl⟩
            have Y0 : Bx Y w.heap.size (cv Cm.zeroF 0 Ve.zeroV) 42 := hY ▸ X0.put _
            have bY : Below w.heap.size w Y := hY ▸ bX.trans (low_setRow _ (by omega))
            have px := X0.plain (n := 17) rfl
            have y0 := Y0.row
            clear b0 b1 X0 Y0
            go_wp2_with fail
            refine (get_is HM.out HGk _).mono ?_
            rintro e w' ⟨rfl,rfl⟩
            go_wp2
            exact bodyPost_ret (v := .tuple #[.agg (cv Cm.zeroF 0 Ve.zeroV),.int .i64 0,.int .i64 2]) (ret_V3 Tryz.results128 _ _ Cm.zeroF 0 Ve.zeroV (by simp [go_sem,y0])) rfl ⟨by rw [HE.out],bY⟩
        · obtain rfl : k = cl n := by omega
          have hlt2 : ¬ ((cl n : Nat) : Int) < M := fun h => hlt ((HMl.out _ hk).1 h)
          obtain ⟨K,hK⟩ : ∃ K,cl n = K := ⟨_,rfl⟩
          obtain ⟨d,hd⟩ : ∃ d,gvD s (b + 34) (cl n) = d := ⟨_,rfl⟩
          rw [hd] at b1
          cases ho : okV c q d n
          · have HE : Hid (gvT s b n = .tuple #[.agg (cv Cm.zeroF 0 Ve.zeroV),.int .i64 0,.int .i64 3]) := lH (gv_bad (gvE_no HR.out.2.2 hks (by rw [HR.out.1,HQ.out,hd];exact ho)) (by decide))
            have HO := lH ho
            have r1 := b1.row
            have l1 := b1.lt
            have HB0' := lH b0
            clear ho hd b0 b1 HB0
            have hlt3 : decide ((K : Int) < M) = false := by rw [← hK];exact decide_eq_false hlt2
            rw [hK] at *
            clear hK
            go_wp2_with fail
            refine (isValue_is HO _).mono ?_
            rintro e w2 ⟨rfl,hb2⟩
            have W0 := HB0'.out.stays hb2
            have bW : Below w.heap.size w w2 := nx hb hb2
            obtain ⟨Y,hY⟩ : ∃ Q_ : World,w2.setRow w.heap.size (cv Cm.zeroF 0 Ve.zeroV) = Q_ := ⟨_,rfl⟩
            have Y0 : Bx Y w.heap.size (cv Cm.zeroF 0 Ve.zeroV) 42 := hY ▸ W0.put _
            have bY : Below w.heap.size w Y := hY ▸ bW.trans (low_setRow _ (by omega))
            have px := W0.plain (n := 17) rfl
            have y0 := Y0.row
            clear W0 Y0 r1 l1
            go_wp2
            exact bodyPost_ret (v := .tuple #[.agg (cv Cm.zeroF 0 Ve.zeroV),.int .i64 0,.int .i64 3]) (ret_V3 Tryz.results128 _ _ Cm.zeroF 0 Ve.zeroV (by simp [go_sem,y0])) rfl ⟨by rw [HE.out],bY⟩
          · have HE : Hid (gvT s b n = .tuple #[.agg (cv c q d),.int .i64 ((b : Int) + 34 + 2 * (cl n : Nat)),.int .i64 0]) := lH (by
              have := gv_yes (n := n) HR.out.2.2 hks (by rw [HR.out.1,HQ.out,hd];exact ho)
              rw [HR.out.1,HQ.out,hd] at this;exact this)
            have HO := lH ho
            have r1 := b1.row
            have l1 := b1.lt
            have HB0' := lH b0
            have HB1' := lH b1
            clear ho hd b0 b1 HB0
            have hlt3 : decide ((K : Int) < M) = false := by rw [← hK];exact decide_eq_false hlt2
            rw [hK] at *
            clear hK
            go_wp2_with fail
            refine (isValue_is HO _).mono ?_
            rintro e w2 ⟨rfl,hb2⟩
            clear r1 l1
            have W0 := HB0'.out.stays hb2
            have W1 := HB1'.out.stays hb2
            have bW : Below w.heap.size w w2 := nx hb hb2
            obtain ⟨Y,hY⟩ : ∃ Q_ : World,w2.setRow w.heap.size (cv c q d) = Q_ := ⟨_,rfl⟩
            have Y0 : Bx Y w.heap.size (cv c q d) 42 := hY ▸ W0.put _
            have bY : Below w.heap.size w Y := hY ▸ bW.trans (low_setRow _ (by omega))
            have px := W0.plain (n := 17) rfl
            have r1 := W1.row
            have y0 := Y0.row
            clear W0 W1 Y0
            go_wp2
            exact bodyPost_ret (v := .tuple #[.agg (cv c q d),.int .i64 ((b : Int) + 34 + 2 * (K : Nat)),.int .i64 0]) (ret_V3 Tryz.results128 _ _ c q d (by simp [go_sem,y0])) rfl ⟨by rw [HE.out],bY⟩
    · have HG1 : Hid (getV s (b + 30 : Nat) (4 : Nat) = .tuple #[.int .i64 0,.int .i64 2]) := lH (get_no (by omega) (by omega) (by decide))
      have HE := lH (gv_bad (gvE_short (n := n) HR.out.2.2 (by omega)) (by decide))
      go_enter Tryz.func128,Tryz.ntmps128
      go_wp2_with fail
      refine (read_is HR HS _ HT.out).mono ?_
      rintro e w1 ⟨rfl,hb1⟩
      have C0 := HB0.out.stays hb1
      obtain ⟨U,hU⟩ : ∃ Q_ : World,(w1.alloc (.cells (Cm.fc c) 38)).alloc (.cells (cv c 0 Ve.zeroV) 42) = Q_ := ⟨_,rfl⟩
      have bU : Below w1.heap.size w1 U := hU ▸ below2 _ _ _
      have U0 := C0.stays bU
      have hlt1 : w.heap.size < w1.heap.size := C0.lt
      have bWU := nx bV (nx hb1 bU)
      have U1 : Bx U (w1.heap.size + 1) (cv c 0 Ve.zeroV) 42 := hU ▸ Bx.at (by simp) _ _
      obtain ⟨X,hX⟩ : ∃ Q_ : World,U.setCell ⟨w1.heap.size + 1,9,none⟩ (.int .i64 0) = Q_ := ⟨_,rfl⟩
      have X0 : Bx X w.heap.size (cv Cm.zeroF 0 Ve.zeroV) 42 := hX ▸ U0.set' (by omega) _ _
      have bX : Below w.heap.size w X := hX ▸ bWU.trans (low_setCell _ _ (by omega))
      obtain ⟨Y,hY⟩ : ∃ Q_ : World,X.setRow w.heap.size (cv Cm.zeroF 0 Ve.zeroV) = Q_ := ⟨_,rfl⟩
      have Y0 : Bx Y w.heap.size (cv Cm.zeroF 0 Ve.zeroV) 42 := hY ▸ X0.put _
      have bY : Below w.heap.size w Y := hY ▸ bX.trans (low_setRow _ (by omega))
      have u9 : U.cell? ⟨w1.heap.size + 1,9,none⟩ = some (.int .i64 0) := U1.cell 9
      have f9 : U.frozen? ⟨w1.heap.size + 1,9,none⟩ = false := U1.thawed 9
      have px := X0.plain (n := 17) rfl
      have y0 := Y0.row
      have HU := lH hU
      clear C0 U0 U1 X0 Y0 hU
      go_wp2_with fail
      rw [HU.out]
      refine (get_is HM.out HG1 _).mono ?_
      rintro e w' ⟨rfl,rfl⟩
      go_wp2
      exact bodyPost_ret (v := .tuple #[.agg (cv Cm.zeroF 0 Ve.zeroV),.int .i64 0,.int .i64 2]) (ret_V3 Tryz.results128 _ _ Cm.zeroF 0 Ve.zeroV (by simp [go_sem,y0])) rfl ⟨by rw [HE.out],bY⟩
  · have HE := lH (gv_bad (n := n) ((gvE_rd (by rw [HR.out.2.2];exact h0)).trans HR.out.2.2) h0)
    have hy1 : (y != 0) = true := by simpa using h0
    clear h0
    go_enter Tryz.func128,Tryz.ntmps128
    go_wp2_with fail
    refine (read_is HR HS _ HT.out).mono ?_
    rintro e w1 ⟨rfl,hb1⟩
    have C0 := HB0.out.stays hb1
    obtain ⟨U,hU⟩ : ∃ Q_ : World,w1.alloc (.cells (Cm.fc Cm.zeroF) 38) = Q_ := ⟨_,rfl⟩
    have bU : Below w1.heap.size w1 U := hU ▸ below1 _ _
    have U0 := C0.stays bU
    have hlt1 : w.heap.size < w1.heap.size := C0.lt
    have bWU := nx bV (nx hb1 bU)
    have U1 : Bx U w1.heap.size (Cm.fc Cm.zeroF) 38 := hU ▸ Bx.new _ _ _
    obtain ⟨X,hX⟩ : ∃ Q_ : World,U.setRow w1.heap.size (Cm.fc c) = Q_ := ⟨_,rfl⟩
    have X0 : Bx X w.heap.size (cv Cm.zeroF 0 Ve.zeroV) 42 := hX ▸ U0.put' (by omega) _
    have bX : Below w.heap.size w X := hX ▸ bWU.trans (low_setRow _ (by omega))
    obtain ⟨Y,hY⟩ : ∃ Q_ : World,X.setRow w.heap.size (cv Cm.zeroF 0 Ve.zeroV) = Q_ := ⟨_,rfl⟩
    have Y0 : Bx Y w.heap.size (cv Cm.zeroF 0 Ve.zeroV) 42 := hY ▸ X0.put _
    have bY : Below w.heap.size w Y := hY ▸ bX.trans (low_setRow _ (by omega))
    have pu := U1.plain (n := 9) (Cm.fc_size _)
    have px := X0.plain (n := 17) rfl
    have y0 := Y0.row
    clear C0 U0 U1 X0 Y0
    go_wp2
    exact bodyPost_ret (v := .tuple #[.agg (cv Cm.zeroF 0 Ve.zeroV),.int .i64 0,.int .i64 y]) (ret_V3 Tryz.results128 _ _ Cm.zeroF 0 Ve.zeroV (by simp [go_sem,y0])) rfl ⟨by rw [HE.out],bY⟩
end Go.Proofs.YtnnbjhpkgndclaaGreatDoor.Rc
namespace Go.Proofs.YtnnbjhpkgndclaaGreatDoor.Rc
open Go.RowKit
open Go.Proofs.YtnnbjhpkgndclaaGreatDoor.Rw
open Go.Proofs.YtnnbjhpkgndclaaGreatDoor.Bv
open Go.Proofs.YtnnbjhpkgndclaaGreatDoor.Fx (enc enc_size putV dec getV oB wB)
open Go.Proofs.YtnnbjhpkgndclaaGreatDoor.Cm (Tab readC readE)
section
variable (ρ : Operand → Value) (dst : Option Tmp) (ty : TypeId) (pos : String) (after : Array Edge) (guard : Option (Nat × Bool)) (w : World)
theorem storeMidV (p x : Operand) (h : thereOf w (ρ p) 17) (hs : (ρ x).cells.size = 17) (h1 : oneAll (ρ x) = true) (ha : ρ x = .agg (ρ x).cells) : (execOp ρ { dst,op := .store 42 p x,type := ty,pos,after,guard }).run Tryz.prog w = .ok .skip (putMid w (ρ p) (ρ x).cells) :=
  storeMid (by kernel_rfl) ρ dst ty pos after guard w p x h hs h1 ha
end
attribute [go_sem ↓] storeMidV
theorem cv_list (c d : Nat → Int) (q : Int) : (cv c q d).toList = [.int .i64 (c 0),.int .i64 (c 1),.int .i64 (c 2),.int .i64 (c 3),.int .i64 (c 4),.int .i64 (c 5),.int .i64 (c 6),.int .i64 (c 7),.int .i64 (c 8),.int .i64 q,.int .i64 (d 0),.int .i64 (d 1),.int .i64 (d 2),.int .i64 (d 3),.int .i64 (d 4),.int .i64 (d 5),.int .i64 (d 6)] := rfl
theorem over_val (i : Ins) (c d : Nat → Int) (q : Int) : over (ci i) 7 (cv c q d).toList = ci ⟨i.pr,i.ps,i.bn,i.br,i.tn,i.tr,i.st,c,q,d,i.sm⟩ := by
  rw [cv_list]
  simp [over,ci]
theorem str_ne {x y : ByteArray} (h : x ≠ y) : (x.toList == y.toList) = false := by
  rw [Lib.toList_data,Lib.toList_data,beq_eq_false_iff_ne]
  intro e
  exact h (ByteArray.ext (Array.ext' e))
def rdI (s : ByteArray) (n : Int) : Ins := if rdE s n = 0 then insAt s n else zeroI
abbrev rdT (s : ByteArray) (n : Int) : Value := .tuple #[.agg (ci (rdI s n)),.int .i64 (rdE s n)]
theorem rd_bad {s : ByteArray} {n x : Int} (h : rdE s n = x) (hx : x ≠ 0) : rdT s n = .tuple #[.agg (ci zeroI),.int .i64 x] := by
  unfold rdT rdI;rw [h,if_neg hx]
theorem rd_good {s : ByteArray} {n : Int} (h : rdE s n = 0) : rdT s n = .tuple #[.agg (ci (insAt s n)),.int .i64 0] := by
  unfold rdT rdI;rw [h,if_pos rfl]
theorem rdE_short {s : ByteArray} {n : Int} (h : s.size < 15) : rdE s n = 2 := by unfold rdE;rw [if_pos h]
theorem rdE_val {s : ByteArray} {n : Int} (h : 15 ≤ s.size) (hg : gvE s 15 n ≠ 0) : rdE s n = gvE s 15 n := by unfold rdE;rw [if_neg (by omega),if_neg hg]
theorem rdE_form {s : ByteArray} {n : Int} (h : 15 ≤ s.size) (hg : gvE s 15 n = 0) : rdE s n = if dec s 4 1 ≤ 1 ∧ s.size = 49 + 2 * cl n ∧ okI (insAt s n) n = true then 0 else 3 := by unfold rdE;rw [if_neg (by omega),if_pos hg]
theorem ofH_at (s : ByteArray) (n : Int) (h : gvE s 15 n = 0) : (⟨(ofH (rdH s)).pr,(ofH (rdH s)).ps,(ofH (rdH s)).bn,(ofH (rdH s)).br,(ofH (rdH s)).tn,(ofH (rdH s)).tr,(ofH (rdH s)).st,gvC s 15 n,gvQ s 15 n,gvV s 15 n,(ofH (rdH s)).sm⟩ : Ins) = insAt s n := by
  have e : ((rdH s 3 == 1) : Bool) = decide (dec s 4 1 = 1) := by
    show (((dec s 4 1 : Nat) : Int) == 1) = _
    rw [Bool.eq_iff_iff];simp;omega
  unfold insAt gvC gvQ gvV ofH
  rw [h,if_pos rfl,if_pos rfl,if_pos rfl,e]
  rfl
theorem again_iff {s : ByteArray} {n : Int} (h : 15 ≤ s.size) (hg : gvE s 15 n = 0) (ho : okI (insAt s n) n = true) : rdE s n = if cat (insF (insAt s n) n.toNat) = s then 0 else 3 := by
  by_cases e : cat (insF (insAt s n) n.toNat) = s
  · rw [if_pos e,rdE_form h hg,if_pos]
    refine ⟨?_,?_,ho⟩
    · have h3 := (ins_mid ho ByteArray.empty).2.2
      rw [ByteArray.append_empty,e] at h3
      exact h3
    · have h1 := ins_size (insAt s n) n.toNat
      rw [e] at h1
      rw [h1,cl_in (okI_iff.1 ho).1]
  · rw [if_neg e]
    by_cases e0 : rdE s n = 0
    · exact absurd (write_read e0).2.2 e
    · rw [rdE_form h hg] at e0 ⊢
      split
      · rename_i h9;rw [if_pos h9] at e0;exact absurd rfl e0
      · rfl
theorem again_no {s : ByteArray} {n : Int} (h : 15 ≤ s.size) (hg : gvE s 15 n = 0) (ho : okI (insAt s n) n = false) : rdE s n = 3 := by
  rw [rdE_form h hg,if_neg (fun k => by rw [ho] at k;exact absurd k.2.2 (by decide))]
theorem getValue_is {s : ByteArray} {a n x y q : Int} {c d : Nat → Int} (H : Hid (gvC s a n = c ∧ gvQ s a n = q ∧ gvV s a n = d ∧ gvA s a n = x ∧ gvE s a n = y)) (hs : Hid (s.size ≤ 1000000)) (w : World) (ht : Tab w) :
    Calls Tryz.prog 128 #[.string s,.int .i64 a,.int .i64 n] w fun e w' => e = .returned (.tuple #[.agg (cv c q d),.int .i64 x,.int .i64 y]) ∧ Below w.heap.size w w' := by
  obtain ⟨rfl,rfl,rfl,rfl,rfl⟩ := H.out
  exact getValue_any s a n hs.out w ht
theorem numbers_is {s : ByteArray} {f : Nat → Int} (H : Hid (rdH s = f)) (hs : Hid (s.size ≤ maxLen)) (h : 15 ≤ s.size) (w : World) (hb : Tb w) :
    Calls Tryz.prog 130 #[.string s] w fun e w' => e = .returned (.agg (hc f)) ∧ Below w.heap.size w w' := by
  rw [← H.out];exact numbers_any s hs.out h w hb
theorem ofHead_is {f : Nat → Int} {i : Ins} (H : Hid (ofH f = i)) (w : World) :
    Calls Tryz.prog 129 #[.agg (hc f)] w fun e w' => e = .returned (.agg (ci i)) ∧ Below w.heap.size w w' := by
  rw [← H.out];exact ofHead_any f w
set_option maxRecDepth 8000 in
set_option maxHeartbeats 8000000 in
theorem read_any (s : ByteArray) (n : Int) (hs : s.size ≤ 1000000) (w : World) (ht : Tab w) (htb : Tb w) :
    Calls Tryz.prog 101 #[.string s,.int .i64 n] w fun e w' => e = .returned (rdT s n) ∧ Below w.heap.size w w' := by
  have HS := lH hs
  have HM : Hid (s.size ≤ maxLen) := lH (Nat.le_trans hs (by decide))
  obtain ⟨V,hV⟩ : ∃ Q_ : World,w.alloc (.cells (ci zeroI) 44) = Q_ := ⟨_,rfl⟩
  have bV : Below w.heap.size w V := hV ▸ below1 _ _
  have B0 : Bx V w.heap.size (ci zeroI) 44 := hV ▸ Bx.new _ _ _
  have HT := lH (show ∀ u,Below V.heap.size V u → Tab u from fun u hu => ht.below (nx bV hu))
  have HW := lH (show ∀ u,Below V.heap.size V u → Tb u from fun u hu => htb.below (nx bV hu))
  have HB0 := lH B0
  clear ht htb
  by_cases h15 : s.size < 15
  · have HE := lH (rd_bad (rdE_short (n := n) h15) (by decide))
    have hd : decide ((s.size : Int) < 15) = true := decide_eq_true (by omega)
    obtain ⟨X,hX⟩ : ∃ Q_ : World,V.setRow w.heap.size (ci zeroI) = Q_ := ⟨_,rfl⟩
    have X0 : Bx X w.heap.size (ci zeroI) 44 := hX ▸ B0.put _
    have bX : Below w.heap.size w X := hX ▸ bV.trans (low_setRow _ (by omega))
    have p0 := B0.plain (n := 25) rfl
    have x0 := X0.row
    clear B0 X0
    go_enter Tryz.func101,Tryz.ntmps101
    go_wp2
    exact bodyPost_ret (v := .tuple #[.agg (ci zeroI),.int .i64 2]) (ret_I2 Tryz.results101 _ _ zeroI (by simp [go_sem,x0])) rfl ⟨by rw [HE.out],bX⟩
  · have hd : decide ((s.size : Int) < 15) = false := decide_eq_false (by omega)
    have h15 : 15 ≤ s.size := by omega
    clear B0
    obtain ⟨c,hc⟩ : ∃ x,gvC s 15 n = x := ⟨_,rfl⟩
    obtain ⟨q,hq⟩ : ∃ x,gvQ s 15 n = x := ⟨_,rfl⟩
    obtain ⟨d,hdd⟩ : ∃ x,gvV s 15 n = x := ⟨_,rfl⟩
    obtain ⟨x,hx⟩ : ∃ x,gvA s 15 n = x := ⟨_,rfl⟩
    obtain ⟨y,hy⟩ : ∃ x,gvE s 15 n = x := ⟨_,rfl⟩
    have HG := lH (⟨hc,hq,hdd,hx,hy⟩ : gvC s 15 n = c ∧ gvQ s 15 n = q ∧ gvV s 15 n = d ∧ gvA s 15 n = x ∧ gvE s 15 n = y)
    clear hc hq hdd hx hy
    by_cases hy0 : y = 0
    · subst hy0
      obtain ⟨f,hf⟩ : ∃ f,rdH s = f := ⟨_,rfl⟩
      have HF := lH hf
      obtain ⟨j,hj⟩ : ∃ j,ofH f = j := ⟨_,rfl⟩
      have HJ := lH hj
      have hat := ofH_at s n HG.out.2.2.2.2
      rw [hf,hj,HG.out.1,HG.out.2.1,HG.out.2.2.1] at hat
      have HAt := lH hat
      clear hf hj hat
      obtain ⟨ws,hws⟩ : ∃ x,wrS (insAt s n) n = x := ⟨_,rfl⟩
      obtain ⟨we,hwe⟩ : ∃ x,wrE (insAt s n) n = x := ⟨_,rfl⟩
      have HWr := lH (⟨hws,hwe⟩ : wrS (insAt s n) n = ws ∧ wrE (insAt s n) n = we)
      clear hws hwe
      obtain ⟨I,hI⟩ : ∃ I,insAt s n = I := ⟨_,rfl⟩
      rw [hI] at HWr HAt
      have HI := lH hI
      clear hI
      go_enter Tryz.func101,Tryz.ntmps101
      go_wp2_with fail
      refine (getValue_is HG HS _ (HT.out _ (Below.refl _ _))).mono ?_
      rintro e w1 ⟨rfl,hb1⟩
      obtain ⟨U,hU⟩ : ∃ Q_ : World,w1.alloc (.cells (cv c q d) 42) = Q_ := ⟨_,rfl⟩
      have bU := nx hb1 (hU ▸ below1 w1 (.cells (cv c q d) 42))
      have U0 := lH (HB0.out.stays bU)
      have U1 : Hid (Bx U w1.heap.size (cv c q d) 42) := lH (hU ▸ Bx.new _ _ _)
      have hl1 : w.heap.size < w1.heap.size := (HB0.out.stays hb1).lt
      have HU := lH hU
      clear hU
      go_wp2_with fail
      rw [HU.out]
      refine (numbers_is HF HM h15 _ (HW.out _ bU)).mono ?_
      rintro e w2 ⟨rfl,hb2⟩
      go_wp2_with fail
      refine (ofHead_is HJ _).mono ?_
      rintro e w3 ⟨rfl,hb3⟩
      have b23 := nx hb2 hb3
      have b3 := nx bU b23
      have T0 := U0.out.stays b23
      have T1 := U1.out.stays b23
      obtain ⟨A,hA⟩ : ∃ Q_ : World,w3.alloc (.cells (ci zeroI) 44) = Q_ := ⟨_,rfl⟩
      have bA := hA ▸ below1 w3 (.cells (ci zeroI) 44)
      have A2 : Bx A w3.heap.size (ci zeroI) 44 := hA ▸ Bx.new _ _ _
      have A0 := T0.stays bA
      have A1 := T1.stays bA
      have hl3 : w1.heap.size < w3.heap.size := T1.lt
      have hpA := A2.plain (n := 25) rfl
      obtain ⟨B,hB⟩ : ∃ Q_ : World,A.setRow w3.heap.size (ci j) = Q_ := ⟨_,rfl⟩
      have B0 : Bx B w.heap.size (ci zeroI) 44 := hB ▸ A0.put' (by omega) _
      have B1 : Bx B w1.heap.size (cv c q d) 42 := hB ▸ A1.put' (by omega) _
      have B2 : Bx B w3.heap.size (ci j) 44 := hB ▸ A2.put _
      have bB : Below w.heap.size w B := hB ▸ (nx bV (nx b3 bA)).trans (low_setRow _ (by omega))
      have hrB := B1.row
      have hlB := B1.lt
      have hth := B2.there (o := 7) (n := 17) (by show 7 + 17 ≤ 25;decide)
      obtain ⟨C,hC⟩ : ∃ Q_ : World,B.setCells w3.heap.size 7 (cv c q d).toList = Q_ := ⟨_,rfl⟩
      have C0 : Bx C w.heap.size (ci zeroI) 44 := hC ▸ Bx.sets' (by omega) _ _ _ B0
      have C2 : Bx C w3.heap.size (ci I) 44 := by
        have := Bx.sets (w := B) (cv c q d).toList 7 _ _ B2
        rw [hC,over_val,HAt.out] at this;exact this
      have bC : Below w.heap.size w C := hC ▸ bB.trans (low_setCells (by omega) _ _ _)
      have bVC : Below V.heap.size V C := hC ▸ (hB ▸ (nx b3 bA).trans (low_setRow _ (by have := b3.size;omega))).trans (low_setCells (by have := b3.size;omega) _ _ _)
      have hrC := C2.row
      have hlC := C2.lt
      have G0 := lH C0
      have G2 := lH C2
      clear T0 T1 A0 A1 A2 B0 B1 B2 C0 C2 U0 U1
      go_wp2_with fail
      refine (write_is HWr _ (HT.out _ bVC) (HW.out _ bVC)).mono ?_
      rintro e w4 ⟨rfl,hb4⟩
      have D0 := G0.out.stays hb4
      have D2 := G2.out.stays hb4
      have bD := nx bC hb4
      clear hpA hrB hlB hth hrC hlC hA hB hC
      have hl4 : w.heap.size < w4.heap.size := D0.lt
      have p4 := D0.plain (n := 25) rfl
      have r4 := D2.row
      have l4 := D2.lt
      cases ho : okI I n
      · have e1 : we = 1 := by rw [← HWr.out.2];unfold wrE;rw [ho];rfl
        have HE := lH (rd_bad (again_no h15 HG.out.2.2.2.2 (by rw [HI.out];exact ho)) (by decide))
        subst e1
        obtain ⟨X,hX⟩ : ∃ Q_ : World,w4.setRow w.heap.size (ci zeroI) = Q_ := ⟨_,rfl⟩
        have X0 : Bx X w.heap.size (ci zeroI) 44 := hX ▸ D0.put _
        have bX : Below w.heap.size w X := hX ▸ bD.trans (low_setRow _ (by omega))
        have x0 := X0.row
        clear D0 D2 X0 ho
        go_wp2
        exact bodyPost_ret (v := .tuple #[.agg (ci zeroI),.int .i64 3]) (ret_I2 Tryz.results101 _ _ zeroI (by simp [go_sem,x0])) rfl ⟨by rw [HE.out],bX⟩
      · have e1 : we = 0 := by rw [← HWr.out.2];unfold wrE;rw [ho];rfl
        have e2 : ws = cat (insF I n.toNat) := by rw [← HWr.out.1];unfold wrS;rw [ho];rfl
        have e3 := again_iff h15 HG.out.2.2.2.2 (by rw [HI.out];exact ho)
        rw [HI.out,← e2] at e3
        subst e1
        clear e2
        by_cases e4 : ws = s
        · rw [if_pos e4] at e3
          have HE := lH (rd_good e3)
          rw [HI.out] at HE
          subst e4
          obtain ⟨X,hX⟩ : ∃ Q_ : World,w4.setRow w.heap.size (ci I) = Q_ := ⟨_,rfl⟩
          have X0 : Bx X w.heap.size (ci I) 44 := hX ▸ D0.put _
          have bX : Below w.heap.size w X := hX ▸ bD.trans (low_setRow _ (by omega))
          have x0 := X0.row
          clear D0 D2 X0 ho e3
          go_wp2
          exact bodyPost_ret (v := .tuple #[.agg (ci I),.int .i64 0]) (ret_I2 Tryz.results101 _ _ I (by simp [go_sem,x0])) rfl ⟨by rw [HE.out],bX⟩
        · rw [if_neg e4] at e3
          have e5 := str_ne e4
          have HE := lH (rd_bad e3 (by decide))
          obtain ⟨X,hX⟩ : ∃ Q_ : World,w4.setRow w.heap.size (ci zeroI) = Q_ := ⟨_,rfl⟩
          have X0 : Bx X w.heap.size (ci zeroI) 44 := hX ▸ D0.put _
          have bX : Below w.heap.size w X := hX ▸ bD.trans (low_setRow _ (by omega))
          have x0 := X0.row
          clear D0 D2 X0 ho e3
          go_wp2
          exact bodyPost_ret (v := .tuple #[.agg (ci zeroI),.int .i64 3]) (ret_I2 Tryz.results101 _ _ zeroI (by simp [go_sem,x0])) rfl ⟨by rw [HE.out],bX⟩
    · have HE := lH (rd_bad ((rdE_val h15 (by rw [HG.out.2.2.2.2];exact hy0)).trans HG.out.2.2.2.2) hy0)
      have hy1 : (y != 0) = true := by simpa using hy0
      clear hy0
      go_enter Tryz.func101,Tryz.ntmps101
      go_wp2_with fail
      refine (getValue_is HG HS _ (HT.out _ (Below.refl _ _))).mono ?_
      rintro e w1 ⟨rfl,hb1⟩
      obtain ⟨U,hU⟩ : ∃ Q_ : World,w1.alloc (.cells (cv Cm.zeroF 0 Ve.zeroV) 42) = Q_ := ⟨_,rfl⟩
      have bU := nx hb1 (hU ▸ below1 w1 (.cells (cv Cm.zeroF 0 Ve.zeroV) 42))
      have U0 := HB0.out.stays bU
      have U1 : Bx U w1.heap.size (cv Cm.zeroF 0 Ve.zeroV) 42 := hU ▸ Bx.new _ _ _
      have hl1 : w.heap.size < w1.heap.size := (HB0.out.stays hb1).lt
      have pU := U1.plain (n := 17) rfl
      obtain ⟨T,hT⟩ : ∃ Q_ : World,U.setRow w1.heap.size (cv c q d) = Q_ := ⟨_,rfl⟩
      have T0 : Bx T w.heap.size (ci zeroI) 44 := hT ▸ U0.put' (by omega) _
      have bT : Below w.heap.size w T := hT ▸ (nx bV bU).trans (low_setRow _ (by omega))
      have pT := T0.plain (n := 25) rfl
      obtain ⟨X,hX⟩ : ∃ Q_ : World,T.setRow w.heap.size (ci zeroI) = Q_ := ⟨_,rfl⟩
      have X0 : Bx X w.heap.size (ci zeroI) 44 := hX ▸ T0.put _
      have bX : Below w.heap.size w X := hX ▸ bT.trans (low_setRow _ (by omega))
      have x0 := X0.row
      clear U0 U1 T0 X0
      go_wp2
      exact bodyPost_ret (v := .tuple #[.agg (ci zeroI),.int .i64 y]) (ret_I2 Tryz.results101 _ _ zeroI (by simp [go_sem,x0])) rfl ⟨by rw [HE.out],bX⟩
end Go.Proofs.YtnnbjhpkgndclaaGreatDoor.Rc
namespace Go.Proofs.YtnnbjhpkgndclaaGreatDoor.Rc
open Go.RowKit
open Go.Proofs.YtnnbjhpkgndclaaGreatDoor.Rw
open Go.Proofs.YtnnbjhpkgndclaaGreatDoor.Bv
open Go.Proofs.YtnnbjhpkgndclaaGreatDoor.Fx (enc enc_size)
open Go.Proofs.YtnnbjhpkgndclaaGreatDoor.Cm (Tab)
def oneI : Ins := ⟨1,300,2,1,0,1,1,Cm.v9 3 9 8 0 0 0 0 0 0,7,Ve.upd (Ve.upd (Ve.upd (v7 0 0 0 0 0 0 0) 0 1) 1 2) 2 3,true⟩
section
variable (a : Act) (dst : Option Tmp) (ty : TypeId) (pos : String) (after : Array Edge) (guard : Option (Nat × Bool)) (w : World)
theorem oneV (x z : Operand) (hx : a.eval x = .agg (Cm.fc (fnC (a.eval x)))) (hz : a.eval z = .agg (Ve.fc (fnC (a.eval z)))) : (execOp a.eval { dst,op := .build 42 #[(0,x),(1,.const (.int .i64 7)),(2,z)],type := ty,pos,after,guard }).run Tryz.prog w = .ok (.value (.agg (cv (fnC (a.eval x)) 7 (fnC (a.eval z))))) w :=
  buildV3 a.eval dst ty pos after guard w x _ z hx rfl hz
theorem oneB (x s t v : Operand) (hx : a.eval x = .agg #[.int .i64 (nA (a.eval x) 0),.int .i64 (nA (a.eval x) 1)]) (hs : a.eval s = .agg #[.int .i64 (nA (a.eval s) 0),.int .i64 (nA (a.eval s) 1)]) (ht : a.eval t = .agg #[.int .i64 (nA (a.eval t) 0),.int .i64 (nA (a.eval t) 1)]) (hv : a.eval v = .agg (cv (fV (a.eval v)) (qV (a.eval v)) (dV (a.eval v)))) : (execOp a.eval { dst,op := .build 44 #[(0,x),(1,s),(2,t),(3,.const (.int .i64 1)),(4,v),(5,.const (.bool true))],type := ty,pos,after,guard }).run Tryz.prog w = .ok (.value (.agg (ci ⟨nA (a.eval x) 0,nA (a.eval x) 1,nA (a.eval s) 0,nA (a.eval s) 1,nA (a.eval t) 0,nA (a.eval t) 1,1,fV (a.eval v),qV (a.eval v),dV (a.eval v),true⟩))) w :=
  buildI6 a.eval dst ty pos after guard w x s t _ v _ hx hs ht rfl hv rfl
end
attribute [go_sem ↓] oneV oneB
theorem ci_congr {i j : Ins} (h : Same i j) : ci i = ci j := by
  unfold ci
  rw [h.pr,h.ps,h.bn,h.br,h.tn,h.tr,h.st,h.q,h.sm,h.c 0 (by omega),h.c 1 (by omega),h.c 2 (by omega),h.c 3 (by omega),h.c 4 (by omega),h.c 5 (by omega),h.c 6 (by omega),h.c 7 (by omega),h.c 8 (by omega),
    h.d 0 (by omega),h.d 1 (by omega),h.d 2 (by omega),h.d 3 (by omega),h.d 4 (by omega),h.d 5 (by omega),h.d 6 (by omega)]
theorem ok2 : okI oneI 2 = false := by kernel_rfl
end Go.Proofs.YtnnbjhpkgndclaaGreatDoor.Rc
namespace Go.Proofs.YtnnbjhpkgndclaaGreatDoor.Rc
open Go.RowKit
open Go.Proofs.YtnnbjhpkgndclaaGreatDoor.Rw
open Go.Proofs.YtnnbjhpkgndclaaGreatDoor.Bv
open Go.Proofs.YtnnbjhpkgndclaaGreatDoor.Fx (enc enc_size putV dec getV oB wB)
open Go.Proofs.YtnnbjhpkgndclaaGreatDoor.Cm (chkB chkE numF Tab oB_nat rGet_is readE readC readA rdC)
theorem rRead_is {s : ByteArray} {a : Int} {c : Nat → Int} {x y : Int} (H : Hid (readC s a = c ∧ readA s a = x ∧ readE s a = y)) (hs : Hid (s.size ≤ 1000000)) (w : World) :
    Calls Tryz.prog 131 #[.string s,.int .i64 a] w fun e w' => e = .returned (.tuple #[.agg (Cm.fc c),.int .i64 x,.int .i64 y]) ∧ Below w.heap.size w w' := by
  obtain ⟨rfl,rfl,rfl⟩ := H.out
  exact Cm.rRead_any s a (Nat.le_trans hs.out (by decide)) w
section
variable (ρ : Operand → Value) (dst : Option Tmp) (ty : TypeId) (pos : String) (after : Array Edge) (guard : Option (Nat × Bool)) (w : World)
theorem storeMidC (p x : Operand) (h : thereOf w (ρ p) 9) (hs : (ρ x).cells.size = 9) (h1 : oneAll (ρ x) = true) (ha : ρ x = .agg (ρ x).cells) : (execOp ρ { dst,op := .store 38 p x,type := ty,pos,after,guard }).run Tryz.prog w = .ok .skip (putMid w (ρ p) (ρ x).cells) :=
  storeMid (by kernel_rfl) ρ dst ty pos after guard w p x h hs h1 ha
end
attribute [go_sem ↓] storeMidC
theorem over_cmd (c c' d : Nat → Int) (q : Int) : over (cv c q d) 0 (Cm.fc c').toList = cv c' q d := by
  rw [Cm.fc_list]
  simp [over,cv]
set_option maxRecDepth 8000 in
set_option maxHeartbeats 8000000 in
theorem rGetValue_any (s : ByteArray) (a n : Int) (hs : s.size ≤ 1000000) (w : World) :
    Calls Tryz.prog 104 #[.string s,.int .i64 a,.int .i64 n] w fun e w' => e = .returned (gvT s a n) ∧ Below w.heap.size w w' := by
  have HS := lH hs
  have HM : Hid (s.size ≤ maxLen) := lH (Nat.le_trans hs (by decide))
  obtain ⟨V,hV⟩ : ∃ Q_ : World,(w.alloc (.cells (cv Cm.zeroF 0 Ve.zeroV) 42)).alloc (.cells (cv Cm.zeroF 0 Ve.zeroV) 42) = Q_ := ⟨_,rfl⟩
  have bV : Below w.heap.size w V := hV ▸ below2 _ _ _
  have B0 : Bx V w.heap.size (cv Cm.zeroF 0 Ve.zeroV) 42 := hV ▸ (Bx.new _ _ _).alloc _
  have B1 : Bx V (w.heap.size + 1) (cv Cm.zeroF 0 Ve.zeroV) 42 := hV ▸ Bx.at (by simp) _ _
  have HB0 := lH B0
  have HB1 := lH B1
  obtain ⟨c,hc⟩ : ∃ x,readC s a = x := ⟨_,rfl⟩
  obtain ⟨x,hx⟩ : ∃ x,readA s a = x := ⟨_,rfl⟩
  obtain ⟨y,hy⟩ : ∃ x,readE s a = x := ⟨_,rfl⟩
  have HR := lH (⟨hc,hx,hy⟩ : readC s a = c ∧ readA s a = x ∧ readE s a = y)
  clear B0 B1 hc hx hy
  by_cases h0 : y = 0
  · subst h0
    obtain ⟨b,hab,hb30,hbx⟩ := rd_ok HR.out.2.2
    obtain rfl : x = (b + 30 : Nat) := HR.out.2.1.symm.trans hbx
    subst hab
    clear hbx
    have hb0 : b ≤ 1000000 := by omega
    by_cases h34 : b + 34 ≤ s.size
    · obtain ⟨M,hM⟩ : ∃ M : Int,max 0 (min n 7) = M := ⟨_,rfl⟩
      have hMl : ∀ k : Nat,k ≤ cl n → ((k : Int) < M ↔ k < cl n) := fun k hk => by
        unfold cl at hk ⊢
        by_cases h1 : n < 0
        · simp only [if_pos h1] at hk ⊢
          omega
        · by_cases h2 : 7 < n
          · simp only [if_neg h1,if_pos h2];omega
          · simp only [if_neg h1,if_neg h2];omega
      have HMl := lH hMl
      have hm7 : M ≤ 7 := by omega
      obtain ⟨q,hq⟩ : ∃ q : Nat,dec s (b + 30) 4 = q := ⟨_,rfl⟩
      have HG1 : Hid (getV s (b + 30 : Nat) (4 : Nat) = .tuple #[.int .i64 q,.int .i64 0]) := lH (by rw [get_w (by omega) (by decide),hq])
      have HQ := lH hq
      have e34 : (b : Int) + 30 + 4 = (b : Int) + 34 + 2 * (0 : Nat) := by omega
      have HE34 := lH e34
      clear hMl hq e34
      go_enter Tryz.func104,Tryz.ntmps104
      go_wp2_with fail
      refine (rRead_is HR HS _).mono ?_
      rintro e w1 ⟨rfl,hb1⟩
      have C0 := HB0.out.stays hb1
      have C1 := HB1.out.stays hb1
      have hlt1 : w.heap.size + 1 < w1.heap.size := C1.lt
      obtain ⟨U,hU⟩ : ∃ Q_ : World,w1.alloc (.cells (Cm.fc Cm.zeroF) 38) = Q_ := ⟨_,rfl⟩
      have aU : Below w1.heap.size w1 U := hU ▸ below1 _ _
      have U2 : Bx U w1.heap.size (Cm.fc Cm.zeroF) 38 := hU ▸ Bx.new _ _ _
      have U0 := C0.stays aU
      have U1 := C1.stays aU
      have bU := nx bV (nx hb1 aU)
      have pu := U2.plain (n := 9) (Cm.fc_size _)
      obtain ⟨T,hT⟩ : ∃ Q_ : World,U.setRow w1.heap.size (Cm.fc c) = Q_ := ⟨_,rfl⟩
      have T0 : Bx T w.heap.size (cv Cm.zeroF 0 Ve.zeroV) 42 := hT ▸ U0.put' (by omega) _
      have T1 : Bx T (w.heap.size + 1) (cv Cm.zeroF 0 Ve.zeroV) 42 := hT ▸ U1.put' (by omega) _
      have T2 : Bx T w1.heap.size (Cm.fc c) 38 := hT ▸ U2.put _
      have bT : Below w.heap.size w T := hT ▸ bU.trans (low_setRow _ (by omega))
      have rt := T2.row
      have lt := T2.lt
      have th := T1.there (o := 0) (n := 9) (by decide)
      obtain ⟨X,hX⟩ : ∃ Q_ : World,T.setCells (w.heap.size + 1) 0 (Cm.fc c).toList = Q_ := ⟨_,rfl⟩
      have X0 : Bx X w.heap.size (cv Cm.zeroF 0 Ve.zeroV) 42 := hX ▸ Bx.sets' (by omega) _ _ _ T0
      have X1 : Bx X (w.heap.size + 1) (cv c 0 Ve.zeroV) 42 := by
        have := Bx.sets (w := T) (Cm.fc c).toList 0 _ _ T1
        rw [hX,over_cmd] at this;exact this
      have bX : Below w.heap.size w X := hX ▸ bT.trans (low_setCells (by omega) _ _ _)
      have x9 : X.cell? ⟨w.heap.size + 1,9,none⟩ = some (.int .i64 0) := X1.cell 9
      have f9 : X.frozen? ⟨w.heap.size + 1,9,none⟩ = false := X1.thawed 9
      obtain ⟨Y,hY⟩ : ∃ Q_ : World,X.setCell ⟨w.heap.size + 1,9,none⟩ (.int .i64 q) = Q_ := ⟨_,rfl⟩
      have Y0 : Hid (Bx Y w.heap.size (cv Cm.zeroF 0 Ve.zeroV) 42) := lH (hY ▸ X0.set' (by omega) _ _)
      have Y1 : Hid (Bx Y (w.heap.size + 1) (cv c q (gvD s (b + 34) 0)) 42) := lH (by
        have := X1.set 9 (.int .i64 q)
        rw [hY,cv_set9] at this
        rw [gvD_zero];exact this)
      have bY : Below w.heap.size w Y := hY ▸ bX.trans (low_setCell _ _ (by omega))
      clear C0 C1 U0 U1 U2 T0 T1 T2 X0 X1
      go_wp2_with fail
      refine (rGet_is HM.out HG1 _).mono ?_
      rintro e w' ⟨rfl,rfl⟩
      go_wp2
      rw [HE34.out]
      clear pu rt lt th x9 f9 hU hT hX hY aU bU bT bX
      go_loopw [11,45] (fun at_ j wr => ∃ (k : Nat),k ≤ cl n ∧ j = .int .i64 k ∧ at_ = .int .i64 ((b : Int) + 34 + 2 * (k : Nat)) ∧ b + 34 + 2 * k ≤ s.size ∧ Bx wr w.heap.size (cv Cm.zeroF 0 Ve.zeroV) 42 ∧ Bx wr (w.heap.size + 1) (cv c q (gvD s (b + 34) k)) 42 ∧ Below w.heap.size w wr) (fun _ j _ => 7 - (intOf j).toNat)
      case atStart => exact ⟨0,Nat.zero_le _,rfl,rfl,h34,Y0.out,Y1.out,bY⟩
      case round =>
        obtain ⟨k,hk,rfl,rfl,hks,b0,b1,hb⟩ := hrel
        have hk7 := cl_le n
        clear Y0 Y1 bY
        by_cases hlt : k < cl n
        · have hlt2 : (k : Int) < M := (HMl.out k hk).2 hlt
          have hk8 : k < 7 := by omega
          have hk9 : (k : Int) < 7 := by omega
          by_cases hin : b + 34 + 2 * k + 2 ≤ s.size
          · obtain ⟨z,hz⟩ : ∃ z : Nat,dec s (b + 34 + 2 * k) 2 = z := ⟨_,rfl⟩
            have HGk : Hid (getV s ((b : Int) + 34 + 2 * (k : Nat)) 2 = .tuple #[.int .i64 z,.int .i64 0]) := lH (by rw [show (b : Int) + 34 + 2 * (k : Nat) = ((b + 34 + 2 * k : Nat) : Int) by omega,← hz];exact get_w (k := 2) hin (by decide))
            obtain ⟨X,hX⟩ : ∃ Q_ : World,wr.setCell ⟨w.heap.size + 1,10 + k,none⟩ (.int .i64 z) = Q_ := ⟨_,rfl⟩
            have X0 : Hid (Bx X w.heap.size (cv Cm.zeroF 0 Ve.zeroV) 42) := lH (hX ▸ b0.set' (by omega) _ _)
            have X1 : Hid (Bx X (w.heap.size + 1) (cv c q (gvD s (b + 34) (k + 1))) 42) := lH (by
              have := b1.set (10 + k) (.int .i64 z)
              rw [hX,cv_setD _ _ _ _ _ hk8,← hz,gvD_succ] at this
              exact this)
            have bX : Below w.heap.size w X := hX ▸ hb.trans (low_setCell _ _ (by omega))
            have hcl : wr.cell? ⟨w.heap.size + 1,10 + k,none⟩ = some (.int .i64 (gvD s (b + 34) k k)) := by rw [b1.cell,dep_at _ _ _ _ hk8]
            have hfz : wr.frozen? ⟨w.heap.size + 1,10 + k,none⟩ = false := b1.thawed _
            have e36 : (b : Int) + 34 + 2 * ((k + 1 : Nat) : Int) = (b : Int) + 34 + 2 * (k : Nat) + 2 := by omega
            have HE36 := lH e36
            clear b0 b1 e36 hz
            go_wp2_with fail
            refine (rGet_is HM.out HGk _).mono ?_
            rintro e w' ⟨rfl,rfl⟩
            go_wp2
            go_roundw
            case rel => first | exact ⟨k + 1,by omega,by go_num,by rw [HE36.out],by omega,X0.out,X1.out,bX⟩ | ((repeat apply Exists.intro);exact ⟨⟨k + 1,by omega,by go_num,by rw [HE36.out],by omega,X0.out,X1.out,bX⟩,rfl⟩)
            case measure => simp [intOf];omega
          · have HGk : Hid (getV s ((b : Int) + 34 + 2 * (k : Nat)) 2 = .tuple #[.int .i64 0,.int .i64 2]) := lH (by rw [show (b : Int) + 34 + 2 * (k : Nat) = ((b + 34 + 2 * k : Nat) : Int) by omega];exact get_no (k := 2) hks (by omega) (by decide))
            have hsh : s.size < b + 34 + 2 * cl n := by omega
            have HE := lH (gv_bad (gvE_short (n := n) HR.out.2.2 hsh) (by decide))
            clear hsh
            obtain ⟨Y,hY⟩ : ∃ Q_ : World,wr.setRow w.heap.size (cv Cm.zeroF 0 Ve.zeroV) = Q_ := ⟨_,rfl⟩
            have Y0 : Bx Y w.heap.size (cv Cm.zeroF 0 Ve.zeroV) 42 := hY ▸ b0.put _
            have bY : Below w.heap.size w Y := hY ▸ hb.trans (low_setRow _ (by omega))
            have px := b0.plain (n := 17) rfl
            have y0 := Y0.row
            clear b0 b1 Y0
            go_wp2_with fail
            refine (rGet_is HM.out HGk _).mono ?_
            rintro e w' ⟨rfl,rfl⟩
            go_wp2
            exact bodyPost_ret (v := .tuple #[.agg (cv Cm.zeroF 0 Ve.zeroV),.int .i64 0,.int .i64 2]) (ret_V3 Tryz.results104 _ _ Cm.zeroF 0 Ve.zeroV (by simp [go_sem,y0])) rfl ⟨by rw [HE.out],bY⟩
        · obtain rfl : k = cl n := by omega
          have hlt2 : ¬ ((cl n : Nat) : Int) < M := fun h => hlt ((HMl.out _ hk).1 h)
          obtain ⟨K,hK⟩ : ∃ K,cl n = K := ⟨_,rfl⟩
          obtain ⟨d,hd⟩ : ∃ d,gvD s (b + 34) (cl n) = d := ⟨_,rfl⟩
          rw [hd] at b1
          cases ho : okV c q d n
          · have HE : Hid (gvT s b n = .tuple #[.agg (cv Cm.zeroF 0 Ve.zeroV),.int .i64 0,.int .i64 3]) := lH (gv_bad (gvE_no HR.out.2.2 hks (by rw [HR.out.1,HQ.out,hd];exact ho)) (by decide))
            have HO := lH ho
            have r1 := b1.row
            have l1 := b1.lt
            have HB0' := lH b0
            clear ho hd b0 b1 HB0 HB1
            have hlt3 : decide ((K : Int) < M) = false := by rw [← hK];exact decide_eq_false hlt2
            rw [hK] at *
            clear hK
            go_wp2_with fail
            refine (rValue_is HO _).mono ?_
            rintro e w2 ⟨rfl,hb2⟩
            have W0 := HB0'.out.stays hb2
            have bW : Below w.heap.size w w2 := nx hb hb2
            obtain ⟨Y,hY⟩ : ∃ Q_ : World,w2.setRow w.heap.size (cv Cm.zeroF 0 Ve.zeroV) = Q_ := ⟨_,rfl⟩
            have Y0 : Bx Y w.heap.size (cv Cm.zeroF 0 Ve.zeroV) 42 := hY ▸ W0.put _
            have bY : Below w.heap.size w Y := hY ▸ bW.trans (low_setRow _ (by omega))
            have px := W0.plain (n := 17) rfl
            have y0 := Y0.row
            clear W0 Y0 r1 l1
            go_wp2
            exact bodyPost_ret (v := .tuple #[.agg (cv Cm.zeroF 0 Ve.zeroV),.int .i64 0,.int .i64 3]) (ret_V3 Tryz.results104 _ _ Cm.zeroF 0 Ve.zeroV (by simp [go_sem,y0])) rfl ⟨by rw [HE.out],bY⟩
          · have HE : Hid (gvT s b n = .tuple #[.agg (cv c q d),.int .i64 ((b : Int) + 34 + 2 * (cl n : Nat)),.int .i64 0]) := lH (by
              have := gv_yes (n := n) HR.out.2.2 hks (by rw [HR.out.1,HQ.out,hd];exact ho)
              rw [HR.out.1,HQ.out,hd] at this;exact this)
            have HO := lH ho
            have r1 := b1.row
            have l1 := b1.lt
            have HB0' := lH b0
            have HB1' := lH b1
            clear ho hd b0 b1 HB0 HB1
            have hlt3 : decide ((K : Int) < M) = false := by rw [← hK];exact decide_eq_false hlt2
            rw [hK] at *
            clear hK
            go_wp2_with fail
            refine (rValue_is HO _).mono ?_
            rintro e w2 ⟨rfl,hb2⟩
            clear r1 l1
            have W0 := HB0'.out.stays hb2
            have W1 := HB1'.out.stays hb2
            have bW : Below w.heap.size w w2 := nx hb hb2
            obtain ⟨Y,hY⟩ : ∃ Q_ : World,w2.setRow w.heap.size (cv c q d) = Q_ := ⟨_,rfl⟩
            have Y0 : Bx Y w.heap.size (cv c q d) 42 := hY ▸ W0.put _
            have bY : Below w.heap.size w Y := hY ▸ bW.trans (low_setRow _ (by omega))
            have px := W0.plain (n := 17) rfl
            have r1 := W1.row
            have y0 := Y0.row
            clear W0 W1 Y0
            go_wp2
            exact bodyPost_ret (v := .tuple #[.agg (cv c q d),.int .i64 ((b : Int) + 34 + 2 * (K : Nat)),.int .i64 0]) (ret_V3 Tryz.results104 _ _ c q d (by simp [go_sem,y0])) rfl ⟨by rw [HE.out],bY⟩
    · have HG1 : Hid (getV s (b + 30 : Nat) (4 : Nat) = .tuple #[.int .i64 0,.int .i64 2]) := lH (get_no (by omega) (by omega) (by decide))
      have HE := lH (gv_bad (gvE_short (n := n) HR.out.2.2 (by omega)) (by decide))
      go_enter Tryz.func104,Tryz.ntmps104
      go_wp2_with fail
      refine (rRead_is HR HS _).mono ?_
      rintro e w1 ⟨rfl,hb1⟩
      have C0 := HB0.out.stays hb1
      have C1 := HB1.out.stays hb1
      have hlt1 : w.heap.size + 1 < w1.heap.size := C1.lt
      obtain ⟨U,hU⟩ : ∃ Q_ : World,w1.alloc (.cells (Cm.fc Cm.zeroF) 38) = Q_ := ⟨_,rfl⟩
      have aU : Below w1.heap.size w1 U := hU ▸ below1 _ _
      have U2 : Bx U w1.heap.size (Cm.fc Cm.zeroF) 38 := hU ▸ Bx.new _ _ _
      have U0 := C0.stays aU
      have U1 := C1.stays aU
      have bU := nx bV (nx hb1 aU)
      have pu := U2.plain (n := 9) (Cm.fc_size _)
      obtain ⟨T,hT⟩ : ∃ Q_ : World,U.setRow w1.heap.size (Cm.fc c) = Q_ := ⟨_,rfl⟩
      have T0 : Bx T w.heap.size (cv Cm.zeroF 0 Ve.zeroV) 42 := hT ▸ U0.put' (by omega) _
      have T1 : Bx T (w.heap.size + 1) (cv Cm.zeroF 0 Ve.zeroV) 42 := hT ▸ U1.put' (by omega) _
      have bT : Below w.heap.size w T := hT ▸ bU.trans (low_setRow _ (by omega))
      have rt := T1.row
      have pt := T0.plain (n := 17) rfl
      have lt := T1.lt
      obtain ⟨Y,hY⟩ : ∃ Q_ : World,T.setRow w.heap.size (cv Cm.zeroF 0 Ve.zeroV) = Q_ := ⟨_,rfl⟩
      have Y0 : Bx Y w.heap.size (cv Cm.zeroF 0 Ve.zeroV) 42 := hY ▸ T0.put _
      have bY : Below w.heap.size w Y := hY ▸ bT.trans (low_setRow _ (by omega))
      have y0 := Y0.row
      clear C0 C1 U0 U1 U2 T0 T1 Y0
      go_wp2_with fail
      refine (rGet_is HM.out HG1 _).mono ?_
      rintro e w' ⟨rfl,rfl⟩
      go_wp2
      exact bodyPost_ret (v := .tuple #[.agg (cv Cm.zeroF 0 Ve.zeroV),.int .i64 0,.int .i64 2]) (ret_V3 Tryz.results104 _ _ Cm.zeroF 0 Ve.zeroV (by simp [go_sem,y0])) rfl ⟨by rw [HE.out],bY⟩
  · have HE := lH (gv_bad (n := n) ((gvE_rd (by rw [HR.out.2.2];exact h0)).trans HR.out.2.2) h0)
    have hy1 : (y != 0) = true := by simpa using h0
    clear h0
    go_enter Tryz.func104,Tryz.ntmps104
    go_wp2_with fail
    refine (rRead_is HR HS _).mono ?_
    rintro e w1 ⟨rfl,hb1⟩
    have C0 := HB0.out.stays hb1
    have C1 := HB1.out.stays hb1
    have hlt1 : w.heap.size + 1 < w1.heap.size := C1.lt
    obtain ⟨U,hU⟩ : ∃ Q_ : World,w1.alloc (.cells (Cm.fc Cm.zeroF) 38) = Q_ := ⟨_,rfl⟩
    have aU : Below w1.heap.size w1 U := hU ▸ below1 _ _
    have U2 : Bx U w1.heap.size (Cm.fc Cm.zeroF) 38 := hU ▸ Bx.new _ _ _
    have U0 := C0.stays aU
    have U1 := C1.stays aU
    have bU := nx bV (nx hb1 aU)
    have pu := U2.plain (n := 9) (Cm.fc_size _)
    obtain ⟨T,hT⟩ : ∃ Q_ : World,U.setRow w1.heap.size (Cm.fc c) = Q_ := ⟨_,rfl⟩
    have T0 : Bx T w.heap.size (cv Cm.zeroF 0 Ve.zeroV) 42 := hT ▸ U0.put' (by omega) _
    have T1 : Bx T (w.heap.size + 1) (cv Cm.zeroF 0 Ve.zeroV) 42 := hT ▸ U1.put' (by omega) _
    have bT : Below w.heap.size w T := hT ▸ bU.trans (low_setRow _ (by omega))
    have rt := T1.row
    have pt := T0.plain (n := 17) rfl
    have lt := T1.lt
    obtain ⟨Y,hY⟩ : ∃ Q_ : World,T.setRow w.heap.size (cv Cm.zeroF 0 Ve.zeroV) = Q_ := ⟨_,rfl⟩
    have Y0 : Bx Y w.heap.size (cv Cm.zeroF 0 Ve.zeroV) 42 := hY ▸ T0.put _
    have bY : Below w.heap.size w Y := hY ▸ bT.trans (low_setRow _ (by omega))
    have y0 := Y0.row
    clear C0 C1 U0 U1 U2 T0 T1 Y0
    go_wp2
    exact bodyPost_ret (v := .tuple #[.agg (cv Cm.zeroF 0 Ve.zeroV),.int .i64 0,.int .i64 y]) (ret_V3 Tryz.results104 _ _ Cm.zeroF 0 Ve.zeroV (by simp [go_sem,y0])) rfl ⟨by rw [HE.out],bY⟩
end Go.Proofs.YtnnbjhpkgndclaaGreatDoor.Rc
namespace Go.Proofs.YtnnbjhpkgndclaaGreatDoor.Rc
open Go.RowKit
open Go.Proofs.YtnnbjhpkgndclaaGreatDoor.Rw
open Go.Proofs.YtnnbjhpkgndclaaGreatDoor.Bv
open Go.Proofs.YtnnbjhpkgndclaaGreatDoor.Fx (enc enc_size putV dec getV oB wB)
open Go.Proofs.YtnnbjhpkgndclaaGreatDoor.Cm (Tab readC readE rGet_is)
theorem rGetValue_is {s : ByteArray} {a n x y q : Int} {c d : Nat → Int} (H : Hid (gvC s a n = c ∧ gvQ s a n = q ∧ gvV s a n = d ∧ gvA s a n = x ∧ gvE s a n = y)) (hs : Hid (s.size ≤ 1000000)) (w : World) :
    Calls Tryz.prog 104 #[.string s,.int .i64 a,.int .i64 n] w fun e w' => e = .returned (.tuple #[.agg (cv c q d),.int .i64 x,.int .i64 y]) ∧ Below w.heap.size w w' := by
  obtain ⟨rfl,rfl,rfl,rfl,rfl⟩ := H.out
  exact rGetValue_any s a n hs.out w
theorem dec1 (s : ByteArray) (b : Nat) (h : b < s.size) : dec s b 1 = s[b].toNat := by
  rw [Fx.dec_succ s b 0 (by omega),Fx.dec];simp
theorem byte1 (s : ByteArray) (b : Nat) (h : b < s.size) : wrap64 (s[b].toNat : Int) = dec s b 1 := by
  rw [dec1 s b h]
  have := s[b].toNat_lt
  unfold wrap64;omega
theorem two_b (s : ByteArray) (h : 2 < s.size) : bits BinOp.or IntKind.i64 (wrap64 (wrap64 (s[1].toNat : Int) * 256)) (wrap64 (s[2].toNat : Int)) = dec s 1 2 := by
  have h1 := Fx.dec_stepi s 1 1 (by omega) h
  have h2 := Fx.dec_lt s 1 1
  rw [byte1 s 1 (by omega),show wrap64 ((dec s 1 1 : Int) * 256) = (dec s 1 1 : Int) * 256 by unfold wrap64;omega]
  exact h1
theorem flag_b (s : ByteArray) (h : 4 < s.size) : ((s[4].toNat : Int) == 1) = decide (dec s 4 1 = 1) := by
  rw [dec1 s 4 h,Bool.eq_iff_iff];simp;omega
theorem ci_s2 (i : Ins) (x : Int) : (ci i).setIfInBounds 2 (.int .i64 x) = ci ⟨i.pr,i.ps,x,i.br,i.tn,i.tr,i.st,i.c,i.q,i.d,i.sm⟩ := rfl
theorem ci_s3 (i : Ins) (x : Int) : (ci i).setIfInBounds 3 (.int .i64 x) = ci ⟨i.pr,i.ps,i.bn,x,i.tn,i.tr,i.st,i.c,i.q,i.d,i.sm⟩ := rfl
theorem ci_s4 (i : Ins) (x : Int) : (ci i).setIfInBounds 4 (.int .i64 x) = ci ⟨i.pr,i.ps,i.bn,i.br,x,i.tr,i.st,i.c,i.q,i.d,i.sm⟩ := rfl
theorem ci_s5 (i : Ins) (x : Int) : (ci i).setIfInBounds 5 (.int .i64 x) = ci ⟨i.pr,i.ps,i.bn,i.br,i.tn,x,i.st,i.c,i.q,i.d,i.sm⟩ := rfl
attribute [go_sem] ci_s2 ci_s3 ci_s4 ci_s5
set_option maxRecDepth 8000 in
set_option maxHeartbeats 8000000 in
theorem rRead_any (s : ByteArray) (n : Int) (hs : s.size ≤ 1000000) (w : World) :
    Calls Tryz.prog 76 #[.string s,.int .i64 n] w fun e w' => e = .returned (rdT s n) ∧ Below w.heap.size w w' := by
  have HS := lH hs
  have HM : Hid (s.size ≤ maxLen) := lH (Nat.le_trans hs (by decide))
  obtain ⟨V,hV⟩ : ∃ Q_ : World,w.alloc (.cells (ci zeroI) 44) = Q_ := ⟨_,rfl⟩
  have bV : Below w.heap.size w V := hV ▸ below1 _ _
  have B0 : Bx V w.heap.size (ci zeroI) 44 := hV ▸ Bx.new _ _ _
  have HB0 := lH B0
  by_cases h15 : s.size < 15
  · have HE := lH (rd_bad (rdE_short (n := n) h15) (by decide))
    have hd : decide ((s.size : Int) < 15) = true := decide_eq_true (by omega)
    obtain ⟨X,hX⟩ : ∃ Q_ : World,V.setRow w.heap.size (ci zeroI) = Q_ := ⟨_,rfl⟩
    have X0 : Bx X w.heap.size (ci zeroI) 44 := hX ▸ B0.put _
    have bX : Below w.heap.size w X := hX ▸ bV.trans (low_setRow _ (by omega))
    have p0 := B0.plain (n := 25) rfl
    have x0 := X0.row
    clear B0 X0
    go_enter Tryz.func76,Tryz.ntmps76
    go_wp2
    exact bodyPost_ret (v := .tuple #[.agg (ci zeroI),.int .i64 2]) (ret_I2 Tryz.results76 _ _ zeroI (by simp [go_sem,x0])) rfl ⟨by rw [HE.out],bX⟩
  · have hd : decide ((s.size : Int) < 15) = false := decide_eq_false (by omega)
    have h15 : 15 ≤ s.size := by omega
    clear B0
    have hsz : (15 : Int) ≤ s.size := by omega
    have i0 : 0 < s.size := by omega
    have i1 : 1 < s.size := by omega
    have i2 : 2 < s.size := by omega
    have i3 : 3 < s.size := by omega
    have i4 : 4 < s.size := by omega
    have j0 : (0 : Int) < s.size := by omega
    have j1 : (1 : Int) < s.size := by omega
    have j2 : (2 : Int) < s.size := by omega
    have j3 : (3 : Int) < s.size := by omega
    have j4 : (4 : Int) < s.size := by omega
    have W0 := lH (byte1 s 0 i0)
    have W1 := lH (two_b s i2)
    have W3 := lH (byte1 s 3 i3)
    have W4 := lH (flag_b s i4)
    have i9 : 9 < s.size := by omega
    have i14 : 14 < s.size := by omega
    have j9 : (9 : Int) < s.size := by omega
    have j14 : (14 : Int) < s.size := by omega
    have W9 := lH (byte1 s 9 i9)
    have W14 := lH (byte1 s 14 i14)
    obtain ⟨g5,hg5⟩ : ∃ g : Nat,dec s 5 4 = g := ⟨_,rfl⟩
    obtain ⟨g10,hg10⟩ : ∃ g : Nat,dec s 10 4 = g := ⟨_,rfl⟩
    have G5 : Hid (getV s 5 4 = .tuple #[.int .i64 g5,.int .i64 0]) := lH (by rw [← hg5];exact get_w (b := 5) (k := 4) (by omega) (by decide))
    have G10 : Hid (getV s 10 4 = .tuple #[.int .i64 g10,.int .i64 0]) := lH (by rw [← hg10];exact get_w (b := 10) (k := 4) (by omega) (by decide))
    have HG5 := lH hg5
    have HG10 := lH hg10
    clear hg5 hg10
    obtain ⟨c,hc⟩ : ∃ x,gvC s 15 n = x := ⟨_,rfl⟩
    obtain ⟨q,hq⟩ : ∃ x,gvQ s 15 n = x := ⟨_,rfl⟩
    obtain ⟨d,hdd⟩ : ∃ x,gvV s 15 n = x := ⟨_,rfl⟩
    obtain ⟨x,hx⟩ : ∃ x,gvA s 15 n = x := ⟨_,rfl⟩
    obtain ⟨y,hy⟩ : ∃ x,gvE s 15 n = x := ⟨_,rfl⟩
    have HG := lH (⟨hc,hq,hdd,hx,hy⟩ : gvC s 15 n = c ∧ gvQ s 15 n = q ∧ gvV s 15 n = d ∧ gvA s 15 n = x ∧ gvE s 15 n = y)
    clear hc hq hdd hx hy
    go_enter Tryz.func76,Tryz.ntmps76
    go_wp2
    go_region
    rw [W0.out,W1.out,W3.out,W4.out]
    go_wp2_with fail
    refine (rGet_is HM.out G5 _).mono ?_
    rintro e w' ⟨rfl,rfl⟩
    go_wp2_with fail
    refine (rGet_is HM.out G10 _).mono ?_
    rintro e w' ⟨rfl,rfl⟩
    go_wp2_with fail
    rw [W9.out,W14.out]
    obtain ⟨J,hJ⟩ : ∃ J : Ins,(⟨dec s 0 1,dec s 1 2,g5,dec s 9 1,g10,dec s 14 1,dec s 3 1,Cm.zeroF,0,Ve.zeroV,decide (dec s 4 1 = 1)⟩ : Ins) = J := ⟨_,rfl⟩
    rw [hJ]
    obtain ⟨Z,hZ⟩ : ∃ Q_ : World,(V.alloc (.cells (ci J) 44)).drew = Q_ := ⟨_,rfl⟩
    have aZ : Below V.heap.size V Z := hZ ▸ (below1 V (.cells (ci J) 44)).drew
    have Z0 := HB0.out.stays aZ
    have Z1 : Bx Z V.heap.size (ci J) 44 := hZ ▸ (show Bx (V.alloc (.cells (ci J) 44)).drew V.heap.size (ci J) 44 from Bx.new V (ci J) 44)
    rw [hZ]
    have HZ0 := lH Z0
    have HZ1 := lH Z1
    have bZ := nx bV aZ
    have hl0 : w.heap.size < V.heap.size := HB0.out.lt
    clear hZ Z0 Z1
    have HJ := lH hJ
    have HX : Hid (y = 0 → (⟨J.pr,J.ps,J.bn,J.br,J.tn,J.tr,J.st,c,q,d,J.sm⟩ : Ins) = insAt s n ∧ x = 49 + 2 * cl n) := lH fun h => by
      obtain ⟨e1,e2,e3,e4,e5⟩ := HG.out
      have e5 := e5.trans h
      rw [← HJ.out,← HG5.out,← HG10.out]
      unfold gvC at e1;unfold gvQ at e2;unfold gvV at e3;unfold gvA at e4
      rw [e5,if_pos rfl] at e1 e2 e3 e4
      rw [← e1,← e2,← e3,← e4]
      exact ⟨rfl,by omega⟩
    clear hJ W0 W1 W3 W9 W14 G5 G10 HG5 HG10
    refine (rGetValue_is HG HS _).mono ?_
    rintro e w1 ⟨rfl,hb1⟩
    have C0 := HZ0.out.stays hb1
    have C1 := HZ1.out.stays hb1
    have hl1 : V.heap.size < w1.heap.size := C1.lt
    obtain ⟨U,hU⟩ : ∃ Q_ : World,w1.alloc (.cells (cv Cm.zeroF 0 Ve.zeroV) 42) = Q_ := ⟨_,rfl⟩
    have aU : Below w1.heap.size w1 U := hU ▸ below1 w1 (.cells (cv Cm.zeroF 0 Ve.zeroV) 42)
    have bU := nx bZ (nx hb1 aU)
    have U0 := C0.stays aU
    have U1 := C1.stays aU
    have U2 : Bx U w1.heap.size (cv Cm.zeroF 0 Ve.zeroV) 42 := hU ▸ Bx.new _ _ _
    have pU := U2.plain (n := 17) rfl
    obtain ⟨T,hT⟩ : ∃ Q_ : World,U.setRow w1.heap.size (cv c q d) = Q_ := ⟨_,rfl⟩
    have T0 : Bx T w.heap.size (ci zeroI) 44 := hT ▸ U0.put' (by omega) _
    have T1 : Bx T V.heap.size (ci J) 44 := hT ▸ U1.put' (by omega) _
    have T2 : Bx T w1.heap.size (cv c q d) 42 := hT ▸ U2.put _
    have bT : Below w.heap.size w T := hT ▸ bU.trans (low_setRow _ (by omega))
    clear C0 C1 U0 U1 U2
    by_cases hy0 : y = 0
    · obtain ⟨hI,hxe⟩ := HX.out hy0
      obtain ⟨I,hII⟩ : ∃ I,insAt s n = I := ⟨_,rfl⟩
      rw [hII] at hI
      have HII := lH hII
      have hF := rdE_form h15 (HG.out.2.2.2.2.trans hy0)
      rw [hII] at hF
      have HF := lH hF
      subst hy0
      have rT := T2.row
      have lT := T2.lt
      have thT := T1.there (o := 7) (n := 17) (by show 7 + 17 ≤ 25;decide)
      obtain ⟨C,hC⟩ : ∃ Q_ : World,T.setCells V.heap.size 7 (cv c q d).toList = Q_ := ⟨_,rfl⟩
      have C0 : Bx C w.heap.size (ci zeroI) 44 := hC ▸ Bx.sets' (by omega) _ _ _ T0
      have C1 : Bx C V.heap.size (ci I) 44 := by
        have := Bx.sets (w := T) (cv c q d).toList 7 _ _ T1
        rw [hC,over_val,hI] at this;exact this
      have bC : Below w.heap.size w C := hC ▸ bT.trans (low_setCells (by omega) _ _ _)
      clear T0 T1 T2 hI hF hII
      have p0 := C0.plain (n := 25) rfl
      have l0 := C0.lt
      by_cases k1 : dec s 4 1 ≤ 1
      · have k1' : decide ((1 : Int) < (s[4].toNat : Int)) = false := by rw [← dec1 s 4 i4];simp;omega
        by_cases k2 : s.size = 49 + 2 * cl n
        · have k2' : x = s.size := by omega
          have HK1 := lH k1
          have HK2 := lH k2
          subst k2'
          clear k1 k2 hxe
          have r1 := C1.row
          have l1 := C1.lt
          have G0 := lH C0
          have G1 := lH C1
          cases ho : okI I n
          · have HO := lH ho
            have HE := lH (rd_bad (HF.out.trans (if_neg fun k => by rw [HO.out] at k;exact absurd k.2.2 (by decide))) (by decide))
            clear ho C0 C1 p0 l0
            go_wp2_with fail
            clear r1 l1
            refine (rRight_is HO _).mono ?_
            rintro e w2 ⟨rfl,hb2⟩
            have D0 := G0.out.stays hb2
            have bD := nx bC hb2
            have p0 := D0.plain (n := 25) rfl
            obtain ⟨X,hX⟩ : ∃ Q_ : World,w2.setRow w.heap.size (ci zeroI) = Q_ := ⟨_,rfl⟩
            have X0 : Bx X w.heap.size (ci zeroI) 44 := hX ▸ D0.put _
            have bX : Below w.heap.size w X := hX ▸ bD.trans (low_setRow _ (by omega))
            have x0 := X0.row
            clear D0 X0
            go_wp2
            exact bodyPost_ret (v := .tuple #[.agg (ci zeroI),.int .i64 3]) (ret_I2 Tryz.results76 _ _ zeroI (by simp [go_sem,x0])) rfl ⟨by rw [HE.out],bX⟩
          · have HO := lH ho
            have HE := lH (rd_good (HF.out.trans (if_pos ⟨HK1.out,HK2.out,HO.out⟩)))
            rw [HII.out] at HE
            clear ho C0 C1 p0 l0
            go_wp2_with fail
            clear r1 l1
            refine (rRight_is HO _).mono ?_
            rintro e w2 ⟨rfl,hb2⟩
            have D0 := G0.out.stays hb2
            have D1 := G1.out.stays hb2
            have bD := nx bC hb2
            have p0 := D0.plain (n := 25) rfl
            have r1 := D1.row
            have l1 := D1.lt
            obtain ⟨X,hX⟩ : ∃ Q_ : World,w2.setRow w.heap.size (ci I) = Q_ := ⟨_,rfl⟩
            have X0 : Bx X w.heap.size (ci I) 44 := hX ▸ D0.put _
            have bX : Below w.heap.size w X := hX ▸ bD.trans (low_setRow _ (by omega))
            have x0 := X0.row
            clear D0 D1 X0
            go_wp2
            exact bodyPost_ret (v := .tuple #[.agg (ci I),.int .i64 0]) (ret_I2 Tryz.results76 _ _ I (by simp [go_sem,x0])) rfl ⟨by rw [HE.out],bX⟩
        · have HE := lH (rd_bad (HF.out.trans (if_neg fun k => k2 k.2.1)) (by decide))
          have k3 : (x != (s.size : Int)) = true := by simp;omega
          obtain ⟨X,hX⟩ : ∃ Q_ : World,C.setRow w.heap.size (ci zeroI) = Q_ := ⟨_,rfl⟩
          have X0 : Bx X w.heap.size (ci zeroI) 44 := hX ▸ C0.put _
          have bX : Below w.heap.size w X := hX ▸ bC.trans (low_setRow _ (by omega))
          have x0 := X0.row
          clear C0 C1 X0 k1 k2 hxe
          go_wp2
          exact bodyPost_ret (v := .tuple #[.agg (ci zeroI),.int .i64 3]) (ret_I2 Tryz.results76 _ _ zeroI (by simp [go_sem,x0])) rfl ⟨by rw [HE.out],bX⟩
      · have HE := lH (rd_bad (HF.out.trans (if_neg fun k => k1 k.1)) (by decide))
        have k1' : decide ((1 : Int) < (s[4].toNat : Int)) = true := by rw [← dec1 s 4 i4];simp;omega
        obtain ⟨X,hX⟩ : ∃ Q_ : World,C.setRow w.heap.size (ci zeroI) = Q_ := ⟨_,rfl⟩
        have X0 : Bx X w.heap.size (ci zeroI) 44 := hX ▸ C0.put _
        have bX : Below w.heap.size w X := hX ▸ bC.trans (low_setRow _ (by omega))
        have x0 := X0.row
        clear C0 C1 X0 k1 hxe
        go_wp2
        exact bodyPost_ret (v := .tuple #[.agg (ci zeroI),.int .i64 3]) (ret_I2 Tryz.results76 _ _ zeroI (by simp [go_sem,x0])) rfl ⟨by rw [HE.out],bX⟩
    · have HE := lH (rd_bad ((rdE_val h15 (by rw [HG.out.2.2.2.2];exact hy0)).trans HG.out.2.2.2.2) hy0)
      have hy1 : (y != 0) = true := by simpa using hy0
      have pT := T0.plain (n := 25) rfl
      obtain ⟨X,hX⟩ : ∃ Q_ : World,T.setRow w.heap.size (ci zeroI) = Q_ := ⟨_,rfl⟩
      have X0 : Bx X w.heap.size (ci zeroI) 44 := hX ▸ T0.put _
      have bX : Below w.heap.size w X := hX ▸ bT.trans (low_setRow _ (by omega))
      have x0 := X0.row
      clear T0 T1 T2 X0 hy0
      go_wp2
      exact bodyPost_ret (v := .tuple #[.agg (ci zeroI),.int .i64 y]) (ret_I2 Tryz.results76 _ _ zeroI (by simp [go_sem,x0])) rfl ⟨by rw [HE.out],bX⟩
end Go.Proofs.YtnnbjhpkgndclaaGreatDoor.Rc
