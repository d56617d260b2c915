/- Read of package command. -/
import Derived.Test.YtngnkjbcnmcngaaDoorCmB
import Derived.Test.YtngnkjbcnmcngaaDoorCmC
import Derived.Test.YtngnkjbcnmcngaaDoorCmH
namespace Go.Proofs.YtngnkjbcnmcngaaDoor.Cm
open Go.RowKit
set_option linter.unusedVariables false
open Go.Proofs.YtngnkjbcnmcngaaDoor.Rw
open Go.Proofs.YtngnkjbcnmcngaaDoor.Fx (ret_v ret_bool ret_int dec dec_lt getV oB wB get_any)
/-- The number at place i of the command at a. -/
def rdN (s : ByteArray) (a i : Nat) : Int := dec s (a + pre i) (wd i)
def rdC (s : ByteArray) (a : Nat) : Nat → Int := ofF (rdN s a)
def readE (s : ByteArray) (a : Int) : Int := if oB s a then (if 30 ≤ s.size - a then (if chkB (rdC s a.toNat) then 0 else 3) else 2) else 1
def readC (s : ByteArray) (a : Int) : Nat → Int := if readE s a = 0 then rdC s a.toNat else zeroF
def readA (s : ByteArray) (a : Int) : Int := if readE s a = 0 then a + 30 else 0
theorem get_is {s : ByteArray} {a x : Int} {v : Value} (hs : s.size ≤ maxLen) (h : Hid (getV s a x = v)) (w : World) :
    Calls Tryd.prog 39 #[.string s, .int .i64 a, .int .i64 x] w fun e w' => e = .returned v ∧ w = w' := by
  rw [← h.out]; exact get_any s a x hs w
theorem getV_arg {s : ByteArray} {a : Int} (h : oB s a = false) (x : Int) : getV s a x = .tuple #[.int .i64 0, .int .i64 1] := by
  unfold getV; rw [h]; rfl
theorem oB_nat (s : ByteArray) (b : Nat) : oB s b = decide (b ≤ s.size) := by unfold oB; simp
theorem getV_ok {s : ByteArray} {b k : Nat} (h : b + wd k ≤ s.size) : getV s b (wd k) = .tuple #[.int .i64 (dec s b (wd k)), .int .i64 0] := by
  have h1 := wd_bd k
  unfold getV
  rw [oB_nat, wB_wd, decide_eq_true (by omega), if_pos (by rfl), if_pos (by omega), Int.toNat_natCast, Int.toNat_natCast]
theorem getV_short {s : ByteArray} {b k : Nat} (h0 : b ≤ s.size) (h : s.size < b + wd k) : getV s b (wd k) = .tuple #[.int .i64 0, .int .i64 2] := by
  unfold getV
  rw [oB_nat, wB_wd, decide_eq_true h0, if_pos (by rfl), if_neg (by omega)]
set_option maxHeartbeats 400000 in
/-- The offset is wrong: the first number says so. -/
theorem read_arg (s : ByteArray) (a : Int) (hs : s.size ≤ maxLen) (h : oB s a = false) (w : World) (ht : Tab w) :
    Calls Tryd.prog 38 #[.string s, .int .i64 a] w fun e w' => e = .returned (.tuple #[.agg (fc zeroF), .int .i64 0, .int .i64 1]) ∧ Below w.heap.size w w' := by
  have HG := Lib.hid (getV_arg h (wd 0))
  have HS := Lib.hid hs
  unfold Tab at ht
  have hz := Tab.lt ht
  have hz0 : 0 < w.heap.size := by omega
  clear h hs
  go_enter Tryd.func38, Tryd.ntmps38
  go_wp2
  go_loopw [1, 15] (fun at_ i wr => i = .int .i64 0 ∧ at_ = .int .i64 a ∧ wr = (w.alloc (.cells (fc zeroF) 27)).alloc (.cells (fc zeroF) 80)) (fun _ _ _ => 0)
  case atStart => exact ⟨rfl, rfl, rfl⟩
  case round =>
    obtain ⟨rfl, rfl, rfl⟩ := hrel
    go_wp2_with fail
    refine (get_is HS.out HG _).mono ?_
    rintro e w' ⟨rfl, rfl⟩
    go_wp2
    exact bodyPost_ret (v := .tuple #[.agg (fc zeroF), .int .i64 0, .int .i64 1]) (ret_C3 Tryd.results38 _ _ zeroF (by simp [go_sem])) rfl ⟨rfl, below2 _ _ _⟩
theorem rd_all (s : ByteArray) (a : Nat) : fc (ofF (mix (rdN s a) 9)) = fc (rdC s a) := fc_congr fun i _ => by
  unfold rdC ofF mix
  rw [if_pos (plc_lt i)]
set_option maxHeartbeats 1600000 in
theorem read_in (s : ByteArray) (a : Nat) (hs : s.size ≤ maxLen) (h : a ≤ s.size) (w : World) (ht : Tab w) :
    Calls Tryd.prog 38 #[.string s, .int .i64 a] w fun e w' => e = .returned (.tuple #[.agg (fc (readC s a)), .int .i64 (readA s a), .int .i64 (readE s a)]) ∧ Below w.heap.size w w' := by
  have HS := Lib.hid hs
  have ho : oB s a = true := by rw [oB_nat]; exact decide_eq_true h
  have HO := Lib.hid ho
  unfold Tab at ht
  have hz := Tab.lt ht
  have hz0 : 0 < w.heap.size := by omega
  unfold maxLen at hs
  clear ho
  go_enter Tryd.func38, Tryd.ntmps38
  go_wp2
  go_loopw [1, 15] (fun at_ i wr => ∃ k : Nat, k ≤ 9 ∧ i = .int .i64 k ∧ a + pre k ≤ s.size ∧ at_ = .int .i64 (a + pre k : Nat) ∧ wr = (w.alloc (.cells (fc zeroF) 27)).alloc (.cells (fc (mix (rdN s a) k)) 80)) (fun _ i _ => 9 - (intOf i).toNat)
  case atStart => exact ⟨0, Nat.zero_le _, rfl, h, rfl, by rw [mix_zero]⟩
  case round =>
    obtain ⟨k, hk, rfl, hin, rfl, rfl⟩ := hrel
    by_cases hlt : k < 9
    · have hlt2 : (k : Int) < 9 := by omega
      have hw := wd_bd k
      obtain ⟨hw1, hw2⟩ := hw
      by_cases hfit : a + pre k + wd k ≤ s.size
      · have HG := Lib.hid (getV_ok hfit)
        have HN : Hid ((dec s (a + pre k) (wd k) : Int) = rdN s a k) := Lib.hid rfl
        have hm := mix_succ (rdN s a) k
        have HM := Lib.hid hm
        clear hm
        have hp : pre (k + 1) = pre k + wd k := rfl
        have HP := Lib.hid hp
        clear hp
        have hfi : ((a + pre k : Nat) : Int) + (wd k : Int) ≤ s.size := by omega
        go_wp2_with fail
        refine (get_is HS.out HG _).mono ?_
        rintro e w' ⟨rfl, rfl⟩
        rw [HN.out]
        go_wp2
        rw [HM.out]
        go_roundw
        case rel => exact ⟨k + 1, by omega, by go_num, by rw [HP.out]; omega, by rw [HP.out]; go_num, rfl⟩
        case measure => simp [intOf]; omega
      · have HG := Lib.hid (getV_short (k := k) hin (by omega))
        have h30 : s.size < a + 30 := by
          have h1 := pre_mono (k + 1) 9 (by omega)
          have h2 := pre9
          rw [pre] at h1
          omega
        have HE : Hid (readE s a = 2) := Lib.hid (by unfold readE; rw [HO.out, if_pos rfl, if_neg (by omega)])
        have HC : Hid (readC s a = zeroF) := Lib.hid (by unfold readC; rw [HE.out, if_neg (by decide)])
        have HA : Hid (readA s a = 0) := Lib.hid (by unfold readA; rw [HE.out, if_neg (by decide)])
        go_wp2_with fail
        refine (get_is HS.out HG _).mono ?_
        rintro e w' ⟨rfl, rfl⟩
        go_wp2
        exact bodyPost_ret (v := .tuple #[.agg (fc zeroF), .int .i64 0, .int .i64 2]) (ret_C3 Tryd.results38 _ _ zeroF (by simp [go_sem])) rfl ⟨by rw [HE.out, HC.out, HA.out], below2 _ _ _⟩
    · obtain rfl : k = 9 := by omega
      have h30 : a + 30 ≤ s.size := by have := pre9; omega
      have H9 : Hid ((a + pre 9 : Nat) = a + 30) := Lib.hid (by rw [pre9])
      have HR := Lib.hid (rd_all s a)
      rw [H9.out]
      cases hc : chkB (rdC s a)
      · have HK : Hid (chkE (rdC s a) = 1) := Lib.hid (by unfold chkE; rw [hc]; rfl)
        have HE : Hid (readE s a = 3) := Lib.hid (by unfold readE; rw [HO.out, if_pos rfl, if_pos (by omega), Int.toNat_natCast, hc]; rfl)
        have HC : Hid (readC s a = zeroF) := Lib.hid (by unfold readC; rw [HE.out, if_neg (by decide)])
        have HA : Hid (readA s a = 0) := Lib.hid (by unfold readA; rw [HE.out, if_neg (by decide)])
        clear hc
        go_wp2_with fail
        obtain ⟨V, hV⟩ : ∃ V, V = (w.alloc (.cells (fc zeroF) 27)).alloc (.cells (fc (mix (rdN s a) 9)) 80) := ⟨_, rfl⟩
        have hp0 : plain 9 V w.heap.size = true := by rw [hV]; simp [go_sem]
        have hzV : w.heap.size < V.heap.size := by rw [hV]; simp; omega
        have hbV : Below w.heap.size w V := hV ▸ below2 w _ _
        rw [← hV]
        clear hV
        refine (ofNumbers_any _ _).mono ?_
        rintro e w1 ⟨rfl, hb1⟩
        rw [HR.out]
        have hB := bcell hb1
        obtain ⟨c1, f1, r1, p1⟩ := hB
        have hz1 : w.heap.size < w1.heap.size := by have := hb1.size; omega
        go_wp2_with fail
        obtain ⟨U, hU⟩ : ∃ U, U = w1.alloc (.cells (fc (rdC s a)) 27) := ⟨_, rfl⟩
        have hpU : plain 9 U w.heap.size = true := by rw [hU, plain_past _ _ _ _ hz1, p1 _ _ hzV]; exact hp0
        have hbU : Below w1.heap.size w1 U := hU ▸ below1 w1 _
        have hzU : w.heap.size < U.heap.size := by have := hbU.size; omega
        rw [← hU]
        clear hU
        refine (check_is HK _).mono ?_
        rintro e w2 ⟨rfl, hb2⟩
        have hp2 : plain 9 w2 w.heap.size = true := by rw [(bcell hb2).2.2.2 _ _ hzU]; exact hpU
        have hbw : Below w.heap.size w w2 := nx hbV (nx hb1 (nx hbU hb2))
        clear c1 f1 r1 p1 hp0 hpU
        have hrs := row_set (fc zeroF) hp2
        go_wp2
        exact bodyPost_ret (v := .tuple #[.agg (fc zeroF), .int .i64 0, .int .i64 3]) (ret_C3 Tryd.results38 _ _ zeroF (by simp [go_sem, hrs])) rfl ⟨by rw [HE.out, HC.out, HA.out], below_setRow hbw (Nat.le_refl _) _⟩
      · have HK : Hid (chkE (rdC s a) = 0) := Lib.hid (by unfold chkE; rw [hc]; rfl)
        have HE : Hid (readE s a = 0) := Lib.hid (by unfold readE; rw [HO.out, if_pos rfl, if_pos (by omega), Int.toNat_natCast, hc]; rfl)
        have HC : Hid (readC s a = rdC s a) := Lib.hid (by unfold readC; rw [HE.out, if_pos rfl, Int.toNat_natCast])
        have HA : Hid (readA s a = a + 30) := Lib.hid (by unfold readA; rw [HE.out, if_pos rfl])
        clear hc
        go_wp2_with fail
        obtain ⟨V, hV⟩ : ∃ V, V = (w.alloc (.cells (fc zeroF) 27)).alloc (.cells (fc (mix (rdN s a) 9)) 80) := ⟨_, rfl⟩
        have hp0 : plain 9 V w.heap.size = true := by rw [hV]; simp [go_sem]
        have hzV : w.heap.size < V.heap.size := by rw [hV]; simp; omega
        have hbV : Below w.heap.size w V := hV ▸ below2 w _ _
        rw [← hV]
        clear hV
        refine (ofNumbers_any _ _).mono ?_
        rintro e w1 ⟨rfl, hb1⟩
        rw [HR.out]
        have hB := bcell hb1
        obtain ⟨c1, f1, r1, p1⟩ := hB
        have hz1 : w.heap.size < w1.heap.size := by have := hb1.size; omega
        go_wp2_with fail
        obtain ⟨U, hU⟩ : ∃ U, U = w1.alloc (.cells (fc (rdC s a)) 27) := ⟨_, rfl⟩
        have hpU : plain 9 U w.heap.size = true := by rw [hU, plain_past _ _ _ _ hz1, p1 _ _ hzV]; exact hp0
        have hrU : row U w1.heap.size = fc (rdC s a) := by rw [hU]; exact row_new _ _ _ _ rfl
        have hzU1 : w1.heap.size < U.heap.size := by rw [hU]; simp
        have hbU : Below w1.heap.size w1 U := hU ▸ below1 w1 _
        have hzU : w.heap.size < U.heap.size := by have := hbU.size; omega
        rw [← hU]
        clear hU
        refine (check_is HK _).mono ?_
        rintro e w2 ⟨rfl, hb2⟩
        have hp2 : plain 9 w2 w.heap.size = true := by rw [(bcell hb2).2.2.2 _ _ hzU]; exact hpU
        have hr2 : row w2 w1.heap.size = fc (rdC s a) := by rw [(bcell hb2).2.2.1 _ hzU1]; exact hrU
        have hbw : Below w.heap.size w w2 := nx hbV (nx hb1 (nx hbU hb2))
        clear c1 f1 r1 p1 hp0 hpU hrU
        have hrs := row_set (fc (rdC s a)) hp2
        go_wp2
        exact bodyPost_ret (v := .tuple #[.agg (fc (rdC s a)), .int .i64 (a + 30), .int .i64 0]) (ret_C3 Tryd.results38 _ _ (rdC s a) (by simp [go_sem, hrs])) rfl ⟨by rw [HE.out, HC.out, HA.out], below_setRow hbw (Nat.le_refl _) _⟩
theorem read_any (s : ByteArray) (a : Int) (hs : s.size ≤ maxLen) (w : World) (ht : Tab w) :
    Calls Tryd.prog 38 #[.string s, .int .i64 a] w fun e w' => e = .returned (.tuple #[.agg (fc (readC s a)), .int .i64 (readA s a), .int .i64 (readE s a)]) ∧ Below w.heap.size w w' := by
  by_cases h : oB s a = true
  · have ho : 0 ≤ a ∧ a ≤ s.size := by simpa [oB] using h
    obtain ⟨b, rfl⟩ := Int.eq_ofNat_of_zero_le ho.1
    exact read_in s b hs (by omega) w ht
  · have h' : oB s a = false := by simpa using h
    have hE : readE s a = 1 := by unfold readE; rw [h']; rfl
    rw [show readC s a = zeroF by unfold readC; rw [hE, if_neg (by decide)], show readA s a = 0 by unfold readA; rw [hE, if_neg (by decide)], hE]
    exact read_arg s a hs h' w ht
end Go.Proofs.YtngnkjbcnmcngaaDoor.Cm
