/- Read, the document's own. -/
import Derived.Test.YtnnbjhpkgndclaaGreatDoorQsZZ
import Derived.Test.YtnnbjhpkgndclaaGreatDoorQsAM
import Derived.Test.YtnnbjhpkgndclaaGreatDoorQsAL
import Derived.Test.YtnnbjhpkgndclaaGreatDoorQsAR
import Derived.Test.YtnnbjhpkgndclaaGreatDoorQsAY
set_option linter.unusedVariables false
namespace Go.Proofs.YtnnbjhpkgndclaaGreatDoor.Cm
open Go.RowKit
open Go.Proofs.YtnnbjhpkgndclaaGreatDoor.Rw
open Go.Proofs.YtnnbjhpkgndclaaGreatDoor.Fx (ret_v ret_bool ret_int dec dec_lt getV oB wB rGet_any)
theorem rGet_is {s : ByteArray} {a x : Int} {v : Value} (hs : s.size ≤ maxLen) (h : Hid (getV s a x = v)) (w : World) :
    Calls Tryz.prog 103 #[.string s,.int .i64 a,.int .i64 x] w fun e w' => e = .returned v ∧ w = w' := by
  rw [← h.out];exact rGet_any s a x hs w
set_option maxHeartbeats 400000 in
theorem rRead_neg (s : ByteArray) (a : Int) (h : decide (a < 0) = true) (w : World) :
    Calls Tryz.prog 131 #[.string s,.int .i64 a] w fun e w' => e = .returned (.tuple #[.agg (fc zeroF),.int .i64 0,.int .i64 1]) ∧ Below w.heap.size w w' := by
  go_enter Tryz.func131,Tryz.ntmps131
  go_wp2
  exact bodyPost_ret (v := .tuple #[.agg (fc zeroF),.int .i64 0,.int .i64 1]) (ret_C3 Tryz.results131 _ _ zeroF (by simp [go_sem])) rfl ⟨rfl,below1 _ _⟩
set_option maxHeartbeats 400000 in
theorem rRead_big (s : ByteArray) (a : Nat) (hs : s.size ≤ maxLen) (h : s.size < a) (w : World) :
    Calls Tryz.prog 131 #[.string s,.int .i64 a] w fun e w' => e = .returned (.tuple #[.agg (fc zeroF),.int .i64 0,.int .i64 1]) ∧ Below w.heap.size w w' := by
  unfold maxLen at hs
  have h0 : decide ((a : Int) < 0) = false := by simp
  have h1 : decide (s.size < a) = true := by simpa using h
  go_enter Tryz.func131,Tryz.ntmps131
  go_wp2
  exact bodyPost_ret (v := .tuple #[.agg (fc zeroF),.int .i64 0,.int .i64 1]) (ret_C3 Tryz.results131 _ _ zeroF (by simp [go_sem])) rfl ⟨rfl,below1 _ _⟩
set_option maxHeartbeats 400000 in
theorem rRead_short (s : ByteArray) (a : Nat) (hs : s.size ≤ maxLen) (h : a ≤ s.size) (h2 : s.size < a + 30) (w : World) :
    Calls Tryz.prog 131 #[.string s,.int .i64 a] w fun e w' => e = .returned (.tuple #[.agg (fc zeroF),.int .i64 0,.int .i64 2]) ∧ Below w.heap.size w w' := by
  unfold maxLen at hs
  have h0 : decide ((a : Int) < 0) = false := by simp
  have h1 : decide (s.size < a) = false := by simp;omega
  have h3 : decide ((s.size : Int) - a < 30) = true := by simp;omega
  go_enter Tryz.func131,Tryz.ntmps131
  go_wp2
  exact bodyPost_ret (v := .tuple #[.agg (fc zeroF),.int .i64 0,.int .i64 2]) (ret_C3 Tryz.results131 _ _ zeroF (by simp [go_sem])) rfl ⟨rfl,below1 _ _⟩
theorem byte_at (s : ByteArray) (b : Nat) (h : b < s.size) : wrap64 (s[b].toNat : Int) = dec s b 1 := by
  have h3 := s[b].toNat_lt
  rw [Fx.dec_succ s b 0 (by omega),Fx.dec]
  unfold wrap64
  simp only [Nat.add_zero]
  omega
theorem get_k {s : ByteArray} {a k : Nat} (hk : k < 9) (h : a + 30 ≤ s.size) (x y : Int) (hx : x = (a : Int) + (pre k : Nat)) (hy : y = (wd k : Nat)) : getV s x y = .tuple #[.int .i64 (rdN s a k),.int .i64 0] := by
  have h1 := pre_mono (k + 1) 9 (by omega)
  have h2 := pre9
  rw [pre] at h1
  have e : x = ((a + pre k : Nat) : Int) := by omega
  rw [e,hy,getV_ok (by omega)]
  rfl
set_option maxHeartbeats 4000000 in
theorem rRead_in (s : ByteArray) (a : Nat) (hs : s.size ≤ maxLen) (h : a + 30 ≤ s.size) (w : World) :
    Calls Tryz.prog 131 #[.string s,.int .i64 a] w fun e w' => e = .returned (.tuple #[.agg (fc (readC s a)),.int .i64 (readA s a),.int .i64 (readE s a)]) ∧ Below w.heap.size w w' := by
  have HS := lH hs
  unfold maxLen at hs
  have h0 : decide ((a : Int) < 0) = false := by simp
  have h1 : decide (s.size < a) = false := by simp;omega
  have h3 : decide ((s.size : Int) - a < 30) = false := by simp;omega
  have i0 : a < s.size := by omega
  have i1 : a + 1 < s.size := by omega
  have i2 : a + 2 < s.size := by omega
  have i3 : a + 3 < s.size := by omega
  have i4 : a + 4 < s.size := by omega
  have W0 : Hid (wrap64 (s[a].toNat : Int) = rdN s a 0) := lH (byte_at s a i0)
  have W1 : Hid (wrap64 (s[a + 1].toNat : Int) = rdN s a 1) := lH (byte_at s (a + 1) i1)
  have W2 : Hid (wrap64 (s[a + 2].toNat : Int) = rdN s a 2) := lH (byte_at s (a + 2) i2)
  have W3 : Hid (wrap64 (s[a + 3].toNat : Int) = rdN s a 3) := lH (byte_at s (a + 3) i3)
  have W4 : Hid (wrap64 (s[a + 4].toNat : Int) = rdN s a 4) := lH (byte_at s (a + 4) i4)
  have G5 := lH (get_k (k := 5) (by omega) h (a + 5) 7 (by rfl) rfl)
  have G6 := lH (get_k (k := 6) (by omega) h (a + 12) 7 (by rfl) rfl)
  have G7 := lH (get_k (k := 7) (by omega) h (a + 19) 7 (by rfl) rfl)
  have G8 := lH (get_k (k := 8) (by omega) h (a + 26) 4 (by rfl) rfl)
  have HR := lH (of_v9 (rdN s a))
  have h5 : (a : Int) + 30 ≤ s.size := by omega
  have t1 : ((a : Int) + 1).toNat = a + 1 := by omega
  have t2 : ((a : Int) + 2).toNat = a + 2 := by omega
  have t3 : ((a : Int) + 3).toNat = a + 3 := by omega
  have t4 : ((a : Int) + 4).toNat = a + 4 := by omega
  have u1 : (0 : Int) ≤ (a : Int) + 1 := by omega
  have u2 : (0 : Int) ≤ (a : Int) + 2 := by omega
  have u3 : (0 : Int) ≤ (a : Int) + 3 := by omega
  have u4 : (0 : Int) ≤ (a : Int) + 4 := by omega
  have v1 : (a : Int) + 1 < s.size := by omega
  have v2 : (a : Int) + 2 < s.size := by omega
  have v3 : (a : Int) + 3 < s.size := by omega
  have v4 : (a : Int) + 4 < s.size := by omega
  go_enter Tryz.func131,Tryz.ntmps131
  go_wp2
  go_region
  rw [W0.out,W1.out,W2.out,W3.out,W4.out]
  go_wp2_with fail
  refine (rGet_is HS.out G5 _).mono ?_
  rintro e w' ⟨rfl,rfl⟩
  go_wp2_with fail
  refine (rGet_is HS.out G6 _).mono ?_
  rintro e w' ⟨rfl,rfl⟩
  go_wp2_with fail
  refine (rGet_is HS.out G7 _).mono ?_
  rintro e w' ⟨rfl,rfl⟩
  go_wp2_with fail
  refine (rGet_is HS.out G8 _).mono ?_
  rintro e w' ⟨rfl,rfl⟩
  go_wp2_with fail
  rw [HR.out]
  obtain ⟨V,hV⟩ : ∃ V,V = ((w.alloc (.cells (fc zeroF) 38)).alloc (.cells (fc (rdC s a)) 38)).drew := ⟨_,rfl⟩
  have hp0 : plain 9 V w.heap.size = true := by rw [hV];simp [go_sem]
  have hr0 : row V (w.heap.size + 1) = fc (rdC s a) := by rw [hV,row_drew];exact row_new _ _ _ _ (by simp)
  have hzV : w.heap.size + 1 < V.heap.size := by rw [hV];simp
  have hbV : Below w.heap.size w V := hV ▸ (below2 w _ _).drew
  have hV' := lH hV
  clear hV
  have HO : Hid (oB s a = true) := lH (by rw [oB_nat];exact decide_eq_true (by omega))
  cases hc : chkB (rdC s a)
  · have HK : Hid (chkE (ofF (rdN s a)) = 1) := lH (show chkE (rdC s a) = 1 by unfold chkE;rw [hc];rfl)
    have HE : Hid (readE s a = 3) := lH (by unfold readE;rw [HO.out,if_pos rfl,if_pos (by omega),Int.toNat_natCast,hc];rfl)
    have HC : Hid (readC s a = zeroF) := lH (by unfold readC;rw [HE.out,if_neg (by decide)])
    have HA : Hid (readA s a = 0) := lH (by unfold readA;rw [HE.out,if_neg (by decide)])
    clear hc
    refine (rCheck_is HK _).mono ?_
    rintro e w2 ⟨rfl,hb2⟩
    rw [show ((w.alloc (.cells (fc zeroF) 38)).alloc (.cells (fc (ofF (rdN s a))) 38)).drew = V from hV'.out.symm] at hb2
    have hp2 : plain 9 w2 w.heap.size = true := by rw [(bcell hb2).2.2.2 _ _ (by omega)];exact hp0
    have hbw : Below w.heap.size w w2 := nx hbV hb2
    have hrs := row_set (fc zeroF) hp2
    clear hV' hp0 hr0 W0 W1 W2 W3 W4 G5 G6 G7 G8
    go_wp2
    exact bodyPost_ret (v := .tuple #[.agg (fc zeroF),.int .i64 0,.int .i64 3]) (ret_C3 Tryz.results131 _ _ zeroF (by simp [go_sem,hrs])) rfl ⟨by rw [HE.out,HC.out,HA.out],below_setRow hbw (Nat.le_refl _) _⟩
  · have HK : Hid (chkE (ofF (rdN s a)) = 0) := lH (show chkE (rdC s a) = 0 by unfold chkE;rw [hc];rfl)
    have HE : Hid (readE s a = 0) := lH (by unfold readE;rw [HO.out,if_pos rfl,if_pos (by omega),Int.toNat_natCast,hc];rfl)
    have HC : Hid (readC s a = rdC s a) := lH (by unfold readC;rw [HE.out,if_pos rfl,Int.toNat_natCast])
    have HA : Hid (readA s a = a + 30) := lH (by unfold readA;rw [HE.out,if_pos rfl])
    clear hc
    refine (rCheck_is HK _).mono ?_
    rintro e w2 ⟨rfl,hb2⟩
    rw [show ((w.alloc (.cells (fc zeroF) 38)).alloc (.cells (fc (ofF (rdN s a))) 38)).drew = V from hV'.out.symm] at hb2
    have hp2 : plain 9 w2 w.heap.size = true := by rw [(bcell hb2).2.2.2 _ _ (by omega)];exact hp0
    have hr2 : row w2 (w.heap.size + 1) = fc (rdC s a) := by rw [(bcell hb2).2.2.1 _ hzV];exact hr0
    have hbw : Below w.heap.size w w2 := nx hbV hb2
    have hrs := row_set (fc (rdC s a)) hp2
    clear hV' hp0 hr0 W0 W1 W2 W3 W4 G5 G6 G7 G8
    go_wp2
    exact bodyPost_ret (v := .tuple #[.agg (fc (rdC s a)),.int .i64 (a + 30),.int .i64 0]) (ret_C3 Tryz.results131 _ _ (rdC s a) (by simp [go_sem,hrs])) rfl ⟨by rw [HE.out,HC.out,HA.out],below_setRow hbw (Nat.le_refl _) _⟩
theorem rRead_any (s : ByteArray) (a : Int) (hs : s.size ≤ maxLen) (w : World) :
    Calls Tryz.prog 131 #[.string s,.int .i64 a] w fun e w' => e = .returned (.tuple #[.agg (fc (readC s a)),.int .i64 (readA s a),.int .i64 (readE s a)]) ∧ Below w.heap.size w w' := by
  by_cases h : oB s a = true
  · have ho : 0 ≤ a ∧ a ≤ s.size := by simpa [oB] using h
    obtain ⟨b,rfl⟩ := Int.eq_ofNat_of_zero_le ho.1
    by_cases h2 : b + 30 ≤ s.size
    · exact rRead_in s b hs h2 w
    · have hE : readE s b = 2 := by unfold readE;rw [h,if_pos rfl,if_neg (by omega)]
      rw [show readC s b = zeroF by unfold readC;rw [hE,if_neg (by decide)],show readA s b = 0 by unfold readA;rw [hE,if_neg (by decide)],hE]
      exact rRead_short s b hs (by omega) (by omega) w
  · have h' : oB s a = false := by simpa using h
    have hE : readE s a = 1 := by unfold readE;rw [h'];rfl
    rw [show readC s a = zeroF by unfold readC;rw [hE,if_neg (by decide)],show readA s a = 0 by unfold readA;rw [hE,if_neg (by decide)],hE]
    have ho : ¬ (0 ≤ a ∧ a ≤ s.size) := fun x => h (by unfold oB;simpa using x)
    by_cases hn : a < 0
    · exact rRead_neg s a (decide_eq_true hn) w
    · obtain ⟨b,rfl⟩ := Int.eq_ofNat_of_zero_le (show 0 ≤ a by omega)
      exact rRead_big s b hs (by omega) w
end Go.Proofs.YtnnbjhpkgndclaaGreatDoor.Cm
