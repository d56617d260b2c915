/- Package level as it landed: Find, Best. -/
import Derived.Test.YtmpkindlanadbaaLvC
namespace Go.Proofs.Ytmpkindlanadbaa.Le
open Go.RowKit
set_option linter.unusedVariables false
open Go.Proofs.Ytmpkindlanadbaa.Rw
open Go.Proofs.Ytmpkindlanadbaa.Da
set_option maxHeartbeats 2000000 in
theorem find_big (B : Bs) (l : List Lv) (v : Value) (id : Int) (w : World) (h : LL B l v w) (hm : l.length ≤ 1000000) (hf : (flat l).length ≤ 1000000) :
    Calls Try.prog 12 #[v, .int .i64 id] w fun e w' => e = .returned (fV (fnd (flat l) id)) ∧ Below w.heap.size w w' := by
  rcases h.cases with ⟨rfl, a, c, rfl⟩ | ⟨hne, b, off, c, rfl, hat⟩
  · clear h
    go_enter Try.func12, Try.ntmps12
    go_wp2
    go_loopw [11] (fun i wr => i = .int .i64 0 ∧ wr = w.alloc (.cells #[.int .i64 0, .int .i64 0, .int .i64 0, .int .i64 0, .int .i64 0] 24)) (fun i _ => 0)
    case atStart => exact ⟨rfl, rfl⟩
    case round =>
      obtain ⟨rfl, rfl⟩ := hrel
      go_wp2
      exact bodyPost_ret (v := fV none) (by simp [results, Try.results12, go_sem, fV]) rfl ⟨rfl, (below1 _ _)⟩
  · have hbb : b < w.heap.size := hat.1
    have HA := Lib.hid hat
    have HF := Lib.hid hf
    obtain ⟨n, hn⟩ : ∃ n, n = l.length := ⟨_, rfl⟩
    obtain ⟨r, hr⟩ : ∃ r, fnd (flat l) id = r := ⟨_, rfl⟩
    rw [← hn] at hm ⊢
    rw [hr]
    have HN := Lib.hid hn
    have HR := Lib.hid hr
    clear h hat hn hne hf hr
    go_enter Try.func12, Try.ntmps12
    go_wp2
    obtain ⟨W, hW⟩ : ∃ W, W = w.alloc (.cells #[.int .i64 0, .int .i64 0, .int .i64 0, .int .i64 0, .int .i64 0] 24) := ⟨_, rfl⟩
    have hbW : Below w.heap.size w W := hW ▸ below1 w _
    have hz : w.heap.size < W.heap.size := by rw [hW]; simp
    have hbz : b < W.heap.size := by omega
    have hpz : plain 5 W w.heap.size = true := by rw [hW]; simp [go_sem]
    have HW := Lib.hid (Lies.keep eL 50 HA.out (Keeps.of_below hbW))
    rw [← hW]
    clear hW HA
    have HPz := Lib.hid hpz
    clear hpz
    go_loopw [8, 11] (fun _ i wr => ∃ k : Nat, k ≤ n ∧ i = .int .i64 k ∧ Below W.heap.size W wr ∧ fnd (flat (l.drop k)) id = r) (fun _ i _ => n - (intOf i).toNat)
    case atStart => exact ⟨0, Nat.zero_le _, rfl, Below.refl _ _, HR.out⟩
    case round =>
      obtain ⟨wo, rfl⟩ : ∃ wo : World, wo = wr := ⟨_, rfl⟩
      obtain ⟨k, hk, rfl, hb, hrest⟩ := hrel
      have HT := Lib.hid hrest
      clear hrest
      by_cases hlt : k < n
      · have hlt2 : (k : Int) < n := by omega
        have hkl : k < l.length := by rw [← HN.out]; exact hlt
        obtain ⟨x, q0, q1, hx⟩ := atL HW.out k hkl
        have hx2 := Is.stays eO 24 hx hb
        obtain ⟨c1, f1, r1, p1⟩ := bcell hb
        have hfl := flat_drop hkl
        obtain ⟨⟨pr, os⟩, hlk⟩ : ∃ y, l[k] = y := ⟨_, rfl⟩
        rw [hlk] at q0 hx2 hfl
        simp only at q0 hx2 hfl
        have hos : os.length ≤ 1000000 := by
          have h1 := flat_take_le l (k + 1)
          have h2 := count_take hkl
          rw [hlk] at h2
          simp only at h2
          have := HF.out
          omega
        have HFl : Hid (fnd (os ++ flat (l.drop (k + 1))) id = r) := Lib.hid (by rw [← hfl]; exact HT.out)
        clear hfl hlk hx
        have HX := Lib.hid (Is.stays eO 24 hx2 (below1 wo (.cells #[.int .i64 pr, x] 50)))
        obtain ⟨a2, c2, rfl, hel⟩ := hx2
        have HE := Lib.hid hel
        clear hel
        obtain ⟨V, hV⟩ : ∃ V, V = wo.alloc (.cells #[.int .i64 pr, .slice a2 os.length c2] 50) := ⟨_, rfl⟩
        have hbV : Below wo.heap.size wo V := hV ▸ below1 wo _
        have hzV : wo.heap.size < V.heap.size := by rw [hV]; simp
        have hF : ∀ u, Below V.heap.size V u → u.cell? ⟨wo.heap.size, 1, none⟩ = some (.slice a2 os.length c2) ∧ wo.heap.size < u.heap.size := fun u hu => by
          refine ⟨?_, Nat.lt_of_lt_of_le hzV hu.size⟩
          rw [hu.cell (p := ⟨wo.heap.size, 1, none⟩) hzV, hV]; simp [go_sem]
        have HFv := Lib.hid hF
        have HV := Lib.hid hV
        clear hF hV
        obtain ⟨q, hq⟩ : ∃ q, ixD id os 0 = q := ⟨_, rfl⟩
        have HQ := Lib.hid hq
        clear hq
        rcases ixD_spec id os 0 with ⟨e1, e2⟩ | ⟨j, hj, e1, e2, e3⟩
        · have HZ : Hid (fnd (flat (l.drop (k + 1))) id = r) := Lib.hid (by rw [← HFl.out, fnd_none_app e2])
          rw [HQ.out] at e1
          subst e1
          clear e2
          go_wp2_with fail
          refine (indexOf_is HQ HX.out hos).mono ?_
          rintro e w' ⟨rfl, hb1⟩
          rw [← HV.out] at hb1
          go_wp2
          go_roundw
          case rel => exact ⟨k + 1, by omega, by go_num, nx hb (nx hbV hb1), HZ.out⟩
          case measure => simp [intOf]; omega
        · have HZ : Hid (r = some os[j]) := Lib.hid (by rw [← HFl.out, fnd_at_app hj e2 e3])
          rw [HQ.out, Nat.zero_add] at e1
          subst e1
          clear e2 e3
          rcases HE.out with ⟨e, _⟩ | ⟨b2, off2, rfl, hat2⟩
          · rw [e] at hj; cases hj
          · have hc5 := at5 hat2 j hj
            have hb2 := hat2.1
            have HJ := Lib.hid hj
            have hj2 : (j : Int) < os.length := by omega
            obtain ⟨⟨o1, o2, o3, o4, o5⟩, ho⟩ : ∃ o, os[j]'hj = o := ⟨_, rfl⟩
            rw [ho] at hc5
            have HZ2 : Hid (r = some (o1, o2, o3, o4, o5)) := Lib.hid (by rw [HZ.out, ho])
            simp only at hc5
            have HC := Lib.hid hc5
            clear ho hat2 hc5
            go_wp2_with fail
            refine (indexOf_is HQ HX.out hos).mono ?_
            rintro e w' ⟨rfl, hb1⟩
            rw [← HV.out] at hb1
            have hb3 := nx hbV hb1
            have hbw := nx hb hb3
            obtain ⟨k0, k1⟩ := HFv.out _ hb1
            have hg : ∀ o, w'.cell? ⟨b2, o, none⟩ = wo.cell? ⟨b2, o, none⟩ := fun o => hb3.cell (p := ⟨b2, o, none⟩) hb2
            obtain ⟨s0, s1, s2, s3, s4⟩ := HC.out
            rw [← hg] at s0 s1 s2 s3 s4
            have hb2' : b2 < w'.heap.size := Nat.lt_of_lt_of_le hb2 hb3.size
            have hz2 : w.heap.size < w'.heap.size := by have := hbw.size; omega
            have hpi : plain 5 w' w.heap.size = true := by rw [(bcell hbw).2.2.2 _ _ hz]; exact HPz.out
            clear hg
            go_wp2
            refine bodyPost_ret (v := fV (some (o1, o2, o3, o4, o5))) (ret_O2 Try.results12 _ _ rfl ?c1) rfl ⟨by rw [HZ2.out], ?c2⟩
            case c1 => exact row_set _ hpi
            case c2 => exact below_setRow (nx hbW hbw) (Nat.le_refl _) _
      · obtain rfl : k = n := by omega
        have HZ : Hid (r = none) := Lib.hid (by rw [← HT.out, HN.out, List.drop_length]; rfl)
        have hz2 : w.heap.size < wo.heap.size := by have := hb.size; omega
        have hpr : plain 5 wo w.heap.size = true := by rw [(bcell hb).2.2.2 _ _ hz]; exact HPz.out
        go_wp2
        refine bodyPost_ret (v := fV none) (ret_O2 Try.results12 _ _ rfl ?c3) rfl ⟨by rw [HZ.out], ?c4⟩
        case c3 => exact row_set _ hpr
        case c4 => exact below_setRow (nx hbW hb) (Nat.le_refl _) _
set_option maxHeartbeats 2000000 in
theorem best_big (B : Bs) (l : List Lv) (v : Value) (w : World) (h : LL B l v w) (hm : l.length ≤ 1000000) (hf : (flat l).length ≤ 1000000) :
    Calls Try.prog 14 #[v] w fun e w' => e = .returned (fV ((flat l).head?)) ∧ Below w.heap.size w w' := by
  rcases h.cases with ⟨rfl, a, c, rfl⟩ | ⟨hne, b, off, c, rfl, hat⟩
  · clear h
    go_enter Try.func14, Try.ntmps14
    go_wp2
    go_loopw [8] (fun i wr => i = .int .i64 0 ∧ wr = w.alloc (.cells #[.int .i64 0, .int .i64 0, .int .i64 0, .int .i64 0, .int .i64 0] 24)) (fun i _ => 0)
    case atStart => exact ⟨rfl, rfl⟩
    case round =>
      obtain ⟨rfl, rfl⟩ := hrel
      go_wp2
      exact bodyPost_ret (v := fV none) (by simp [results, Try.results14, go_sem, fV]) rfl ⟨rfl, (below1 _ _)⟩
  · have hbb : b < w.heap.size := hat.1
    have HA := Lib.hid hat
    have HF := Lib.hid hf
    obtain ⟨n, hn⟩ : ∃ n, n = l.length := ⟨_, rfl⟩
    obtain ⟨r, hr⟩ : ∃ r, (flat l).head? = r := ⟨_, rfl⟩
    rw [← hn] at hm ⊢
    rw [hr]
    have HN := Lib.hid hn
    have HR := Lib.hid hr
    clear h hat hn hne hf hr
    go_enter Try.func14, Try.ntmps14
    go_wp2
    obtain ⟨W, hW⟩ : ∃ W, W = w.alloc (.cells #[.int .i64 0, .int .i64 0, .int .i64 0, .int .i64 0, .int .i64 0] 24) := ⟨_, rfl⟩
    have hbW : Below w.heap.size w W := hW ▸ below1 w _
    have hz : w.heap.size < W.heap.size := by rw [hW]; simp
    have hbz : b < W.heap.size := by omega
    have hpz : plain 5 W w.heap.size = true := by rw [hW]; simp [go_sem]
    have HW := Lib.hid (Lies.keep eL 50 HA.out (Keeps.of_below hbW))
    rw [← hW]
    clear hW HA
    have HPz := Lib.hid hpz
    clear hpz
    go_loopw [8] (fun i wr => ∃ k : Nat, k ≤ n ∧ i = .int .i64 k ∧ Below W.heap.size W wr ∧ (flat (l.drop k)).head? = r) (fun i _ => n - (intOf i).toNat)
    case atStart => exact ⟨0, Nat.zero_le _, rfl, Below.refl _ _, HR.out⟩
    case round =>
      obtain ⟨wo, rfl⟩ : ∃ wo : World, wo = wr := ⟨_, rfl⟩
      obtain ⟨k, hk, rfl, hb, hrest⟩ := hrel
      have HT := Lib.hid hrest
      clear hrest
      by_cases hlt : k < n
      · have hlt2 : (k : Int) < n := by omega
        have hkl : k < l.length := by rw [← HN.out]; exact hlt
        obtain ⟨x, q0, q1, hx⟩ := atL HW.out k hkl
        have hx2 := Is.stays eO 24 hx hb
        obtain ⟨c1, f1, r1, p1⟩ := bcell hb
        have hfl := flat_drop hkl
        obtain ⟨⟨pr, os⟩, hlk⟩ : ∃ y, l[k] = y := ⟨_, rfl⟩
        rw [hlk] at q0 hx2 hfl
        simp only at q0 hx2 hfl
        have hos : os.length ≤ 1000000 := by
          have h1 := flat_take_le l (k + 1)
          have h2 := count_take hkl
          rw [hlk] at h2
          simp only at h2
          have := HF.out
          omega
        have HFl : Hid ((os ++ flat (l.drop (k + 1))).head? = r) := Lib.hid (by rw [← hfl]; exact HT.out)
        clear hfl hlk hx
        have HX := Lib.hid (Is.stays eO 24 hx2 (below1 wo (.cells #[.int .i64 pr, x] 50)))
        obtain ⟨a2, c2, rfl, hel⟩ := hx2
        have HE := Lib.hid hel
        clear hel
        obtain ⟨V, hV⟩ : ∃ V, V = wo.alloc (.cells #[.int .i64 pr, .slice a2 os.length c2] 50) := ⟨_, rfl⟩
        have hbV : Below wo.heap.size wo V := hV ▸ below1 wo _
        have hzV : wo.heap.size < V.heap.size := by rw [hV]; simp
        have hF : ∀ u, Below V.heap.size V u → u.cell? ⟨wo.heap.size, 1, none⟩ = some (.slice a2 os.length c2) ∧ wo.heap.size < u.heap.size := fun u hu => by
          refine ⟨?_, Nat.lt_of_lt_of_le hzV hu.size⟩
          rw [hu.cell (p := ⟨wo.heap.size, 1, none⟩) hzV, hV]; simp [go_sem]
        have HFv := Lib.hid hF
        have HV := Lib.hid hV
        clear hF hV
        rcases Nat.eq_zero_or_pos os.length with h0 | h0
        · obtain rfl : os = [] := List.length_eq_zero_iff.1 h0
          have HZ : Hid ((flat (l.drop (k + 1))).head? = r) := Lib.hid (by rw [← HFl.out]; rfl)
          clear h0
          go_wp2_with fail
          refine (isEmpty_any _ _ _ _ hos _).mono ?_
          rintro e w' ⟨rfl, hb1⟩
          replace hb1 : Below V.heap.size V w' := by rw [HV.out]; exact hb1
          go_wp2
          go_roundw
          case rel => exact ⟨k + 1, by omega, by go_num, nx hb (nx hbV hb1), HZ.out⟩
          case measure => simp [intOf]; omega
        · have hd : Hid (decide (os.length = 0) = false) := Lib.hid (decide_eq_false (by omega))
          have HZ : Hid (r = some (os[0]'h0)) := Lib.hid (by rw [← HFl.out]; cases os with
            | nil => cases h0
            | cons o t => rfl)
          rcases HE.out with ⟨e, _⟩ | ⟨b2, off2, rfl, hat2⟩
          · rw [e] at h0; cases h0
          · have hc5 := at5 hat2 0 h0
            have hb2 := hat2.1
            obtain ⟨⟨o1, o2, o3, o4, o5⟩, ho⟩ : ∃ o, os[0]'h0 = o := ⟨_, rfl⟩
            rw [ho, Nat.zero_mul, Nat.add_zero] at hc5
            have HZ2 : Hid (r = some (o1, o2, o3, o4, o5)) := Lib.hid (by rw [HZ.out, ho])
            simp only at hc5
            have HC := Lib.hid hc5
            clear ho hat2 hc5
            go_wp2_with fail
            refine (isEmpty_any _ _ _ _ hos _).mono ?_
            rintro e w' ⟨rfl, hb1⟩
            rw [hd.out]
            replace hb1 : Below V.heap.size V w' := by rw [HV.out]; exact hb1
            have hb3 := nx hbV hb1
            have hbw := nx hb hb3
            obtain ⟨k0, k1⟩ := HFv.out _ hb1
            have hg : ∀ o, w'.cell? ⟨b2, o, none⟩ = wo.cell? ⟨b2, o, none⟩ := fun o => hb3.cell (p := ⟨b2, o, none⟩) hb2
            obtain ⟨s0, s1, s2, s3, s4⟩ := HC.out
            rw [← hg] at s0 s1 s2 s3 s4
            have hb2' : b2 < w'.heap.size := Nat.lt_of_lt_of_le hb2 hb3.size
            have hz2 : w.heap.size < w'.heap.size := by have := hbw.size; omega
            have hpi : plain 5 w' w.heap.size = true := by rw [(bcell hbw).2.2.2 _ _ hz]; exact HPz.out
            clear hg
            go_wp2
            refine bodyPost_ret (v := fV (some (o1, o2, o3, o4, o5))) (ret_O2 Try.results14 _ _ rfl ?c1) rfl ⟨by rw [HZ2.out], ?c2⟩
            case c1 => exact row_set _ hpi
            case c2 => exact below_setRow (nx hbW hbw) (Nat.le_refl _) _
      · obtain rfl : k = n := by omega
        have HZ : Hid (r = none) := Lib.hid (by rw [← HT.out, HN.out, List.drop_length]; rfl)
        have hz2 : w.heap.size < wo.heap.size := by have := hb.size; omega
        have hpr : plain 5 wo w.heap.size = true := by rw [(bcell hb).2.2.2 _ _ hz]; exact HPz.out
        go_wp2
        refine bodyPost_ret (v := fV none) (ret_O2 Try.results14 _ _ rfl ?c3) rfl ⟨by rw [HZ.out], ?c4⟩
        case c3 => exact row_set _ hpr
        case c4 => exact below_setRow (nx hbW hb) (Nat.le_refl _) _
end Go.Proofs.Ytmpkindlanadbaa.Le
