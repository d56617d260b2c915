/- Package level as it landed: Right. -/
import Derived.Test.YtfnmmknbjfmagaaLvE
namespace Go.Proofs.Ytfnmmknbjfmagaa.Le
open Go.RowKit
set_option linter.unusedVariables false
open Go.Proofs.Ytfnmmknbjfmagaa.Rw
open Go.Proofs.Ytfnmmknbjfmagaa.Da
theorem ahead_is {s a b : Int} {r : Bool} (hr : Hid (ahead s a b = r)) (g : Nat) {w : World} (hg : g < w.heap.size ∧ w.cell? ⟨g, 0, none⟩ = some (.int .i64 s)) : Calls Try.prog 78 #[.int .i64 a, .int .i64 b, .pointer (some ⟨g, 0, none⟩)] w fun e w' => e = .returned (.bool r) ∧ w = w' := by
  rw [← hr.out]; exact ahead_any s a b g w hg.1 hg.2
theorem lvB_iff {s p : Int} {os : List Od} : lvB s p os = true ↔ okLv s (p, os) := by
  unfold lvB okLv okO
  simp only [Bool.and_eq_true, List.all_eq_true, decide_eq_true_eq]
  constructor
  · rintro ⟨h1, h2⟩
    exact ⟨fun e => by have e2 : os = [] := e; subst e2; simp at h2, h1⟩
  · rintro ⟨h1, h2⟩
    refine ⟨h2, ?_⟩
    cases os with
    | nil => exact absurd rfl h1
    | cons => rfl
/-- As RightL, but nothing of the numbers. -/
def RgtL (s : Int) (l : List Lv) : Prop := (∀ v ∈ l, okLv s v) ∧ l.Pairwise (fun a b => ahead s a.1 b.1 = true)
theorem rgt_snoc {s : Int} {l : List Lv} {k : Nat} (hk : k < l.length) (h : RgtL s (l.take k)) (hv : okLv s l[k]) (ha : k = 0 ∨ ∃ h : k - 1 < l.length, ahead s l[k - 1].1 l[k].1 = true) : RgtL s (l.take (k + 1)) := by
  rw [Da.take_snoc hk]
  refine ⟨fun v hm => ?_, ?_⟩
  · rcases List.mem_append.1 hm with hm | hm
    · exact h.1 v hm
    · simp only [List.mem_singleton] at hm; rw [hm]; exact hv
  · rw [List.pairwise_append]
    refine ⟨h.2, by simp, fun a ha' b hb => ?_⟩
    simp only [List.mem_singleton] at hb
    subst hb
    rcases ha with e | ⟨hk1, ha⟩
    · subst e; simp at ha'
    · obtain ⟨i, hi, rfl⟩ := List.getElem_of_mem ha'
      rw [List.length_take] at hi
      have hi2 : i < k := by omega
      rw [List.getElem_take]
      by_cases e : i = k - 1
      · subst e; exact ha
      · have hp := List.pairwise_iff_getElem.1 h.2 i (k - 1) (by rw [List.length_take]; omega) (by rw [List.length_take]; omega) (by omega)
        rw [List.getElem_take, List.getElem_take] at hp
        exact ahead_trans hp ha
theorem rgt_all {s : Int} {l : List Lv} (hs : s = 1 ∨ s = 2) (h : RgtL s l) : rightL s l = nodB (flat l) := by
  rw [Bool.eq_iff_iff, rightL_iff]
  unfold nodB
  rw [decide_eq_true_iff]
  exact ⟨fun k => k.2.2.2, fun k => ⟨hs, h.1, h.2, k⟩⟩
theorem right_side {s : Int} {l : List Lv} (h : ¬ (s = 1 ∨ s = 2)) : rightL s l = false := rightL_no fun k => h k.1
theorem right_at {s : Int} {l : List Lv} {k : Nat} (hk : k < l.length) (h : RightL s l) : okLv s l[k] ∧ ∀ (_ : 0 < k), ahead s (l[k - 1]'(by omega)).1 l[k].1 = true :=
  ⟨h.2.1 _ (List.getElem_mem hk), fun h0 => List.pairwise_iff_getElem.1 h.2.2.1 (k - 1) k (by omega) hk (by omega)⟩
set_option maxHeartbeats 4000000 in
theorem right_big (B : Bs) (l : List Lv) (v : Value) (s : Int) (w : World) (h : LL B l v w) (hB : B.le w.heap.size) (hm : l.length ≤ 1000000) (hf : (flat l).length ≤ 1000000) :
    Calls Try.prog 45 #[v, .int .i64 s] w fun e w' => e = .returned (.bool (rightL s l)) ∧ Below w.heap.size w w' := by
  by_cases hs : s = 1 ∨ s = 2
  · have hcase : (s != 1) = true ∧ (s != 2) = false ∨ (s != 1) = false := by rcases hs with e | e <;> simp [e]
    obtain ⟨a1, c1, rfl, h1⟩ := h
    have HA := Lib.hid h1
    have HL : Hid (∀ u, Below w.heap.size w u → LL B l (.slice a1 l.length c1) u) := Lib.hid fun u hu => Is.stays eL 48 ⟨a1, c1, rfl, h1⟩ hu
    have HBl : Hid (∀ u, Below w.heap.size w u → B.le u.heap.size) := Lib.hid fun u hu => hB.mono hu.size
    have HFl := Lib.hid hf
    obtain ⟨n, hn⟩ : ∃ n, n = l.length := ⟨_, rfl⟩
    rw [← hn] at hm ⊢
    have HN := Lib.hid hn
    have HSd := Lib.hid hs
    obtain ⟨r, hr⟩ : ∃ r, rightL s l = r := ⟨_, rfl⟩
    rw [hr]
    have HR := Lib.hid hr
    have HNo : Hid (¬ RightL s l → r = false) := Lib.hid fun h => by rw [← hr]; exact rightL_no h
    clear h1 hn hf hr hs hB
    rcases hcase with ⟨d1, d2⟩ | d1
    all_goals
      go_enter Try.func45, Try.ntmps45
      go_wp2_with fail
      refine (aheadOn_any s _).mono ?_
      rintro e W ⟨f, rfl, hbW, hf⟩
      have HAh := Lib.hid (show ∀ u, Below W.heap.size W u → Ahd s f u from fun u hu => hf.stays hu)
      obtain ⟨g, rfl, hg, hgc⟩ := hf
      have HG := Lib.hid (show ∀ u, Below W.heap.size W u → g < u.heap.size ∧ u.cell? ⟨g, 0, none⟩ = some (.int .i64 s) from fun u hu => ⟨Nat.lt_of_lt_of_le hg hu.size, (hu.cell (p := ⟨g, 0, none⟩) hg).trans hgc⟩)
      clear hg hgc HAh
      go_wp2
      go_loopw [6, 18] (fun _ i wr => ∃ k : Nat, k ≤ n ∧ i = .int .i64 k ∧ Below W.heap.size W wr ∧ RgtL s (l.take k)) (fun _ i _ => n - (intOf i).toNat)
      case atStart => exact ⟨0, Nat.zero_le _, rfl, Below.refl _ _, by simp, by simp⟩
      case round =>
        obtain ⟨wo, rfl⟩ : ∃ wo : World, wo = wr := ⟨_, rfl⟩
        obtain ⟨k, hk, rfl, hb, hrt⟩ := hrel
        have HT := Lib.hid hrt
        clear hrt
        have hbo := nx hbW hb
        by_cases hlt : k < n
        · have hlt2 : (k : Int) < n := by omega
          have hkl : k < l.length := by rw [← HN.out]; exact hlt
          rcases HA.out with ⟨e, _⟩ | ⟨b, off, rfl, hat⟩
          · rw [e] at hkl; cases hkl
          have hat2 := Lies.keep eL 48 hat (Keeps.of_below hbo)
          have hbb := hat2.1
          obtain ⟨x, q0, q1, hx⟩ := atL hat2 k hkl
          have hle := flat_take_le l (k + 1)
          rw [flat_take_snoc hkl, List.length_append] at hle
          have hpt := Lib.hid (fun h : RightL s l => right_at hkl h)
          have hsn := Lib.hid (rgt_snoc hkl HT.out)
          obtain ⟨⟨pr, os⟩, hlk⟩ : ∃ y, l[k]'hkl = y := ⟨_, rfl⟩
          rw [hlk] at q0 hx hle hpt hsn
          simp only at q0 hx hle hpt hsn
          have hosl : os.length ≤ 1000000 := by have := HFl.out; omega
          have HX0 := Lib.hid hx
          obtain ⟨a2, c2, rfl⟩ := hx.len
          obtain ⟨V, hV⟩ : ∃ V, V = wo.alloc (.cells #[.int .i64 pr, .slice a2 os.length c2] 48) := ⟨_, rfl⟩
          have hbV : Below wo.heap.size wo V := hV ▸ below1 wo _
          have hzV : wo.heap.size < V.heap.size := by rw [hV]; simp
          have s0 : V.cell? ⟨wo.heap.size, 0, none⟩ = some (.int .i64 pr) := by rw [hV]; simp [go_sem]
          have s1 : V.cell? ⟨wo.heap.size, 1, none⟩ = some (.slice a2 os.length c2) := by rw [hV]; simp [go_sem]
          have hbw := nx hb hbV
          have hF : ∀ u, Below V.heap.size V u → u.cell? ⟨wo.heap.size, 0, none⟩ = some (.int .i64 pr) ∧ u.cell? ⟨wo.heap.size, 1, none⟩ = some (.slice a2 os.length c2) := fun u hu =>
            ⟨by rw [hu.cell (p := ⟨wo.heap.size, 0, none⟩) hzV]; exact s0, by rw [hu.cell (p := ⟨wo.heap.size, 1, none⟩) hzV]; exact s1⟩
          have HX := Lib.hid (show ∀ u, Below V.heap.size V u → OL B os (.slice a2 os.length c2) u from fun u hu => Is.stays eO 31 HX0.out (nx hbV hu))
          have HGv := Lib.hid (show ∀ u, Below V.heap.size V u → g < u.heap.size ∧ u.cell? ⟨g, 0, none⟩ = some (.int .i64 s) from fun u hu => HG.out u (nx hbw hu))
          have HV := Lib.hid hV
          clear hV hle s0 s1 hx
          cases hlv : lvB s pr os
          · have HLv := Lib.hid hlv
            have HZ : Hid (r = false) := Lib.hid (HNo.out fun h => by
              have := lvB_iff.2 (hpt.out h).1
              rw [hlv] at this; cases this)
            clear hlv hlk
            go_wp2
            rw [← HV.out]
            refine Rf.region [0, 1, 2, 3, 4, 5, 6, 7, 8, 9, 10, 11, 12, 13, 14, 15, 16, 17, 18, 19, 20] (by kernel_rfl) (by kernel_rfl) (by kernel_rfl) (fun _ _ d _ _ h => by cases d <;> exact h) ?_
            repeat (first | (refine Rf.Steps.skip (by rfl) (by kernel_rfl) (by rfl) ?_; simp only [Act.put, List.setIfInBounds_toArray, List.set_cons_zero, List.set_cons_succ]) | (refine Rf.Steps.pure (v := ?_) (by rfl) (by kernel_rfl) (by rfl) ?_ ?_; rotate_left; (intro w_ hS_; have hk_ := hF w_ hS_; go_simp <;> with_reducible rfl); simp only [Act.put, List.setIfInBounds_toArray, List.set_cons_zero, List.set_cons_succ]) | (refine Rf.Steps.call (v := ?_) (f := ?_) (args := ?_) (by rfl) (by kernel_rfl) (by rfl) ?_ ?_ ?_; rotate_left 3; (intro w_ hS_; have hk_ := hF w_ hS_; go_simp <;> first | with_reducible rfl | (constructor <;> with_reducible rfl)); (intro w_ hS_; have hk_ := hF w_ hS_; first | (go_at_call 69; refine (isLevel_is HLv (HX.out w_ hS_) hosl).mono ?_; first | (rintro e w_ ⟨rfl, rfl⟩; refine ⟨?_, Below.refl _ _⟩; with_reducible rfl) | (rintro e w_ ⟨rfl, hb_⟩; refine ⟨?_, hb_⟩; with_reducible rfl))); simp only [Act.put, List.setIfInBounds_toArray, List.set_cons_zero, List.set_cons_succ]))
            refine Rf.Steps.nil (by kernel_rfl) ?_
            intro w4 hb6
            go_wp2
            go_ret
            exact ⟨ret_bool HZ.out.symm, nx hbW (nx hbw hb6)⟩
          have HLv := Lib.hid hlv
          have HLv2 := Lib.hid (lvB_iff.1 hlv)
          clear hlv
          have hway : (k = 0 ∧ decide ((0 : Int) < (k : Int)) = false) ∨ (0 < k ∧ decide ((0 : Int) < (k : Int)) = true) := by
            rcases Nat.eq_zero_or_pos k with e | e
            · exact .inl ⟨e, by simp [e]⟩
            · exact .inr ⟨e, by simpa using e⟩
          rcases hway with ⟨hk0, d3⟩ | ⟨hk0, d3⟩
          · have d3' : decide (0 < k) = false := by simp [hk0]
            have HN2 : Hid (RgtL s (l.take (k + 1))) := Lib.hid (hsn.out HLv2.out (.inl hk0))
            clear hk0 hlk
            go_wp2
            rw [← HV.out]
            refine Rf.region [0, 1, 2, 3, 4, 5, 6, 7, 8, 9, 10, 11, 12, 13, 14, 15, 16, 17, 18, 19, 20] (by kernel_rfl) (by kernel_rfl) (by kernel_rfl) (fun _ _ d _ _ h => by cases d <;> exact h) ?_
            repeat (first | (refine Rf.Steps.skip (by rfl) (by kernel_rfl) (by rfl) ?_; simp only [Act.put, List.setIfInBounds_toArray, List.set_cons_zero, List.set_cons_succ]) | (refine Rf.Steps.pure (v := ?_) (by rfl) (by kernel_rfl) (by rfl) ?_ ?_; rotate_left; (intro w_ hS_; have hk_ := hF w_ hS_; go_simp <;> with_reducible rfl); simp only [Act.put, List.setIfInBounds_toArray, List.set_cons_zero, List.set_cons_succ]) | (refine Rf.Steps.call (v := ?_) (f := ?_) (args := ?_) (by rfl) (by kernel_rfl) (by rfl) ?_ ?_ ?_; rotate_left 3; (intro w_ hS_; have hk_ := hF w_ hS_; go_simp <;> first | with_reducible rfl | (constructor <;> with_reducible rfl)); (intro w_ hS_; have hk_ := hF w_ hS_; first | (go_at_call 69; refine (isLevel_is HLv (HX.out w_ hS_) hosl).mono ?_; first | (rintro e w_ ⟨rfl, rfl⟩; refine ⟨?_, Below.refl _ _⟩; with_reducible rfl) | (rintro e w_ ⟨rfl, hb_⟩; refine ⟨?_, hb_⟩; with_reducible rfl))); simp only [Act.put, List.setIfInBounds_toArray, List.set_cons_zero, List.set_cons_succ]))
            refine Rf.Steps.nil (by kernel_rfl) ?_
            intro w4 hb6
            go_wp2
            go_roundw
            case rel => exact ⟨k + 1, by omega, by go_num, nx hbw hb6, HN2.out⟩
            case measure => simp [intOf]; omega
          · have d3' : decide (0 < k) = true := by simpa using hk0
            have hkp : k - 1 < l.length := by omega
            obtain ⟨x', t0, t1, _⟩ := atL hat2 (k - 1) hkp
            obtain ⟨pp, hpp⟩ : ∃ pp, (l[k - 1]'hkp).1 = pp := ⟨_, rfl⟩
            rw [hpp] at t0
            have d4 : IntKind.i64.wrap ((k : Int) - 1) = (k : Int) - 1 := IntWalk.i64_in _ (by omega)
            have d5 : ((k : Int) - 1).toNat = k - 1 := by omega
            have d6 : (0 : Int) ≤ (k : Int) - 1 := by omega
            have d6' : (1 : Int) ≤ (k : Int) := by omega
            have d7 : (k : Int) - 1 < n := by omega
            have hF2 : ∀ u, Below V.heap.size V u → (u.cell? ⟨wo.heap.size, 0, none⟩ = some (.int .i64 pr) ∧ u.cell? ⟨wo.heap.size, 1, none⟩ = some (.slice a2 os.length c2)) ∧ u.cell? ⟨b, off + (k - 1) * 2, none⟩ = some (.int .i64 pp) := fun u hu =>
              ⟨hF u hu, by rw [(nx hbV hu).cell (p := ⟨b, off + (k - 1) * 2, none⟩) hbb]; exact t0⟩
            have HPp := Lib.hid hpp
            have HLk := Lib.hid hlk
            clear t1 t0 hpp hlk
            cases hah : ahead s pp pr
            · have HQ := Lib.hid hah
              have HZ : Hid (r = false) := Lib.hid (HNo.out fun h => by
                have h2 := (hpt.out h).2 hk0
                rw [HPp.out, hah] at h2; cases h2)
              clear hah hF
              go_wp2
              rw [← HV.out]
              refine Rf.region [0, 1, 2, 3, 4, 5, 6, 7, 8, 9, 10, 11, 12, 13, 14, 15, 16, 17, 18, 19, 20] (by kernel_rfl) (by kernel_rfl) (by kernel_rfl) (fun _ _ d _ _ h => by cases d <;> exact h) ?_
              repeat (first | (refine Rf.Steps.skip (by rfl) (by kernel_rfl) (by rfl) ?_; simp only [Act.put, List.setIfInBounds_toArray, List.set_cons_zero, List.set_cons_succ]) | (refine Rf.Steps.pure (v := ?_) (by rfl) (by kernel_rfl) (by rfl) ?_ ?_; rotate_left; (intro w_ hS_; have hk_ := hF2 w_ hS_; go_simp <;> with_reducible rfl); simp only [Act.put, List.setIfInBounds_toArray, List.set_cons_zero, List.set_cons_succ]) | (refine Rf.Steps.call (v := ?_) (f := ?_) (args := ?_) (by rfl) (by kernel_rfl) (by rfl) ?_ ?_ ?_; rotate_left 3; (intro w_ hS_; have hk_ := hF2 w_ hS_; go_simp <;> first | with_reducible rfl | (constructor <;> with_reducible rfl)); (intro w_ hS_; have hk_ := hF2 w_ hS_; first | (go_at_call 69; refine (isLevel_is HLv (HX.out w_ hS_) hosl).mono ?_; first | (rintro e w_ ⟨rfl, rfl⟩; refine ⟨?_, Below.refl _ _⟩; with_reducible rfl) | (rintro e w_ ⟨rfl, hb_⟩; refine ⟨?_, hb_⟩; with_reducible rfl)) | (go_at_call 78; refine (ahead_is HQ g (HGv.out w_ hS_)).mono ?_; first | (rintro e w_ ⟨rfl, rfl⟩; refine ⟨?_, Below.refl _ _⟩; with_reducible rfl) | (rintro e w_ ⟨rfl, hb_⟩; refine ⟨?_, hb_⟩; with_reducible rfl))); simp only [Act.put, List.setIfInBounds_toArray, List.set_cons_zero, List.set_cons_succ]))
              refine Rf.Steps.nil (by kernel_rfl) ?_
              intro w4 hb6
              go_wp2
              go_ret
              exact ⟨ret_bool HZ.out.symm, nx hbW (nx hbw hb6)⟩
            · have HQ := Lib.hid hah
              have HN2 : Hid (RgtL s (l.take (k + 1))) := Lib.hid (hsn.out HLv2.out (.inr ⟨hkp, by rw [HPp.out]; exact hah⟩))
              clear hah hF
              go_wp2
              rw [← HV.out]
              refine Rf.region [0, 1, 2, 3, 4, 5, 6, 7, 8, 9, 10, 11, 12, 13, 14, 15, 16, 17, 18, 19, 20] (by kernel_rfl) (by kernel_rfl) (by kernel_rfl) (fun _ _ d _ _ h => by cases d <;> exact h) ?_
              repeat (first | (refine Rf.Steps.skip (by rfl) (by kernel_rfl) (by rfl) ?_; simp only [Act.put, List.setIfInBounds_toArray, List.set_cons_zero, List.set_cons_succ]) | (refine Rf.Steps.pure (v := ?_) (by rfl) (by kernel_rfl) (by rfl) ?_ ?_; rotate_left; (intro w_ hS_; have hk_ := hF2 w_ hS_; go_simp <;> with_reducible rfl); simp only [Act.put, List.setIfInBounds_toArray, List.set_cons_zero, List.set_cons_succ]) | (refine Rf.Steps.call (v := ?_) (f := ?_) (args := ?_) (by rfl) (by kernel_rfl) (by rfl) ?_ ?_ ?_; rotate_left 3; (intro w_ hS_; have hk_ := hF2 w_ hS_; go_simp <;> first | with_reducible rfl | (constructor <;> with_reducible rfl)); (intro w_ hS_; have hk_ := hF2 w_ hS_; first | (go_at_call 69; refine (isLevel_is HLv (HX.out w_ hS_) hosl).mono ?_; first | (rintro e w_ ⟨rfl, rfl⟩; refine ⟨?_, Below.refl _ _⟩; with_reducible rfl) | (rintro e w_ ⟨rfl, hb_⟩; refine ⟨?_, hb_⟩; with_reducible rfl)) | (go_at_call 78; refine (ahead_is HQ g (HGv.out w_ hS_)).mono ?_; first | (rintro e w_ ⟨rfl, rfl⟩; refine ⟨?_, Below.refl _ _⟩; with_reducible rfl) | (rintro e w_ ⟨rfl, hb_⟩; refine ⟨?_, hb_⟩; with_reducible rfl))); simp only [Act.put, List.setIfInBounds_toArray, List.set_cons_zero, List.set_cons_succ]))
              refine Rf.Steps.nil (by kernel_rfl) ?_
              intro w4 hb6
              clear d4 d5 d6 d7
              go_wp2
              go_roundw
              case rel => exact ⟨k + 1, by omega, by go_num, nx hbw hb6, HN2.out⟩
              case measure => simp [intOf]; omega
        · obtain rfl : k = n := by omega
          have hrt := HT.out
          rw [HN.out, List.take_length] at hrt
          have HZ : Hid (r = nodB (flat l)) := Lib.hid (by rw [← HR.out]; exact rgt_all HSd.out hrt)
          have hll := HL.out wo hbo
          rw [← HN.out] at hll
          have HLo := Lib.hid hll
          clear hrt hll
          go_wp2_with fail
          refine (ords_big B l _ wo HLo.out (HBl.out wo hbo) (by rw [← HN.out]; exact hm) HFl.out).mono ?_
          rintro e w5 ⟨y, rfl, hb5, hy⟩
          go_wp2_with fail
          refine (ownIds_any B (flat l) y w5 hy HFl.out).mono ?_
          rintro e w6 ⟨rfl, hb6⟩
          go_wp2
          go_ret
          exact ⟨ret_bool HZ.out.symm, nx hbo (nx hb5 hb6)⟩
  · have hr := right_side (l := l) hs
    rw [hr]
    have d1 : (s != 1) = true := by simp; omega
    have d2 : (s != 2) = true := by simp; omega
    clear hs hr h
    go_enter Try.func45, Try.ntmps45
    go_wp2
    go_ret
    exact ⟨rfl, Below.refl _ _⟩
end Go.Proofs.Ytfnmmknbjfmagaa.Le
