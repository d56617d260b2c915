/- InstanceOpen. -/
import Derived.Test.YtoncmbglmebkiaaInH
import Derived.Test.YtoncmbglmebkiaaInLaw
namespace Go.Proofs.Ytoncmbglmebkiaa.In
open Go.RowKit
set_option linter.unusedVariables false
open Go.Proofs.Ytoncmbglmebkiaa.Rw
open Go.Proofs.Ytoncmbglmebkiaa.Da
open Go.Proofs.Ytoncmbglmebkiaa.Bv
open Go.Proofs.Ytoncmbglmebkiaa.Rc (Ins ci zeroI okI)
open Go.Proofs.Ytoncmbglmebkiaa.St
set_option maxRecDepth 16000 in
set_option maxHeartbeats 16000000 in
theorem walkOpen (l : List Ins) (v : Value) (n : Int) (w : World) (h : TI w.heap.size l v w) (_ : l.length ≤ maxLen ∧ capOk v) (_ : (Lit.int .i64 n).wf = true) :
    Calls Try.prog 5 #[v, .int .i64 n] w fun e w' => e = .returned (.bool true) ∧ Below w.heap.size w w' := by
  obtain ⟨q, hq⟩ : ∃ q, q = w.heap.size := ⟨_, rfl⟩
  rw [← hq] at h
  have hq0 : q ≤ w.heap.size := by omega
  clear hq
  obtain ⟨a1, c1, rfl⟩ := h.len
  obtain ⟨m, hmm⟩ : ∃ m, l.length = m := ⟨_, rfl⟩
  have HN := Lib.hid hmm
  rw [hmm] at h ⊢
  have H := Lib.hid h
  clear h hmm
  by_cases hlen : 40 < m
  · have hd : decide ((m : Int) > 40) = true := decide_eq_true (by omega)
    go_enter Try.func5, Try.ntmps5
    go_wp2_with fail
    refine (awake_any _).mono ?_
    rintro e w1 ⟨rfl, hb1⟩
    go_wp2
    go_ret
    exact ⟨rfl, hb1⟩
  have hd : decide ((m : Int) > 40) = false := decide_eq_false (by omega)
  have hm6 : l.length ≤ 1000000 := by rw [HN.out]; omega
  have hm4 : m ≤ 40 := by omega
  clear hlen
  obtain ⟨g, hg⟩ : ∃ g, rightT l n = g := ⟨_, rfl⟩
  have HG := Lib.hid hg
  clear hg
  cases g with
  | false =>
    go_enter Try.func5, Try.ntmps5
    go_wp2_with fail
    refine (right_is HG _ w H.out hm6).mono ?_
    rintro e w1 ⟨rfl, hb1⟩
    go_wp2_with fail
    refine (awake_any _).mono ?_
    rintro e w2 ⟨rfl, hb2⟩
    go_wp2
    go_ret
    exact ⟨rfl, nx hb1 hb2⟩
  | true =>
  have HRt := Lib.hid (rightT_iff.1 HG.out)
  have hn1 := HRt.out.1
  obtain ⟨hn1, hn7⟩ := hn1
  obtain ⟨N, rfl⟩ : ∃ N : Nat, n = N := ⟨n.toNat, by omega⟩
  have HCount := Lib.hid (open_count HG.out)
  have HNums : Hid (Nums l) := Lib.hid fun i hi => by
    have := ok_place (HRt.out.2.1 i hi)
    unfold Num
    omega
  obtain ⟨P, hP⟩ : ∃ P, openI l (N : Int) = P := ⟨_, rfl⟩
  have HPm : Hid (∀ p ∈ P, OpenAt l p) := Lib.hid fun p hp => by rw [← hP] at hp; exact (openN_mem hp).2.2
  have HPp : Hid (P.Pairwise PLess) := Lib.hid (by rw [← hP]; exact openN_pw _ _)
  have HPl : Hid (P.length ≤ 2800) := Lib.hid (by
    rw [← hP]
    have := openN_len l (min (N : Int) 7).toNat
    unfold openI
    omega)
  obtain ⟨S, hS⟩ : ∃ S, sumK l N = S := ⟨_, rfl⟩
  have hSb := sumK_bd HRt.out.2.1 N
  rw [hS] at hSb
  have hC := HCount.out
  rw [hP, Int.toNat_natCast, hS] at hC
  replace HCount := Lib.hid hC
  have HS := Lib.hid hS
  have HSb : Hid (0 ≤ S ∧ S ≤ 2800) := Lib.hid (by omega)
  clear hS hSb hC
  go_enter Try.func5, Try.ntmps5
  go_wp2_with fail
  refine (right_is HG _ w H.out hm6).mono ?_
  rintro e w1 ⟨rfl, hb1⟩
  have HT1 := Lib.hid (H.out.stays hb1)
  go_wp2_with fail
  refine (open_any q l _ N w1 HT1.out (by have := hb1.size; omega) hm6 HNums.out).mono ?_
  rintro e w2 ⟨vo, rfl, ho2, hb2⟩
  rw [hP] at ho2
  clear hP
  have hto := ho2.tp (by have := hb1.size; omega)
  obtain ⟨a2, c2, rfl⟩ := hto.len
  obtain ⟨p, hp⟩ : ∃ p, P.length = p := ⟨_, rfl⟩
  rw [hp] at hto
  have HPn := Lib.hid hp
  have HTo := Lib.hid hto
  have hp28 : p ≤ 2800 := by rw [← hp]; exact HPl.out
  have bw2 := nx hb1 hb2
  have HT2 := Lib.hid (HT1.out.stays hb2)
  rw [hp]
  clear hto ho2 hp
  go_wp2
  go_loopw [6, 28] (fun a x wr => ∃ k : Nat, k ≤ N ∧ x = .int .i64 k ∧ a = .int .i64 (sumK l k) ∧ Below w2.heap.size w2 wr) (fun _ x _ => N - (intOf x).toNat)
  case atStart => exact ⟨0, Nat.zero_le _, rfl, rfl, Below.refl _ _⟩
  case round =>
    obtain ⟨k, hk, rfl, rfl, hb⟩ := hrel
    obtain ⟨s, hs⟩ : ∃ s, sumK l k = s := ⟨_, rfl⟩
    have hsb := sumK_bd HRt.out.2.1 k
    rw [hs] at hsb ⊢
    have HSk := Lib.hid hs
    have hs0 := hsb.1
    have hs8 : s ≤ 2800 := by omega
    clear hs hsb
    by_cases hlt : k < N
    · have hlt2 : (k : Int) < N := by omega
      obtain ⟨g, hg⟩ : ∃ g, knownI l k = g := ⟨_, rfl⟩
      have hg1 := known_le HRt.out.2.1 k
      have hg0 := known_nonneg l k
      rw [hg] at hg0 hg1
      have HKn := Lib.hid hg
      have HSs : Hid (sumK l (k + 1) = s + g) := Lib.hid (by rw [sumK, HSk.out, hg])
      clear hg
      go_wp2_with fail
      refine (known_is HKn _ wr (HT2.out.stays hb) hm6).mono ?_
      rintro e w3 ⟨rfl, hb3⟩
      go_wp2
      go_roundw
      case rel => exact ⟨k + 1, by omega, by go_num, by rw [HSs.out], nx hb hb3⟩
      case measure => simp [intOf]; omega
    · obtain rfl : k = N := by omega
      have hsS : s = S := HSk.out.symm.trans HS.out
      subst hsS
      go_wp2
      go_loopw [6, 39] (fun a x wr => ∃ j : Nat, j ≤ m ∧ x = .int .i64 j ∧ a = .int .i64 (s - cmt (l.take j)) ∧ Below w2.heap.size w2 wr) (fun _ x _ => m - (intOf x).toNat)
      case atStart => exact ⟨0, Nat.zero_le _, rfl, by simp [cmt], hb⟩
      case round =>
        obtain ⟨j, hj, rfl, rfl, hb2⟩ := hrel
        have bw3 := nx bw2 hb2
        obtain ⟨z, hz⟩ : ∃ z, s - (cmt (l.take j) : Int) = z := ⟨_, rfl⟩
        have hcl := cmt_le (l.take j)
        rw [List.length_take] at hcl
        have hz1 : -40 ≤ z := by omega
        have hz2 : z ≤ 2800 := by omega
        have HZ := Lib.hid hz
        rw [hz]
        clear hz hcl
        by_cases hlt2 : j < m
        · have hjl : j < l.length := by rw [HN.out]; exact hlt2
          have hlt3 : (j : Int) < m := by omega
          obtain ⟨b, off, rfl, hbb, hK0⟩ := TI.all H.out bw3 hjl
          have hx := (hK0 wr (Below.refl _ _)).1
          have hct := cmt_take hjl
          obtain ⟨x, hxx⟩ : ∃ x, l[j] = x := ⟨_, rfl⟩
          rw [hxx] at hx hct
          have HCt := Lib.hid hct
          clear hxx hK0 hct
          obtain ⟨V, hV⟩ : ∃ Q_ : World, (wr.alloc (.cells (ci zeroI) 35)).setRow wr.heap.size (ci x) = Q_ := ⟨_, rfl⟩
          have xV : Bx V wr.heap.size (ci x) 35 := hV ▸ Bx.put (Bx.new _ _ _) _
          have bV : Below wr.heap.size wr V := hV ▸ below_setRow (below1 _ _) (Nat.le_refl _) _
          have hplain := (Bx.new wr (ci zeroI) 35).plain (n := 25) rfl
          have k6 : V.cell? ⟨wr.heap.size, 6, none⟩ = some (.int .i64 x.st) := xV.cell 6
          have hbV := nx hb2 bV
          by_cases hst : x.st = 3
          · have hs3 : (x.st == 3) = true := by simpa using hst
            have HF : Hid (s - (cmt (l.take (j + 1)) : Int) = z - 1) := Lib.hid (by
              rw [HCt.out, hs3, ← HZ.out]; unfold one3; rw [if_pos rfl]; omega)
            clear hst
            go_wp2
            go_roundw
            case rel => exact ⟨j + 1, by omega, by go_num, by rw [HF.out], hbV⟩
            case measure => simp [intOf]; omega
          · have hs3 : (x.st == 3) = false := by simpa using hst
            have HF : Hid (s - (cmt (l.take (j + 1)) : Int) = z) := Lib.hid (by
              rw [HCt.out, hs3, ← HZ.out]; unfold one3; rw [if_neg (by decide)]; omega)
            clear hst
            go_wp2
            go_roundw
            case rel => exact ⟨j + 1, by omega, by go_num, by rw [HF.out], hbV⟩
            case measure => simp [intOf]; omega
        · obtain rfl : j = m := by omega
          have HZ2 : Hid (z = (p : Int)) := Lib.hid (by
            rw [← HZ.out, ← HN.out, List.take_length, ← HPn.out, HCount.out])
          obtain rfl : z = (p : Int) := HZ2.out
          go_wp2
          go_loopw [51] (fun x wr => ∃ i : Nat, i ≤ p ∧ x = .int .i64 i ∧ Below w2.heap.size w2 wr) (fun x _ => p - (intOf x).toNat)
          case atStart => exact ⟨0, Nat.zero_le _, rfl, hb2⟩
          case round =>
            obtain ⟨i, hi, rfl, hb4⟩ := hrel
            have bw4 := nx bw2 hb4
            have HT4 := Lib.hid (HT2.out.stays hb4)
            by_cases hlt3 : i < p
            · have hip : i < P.length := by rw [HPn.out]; exact hlt3
              have hlt4 : (i : Int) < p := by omega
              obtain ⟨b, off, rfl, hbb, hK0⟩ := TP.all HTo.out hb4 hip
              have hx := hK0 wr (Below.refl _ _)
              have hOp := HPm.out P[i] (List.getElem_mem hip)
              obtain ⟨⟨r, t⟩, hrt⟩ : ∃ x, P[i] = x := ⟨_, rfl⟩
              have HRT := Lib.hid hrt
              rw [hrt] at hx hOp
              simp only at hx
              obtain ⟨ho1, ho2, ho3⟩ := hOp
              simp only at ho1 ho2 ho3
              obtain ⟨G, hG⟩ : ∃ G, gotI l r t = G := ⟨_, rfl⟩
              obtain ⟨is, his⟩ : ∃ G, hasI l r t = G := ⟨_, rfl⟩
              obtain ⟨kn, hkn⟩ : ∃ G, knownI l r = G := ⟨_, rfl⟩
              rw [hG] at ho1
              rw [hkn] at ho3
              have HGt := Lib.hid (And.intro hG his)
              have HKn := Lib.hid hkn
              have e3 : (G.st == 3) = false := by simpa using ho1
              have e1 : decide (t < 1) = false := decide_eq_false (by omega)
              have ek : decide (t > kn) = false := decide_eq_false (by omega)
              clear hrt hK0 hG his hkn ho1
              obtain ⟨V, hV⟩ : ∃ Q_ : World, (wr.alloc (.cells #[.int .i64 0, .int .i64 0] 24)).setRow wr.heap.size #[.int .i64 r, .int .i64 t] = Q_ := ⟨_, rfl⟩
              have xV : Bx V wr.heap.size #[.int .i64 r, .int .i64 t] 24 := hV ▸ Bx.put (Bx.new _ _ _) _
              have bV : Below wr.heap.size wr V := hV ▸ below_setRow (below1 _ _) (Nat.le_refl _) _
              have hplain := (Bx.new wr #[.int .i64 0, .int .i64 0] 24).plain (n := 2) rfl
              have rx := xV.row
              have hbV := nx hb4 bV
              have HTV := Lib.hid (HT4.out.stays bV)
              go_wp2_with fail
              refine (get_is HGt _ V HTV.out hm6).mono ?_
              rintro e w5 ⟨rfl, hb5⟩
              have x5 := xV.stays hb5
              have h5 := nx hbV hb5
              obtain ⟨R, hR⟩ : ∃ Q_ : World, (w5.alloc (.cells (ci zeroI) 35)).setRow w5.heap.size (ci G) = Q_ := ⟨_, rfl⟩
              have gR : Bx R w5.heap.size (ci G) 35 := hR ▸ Bx.put (Bx.new _ _ _) _
              have bR : Below w5.heap.size w5 R := hR ▸ below_setRow (below1 _ _) (Nat.le_refl _) _
              have rpl := (Bx.new w5 (ci zeroI) 35).plain (n := 25) rfl
              have xR := x5.stays bR
              have hbR := nx h5 bR
              have HTR := Lib.hid ((HTV.out.stays hb5).stays bR)
              clear rx x5
              by_cases hi0 : i = 0
              · subst hi0
                have hK : ∀ u, Below R.heap.size R u → TI q l (.slice a1 j c1) u ∧ u.cell? ⟨wr.heap.size, 0, none⟩ = some (.int .i64 r) ∧ u.cell? ⟨wr.heap.size, 1, none⟩ = some (.int .i64 t) ∧ u.cell? ⟨w5.heap.size, 6, none⟩ = some (.int .i64 G.st) := fun u hu => ⟨HTR.out.stays hu, (xR.stays hu).cell 0, (xR.stays hu).cell 1, (gR.stays hu).cell 6⟩
                go_wp2
                refine Rf.region [0, 1, 2, 3, 4, 5, 6, 7, 8, 9, 10, 11, 12, 13, 14, 15, 16, 17, 18, 19, 20, 21, 22, 23, 24, 25, 26, 27, 28, 29, 30] (by kernel_rfl) (by kernel_rfl) (by kernel_rfl) (fun _ _ d _ _ h => by cases d <;> exact h) ?_
                repeat (first | (refine Rf.Steps.skip (by rfl) (by kernel_rfl) (by rfl) ?_; simp only [Act.put, List.setIfInBounds_toArray, List.set_cons_zero, List.set_cons_succ]) | (refine Rf.Steps.pure (v := ?_) (by rfl) (by kernel_rfl) (by rfl) ?_ ?_; rotate_left; (intro w_ hS_; have hk_ := hK w_ hS_; go_simp <;> with_reducible rfl); simp only [Act.put, List.setIfInBounds_toArray, List.set_cons_zero, List.set_cons_succ]) | (refine Rf.Steps.call (v := ?_) (f := ?_) (args := ?_) (by rfl) (by kernel_rfl) (by rfl) ?_ ?_ ?_; rotate_left 3; (intro w_ hS_; have hk_ := hK w_ hS_; go_simp <;> first | with_reducible rfl | (constructor <;> with_reducible rfl)); (intro w_ hS_; have hk_ := hK w_ hS_; first | (go_at_call 10; refine (known_is HKn _ _ hk_.1 hm6).mono ?_; first | (rintro e w_ ⟨rfl, rfl⟩; refine ⟨?_, Below.refl _ _⟩; with_reducible rfl) | (rintro e w_ ⟨rfl, hb_⟩; refine ⟨?_, hb_⟩; with_reducible rfl))); simp only [Act.put, List.setIfInBounds_toArray, List.set_cons_zero, List.set_cons_succ]))
                refine Rf.Steps.nil (by kernel_rfl) ?_
                intro w6 h6
                go_wp2
                go_roundw
                case rel => exact ⟨1, by omega, by go_num, nx hbR h6⟩
                case measure => simp [intOf]; omega
              · obtain ⟨i, rfl⟩ : ∃ i', i = i' + 1 := ⟨i - 1, by omega⟩
                have hip2 : i < P.length := by omega
                obtain ⟨b2, off2, e2, hbb2, hK1⟩ := TP.all HTo.out hbR hip2
                simp only [Option.some.injEq, Addr.mk.injEq] at e2
                obtain ⟨rfl, rfl, _⟩ := e2
                have hpl := List.pairwise_iff_getElem.1 HPp.out i (i + 1) hip2 hip (by omega)
                rw [HRT.out] at hpl
                obtain ⟨⟨r2, t2⟩, hrt⟩ : ∃ x, P[i] = x := ⟨_, rfl⟩
                rw [hrt] at hpl hK1
                simp only at hK1
                have HL : Hid (lessP r2 t2 r t = true) := Lib.hid hpl
                have hi1 : decide (((i + 1 : Nat) : Int) > 0) = true := decide_eq_true (by omega)
                have hi2 : wrap64 (((i + 1 : Nat) : Int) - 1) = (i : Int) := by rw [IntWalk.wrap64_in _ (by omega)]; omega
                have hi3 : IntKind.i64.wrap (i : Int) = i := IntWalk.i64_in _ (by omega)
                have hi4 : (i : Int) < p := by omega
                have hK : ∀ u, Below R.heap.size R u → TI q l (.slice a1 j c1) u ∧ u.cell? ⟨wr.heap.size, 0, none⟩ = some (.int .i64 r) ∧ u.cell? ⟨wr.heap.size, 1, none⟩ = some (.int .i64 t) ∧ u.cell? ⟨w5.heap.size, 6, none⟩ = some (.int .i64 G.st) ∧ row u wr.heap.size = #[.int .i64 r, .int .i64 t] ∧ (row u b).extract (off + i * 2) (off + i * 2 + 2) = #[.int .i64 r2, .int .i64 t2] := fun u hu => ⟨HTR.out.stays hu, (xR.stays hu).cell 0, (xR.stays hu).cell 1, (gR.stays hu).cell 6, (xR.stays hu).row, hK1 u hu⟩
                clear hrt hpl hK1 hi0
                go_wp2
                refine Rf.region [0, 1, 2, 3, 4, 5, 6, 7, 8, 9, 10, 11, 12, 13, 14, 15, 16, 17, 18, 19, 20, 21, 22, 23, 24, 25, 26, 27, 28, 29, 30] (by kernel_rfl) (by kernel_rfl) (by kernel_rfl) (fun _ _ d _ _ h => by cases d <;> exact h) ?_
                repeat (first | (refine Rf.Steps.skip (by rfl) (by kernel_rfl) (by rfl) ?_; simp only [Act.put, List.setIfInBounds_toArray, List.set_cons_zero, List.set_cons_succ]) | (refine Rf.Steps.pure (v := ?_) (by rfl) (by kernel_rfl) (by rfl) ?_ ?_; rotate_left; (intro w_ hS_; have hk_ := hK w_ hS_; go_simp <;> with_reducible rfl); simp only [Act.put, List.setIfInBounds_toArray, List.set_cons_zero, List.set_cons_succ]) | (refine Rf.Steps.call (v := ?_) (f := ?_) (args := ?_) (by rfl) (by kernel_rfl) (by rfl) ?_ ?_ ?_; rotate_left 3; (intro w_ hS_; have hk_ := hK w_ hS_; go_simp <;> first | with_reducible rfl | (constructor <;> with_reducible rfl)); (intro w_ hS_; have hk_ := hK w_ hS_; first | (go_at_call 10; refine (known_is HKn _ _ hk_.1 hm6).mono ?_; first | (rintro e w_ ⟨rfl, rfl⟩; refine ⟨?_, Below.refl _ _⟩; with_reducible rfl) | (rintro e w_ ⟨rfl, hb_⟩; refine ⟨?_, hb_⟩; with_reducible rfl)) | (go_at_call 9; refine (less_is HL _).mono ?_; first | (rintro e w_ ⟨rfl, rfl⟩; refine ⟨?_, Below.refl _ _⟩; with_reducible rfl) | (rintro e w_ ⟨rfl, hb_⟩; refine ⟨?_, hb_⟩; with_reducible rfl))); simp only [Act.put, List.setIfInBounds_toArray, List.set_cons_zero, List.set_cons_succ]))
                refine Rf.Steps.nil (by kernel_rfl) ?_
                intro w6 h6
                go_wp2
                go_roundw
                case rel => exact ⟨i + 1 + 1, by omega, by go_num, nx hbR h6⟩
                case measure => simp [intOf]; omega
            · obtain rfl : i = p := by omega
              go_wp2_with fail
              refine (awake_any _).mono ?_
              rintro e w6 ⟨rfl, hb6⟩
              go_wp2
              go_ret
              exact ⟨rfl, nx bw4 hb6⟩
end Go.Proofs.Ytoncmbglmebkiaa.In
