/- MoneyOrder at a slice that is not empty. -/
import Derived.Test.YtpjnebkfijmkpaaMoLOrder
namespace Go.Proofs.Ytpjnebkfijmkpaa.Mo
open Go.RowKit
set_option linter.unusedVariables false
open Go.Proofs.Ytpjnebkfijmkpaa.Fx (nx nd)
theorem cell_set {w : World} {p q : Addr} {x v : Value} (h : w.cell? q = some v) : ∃ v', (w.setCell p x).cell? q = some v' := by
  by_cases e : p = q
  · subst e; exact ⟨x, World.cell?_setCell_same w p x h⟩
  · exact ⟨v, (World.cell?_setCell_other w p q x e).trans h⟩
theorem below_drewN' {B : Nat} {a w : World} (h : Below B a w) (n : Nat) : Below B a (w.drewN n) := h.trans ⟨rfl, rfl, rfl, Nat.le_refl _, fun _ _ => rfl⟩
theorem perm_all {l m : List Int} (h : m.Perm l) (hl : l.all may = true) : m.all may = true := by
  rw [List.all_eq_true] at hl ⊢
  exact fun x hx => hl x (h.mem_iff.1 hx)
theorem ints_below {w w' : World} {b off n : Nat} {l : List Int} (h : Ints w b off n l) (hb : b < w.heap.size) (bel : Below w.heap.size w w') : Ints w' b off n l :=
  ⟨h.1, fun i hi => (bel.cell (by simpa using hb)).trans (h.2.1 i hi), h.2.2⟩
set_option maxHeartbeats 12800000 in
theorem walkOrderS (b off n c : Nat) (l : List Int) (a2 : Option Addr) (n2 c2 : Nat) (l2 : List Int) (w : World) (hI : Ints w b off n l) (hbw : b < w.heap.size) (hn : 0 < n) (hm : n ≤ 60) (h2 : Rd w a2 n2 l2) (hm2 : n2 ≤ 60) :
    Calls Try.prog 5 #[.slice (some ⟨b, off, none⟩) n c, .slice a2 n2 c2] w fun e w' => e = .returned (.bool true) ∧ Below w.heap.size w w' := by
  obtain ⟨i0, hi, hz0, hz1, hz2⟩ := info_parts info3
  have H2 := Lib.hid h2
  have HI := Lib.hid hI
  clear h2 hI
  have hown := own0 w
  have hd1 : decide (60 < (n : Int)) = false := decide_eq_false (by omega)
  have hd2 : decide (60 < (n2 : Int)) = false := decide_eq_false (by omega)
  go_enter Try.func5, Try.ntmps5
  go_wp2
  go_loop [27] (fun i => ∃ k : Nat, k ≤ n ∧ i = .int .i64 k ∧ Hid (∀ j, j < k → may (l.getD j 0) = true)) (fun i => n - (intOf i).toNat)
  case atStart => exact ⟨0, Nat.zero_le _, rfl, Lib.hid (fun j hj => absurd hj (by omega))⟩
  case round =>
    obtain ⟨k, hk, rfl, HK⟩ := hrel
    by_cases hlt : k < n
    · obtain ⟨x, hx, hck⟩ : ∃ x, l.getD k 0 = x ∧ w.cell? ⟨b, off + k, none⟩ = some (.int .i64 x) := ⟨_, rfl, HI.out.2.1 k hlt⟩
      have HX := Lib.hid hx
      clear hx
      by_cases hy : may x = true
      · have HY := Lib.hid hy
        clear hy
        go_wp2_with fail
        refine (may_any x w).mono ?_
        rintro e w' ⟨rfl, rfl⟩
        rw [HY.out]
        go_wp2
        go_round
        case rel => exact ⟨k + 1, by omega, by go_num, Lib.hid (fun j hj => by
          by_cases e : j = k
          · rw [e, HX.out]; exact HY.out
          · exact HK.out j (by omega))⟩
        case measure => simp [intOf]; omega
      · have HY : Hid (may x = false) := Lib.hid (by simpa using hy)
        clear hy
        go_wp2_with fail
        refine (may_any x w).mono ?_
        rintro e w' ⟨rfl, rfl⟩
        rw [HY.out]
        go_wp2_with fail
        refine (awake_any _).mono ?_
        rintro e w9 ⟨rfl, hb9⟩
        go_wp2
        go_ret
        exact ⟨rfl, hb9⟩
    · obtain rfl : k = n := by omega
      have HA : Hid (l.all may = true) := Lib.hid (all_of HI.out.1 HK.out)
      have hnews : ∀ j u, (vals l)[j]? = some u → (w.alloc (.cells #[] 3)).cell? ((⟨b, off, none⟩ : Addr).add j) = some u := fun j u h => news_at HI.out hbw j u h
      have hlen : (vals l).length = k * 1 := by unfold vals; rw [List.length_map, HI.out.1, Nat.mul_one]
      have HN := Lib.hid hnews
      have HL := Lib.hid hlen
      clear hnews hlen HK
      go_wp2_with (first | (at_builtin; refine wpList_append_own _ rfl _ _ 28 rfl w.heap.size 3 i0 (.int .i64 0) 1 8 Try.underlying28 hi hz0 hz1 hz2 rfl (by decide) _ 0 [] rfl hown ⟨b, off, none⟩ k c (vals l) rfl HL.out HN.out (fun u h => one_of h) (by unfold maxLen; omega) (by omega) (by simp) ?_; intro v' w1 hown' hgrow hnil) | fail)
      have hb1 := Lib.hid (grown0 hgrow)
      have HO : Own w1 w.heap.size v' k l := by rw [Nat.zero_add, List.nil_append] at hown'; exact hown'
      obtain ⟨g, cg, rfl, hg⟩ := HO.slice hn
      have HO := Lib.hid HO
      clear hown' hgrow hnil hown
      go_loopw [41] (fun i wr => ∃ (j : Nat) (m : List Int), j ≤ n2 ∧ i = .int .i64 j ∧ Hid (Below w.heap.size w wr) ∧ Hid (Own wr w.heap.size (.slice (some ⟨g, 0, none⟩) k cg) k m) ∧ Hid (m.Perm l)) (fun i _ => n2 - (intOf i).toNat)
      case atStart => exact ⟨0, l, Nat.zero_le _, rfl, hb1, HO, Lib.hid (List.Perm.refl _)⟩
      case round =>
        obtain ⟨j, m, hj, rfl, HB, HM, HP⟩ := hrel
        by_cases hlj : j < n2
        · obtain ⟨b2, o2, x, rfl, hck⟩ := Rd.at H2.out HB.out j hlj
          by_cases h1 : 1 < k
          · obtain ⟨p, hp, hpe⟩ : ∃ p : Nat, p < k ∧ ((j : Int)).tmod (k : Int) = p := ⟨j % k, Nat.mod_lt _ hn, by rw [Int.tmod_eq_emod_of_nonneg (by omega)]; rfl⟩
            obtain ⟨q, hq, hqe⟩ := mod64 x k hn
            obtain ⟨xp, hxp, hcp⟩ : ∃ z, m.getD p 0 = z ∧ wr.cell? ⟨g, p, none⟩ = some (.int .i64 z) := ⟨_, rfl, HM.out.cell p hp⟩
            obtain ⟨xq, hxq, hcq⟩ : ∃ z, m.getD q 0 = z ∧ wr.cell? ⟨g, q, none⟩ = some (.int .i64 z) := ⟨_, rfl, HM.out.cell q hq⟩
            have hfp := World.ownsRow.frozenAt HM.out p
            have hfq := World.ownsRow.frozenAt HM.out q
            have HXP := Lib.hid hxp
            have HXQ := Lib.hid hxq
            clear hxp hxq
            go_wp2_with fail
            go_quiet (fail)
            go_wp2_with fail
            generalize hwq : wr.drewN nq = wq
            have hcp' : wq.cell? ⟨g, p, none⟩ = some (.int .i64 xp) := by rw [← hwq]; exact hcp
            have hcq' : wq.cell? ⟨g, q, none⟩ = some (.int .i64 xq) := by rw [← hwq]; exact hcq
            have hfp' : wq.frozen? ⟨g, p, none⟩ = false := by rw [← hwq]; exact hfp
            have hfq' : wq.frozen? ⟨g, q, none⟩ = false := by rw [← hwq]; exact hfq
            obtain ⟨v', hy'⟩ := cell_set (p := ⟨g, p, none⟩) (x := .int .i64 xq) hcq'
            have HW : Hid (Own wq w.heap.size (.slice (some ⟨g, 0, none⟩) k cg) k m ∧ Below w.heap.size w wq) := Lib.hid (by
              rw [← hwq]
              exact ⟨HM.out, below_drewN' HB.out _⟩)
            clear hcp hcq hfp hfq hwq
            go_region
            go_wp2
            go_roundw
            case rel => exact ⟨j + 1, (m.set p xq).set q xp, by omega, by go_num, Lib.hid ((((HW.out.2.setCell hg _).setCell hg _).drew)), Lib.hid (HW.out.1.swap p q xq xp), Lib.hid (by
              have := swap_perm m p q (by rw [HM.out.len]; exact hp) (by rw [HM.out.len]; exact hq)
              rw [HXP.out, HXQ.out] at this
              exact this.trans HP.out)⟩
            case measure => simp [intOf]; omega
          · have h1' : decide (1 < (k : Int)) = false := decide_eq_false (by omega)
            go_wp2
            go_roundw
            case rel => exact ⟨j + 1, m, by omega, by go_num, HB, HM, HP⟩
            case measure => simp [intOf]; omega
        · obtain rfl : j = n2 := by omega
          have hI2 := Lib.hid (HM.out.ints (wf_all (perm_all HP.out HA.out)))
          have hT := tot_perm HP.out HA.out
          have T1 := Lib.hid hT.1
          have T2 := Lib.hid hT.2
          have HI' := Lib.hid (ints_below HI.out hbw HB.out)
          clear hT
          go_wp2_with fail
          refine (sum_any b off k c l _ HI'.out hn (by unfold maxLen; omega)).mono ?_
          rintro e w' ⟨rfl, rfl⟩
          go_wp2_with fail
          refine (sum_any g 0 k cg m _ hI2.out hn (by unfold maxLen; omega)).mono ?_
          rintro e w' ⟨rfl, rfl⟩
          rw [T1.out, T2.out]
          go_wp2_with fail
          refine (awake_any _).mono ?_
          rintro e w9 ⟨rfl, hb9⟩
          go_wp2
          go_ret
          exact ⟨rfl, nx HB.out hb9⟩
end Go.Proofs.Ytpjnebkfijmkpaa.Mo
