/- Package level as it landed: slices.DeleteFunc of levels without orders. -/
import Derived.Test.YthecinmekoaphaaGreatQaBD
import Derived.Test.YthecinmekoaphaaGreatQaBE
set_option linter.unusedVariables false
namespace Go.Proofs.YthecinmekoaphaaGreat.Le
open Go.RowKit
open Go.Proofs.YthecinmekoaphaaGreat.Rw
open Go.Proofs.YthecinmekoaphaaGreat.Da
open Go.Proofs.YthecinmekoaphaaGreat.Ro
/-- Has the level orders? -/
def full (y : Hw) : Bool := decide (y.2.2.1 ≠ 0)
def ixE : List Hw → Nat → Int
  | [], _ => -1
  | y :: r, j => if y.2.2.1 = 0 then (j : Int) else ixE r (j + 1)
theorem hdrop {α : Type} {l : List α} {k : Nat} (h : k < l.length) : l.drop k = l[k] :: l.drop (k + 1) := List.drop_eq_getElem_cons h
theorem ixE_drop {hs : List Hw} {j : Nat} (h : j < hs.length) : ixE (hs.drop j) j = if hs[j].2.2.1 = 0 then (j : Int) else ixE (hs.drop (j + 1)) (j + 1) := by
  rw [hdrop h]; rfl
theorem ixE_spec : ∀ (hs : List Hw) (j : Nat), (ixE hs j = -1 ∧ hs.filter full = hs) ∨ ∃ k, ∃ h : k < hs.length, ixE hs j = ((j + k : Nat) : Int) ∧ hs[k].2.2.1 = 0 ∧ (hs.take k).filter full = hs.take k
  | [], j => .inl ⟨rfl, rfl⟩
  | y :: r, j => by
    by_cases e : y.2.2.1 = 0
    · exact .inr ⟨0, by simp, by simp [ixE, e], by simpa using e, by simp⟩
    · have hf : full y = true := by simp [full, e]
      rcases ixE_spec r (j + 1) with ⟨h1, h2⟩ | ⟨k, hk, h1, h2, h3⟩
      · exact .inl ⟨by simp only [ixE, e, if_false]; exact h1, by rw [List.filter_cons, hf, h2]; rfl⟩
      · refine .inr ⟨k + 1, by simp; omega, ?_, by simpa using h2, ?_⟩
        · simp only [ixE, e, if_false, h1]; congr 1; omega
        · rw [List.take_succ_cons, List.filter_cons, hf, h3]; rfl
theorem rowF_set {g cap : Nat} {xs : List Hw} {u : World} (h : RowF g cap xs u) {i : Nat} {x : Hw} (y : Hw) (hx : xs[i]? = some x) : RowF g cap (xs.set i y) ((u.setCell ⟨g, i * 2, none⟩ (.int .i64 y.1)).setCell ⟨g, i * 2 + 1, none⟩ (hv y)) ∧ u.grownBy ((u.setCell ⟨g, i * 2, none⟩ (.int .i64 y.1)).setCell ⟨g, i * 2 + 1, none⟩ (hv y)) (some g) := by
  have hi : i < xs.length := (List.getElem?_eq_some_iff.1 hx).1
  have h1 := h.setCell (j := 0) (y := (y.1, x.2)) (u := .int .i64 y.1) hx (by decide) rfl
  have h2 := h1.setCell (j := 1) (y := y) (u := hv y) (List.getElem?_set_self hi) (by decide) rfl
  rw [List.set_set] at h2
  exact ⟨h2, grown_trans (setCell_grown u g (i * 2) (.int .i64 y.1)) (setCell_grown _ g (i * 2 + 1) (hv y))⟩
set_option maxHeartbeats 1000000 in
theorem indexFuncL_any (g n : Nat) (hs : List Hw) (w : World) (hrow : RowF g n hs w) (hl : n = hs.length) (hm : n ≤ 1000000) (hbd : ∀ y ∈ hs, y.2.2.1 ≤ 1000000) :
    Calls Tryz.prog 140 #[.slice (some ⟨g, 0, none⟩) n n, .func (.func 115) #[] #[]] w fun e w' => e = .returned (.int .i64 (ixE hs 0)) ∧ Below w.heap.size w w' := by
  obtain ⟨r, hr⟩ : ∃ r, ixE (hs.drop 0) 0 = r := ⟨_, rfl⟩
  have HG : Hid (ixE hs 0 = r) := Lib.hid hr
  have HR := Lib.hid hr
  have HW := Lib.hid hrow
  have HL := Lib.hid hl
  have HD := Lib.hid hbd
  clear hrow hr hl hbd
  go_enter Tryz.func140, Tryz.ntmps140
  go_wp2
  go_loopw [5, 8] (fun _ i wr => ∃ j : Nat, j ≤ n ∧ i = .int .i64 j ∧ Below w.heap.size w wr ∧ ixE (hs.drop j) j = r) (fun _ i _ => n - (intOf i).toNat)
  case atStart => exact ⟨0, Nat.zero_le _, rfl, Below.refl _ _, HR.out⟩
  case round =>
    obtain ⟨j, hj, rfl, hb, hrj⟩ := hrel
    have HT := Lib.hid hrj
    clear hrj
    by_cases hjm : j < n
    · have hjm2 : (j : Int) < n := by omega
      have hjo : j < hs.length := by rw [← HL.out]; exact hjm
      have hrw := HW.out.stays hb
      have hgz := hrw.lt
      have hcons := ixE_drop hjo
      have hmem := HD.out _ (List.getElem_mem hjo)
      obtain ⟨⟨yp, ya, yn, yc⟩, hy⟩ : ∃ y, hs[j]'hjo = y := ⟨_, rfl⟩
      rw [hy] at hcons hmem
      simp only at hcons hmem
      obtain ⟨q0, q1, _, _⟩ := rowF_at hrw (show hs[j]? = some (yp, ya, yn, yc) by rw [← hy]; exact List.getElem?_eq_getElem hjo)
      simp only [hv] at q1
      rw [HT.out] at hcons
      clear hrw hy
      rcases Nat.eq_zero_or_pos yn with h0 | h0
      · subst h0
        have HZ : Hid (r = (j : Int)) := Lib.hid (by rw [hcons, if_pos rfl])
        clear hcons
        go_wp2_with fail
        refine (isEmpty_any _ _ _ _ (by omega) _).mono ?_
        rintro e w' ⟨rfl, hb1⟩
        go_wp2
        go_ret
        exact ⟨ret_int (by rw [HG.out, HZ.out]), nx hb hb1⟩
      · have hd : Hid (decide (yn = 0) = false) := Lib.hid (decide_eq_false (by omega))
        have HZ : Hid (ixE (hs.drop (j + 1)) (j + 1) = r) := Lib.hid (by rw [hcons, if_neg (by omega)])
        clear hcons
        go_wp2_with fail
        refine (isEmpty_any _ _ _ _ hmem _).mono ?_
        rintro e w' ⟨rfl, hb1⟩
        rw [hd.out]
        go_wp2
        go_roundw
        case rel => exact ⟨j + 1, by omega, by go_num, nx hb hb1, HZ.out⟩
        case measure => simp [intOf]; omega
    · obtain rfl : j = n := by omega
      have HZ : Hid (r = -1) := Lib.hid (by rw [← HT.out, HL.out, List.drop_length]; rfl)
      clear hjm
      go_wp2
      go_ret
      exact ⟨ret_int (by rw [HG.out, HZ.out]), hb⟩
theorem indexFuncL_is {g n : Nat} {hs : List Hw} {w : World} {r : Int} (hr : Hid (ixE hs 0 = r)) (hrow : RowF g n hs w) (hl : n = hs.length) (hm : n ≤ 1000000) (hbd : ∀ y ∈ hs, y.2.2.1 ≤ 1000000) :
    Calls Tryz.prog 140 #[.slice (some ⟨g, 0, none⟩) n n, .func (.func 115) #[] #[]] w fun e w' => e = .returned (.int .i64 r) ∧ Below w.heap.size w w' := by
  rw [← hr.out]; exact indexFuncL_any g n hs w hrow hl hm hbd
/-- DeleteFunc's loop: the levels up to j that have orders stand in the first i places. -/
def DfI (hs xs : List Hw) (i j : Nat) : Prop := xs.length = hs.length ∧ xs.take i = (hs.take j).filter full ∧ xs.drop j = hs.drop j
theorem DfI.at {hs xs : List Hw} {i j : Nat} (h : DfI hs xs i j) (hj : j < hs.length) : xs[j]? = hs[j]? := by
  have h1 : (xs.drop j)[0]? = (hs.drop j)[0]? := by rw [h.2.2]
  rw [List.getElem?_drop, List.getElem?_drop] at h1
  simpa using h1
theorem DfI.skip {hs xs : List Hw} {i j : Nat} (h : DfI hs xs i j) (hj : j < hs.length) (he : full hs[j] = false) : DfI hs xs i (j + 1) := by
  refine ⟨h.1, ?_, ?_⟩
  · rw [h.2.1, Da.take_snoc hj, List.filter_append, List.filter_cons, he]; simp
  · rw [← List.drop_drop, h.2.2, List.drop_drop]
theorem DfI.keep {hs xs : List Hw} {i j : Nat} (h : DfI hs xs i j) (hij : i < j) (hj : j < hs.length) (he : full hs[j] = true) : DfI hs (xs.set i hs[j]) (i + 1) (j + 1) := by
  have hix : i < xs.length := by rw [h.1]; omega
  refine ⟨by rw [List.length_set]; exact h.1, ?_, ?_⟩
  · rw [Da.take_snoc (by rw [List.length_set]; exact hix), List.take_set_of_le (Nat.le_refl i), h.2.1, Da.take_snoc hj, List.filter_append, List.filter_cons, he, List.getElem_set_self]; simp
  · rw [List.drop_set_of_lt (by omega), ← List.drop_drop, h.2.2, List.drop_drop]
def DfP (g n : Nat) (hs : List Hw) (w : World) (e : Ending) (w' : World) : Prop := e = .returned (.slice (some ⟨g, 0, none⟩) (hs.filter full).length n) ∧ RowF g n (hs.filter full) w' ∧ w.grownBy w' (some g)
set_option maxHeartbeats 2000000 in
theorem deleteFunc_any (g n : Nat) (hs : List Hw) (w : World) (hrow : RowF g n hs w) (hl : n = hs.length) (hm : n ≤ 1000000) (hbd : ∀ y ∈ hs, y.2.2.1 ≤ 1000000) :
    Calls Tryz.prog 114 #[.slice (some ⟨g, 0, none⟩) n n, .func (.func 115) #[] #[]] w (DfP g n hs w) := by
  obtain ⟨q, hq⟩ : ∃ q, ixE hs 0 = q := ⟨_, rfl⟩
  have HQ := Lib.hid hq
  rcases ixE_spec hs 0 with ⟨h1, h2⟩ | ⟨k, hk, h1, h2, h3⟩
  · rw [hq] at h1
    subst h1
    have HZ := Lib.hid (show ∀ u, Below w.heap.size w u → DfP g n hs w (.returned (.slice (some ⟨g, 0, none⟩) n n)) u from fun u hu => ⟨by rw [h2, ← hl], by rw [h2]; exact hrow.stays hu, grown_below _ hu⟩)
    have hcall := Lib.hid (indexFuncL_is HQ hrow hl hm hbd)
    clear hq h2 hrow hl hbd
    go_enter Tryz.func114, Tryz.ntmps114
    go_wp2_with fail
    refine hcall.out.mono ?_
    rintro e w' ⟨rfl, hb1⟩
    go_wp2
    go_ret
    exact HZ.out _ hb1
  · rw [hq, Nat.zero_add] at h1
    subst h1
    have hst : DfI hs hs k (k + 1) := ⟨rfl, by rw [Da.take_snoc hk, List.filter_append, h3, List.filter_cons]; simp [full, h2], rfl⟩
    have HSt := Lib.hid hst
    have HR := Lib.hid hrow
    have HL := Lib.hid hl
    have HD := Lib.hid hbd
    have hcall := Lib.hid (indexFuncL_is HQ hrow hl hm hbd)
    have hkn : k < n := by omega
    clear hst hrow hl hbd h2 h3 hq
    go_enter Tryz.func114, Tryz.ntmps114
    go_wp2_with fail
    refine hcall.out.mono ?_
    rintro e w' ⟨rfl, hb1⟩
    have hd : ((k : Int) == -1) = false := by simp
    have HR1 := Lib.hid (HR.out.stays hb1)
    have HGr := Lib.hid (grown_below (some g) hb1)
    go_wp2
    go_loopw [5, 6, 7] (fun s5 s6 _ wr => ∃ (i j : Nat) (xs : List Hw), s5 = .int .i64 i ∧ s6 = .int .i64 j ∧ i < j ∧ j ≤ n ∧ RowF g n xs wr ∧ DfI hs xs i j ∧ w.grownBy wr (some g)) (fun _ s6 _ _ => n - (intOf s6).toNat)
    case atStart => exact ⟨k, k + 1, hs, rfl, by go_num, by omega, by omega, HR1.out, HSt.out, HGr.out⟩
    case round =>
      obtain ⟨i, j, xs, rfl, rfl, hij, hjn, hrw, hinv, hgr⟩ := hrel
      have HI := Lib.hid hinv
      have HW := Lib.hid hrw
      have HG := Lib.hid hgr
      have hgz := hrw.lt
      clear hinv hrw hgr
      by_cases hjm : j < n
      · have hjm2 : (j : Int) < n := by omega
        have hin2 : (i : Int) < n := by omega
        have hjo : j < hs.length := by rw [← HL.out]; exact hjm
        have hat := HI.out.at hjo
        have hmem := HD.out _ (List.getElem_mem hjo)
        obtain ⟨⟨yp, ya, yn, yc⟩, hy⟩ : ∃ y, hs[j]'hjo = y := ⟨_, rfl⟩
        rw [hy] at hmem
        simp only at hmem
        have hxj : xs[j]? = some (yp, ya, yn, yc) := by rw [hat, ← hy]; exact List.getElem?_eq_getElem hjo
        obtain ⟨q0, q1, _, _⟩ := rowF_at HW.out hxj
        simp only [hv] at q1
        have HY := Lib.hid hy
        clear hat hy hxj
        have hbx := below1 wr (.cells #[.int .i64 yp, .slice ya yn yc] 98)
        rcases Nat.eq_zero_or_pos yn with h0 | h0
        · subst h0
          have HZ := Lib.hid (HI.out.skip hjo (by rw [HY.out]; simp [full]))
          go_wp2_with fail
          refine (isEmpty_any _ _ _ _ (by omega) _).mono ?_
          rintro e w2 ⟨rfl, hb2⟩
          have hb3 := nx hbx hb2
          go_wp2
          go_roundw
          case rel => exact ⟨i, j + 1, xs, rfl, by go_num, by omega, by omega, HW.out.stays hb3, HZ.out, grown_stays _ _ _ _ HG.out hb3⟩
          case measure => simp [intOf]; omega
        · have hd2 : Hid (decide (yn = 0) = false) := Lib.hid (decide_eq_false (by omega))
          have HZ := Lib.hid (HI.out.keep hij hjo (by rw [HY.out]; simp [full]; omega))
          rw [HY.out] at HZ
          go_wp2_with fail
          refine (isEmpty_any _ _ _ _ hmem _).mono ?_
          rintro e w2 ⟨rfl, hb2⟩
          rw [hd2.out]
          have hb3 := nx hbx hb2
          have hrw2 := HW.out.stays hb3
          have hix : i < xs.length := by rw [HI.out.1]; omega
          obtain ⟨c0, c1, f0, f1⟩ := rowF_at hrw2 (List.getElem?_eq_getElem hix)
          obtain ⟨hr4, hg4⟩ := rowF_set hrw2 (yp, ya, yn, yc) (List.getElem?_eq_getElem hix)
          simp only [hv] at hr4 hg4
          have HR4 := Lib.hid hr4
          have hg5 := grown_trans (grown_stays _ _ _ _ HG.out hb3) hg4
          have HG5 := Lib.hid hg5
          have b0 : w2.cell? ⟨wr.heap.size, 0, none⟩ = some (.int .i64 yp) := by rw [hb2.cell (p := ⟨wr.heap.size, 0, none⟩) (by simp)]; simp [go_sem]
          have b1 : w2.cell? ⟨wr.heap.size, 1, none⟩ = some (.slice ya yn yc) := by rw [hb2.cell (p := ⟨wr.heap.size, 1, none⟩) (by simp)]; simp [go_sem]
          clear hr4 hg4 hg5 hrw2
          go_wp2
          go_roundw
          case rel => exact ⟨i + 1, j + 1, _, by go_num, by go_num, by omega, by omega, HR4.out, HZ.out, HG5.out⟩
          case measure => simp [intOf]; omega
      · obtain rfl : j = n := by omega
        have hfil : xs.take i = hs.filter full := by have := HI.out.2.1; rw [HL.out, List.take_length] at this; exact this
        have hil : (hs.filter full).length = i := by rw [← hfil, List.length_take, HI.out.1, ← HL.out]; omega
        obtain ⟨w5, hrun, hr5, hg5⟩ := Row.clear elemF 0 zero2 (x0 := ((0, none, 0, 0) : Hw)) rfl (HW.out.take i) (o := i) (m := j - i) (c := j - i) (by rw [List.length_take]; omega) (by omega) (by omega)
        simp only [show fF.k = 2 from rfl] at hrun
        have HZ : Hid (DfP g j hs w (.returned (.slice (some ⟨g, 0, none⟩) i j)) w5) := Lib.hid ⟨by rw [hil], by rw [← hfil]; exact hr5, grown_trans HG.out hg5⟩
        have k1 : ¬ j = i := by omega
        have k2 : (i : Int) ≤ j := by omega
        clear hfil hil hr5 hg5
        go_wp2
        go_ret
        exact HZ.out
end Go.Proofs.YthecinmekoaphaaGreat.Le
