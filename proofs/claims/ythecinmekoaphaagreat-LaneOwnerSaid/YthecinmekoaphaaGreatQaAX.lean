/- The landed package account: which purses may be, Get, Of. -/
import Derived.Test.YthecinmekoaphaaGreatQaAO
import Derived.Test.YthecinmekoaphaaGreatQaAW
set_option linter.unusedVariables false
namespace Go.Proofs.YthecinmekoaphaaGreat.Ac
open Go.RowKit
open Go.Proofs.YthecinmekoaphaaGreat.Rw
open Go.Proofs.YthecinmekoaphaaGreat.Sl
variable {lo : Nat}
set_option maxHeartbeats 400000 in
theorem purse_any (a b : Int) (w : World) :
    Calls Tryz.prog 62 #[.agg #[.int .i64 a, .int .i64 b]] w fun e w' => e = .returned (.bool (pmay (a, b))) ∧ Below w.heap.size w w' := by
  by_cases h0 : 0 ≤ a
  · by_cases h1 : a < 64
    · by_cases h2 : 0 ≤ b
      · by_cases h3 : b < 8
        · have H : Hid (pmay (a, b) = true) := Lib.hid (pmay_iff.2 ⟨h0, h1, h2, h3⟩)
          go_enter Tryz.func62, Tryz.ntmps62
          go_wp2
          go_ret
          exact ⟨by rw [H.out]; simp, below1 _ _⟩
        · have H : Hid (pmay (a, b) = false) := Lib.hid (by unfold pmay; simp; omega)
          have hd : decide (b < 8) = false := by simp; omega
          go_enter Tryz.func62, Tryz.ntmps62
          go_wp2
          go_ret
          exact ⟨by rw [H.out]; simp, below1 _ _⟩
      · have H : Hid (pmay (a, b) = false) := Lib.hid (by unfold pmay; simp; omega)
        have hd : decide (0 ≤ b) = false := by simp; omega
        clear h2
        go_enter Tryz.func62, Tryz.ntmps62
        go_wp2
        go_ret
        exact ⟨by rw [H.out]; simp, below1 _ _⟩
    · have H : Hid (pmay (a, b) = false) := Lib.hid (by unfold pmay; simp; omega)
      have hd : decide (a < 64) = false := by simp; omega
      clear h1
      go_enter Tryz.func62, Tryz.ntmps62
      go_wp2
      go_ret
      exact ⟨by rw [H.out]; simp, below1 _ _⟩
  · have H : Hid (pmay (a, b) = false) := Lib.hid (by unfold pmay; simp; omega)
    have hd : decide (0 ≤ a) = false := by simp; omega
    clear h0
    go_enter Tryz.func62, Tryz.ntmps62
    go_wp2
    go_ret
    exact ⟨by rw [H.out]; simp, below1 _ _⟩
theorem own_made (w : World) : Own w.heap.size [] (.slice (some ⟨w.heap.size, 0, none⟩) 0 0) (w.alloc (.cells #[] 55)) :=
  World.ownsRow_made (base := w.heap.size) (e := 55) (size := 3) w #[] 0 (Nat.le_refl _) (by unfold maxLen; omega) rfl
theorem purse_is {a b : Int} {r : Bool} (h : Hid (pmay (a, b) = r)) (w : World) :
    Calls Tryz.prog 62 #[.agg #[.int .i64 a, .int .i64 b]] w fun e w' => e = .returned (.bool r) ∧ Below w.heap.size w w' := by
  rw [← h.out]; exact purse_any a b w
set_option maxHeartbeats 800000 in
theorem get_any (l : List Hd) (v : Value) (p q : Int) (w : World) (h : HL lo l v w) (hm : l.length ≤ 1000000) :
    Calls Tryz.prog 29 #[v, .agg #[.int .i64 p, .int .i64 q]] w fun e w' => e = .returned (.int .i64 (get l (p, q))) ∧ Below w.heap.size w w' := by
  rcases h.cases with ⟨rfl, a, c, rfl⟩ | ⟨hne, b, off, c, rfl, hat⟩
  · clear h
    go_enter Tryz.func29, Tryz.ntmps29
    go_wp2
    go_loopw [9] (fun i wr => i = .int .i64 0 ∧ Below w.heap.size w wr) (fun i _ => 0)
    case atStart => exact ⟨rfl, below1 _ _⟩
    case round =>
      obtain ⟨rfl, hb⟩ := hrel
      go_wp2
      go_ret
      exact ⟨rfl, hb⟩
  · have hbw := hat.1
    have HA := Lib.hid hat
    obtain ⟨n, hn⟩ : ∃ n, n = l.length := ⟨_, rfl⟩
    rw [← hn] at hm ⊢
    have HN := Lib.hid hn
    clear h hat hn hne
    go_enter Tryz.func29, Tryz.ntmps29
    go_wp2
    obtain ⟨W, hW⟩ : ∃ W, W = w.alloc (.cells #[.int .i64 p, .int .i64 q] 53) := ⟨_, rfl⟩
    have k0 : W.cell? ⟨w.heap.size, 0, none⟩ = some (.int .i64 p) := by rw [hW]; simp [go_sem]
    have k1 : W.cell? ⟨w.heap.size, 1, none⟩ = some (.int .i64 q) := by rw [hW]; simp [go_sem]
    have hb0 : Below w.heap.size w W := hW ▸ below1 w _
    have hz : w.heap.size < W.heap.size := by rw [hW]; simp
    have hzb : b < W.heap.size := by omega
    have HW := Lib.hid (HA.out.stays enc 3 hb0)
    rw [← hW]
    clear hW HA
    go_loopw [9] (fun i wr => ∃ k : Nat, k ≤ n ∧ i = .int .i64 k ∧ Below W.heap.size W wr ∧ get (l.drop k) (p, q) = get l (p, q)) (fun i _ => n - (intOf i).toNat)
    case atStart => exact ⟨0, Nat.zero_le _, rfl, Below.refl _ _, rfl⟩
    case round =>
      obtain ⟨k, hk, rfl, hb, hrest⟩ := hrel
      have HR := Lib.hid hrest
      clear hrest
      by_cases hlt : k < n
      · have hlt2 : (k : Int) < n := by omega
        have hkl : k < l.length := by rw [← HN.out]; exact hlt
        obtain ⟨⟨x, y, z⟩, hx⟩ : ∃ x, l[k] = x := ⟨_, rfl⟩
        have hc := at3 HW.out k hkl
        have hg := get_drop hkl (p, q)
        rw [hx] at hc hg
        simp only at hc
        obtain ⟨q0, q1, q2⟩ := hc
        obtain ⟨c1, f1, r1, p1⟩ := bcell hb
        have hzw : w.heap.size < wr.heap.size := by have := hb.size; omega
        have HG : Hid (get (l.drop k) (p, q) = if eqP (x, y) (p, q) = true then z else get (l.drop (k + 1)) (p, q)) := Lib.hid (by rw [hg]; simp only [eqP_iff]; rfl)
        clear hg hx
        cases he : eqP (x, y) (p, q)
        · rw [he] at HG
          go_wp2
          go_roundw
          case rel => exact ⟨k + 1, by omega, by go_num, nx hb (below1 _ _), by rw [← HR.out, HG.out]; rfl⟩
          case measure => simp [intOf]; omega
        · rw [he] at HG
          go_wp2
          go_ret
          exact ⟨ret_int (by rw [← HR.out, HG.out]; rfl), nx hb0 (nx hb (below1 _ _))⟩
      · obtain rfl : k = n := by omega
        have hz0 : get l (p, q) = 0 := by rw [← HR.out, HN.out, List.drop_length]; rfl
        have HZ := Lib.hid hz0
        clear hz0
        go_wp2
        go_ret
        exact ⟨ret_int HZ.out.symm, nx hb0 hb⟩
end Go.Proofs.YthecinmekoaphaaGreat.Ac
namespace Go.Proofs.YthecinmekoaphaaGreat.Ac
open Go.RowKit
open Go.Proofs.YthecinmekoaphaaGreat.Rw
open Go.Proofs.YthecinmekoaphaaGreat.Sl
def cmpI (a b : Int) : Int := if a < b then -1 else if b < a then 1 else 0
def orI (a b : Int) : Int := if a = 0 then b else a
/-- By accounts, then by assets. -/
def cmpP (a b : Pu) : Int := orI (cmpI a.1 b.1) (cmpI a.2 b.2)
theorem cmpP_lt (a b : Pu) : decide (cmpP a b < 0) = pless a b := by
  rw [Bool.eq_iff_iff, decide_eq_true_eq, pless_iff]
  unfold cmpP orI cmpI
  split <;> (split at * <;> (try split at *) <;> (try split) <;> omega)
set_option maxHeartbeats 400000 in
theorem nan_any (a : Int) (w : World) : Calls Tryz.prog 135 #[.int .i64 a] w fun e w' => e = .returned (.bool false) ∧ w = w' := by
  go_enter Tryz.func135, Tryz.ntmps135
  go_wp2
  go_ret
  exact ⟨by simp, rfl⟩
set_option maxHeartbeats 400000 in
theorem compare_any (a b : Int) (w : World) : Calls Tryz.prog 105 #[.int .i64 a, .int .i64 b] w fun e w' => e = .returned (.int .i64 (cmpI a b)) ∧ w = w' := by
  by_cases h1 : a < b
  · have H : Hid (cmpI a b = -1) := Lib.hid (if_pos h1)
    go_enter Tryz.func105, Tryz.ntmps105
    go_wp2_with fail
    refine (nan_any _ _).mono ?_
    rintro e w' ⟨rfl, rfl⟩
    go_wp2_with fail
    refine (nan_any _ _).mono ?_
    rintro e w' ⟨rfl, rfl⟩
    go_wp2
    go_ret
    exact ⟨ret_int H.out.symm, rfl⟩
  · by_cases h2 : b < a
    · have H : Hid (cmpI a b = 1) := Lib.hid (by unfold cmpI; rw [if_neg h1, if_pos h2])
      go_enter Tryz.func105, Tryz.ntmps105
      go_wp2_with fail
      refine (nan_any _ _).mono ?_
      rintro e w' ⟨rfl, rfl⟩
      go_wp2_with fail
      refine (nan_any _ _).mono ?_
      rintro e w' ⟨rfl, rfl⟩
      go_wp2
      go_ret
      exact ⟨ret_int H.out.symm, rfl⟩
    · have H : Hid (cmpI a b = 0) := Lib.hid (by unfold cmpI; rw [if_neg h1, if_neg h2])
      go_enter Tryz.func105, Tryz.ntmps105
      go_wp2_with fail
      refine (nan_any _ _).mono ?_
      rintro e w' ⟨rfl, rfl⟩
      go_wp2_with fail
      refine (nan_any _ _).mono ?_
      rintro e w' ⟨rfl, rfl⟩
      go_wp2
      go_ret
      exact ⟨ret_int H.out.symm, rfl⟩
set_option maxHeartbeats 400000 in
theorem or_any (x y : Int) (b c : Nat) (w : World) (k0 : w.cell? ⟨b, 0, none⟩ = some (.int .i64 x)) (k1 : w.cell? ⟨b, 1, none⟩ = some (.int .i64 y)) :
    Calls Tryz.prog 104 #[.slice (some ⟨b, 0, none⟩) 2 c] w fun e w' => e = .returned (.int .i64 (orI x y)) ∧ w = w' := by
  obtain ⟨r, hr⟩ : ∃ r, orI x y = r := ⟨_, rfl⟩
  rw [hr]
  have HR := Lib.hid hr
  clear hr
  go_enter Tryz.func104, Tryz.ntmps104
  go_wp2
  go_loop [8] (fun i => ∃ k : Nat, k ≤ 2 ∧ i = .int .i64 k ∧ (1 ≤ k → x = 0) ∧ (k = 2 → y = 0)) (fun i => 2 - (intOf i).toNat)
  case atStart => exact ⟨0, by omega, rfl, by omega, by omega⟩
  case round =>
    obtain ⟨k, hk, rfl, hx, hy⟩ := hrel
    have HX := Lib.hid hx
    have HY := Lib.hid hy
    clear hx hy
    match k, hk, HX, HY with
    | 0, _, HX, HY =>
      by_cases e : x = 0
      · have hd : (x != 0) = false := by simpa using e
        have HE := Lib.hid e
        clear e
        go_wp2
        go_round
        case rel => exact ⟨1, by omega, by go_num, fun _ => HE.out, by omega⟩
        case measure => simp [intOf]
      · have hd : (x != 0) = true := by simpa using e
        have HE : Hid (r = x) := Lib.hid (by rw [← HR.out]; unfold orI; rw [if_neg e])
        clear e
        go_wp2
        go_ret
        exact ⟨ret_int HE.out.symm, rfl⟩
    | 1, _, HX, HY =>
      have HE : Hid (r = y) := Lib.hid (by rw [← HR.out]; unfold orI; rw [if_pos (HX.out (by omega))])
      by_cases e : y = 0
      · have hd : (y != 0) = false := by simpa using e
        have HZ := Lib.hid e
        clear e
        go_wp2
        go_round
        case rel => exact ⟨2, by omega, by go_num, fun _ => HX.out (by omega), fun _ => HZ.out⟩
        case measure => simp [intOf]
      · have hd : (y != 0) = true := by simpa using e
        clear e
        go_wp2
        go_ret
        exact ⟨ret_int HE.out.symm, rfl⟩
    | 2, _, HX, HY =>
      have HE : Hid (r = 0) := Lib.hid (by rw [← HR.out]; unfold orI; rw [if_pos (HX.out (by omega)), HY.out rfl])
      go_wp2
      go_ret
      exact ⟨ret_int HE.out.symm, rfl⟩
end Go.Proofs.YthecinmekoaphaaGreat.Ac
namespace Go.Proofs.YthecinmekoaphaaGreat.Ac
open Go.RowKit
open Go.Proofs.YthecinmekoaphaaGreat.Rw
open Go.Proofs.YthecinmekoaphaaGreat.Sl
open Go.Proofs.YthecinmekoaphaaGreat.Re (Ext)
def Two (x y : Int) (v : Value) (w : World) : Prop := ∃ b c, v = .slice (some ⟨b, 0, none⟩) 2 c ∧ b < w.heap.size ∧ w.cell? ⟨b, 0, none⟩ = some (.int .i64 x) ∧ w.cell? ⟨b, 1, none⟩ = some (.int .i64 y)
theorem Two.stays (x y : Int) (v : Value) (w w' : World) (h : Two x y v w) (he : Ext w w') : Two x y v w' := by
  obtain ⟨b, c, hv, hb, h0, h1⟩ := h
  have k := he.below
  exact ⟨b, c, hv, Nat.lt_of_lt_of_le hb k.size, by rw [k.cell (p := ⟨b, 0, none⟩) hb]; exact h0, by rw [k.cell (p := ⟨b, 1, none⟩) hb]; exact h1⟩
theorem Two.made (x y : Int) (w : World) (t : TypeId) : Two x y (.slice (some ⟨w.heap.size, 0, none⟩) 2 2) (w.alloc (.cells #[.int .i64 x, .int .i64 y] t)) :=
  ⟨_, 2, rfl, by simp, by simp [go_sem], by simp [go_sem]⟩
theorem orTwo_any (x y : Int) (v : Value) (w : World) (h : Two x y v w) : Calls Tryz.prog 104 #[v] w fun e w' => ∃ u, e = .returned u ∧ Ext w w' ∧ u = .int .i64 (orI x y) := by
  obtain ⟨b, c, rfl, _, h0, h1⟩ := h
  exact (or_any x y b c w h0 h1).mono fun e w' ⟨he, hw⟩ => ⟨_, he, hw ▸ Ext.refl _, rfl⟩
set_option maxHeartbeats 800000 in
theorem purses_ext (a b c d : Int) (w : World) :
    Calls Tryz.prog 64 #[.agg #[.int .i64 a, .int .i64 b], .agg #[.int .i64 c, .int .i64 d]] w fun e w' => e = .returned (.int .i64 (cmpP (a, b) (c, d))) ∧ Ext w w' := by
  obtain ⟨r, hr⟩ : ∃ r, cmpP (a, b) (c, d) = r := ⟨_, rfl⟩
  rw [hr]
  have HR := Lib.hid hr
  obtain ⟨x, hx⟩ : ∃ x, cmpI a c = x := ⟨_, rfl⟩
  obtain ⟨y, hy⟩ : ∃ y, cmpI b d = y := ⟨_, rfl⟩
  have HX : ∀ w, Calls Tryz.prog 105 #[.int .i64 a, .int .i64 c] w fun e w' => e = .returned (.int .i64 x) ∧ w = w' := fun w => by rw [← hx]; exact compare_any a c w
  have HY : ∀ w, Calls Tryz.prog 105 #[.int .i64 b, .int .i64 d] w fun e w' => e = .returned (.int .i64 y) ∧ w = w' := fun w => by rw [← hy]; exact compare_any b d w
  have HX := Lib.hid HX
  have HY := Lib.hid HY
  have HO : Hid (orI x y = r) := Lib.hid (by rw [← hr, ← hx, ← hy]; rfl)
  clear hr hx hy
  go_enter Tryz.func64, Tryz.ntmps64
  go_wp2
  obtain ⟨V, hV⟩ : ∃ V, V = (w.alloc (.cells #[.int .i64 a, .int .i64 b] 53)).alloc (.cells #[.int .i64 c, .int .i64 d] 53) := ⟨_, rfl⟩
  have hbV : Ext w V := hV ▸ (Ext.alloc w _).trans (Ext.alloc _ _)
  have hzV : w.heap.size + 1 < V.heap.size := by rw [hV]; simp
  have hzU : w.heap.size < V.heap.size := by omega
  have hF : ∀ u, Ext V u → u.cell? ⟨w.heap.size, 0, none⟩ = some (.int .i64 a) ∧ u.cell? ⟨w.heap.size, 1, none⟩ = some (.int .i64 b) ∧ u.cell? ⟨w.heap.size + 1, 0, none⟩ = some (.int .i64 c) ∧ u.cell? ⟨w.heap.size + 1, 1, none⟩ = some (.int .i64 d) := fun u hu => by
    have hb := hu.below
    refine ⟨?_, ?_, ?_, ?_⟩
    · rw [hb.cell (p := ⟨w.heap.size, 0, none⟩) hzU, hV]; simp [go_sem]
    · rw [hb.cell (p := ⟨w.heap.size, 1, none⟩) hzU, hV]; simp [go_sem]
    · rw [hb.cell (p := ⟨w.heap.size + 1, 0, none⟩) hzV, hV]; simp [go_sem]
    · rw [hb.cell (p := ⟨w.heap.size + 1, 1, none⟩) hzV, hV]; simp [go_sem]
  rw [← hV]
  clear hV
  refine Re.region [0, 1, 2, 3, 4, 5, 6, 7, 8, 9, 10, 11, 12] (by kernel_rfl) (by kernel_rfl) (by kernel_rfl) (fun _ _ d _ _ h => by cases d <;> exact h) ?_
  repeat (first | (refine Re.Steps.skip (by rfl) (by kernel_rfl) (by rfl) ?_; simp only [Act.put, List.setIfInBounds_toArray, List.set_cons_zero, List.set_cons_succ]) | (refine Re.Steps.pure (v := ?_) (by rfl) (by kernel_rfl) (by rfl) ?_ ?_; rotate_left; (intro w_ hS_; have hk_ := hF w_ hS_; go_simp <;> with_reducible rfl); simp only [Act.put, List.setIfInBounds_toArray, List.set_cons_zero, List.set_cons_succ]) | (refine Re.Steps.call (v := ?_) (f := ?_) (args := ?_) (by rfl) (by kernel_rfl) (by rfl) ?_ ?_ ?_; rotate_left 3; (intro w_ hS_; have hk_ := hF w_ hS_; go_simp <;> first | with_reducible rfl | (constructor <;> with_reducible rfl)); (intro w_ hS_; have hk_ := hF w_ hS_; first | (go_at_call 105; (first | with_reducible refine (HX.out _).mono ?_ | with_reducible refine (HY.out _).mono ?_); first | (rintro e w_ ⟨rfl, rfl⟩; refine ⟨?_, Re.Ext.refl _⟩; with_reducible rfl) | (rintro e w_ ⟨rfl, hb_⟩; refine ⟨?_, hb_⟩; with_reducible rfl))); simp only [Act.put, List.setIfInBounds_toArray, List.set_cons_zero, List.set_cons_succ]))
  refine Re.Steps.forced (by kernel_rfl) ?_
  refine Re.One.val (Two x y) (Two.stays x y) (by rfl) (by rfl) ?_ ?_
  · intro w_ hS_
    refine ⟨_, _, ?_, Ext.alloc w_ (.cells #[.int .i64 x, .int .i64 y] 3), Two.made x y w_ 3⟩
    go_simp
  intro v u_ hv
  simp only [Act.put, List.setIfInBounds_toArray, List.set_cons_zero, List.set_cons_succ]
  refine Re.Steps.forced (by kernel_rfl) ?_
  refine Re.One.call (fun v _ => v = .int .i64 (orI x y)) (fun v w w' h _ => h) (f := ?_) (args := ?_) (by rfl) (by rfl) ?_ ?_ ?_
  rotate_left 2
  · intro w_ hS_; have hk_ := (fun u (hu : Ext V u ∧ Two x y v u) => hu.2) w_ hS_; go_simp <;> first | with_reducible rfl | (constructor <;> with_reducible rfl)
  · intro w_ hS_; have hk_ := (fun u (hu : Ext V u ∧ Two x y v u) => hu.2) w_ hS_; exact orTwo_any x y v _ hk_
  intro z u_ hz
  simp only [Act.put, List.setIfInBounds_toArray, List.set_cons_zero, List.set_cons_succ]
  rw [HO.out] at hz
  subst hz
  repeat (first | (refine Re.Steps.skip (by rfl) (by kernel_rfl) (by rfl) ?_; simp only [Act.put, List.setIfInBounds_toArray, List.set_cons_zero, List.set_cons_succ]) | (refine Re.Steps.pure (v := ?_) (by rfl) (by kernel_rfl) (by rfl) ?_ ?_; rotate_left; (intro w_ hS_; have hk_ := (fun u (hu : _ ∧ _) => True.intro) w_ hS_; go_simp <;> with_reducible rfl); simp only [Act.put, List.setIfInBounds_toArray, List.set_cons_zero, List.set_cons_succ]))
  refine Re.Steps.nil (by kernel_rfl) ?_
  intro w4 hb6
  go_wp2
  go_ret
  exact ⟨ret_int HO.out, hbV.trans hb6.1.1⟩
theorem purses_is {a b c d : Int} {r : Int} (h : Hid (cmpP (a, b) (c, d) = r)) (w : World) :
    Calls Tryz.prog 64 #[.agg #[.int .i64 a, .int .i64 b], .agg #[.int .i64 c, .int .i64 d]] w fun e w' => e = .returned (.int .i64 r) ∧ Below w.heap.size w w' := by
  rw [← h.out]; exact (purses_ext a b c d w).mono fun e w' ⟨h1, h2⟩ => ⟨h1, h2.below⟩
end Go.Proofs.YthecinmekoaphaaGreat.Ac
namespace Go.Proofs.YthecinmekoaphaaGreat.Ac
open Go.RowKit
open Go.Proofs.YthecinmekoaphaaGreat.Rw
open Go.Proofs.YthecinmekoaphaaGreat.Sl
open Go.Proofs.YthecinmekoaphaaGreat.Mo (may may_any)
variable {lo : Nat}
theorem may_is {a : Int} {r : Bool} (h : Hid (may a = r)) (w : World) :
    Calls Tryz.prog 63 #[.int .i64 a] w fun e w' => e = .returned (.bool r) ∧ w = w' := by
  rw [← h.out]; exact may_any a w
set_option maxHeartbeats 4000000 in
theorem right_any (l : List Hd) (v : Value) (w : World) (h : HL lo l v w) (hm : l.length ≤ 1000000) :
    Calls Tryz.prog 28 #[v] w fun e w' => e = .returned (.bool (right l)) ∧ Below w.heap.size w w' := by
  rcases h.cases with ⟨rfl, a, c, rfl⟩ | ⟨hne, b, off, c, rfl, hat⟩
  · clear h
    go_enter Tryz.func28, Tryz.ntmps28
    go_wp2
    go_loopw [7] (fun i wr => i = .int .i64 0 ∧ Below w.heap.size w wr) (fun i _ => 0)
    case atStart => exact ⟨rfl, Below.refl _ _⟩
    case round =>
      obtain ⟨rfl, hb⟩ := hrel
      go_wp2
      go_ret
      exact ⟨rfl, hb⟩
  · have hbw := hat.1
    have HA := Lib.hid hat
    obtain ⟨n, hn⟩ : ∃ n, n = l.length := ⟨_, rfl⟩
    rw [← hn] at hm ⊢
    have HN := Lib.hid hn
    clear h hat hn hne
    go_enter Tryz.func28, Tryz.ntmps28
    go_wp2
    go_loopw [7] (fun i wr => ∃ k : Nat, k ≤ n ∧ i = .int .i64 k ∧ Below w.heap.size w wr ∧ rightTo l k = true) (fun i _ => n - (intOf i).toNat)
    case atStart => exact ⟨0, Nat.zero_le _, rfl, Below.refl _ _, rfl⟩
    case round =>
      obtain ⟨k, hk, rfl, hb, hto⟩ := hrel
      have HT := Lib.hid hto
      clear hto
      by_cases hlt : k < n
      · have hlt2 : (k : Int) < n := by omega
        have hkl : k < l.length := by rw [← HN.out]; exact hlt
        obtain ⟨⟨x, y, z⟩, hx⟩ : ∃ x, l[k] = x := ⟨_, rfl⟩
        have hc := at3 HA.out k hkl
        rw [hx] at hc
        simp only at hc
        have HX := Lib.hid hx
        clear hx
        obtain ⟨q0, q1, q2⟩ := hc
        obtain ⟨c1, f1, r1, p1⟩ := bcell hb
        have hbr : b < wr.heap.size := by have := hb.size; omega
        obtain ⟨V, hV⟩ : ∃ V, V = wr.alloc (.cells #[.int .i64 x, .int .i64 y, .int .i64 z] 55) := ⟨_, rfl⟩
        have hbV : Below wr.heap.size wr V := hV ▸ below1 wr _
        have hzV : wr.heap.size < V.heap.size := by rw [hV]; simp
        have hF : ∀ u, Below V.heap.size V u → u.cell? ⟨wr.heap.size, 0, none⟩ = some (.int .i64 x) ∧ u.cell? ⟨wr.heap.size, 1, none⟩ = some (.int .i64 y) ∧ u.cell? ⟨wr.heap.size, 2, none⟩ = some (.int .i64 z) := fun u hu => by
          refine ⟨?_, ?_, ?_⟩
          · rw [hu.cell (p := ⟨wr.heap.size, 0, none⟩) hzV, hV]; simp [go_sem]
          · rw [hu.cell (p := ⟨wr.heap.size, 1, none⟩) hzV, hV]; simp [go_sem]
          · rw [hu.cell (p := ⟨wr.heap.size, 2, none⟩) hzV, hV]; simp [go_sem]
        have hbx := nx hb hbV
        have HV := Lib.hid hV
        clear hV
        cases hp : pmay (x, y)
        · have HP := Lib.hid hp
          have HR : Hid (right l = false) := Lib.hid (right_no k hkl (by unfold okAt; rw [getD_at hkl, HX.out]; unfold good; rw [show key (x, y, z) = (x, y) from rfl, hp]; rfl))
          clear hp
          go_wp2_with fail
          rw [← HV.out]
          refine (purse_is HP _).mono ?_
          rintro e w1 ⟨rfl, hb1⟩
          go_wp2
          go_ret
          exact ⟨ret_bool HR.out.symm, nx hbx hb1⟩
        · have HP := Lib.hid hp
          by_cases hz1 : z < 1
          · have HR : Hid (right l = false) := Lib.hid (right_no k hkl (by unfold okAt; rw [getD_at hkl, HX.out, good_low hz1]; rfl))
            have hd : decide (z < 1) = true := by simpa using hz1
            clear hz1 hp
            go_wp2_with fail
            rw [← HV.out]
            refine (purse_is HP _).mono ?_
            rintro e w1 ⟨rfl, hb1⟩
            obtain ⟨e0, e1, e2⟩ := hF w1 hb1
            go_wp2
            go_ret
            exact ⟨ret_bool HR.out.symm, nx hbx hb1⟩
          · have hd : decide (z < 1) = false := by simpa using hz1
            cases hmz : may z
            · have HM := Lib.hid hmz
              have HR : Hid (right l = false) := Lib.hid (right_no k hkl (by unfold okAt; rw [getD_at hkl, HX.out]; unfold good; rw [show amt (x, y, z) = z from rfl, hmz]; simp))
              clear hz1 hp hmz
              go_wp2_with fail
              rw [← HV.out]
              refine (purse_is HP _).mono ?_
              rintro e w1 ⟨rfl, hb1⟩
              obtain ⟨e0, e1, e2⟩ := hF w1 hb1
              go_wp2_with fail
              refine (may_is HM _).mono ?_
              rintro e w' ⟨rfl, rfl⟩
              go_wp2
              go_ret
              exact ⟨ret_bool HR.out.symm, nx hbx hb1⟩
            · have HM := Lib.hid hmz
              have hg : good (x, y, z) = true := by unfold good; rw [show key (x, y, z) = (x, y) from rfl, show amt (x, y, z) = z from rfl, hp, hmz]; simp; omega
              have HG := Lib.hid hg
              clear hz1 hg hp hmz
              cases k with
              | zero =>
                simp only [Nat.zero_mul, Nat.add_zero] at q0 q1 q2
                have HS : Hid (rightTo l 1 = true) := Lib.hid (by rw [rightTo_succ, HT.out, okAt_0 hkl, HX.out, HG.out]; rfl)
                go_wp2_with fail
                rw [← HV.out]
                refine (purse_is HP _).mono ?_
                rintro e w1 ⟨rfl, hb1⟩
                obtain ⟨e0, e1, e2⟩ := hF w1 hb1
                go_wp2_with fail
                refine (may_is HM _).mono ?_
                rintro e w' ⟨rfl, rfl⟩
                go_wp2
                have hF1 : ∀ u, Below w1.heap.size w1 u → u.cell? ⟨wr.heap.size, 0, none⟩ = some (.int .i64 x) ∧ u.cell? ⟨wr.heap.size, 1, none⟩ = some (.int .i64 y) ∧ u.cell? ⟨wr.heap.size, 2, none⟩ = some (.int .i64 z) := fun u hu => hF u (nx hb1 hu)
                refine Rf.region [0, 1, 2, 3, 4, 5, 6, 7, 8, 9, 10, 11, 12, 13] (by kernel_rfl) (by kernel_rfl) (by kernel_rfl) (fun _ _ d _ _ h => by cases d <;> exact h) ?_
                repeat (first | (refine Rf.Steps.skip (by rfl) (by kernel_rfl) (by rfl) ?_; simp only [Act.put, List.setIfInBounds_toArray, List.set_cons_zero, List.set_cons_succ]) | (refine Rf.Steps.pure (v := ?_) (by rfl) (by kernel_rfl) (by rfl) ?_ ?_; rotate_left; (intro w_ hS_; have hk_ := hF1 w_ hS_; go_simp <;> with_reducible rfl); simp only [Act.put, List.setIfInBounds_toArray, List.set_cons_zero, List.set_cons_succ]))
                refine Rf.Steps.nil (by kernel_rfl) ?_
                intro w4 hb6
                go_wp2
                go_roundw
                case rel => exact ⟨1, by omega, by go_num, nx hbx (nx hb1 hb6), HS.out⟩
                case measure => simp [intOf]; omega
              | succ j =>
                have hjl : j < l.length := by omega
                obtain ⟨⟨x', y', z'⟩, hx'⟩ : ∃ x, l[j] = x := ⟨_, rfl⟩
                have hc' := at3 HA.out j hjl
                rw [hx'] at hc'
                simp only at hc'
                have HX' := Lib.hid hx'
                clear hx'
                obtain ⟨s0, s1, s2⟩ := hc'
                have hF2 : ∀ u, Below V.heap.size V u → u.cell? ⟨wr.heap.size, 0, none⟩ = some (.int .i64 x) ∧ u.cell? ⟨wr.heap.size, 1, none⟩ = some (.int .i64 y) ∧ u.cell? ⟨wr.heap.size, 2, none⟩ = some (.int .i64 z) ∧ u.cell? ⟨b, off + j * 3, none⟩ = some (.int .i64 x') ∧ u.cell? ⟨b, off + j * 3 + 1, none⟩ = some (.int .i64 y') := fun u hu => by
                  have hbu := nx hbx hu
                  obtain ⟨e0, e1, e2⟩ := hF u hu
                  exact ⟨e0, e1, e2, by rw [hbu.cell (p := ⟨b, off + j * 3, none⟩) hbw]; exact s0, by rw [hbu.cell (p := ⟨b, off + j * 3 + 1, none⟩) hbw]; exact s1⟩
                have hj0 : (0 : Int) ≤ j := by omega
                have hjn : (j : Int) < n := by omega
                have d1 : decide ((0 : Int) < (j : Int) + 1) = true := by rw [decide_eq_true_eq]; omega
                have d2 : (j : Int) + 1 - 1 = j := by omega
                have d3 : IntKind.i64.wrap (j : Int) = j := IntWalk.i64_in _ (by omega)
                obtain ⟨g, hg⟩ : ∃ g, cmpP (x', y') (x, y) = g := ⟨_, rfl⟩
                have hpl := cmpP_lt (x', y') (x, y)
                rw [hg] at hpl
                have HC := Lib.hid hg
                clear s0 s1 s2 hg
                cases hl : pless (x', y') (x, y)
                · have HR : Hid (right l = false) := Lib.hid (right_no (j + 1) hkl (by rw [okAt_succ hkl, HX.out, HX'.out, HG.out]; exact hl))
                  rw [hl] at hpl
                  have hd2 : decide (g ≥ 0) = true := by simp at hpl ⊢; omega
                  have hd3 : decide (0 ≤ g) = true := by simp at hpl ⊢; omega
                  clear hl hpl
                  go_wp2_with fail
                  rw [← HV.out]
                  refine (purse_is HP _).mono ?_
                  rintro e w1 ⟨rfl, hb1⟩
                  obtain ⟨e0, e1, e2⟩ := hF w1 hb1
                  clear hF
                  go_wp2_with fail
                  refine (may_is HM _).mono ?_
                  rintro e w' ⟨rfl, rfl⟩
                  go_wp2
                  have hF1 := fun u (hu : Below w1.heap.size w1 u) => hF2 u (nx hb1 hu)
                  refine Rf.region [0, 1, 2, 3, 4, 5, 6, 7, 8, 9, 10, 11, 12, 13] (by kernel_rfl) (by kernel_rfl) (by kernel_rfl) (fun _ _ d _ _ h => by cases d <;> exact h) ?_
                  repeat (first | (refine Rf.Steps.skip (by rfl) (by kernel_rfl) (by rfl) ?_; simp only [Act.put, List.setIfInBounds_toArray, List.set_cons_zero, List.set_cons_succ]) | (refine Rf.Steps.pure (v := ?_) (by rfl) (by kernel_rfl) (by rfl) ?_ ?_; rotate_left; (intro w_ hS_; have hk_ := hF1 w_ hS_; go_simp <;> with_reducible rfl); simp only [Act.put, List.setIfInBounds_toArray, List.set_cons_zero, List.set_cons_succ]) | (refine Rf.Steps.call (v := ?_) (f := ?_) (args := ?_) (by rfl) (by kernel_rfl) (by rfl) ?_ ?_ ?_; rotate_left 3; (intro w_ hS_; have hk_ := hF1 w_ hS_; go_simp <;> first | with_reducible rfl | (constructor <;> with_reducible rfl)); (intro w_ hS_; have hk_ := hF1 w_ hS_; first | (go_at_call 64; refine (purses_is HC _).mono ?_; first | (rintro e w_ ⟨rfl, rfl⟩; refine ⟨?_, Below.refl _ _⟩; with_reducible rfl) | (rintro e w_ ⟨rfl, hb_⟩; refine ⟨?_, hb_⟩; with_reducible rfl))); simp only [Act.put, List.setIfInBounds_toArray, List.set_cons_zero, List.set_cons_succ]))
                  refine Rf.Steps.nil (by kernel_rfl) ?_
                  intro w4 hb6
                  go_wp2
                  go_ret
                  exact ⟨ret_bool HR.out.symm, nx hbx (nx hb1 hb6)⟩
                · have HS : Hid (rightTo l (j + 1 + 1) = true) := Lib.hid (by rw [rightTo_succ, HT.out, okAt_succ hkl, HX.out, HX'.out, HG.out]; exact hl)
                  rw [hl] at hpl
                  have hd2 : decide (g ≥ 0) = false := by simp at hpl ⊢; omega
                  have hd3 : decide (0 ≤ g) = false := by simp at hpl ⊢; omega
                  clear hl hpl
                  go_wp2_with fail
                  rw [← HV.out]
                  refine (purse_is HP _).mono ?_
                  rintro e w1 ⟨rfl, hb1⟩
                  obtain ⟨e0, e1, e2⟩ := hF w1 hb1
                  clear hF
                  go_wp2_with fail
                  refine (may_is HM _).mono ?_
                  rintro e w' ⟨rfl, rfl⟩
                  go_wp2
                  have hF1 := fun u (hu : Below w1.heap.size w1 u) => hF2 u (nx hb1 hu)
                  refine Rf.region [0, 1, 2, 3, 4, 5, 6, 7, 8, 9, 10, 11, 12, 13] (by kernel_rfl) (by kernel_rfl) (by kernel_rfl) (fun _ _ d _ _ h => by cases d <;> exact h) ?_
                  repeat (first | (refine Rf.Steps.skip (by rfl) (by kernel_rfl) (by rfl) ?_; simp only [Act.put, List.setIfInBounds_toArray, List.set_cons_zero, List.set_cons_succ]) | (refine Rf.Steps.pure (v := ?_) (by rfl) (by kernel_rfl) (by rfl) ?_ ?_; rotate_left; (intro w_ hS_; have hk_ := hF1 w_ hS_; go_simp <;> with_reducible rfl); simp only [Act.put, List.setIfInBounds_toArray, List.set_cons_zero, List.set_cons_succ]) | (refine Rf.Steps.call (v := ?_) (f := ?_) (args := ?_) (by rfl) (by kernel_rfl) (by rfl) ?_ ?_ ?_; rotate_left 3; (intro w_ hS_; have hk_ := hF1 w_ hS_; go_simp <;> first | with_reducible rfl | (constructor <;> with_reducible rfl)); (intro w_ hS_; have hk_ := hF1 w_ hS_; first | (go_at_call 64; refine (purses_is HC _).mono ?_; first | (rintro e w_ ⟨rfl, rfl⟩; refine ⟨?_, Below.refl _ _⟩; with_reducible rfl) | (rintro e w_ ⟨rfl, hb_⟩; refine ⟨?_, hb_⟩; with_reducible rfl))); simp only [Act.put, List.setIfInBounds_toArray, List.set_cons_zero, List.set_cons_succ]))
                  refine Rf.Steps.nil (by kernel_rfl) ?_
                  intro w4 hb6
                  go_wp2
                  go_roundw
                  case rel => exact ⟨j + 1 + 1, by omega, by go_num, nx hbx (nx hb1 hb6), HS.out⟩
                  case measure => simp [intOf]; omega
      · obtain rfl : k = n := by omega
        have HR : Hid (right l = true) := Lib.hid (by unfold right; rw [← HN.out]; exact HT.out)
        go_wp2
        go_ret
        exact ⟨ret_bool HR.out.symm, hb⟩
end Go.Proofs.YthecinmekoaphaaGreat.Ac
namespace Go.Proofs.YthecinmekoaphaaGreat.Ac
open Go.RowKit
open Go.Proofs.YthecinmekoaphaaGreat.Rw
open Go.Proofs.YthecinmekoaphaaGreat.Sl
variable {lo : Nat}
theorem right_is {l : List Hd} {v : Value} {r : Bool} (h : Hid (right l = r)) (w : World) (hl : HL lo l v w) (hm : l.length ≤ 1000000) :
    Calls Tryz.prog 28 #[v] w fun e w' => e = .returned (.bool r) ∧ Below w.heap.size w w' := by
  rw [← h.out]; exact right_any l v w hl hm
set_option maxHeartbeats 1600000 in
theorem total_any (l : List Hd) (v : Value) (s : Int) (w : World) (h : HL lo l v w) (hm : l.length ≤ 1000000) :
    Calls Tryz.prog 27 #[v, .int .i64 s] w fun e w' => e = .returned (.int .i64 (total l s)) ∧ Below w.heap.size w w' := by
  have HM := Lib.hid hm
  have HH := Lib.hid h
  cases hr : right l
  · have HR := Lib.hid hr
    have HT : Hid (total l s = 0) := Lib.hid (by unfold total; rw [hr]; rfl)
    clear h hr hm
    go_enter Tryz.func27, Tryz.ntmps27
    go_wp2_with fail
    refine (right_is HR _ HH.out HM.out).mono ?_
    rintro e w1 ⟨rfl, hb1⟩
    go_wp2
    go_ret
    exact ⟨ret_int HT.out.symm, hb1⟩
  · have HR := Lib.hid hr
    have HT : Hid (total l s = tot s l) := Lib.hid (by unfold total; rw [hr]; rfl)
    have HRt := Lib.hid (right_iff.1 hr)
    clear hr
    rcases h.cases with ⟨rfl, a, c, rfl⟩ | ⟨hne, b, off, c, rfl, hat⟩
    · clear h
      go_enter Tryz.func27, Tryz.ntmps27
      go_wp2_with fail
      refine (right_is HR _ HH.out HM.out).mono ?_
      rintro e w1 ⟨rfl, hb1⟩
      go_wp2
      go_loopw [5, 13] (fun t i wr => i = .int .i64 0 ∧ t = .int .i64 0 ∧ Below w.heap.size w wr) (fun _ i _ => 0)
      case atStart => exact ⟨rfl, rfl, hb1⟩
      case round =>
        obtain ⟨rfl, rfl, hb⟩ := hrel
        go_wp2
        go_ret
        exact ⟨ret_int HT.out.symm, hb⟩
    · have HA := Lib.hid hat
      obtain ⟨n, hn⟩ : ∃ n, n = l.length := ⟨_, rfl⟩
      rw [← hn] at hm HH ⊢
      have HN := Lib.hid hn
      clear h hat hn hne
      go_enter Tryz.func27, Tryz.ntmps27
      go_wp2_with fail
      refine (right_is HR _ HH.out HM.out).mono ?_
      rintro e w1 ⟨rfl, hb1⟩
      have HW := Lib.hid (HA.out.stays enc 3 hb1)
      have hbb : b < w1.heap.size := HW.out.1
      go_wp2
      go_loopw [5, 13] (fun t i wr => ∃ k : Nat, k ≤ n ∧ i = .int .i64 k ∧ t = .int .i64 (tot s (l.take k)) ∧ Below w1.heap.size w1 wr) (fun _ i _ => n - (intOf i).toNat)
      case atStart => exact ⟨0, Nat.zero_le _, rfl, rfl, Below.refl _ _⟩
      case round =>
        obtain ⟨k, hk, rfl, rfl, hb⟩ := hrel
        by_cases hlt : k < n
        · have hlt2 : (k : Int) < n := by omega
          have hkl : k < l.length := by rw [← HN.out]; exact hlt
          obtain ⟨⟨x, y, z⟩, hx⟩ : ∃ x, l[k] = x := ⟨_, rfl⟩
          have hc := at3 HW.out k hkl
          have ht := tot_take hkl s
          rw [hx] at hc ht
          simp only at hc
          obtain ⟨q0, q1, q2⟩ := hc
          obtain ⟨c1, f1, r1, p1⟩ := bcell hb
          have hbd := tot_bd HRt.out s k
          have hbe := tot_bd HRt.out s (k + 1)
          obtain ⟨hbd1, hbd2⟩ := hbd
          have HTk : Hid (tot s (l.take (k + 1)) = tot s (l.take k) + (if y = s then z else 0)) := Lib.hid ht
          clear hx ht
          by_cases he : y = s
          · subst he
            have hz : Hid (tot y (l.take (k + 1)) = tot y (l.take k) + z) := Lib.hid (by rw [HTk.out, if_pos rfl])
            have hz1 : 0 ≤ tot y (l.take k) + z := by rw [← hz.out]; exact hbe.1
            have hz2 : tot y (l.take k) + z ≤ 576460752303423488 := by rw [← hz.out]; exact hbe.2
            clear hbe
            go_wp2
            go_roundw
            case rel => exact ⟨k + 1, by omega, by go_num, by rw [hz.out], nx hb (below1 _ _)⟩
            case measure => simp [intOf]; omega
          · have hz : Hid (tot s (l.take (k + 1)) = tot s (l.take k)) := Lib.hid (by rw [HTk.out, if_neg he, Int.add_zero])
            have hd : (y == s) = false := by simpa using he
            clear hbe he
            go_wp2
            go_roundw
            case rel => exact ⟨k + 1, by omega, by go_num, by rw [hz.out], nx hb (below1 _ _)⟩
            case measure => simp [intOf]; omega
        · obtain rfl : k = n := by omega
          have HZ : Hid (total l s = tot s (l.take k)) := Lib.hid (by rw [HT.out, HN.out, List.take_length])
          go_wp2
          go_ret
          exact ⟨ret_int HZ.out.symm, nx hb1 hb⟩
end Go.Proofs.YthecinmekoaphaaGreat.Ac
