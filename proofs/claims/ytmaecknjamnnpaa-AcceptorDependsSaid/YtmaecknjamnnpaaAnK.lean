/- Layer 19: place, deposit, awake. -/
import Derived.Test.YtmaecknjamnnpaaAnF
import Derived.Test.YtmaecknjamnnpaaAnJ
namespace Go.Proofs.Ytmaecknjamnnpaa.An
open Go.RowKit
set_option linter.unusedVariables false
open Go.Proofs.Ytmaecknjamnnpaa.Rw
open Go.Proofs.Ytmaecknjamnnpaa.Da
open Go.Proofs.Ytmaecknjamnnpaa.Bv
open Go.Proofs.Ytmaecknjamnnpaa.In
open Go.Proofs.Ytmaecknjamnnpaa.St
open Go.Proofs.Ytmaecknjamnnpaa.Rc (Ins ci cv zeroI okI eqVal fnC nI nA isI fV qV dV isI_of)
section
variable (a : Act) (dst : Option Tmp) (ty : TypeId) (pos : String) (after : Array Edge) (guard : Option (Nat × Bool)) (w : World)
theorem bCmd (x : Operand) (hx : isI (a.eval x) = true) : (execOp a.eval { dst, op := .build 28 #[(2, .const (.int .i64 1)), (0, x), (1, .const (.int .i64 1)), (8, .const (.int .i64 5))], type := ty, pos, after, guard }).run Try.prog w = .ok (.value (.agg (Cm.fc (Cm.v9 (nI (a.eval x)) 1 1 0 0 0 0 0 5)))) w := by
  replace hx := isI_of hx
  generalize nI (a.eval x) = fx at hx ⊢
  have := run_build (P := Try.prog) w 28 #[(2, .int .i64 1), (0, .int .i64 fx), (1, .int .i64 1), (8, .int .i64 5)] (Cm.fc (Cm.v9 fx 1 1 0 0 0 0 0 5)) (by kernel_rfl)
  have hc : a.eval (.const (.int .i64 1)) = .int .i64 1 := rfl
  have hc5 : a.eval (.const (.int .i64 5)) = .int .i64 5 := rfl
  simp [execOp, hx, hc, hc5, this]
theorem bVal1 (x : Operand) (hx : a.eval x = .agg (Cm.fc (fnC (a.eval x)))) : (execOp a.eval { dst, op := .build 32 #[(0, x), (1, .const (.int .i64 1))], type := ty, pos, after, guard }).run Try.prog w = .ok (.value (.agg (cv (fnC (a.eval x)) 1 Ve.zeroV))) w := by
  generalize fnC (a.eval x) = fx at hx ⊢
  have := run_build (P := Try.prog) w 32 #[(0, .agg (Cm.fc fx)), (1, .int .i64 1)] (cv fx 1 Ve.zeroV) (by kernel_rfl)
  have hc : a.eval (.const (.int .i64 1)) = .int .i64 1 := rfl
  simp [execOp, hx, hc, this]
theorem bMsg1 (x v : Operand) (hx : a.eval x = .agg #[.int .i64 (nA (a.eval x) 0), .int .i64 (nA (a.eval x) 1)]) (hv : a.eval v = .agg (cv (fV (a.eval v)) (qV (a.eval v)) (dV (a.eval v)))) : (execOp a.eval { dst, op := .build 34 #[(0, .const (.int .i64 1)), (1, .const (.int .i64 0)), (2, .const (.int .i64 2)), (3, x), (5, v)], type := ty, pos, after, guard }).run Try.prog w = .ok (.value (.agg (cg ⟨1, 0, 2, nA (a.eval x) 0, nA (a.eval x) 1, 0, 0, fV (a.eval v), qV (a.eval v), dV (a.eval v), 0, 0, 0, false⟩))) w := by
  generalize nA (a.eval x) 0 = fx at hx ⊢
  generalize nA (a.eval x) 1 = gx at hx ⊢
  generalize fV (a.eval v) = fv at hv ⊢
  generalize qV (a.eval v) = gv at hv ⊢
  generalize dV (a.eval v) = kv at hv ⊢
  have := run_build (P := Try.prog) w 34 #[(0, .int .i64 1), (1, .int .i64 0), (2, .int .i64 2), (3, .agg #[.int .i64 fx, .int .i64 gx]), (5, .agg (cv fv gv kv))] (cg ⟨1, 0, 2, fx, gx, 0, 0, fv, gv, kv, 0, 0, 0, false⟩) (by kernel_rfl)
  have hc : a.eval (.const (.int .i64 1)) = .int .i64 1 := rfl
  have hc0 : a.eval (.const (.int .i64 0)) = .int .i64 0 := rfl
  have hc2 : a.eval (.const (.int .i64 2)) = .int .i64 2 := rfl
  simp [execOp, hx, hv, hc, hc0, hc2, this]
theorem bMsg2 (x v : Operand) (hx : a.eval x = .agg #[.int .i64 (nA (a.eval x) 0), .int .i64 (nA (a.eval x) 1)]) (hv : a.eval v = .agg #[.int .i64 (nA (a.eval v) 0), .int .i64 (nA (a.eval v) 1)]) : (execOp a.eval { dst, op := .build 34 #[(0, .const (.int .i64 6)), (1, .const (.int .i64 1)), (2, .const (.int .i64 2)), (3, x), (4, v)], type := ty, pos, after, guard }).run Try.prog w = .ok (.value (.agg (cg ⟨6, 1, 2, nA (a.eval x) 0, nA (a.eval x) 1, nA (a.eval v) 0, nA (a.eval v) 1, Cm.zeroF, 0, Ve.zeroV, 0, 0, 0, false⟩))) w := by
  generalize nA (a.eval x) 0 = fx at hx ⊢
  generalize nA (a.eval x) 1 = gx at hx ⊢
  generalize nA (a.eval v) 0 = fv at hv ⊢
  generalize nA (a.eval v) 1 = gv at hv ⊢
  have := run_build (P := Try.prog) w 34 #[(0, .int .i64 6), (1, .int .i64 1), (2, .int .i64 2), (3, .agg #[.int .i64 fx, .int .i64 gx]), (4, .agg #[.int .i64 fv, .int .i64 gv])] (cg ⟨6, 1, 2, fx, gx, fv, gv, Cm.zeroF, 0, Ve.zeroV, 0, 0, 0, false⟩) (by kernel_rfl)
  have hc : a.eval (.const (.int .i64 1)) = .int .i64 1 := rfl
  have hc0 : a.eval (.const (.int .i64 6)) = .int .i64 6 := rfl
  have hc2 : a.eval (.const (.int .i64 2)) = .int .i64 2 := rfl
  simp [execOp, hx, hv, hc, hc0, hc2, this]
end
attribute [go_sem ↓] bCmd bVal1 bMsg1 bMsg2
theorem cg_fV (a b e f g h s x y z : Int) (c d : Nat → Int) (q : Int) (m : Bool) : cg ⟨a, b, e, f, g, h, s, fV (.agg (cv c q d)), qV (.agg (cv c q d)), dV (.agg (cv c q d)), x, y, z, m⟩ = cg ⟨a, b, e, f, g, h, s, c, q, d, x, y, z, m⟩ := id rfl
attribute [go_sem] cg_fV
set_option maxHeartbeats 800000 in
theorem place_any (w : World) :
    Calls Try.prog 22 #[] w fun e w' => e = .returned (.agg #[.int .i64 0, .int .i64 1]) ∧ Below w.heap.size w w' := by
  go_enter Try.func22, Try.ntmps22
  go_wp2
  exact bodyPost_ret (v := .agg #[.int .i64 0, .int .i64 1]) (by simp [results, Try.results22, go_sem]) rfl ⟨rfl, below1 _ _⟩
set_option maxHeartbeats 800000 in
theorem deposit_any (c : Int) (w : World) :
    Calls Try.prog 23 #[.int .i64 c] w fun e w' => e = .returned (.agg (Cm.fc (Cm.v9 c 1 1 0 0 0 0 0 5))) ∧ Below w.heap.size w w' := by
  go_enter Try.func23, Try.ntmps23
  go_wp2
  exact bodyPost_ret (v := .agg (Cm.fc (Cm.v9 c 1 1 0 0 0 0 0 5))) (ret1 (n := 8) Try.results23 Try.underlying28 rfl (by kernel_rfl) _ _ rfl (Bx.new _ _ _).row) rfl ⟨rfl, below1 _ _⟩
def awM : Msg := (⟨1, 0, 2, 0, 1, 0, 0, Cm.v9 1 1 1 0 0 0 0 0 5, 1, Ve.zeroV, 0, 0, 0, false⟩ : Msg)
def awP : Msg := (⟨6, 1, 2, 0, 1, 2, 1, Cm.zeroF, 0, Ve.zeroV, 0, 0, 0, false⟩ : Msg)
theorem aw1 : (hearR [] 3 awM).b = true ∧ (hearR [] 3 awM).e = 0 ∧ (hearR [] 3 awM).r.k = 2 ∧ (hearR [] 3 awM).r.sm = true ∧ (hearR [] 3 awM).i.st = 1 := by decide +kernel
theorem aw2 : (hearR [(hearR [] 3 awM).i] 3 awP).b = true ∧ (hearR [(hearR [] 3 awM).i] 3 awP).e = 0 ∧ (hearR [(hearR [] 3 awM).i] 3 awP).r.k = 7 ∧ (hearR [(hearR [] 3 awM).i] 3 awP).r.st = 1 ∧
    ((hearR [(hearR [] 3 awM).i] 3 awP).i.bn == 2 && (hearR [(hearR [] 3 awM).i] 3 awP).i.br == 1) = true ∧ staleB (hearR [(hearR [] 3 awM).i] 3 awP).i 0 0 = true ∧ ((hearR [(hearR [] 3 awM).i] 3 awP).i.st == 3) = false := by decide +kernel
theorem aw3 : (hearR [(hearR [(hearR [] 3 awM).i] 3 awP).i] 3 awM).r.k = 8 ∧ ((hearR [(hearR [(hearR [] 3 awM).i] 3 awP).i] 3 awM).r.bn == 2 && (hearR [(hearR [(hearR [] 3 awM).i] 3 awP).i] 3 awM).r.br == 1) = true := by decide +kernel
set_option maxRecDepth 16000 in
set_option maxHeartbeats 16000000 in
theorem awake_any (w : World) : Calls Try.prog 8 #[] w fun e w' => e = .returned (.bool true) ∧ Below w.heap.size w w' := by
  have h1 := aw1
  have h2 := aw2
  have h3 := aw3
  obtain ⟨⟨i1, r1, b1, e1⟩, hr1⟩ : ∃ R, hearR [] 3 awM = R := ⟨_, rfl⟩
  rw [hr1] at h1 h2 h3
  obtain ⟨⟨i2, r2, b2, e2⟩, hr2⟩ : ∃ R, hearR [i1] 3 awP = R := ⟨_, rfl⟩
  rw [hr2] at h2 h3
  obtain ⟨⟨i3, r3, b3, e3⟩, hr3⟩ : ∃ R, hearR [i2] 3 awM = R := ⟨_, rfl⟩
  rw [hr3] at h3
  obtain ⟨rfl, rfl, k1, s1, t1⟩ := h1
  obtain ⟨rfl, rfl, k2, s2, p2, st2, t2⟩ := h2
  obtain ⟨k3, p3⟩ := h3
  have H1 : Hid (hearR [] 3 (⟨1, 0, 2, 0, 1, 0, 0, Cm.v9 1 1 1 0 0 0 0 0 5, 1, Ve.zeroV, 0, 0, 0, false⟩ : Msg) = ⟨i1, r1, true, 0⟩) := Lib.hid hr1
  have H2 : Hid (hearR [i1] 3 (⟨6, 1, 2, 0, 1, 2, 1, Cm.zeroF, 0, Ve.zeroV, 0, 0, 0, false⟩ : Msg) = ⟨i2, r2, true, 0⟩) := Lib.hid hr2
  have H3 : Hid (hearR [i2] 3 (⟨1, 0, 2, 0, 1, 0, 0, Cm.v9 1 1 1 0 0 0 0 0 5, 1, Ve.zeroV, 0, 0, 0, false⟩ : Msg) = ⟨i3, r3, b3, e3⟩) := Lib.hid hr3
  have HK1 := Lib.hid k1
  have HS1 := Lib.hid s1
  have HT1 := Lib.hid t1
  have HK2 := Lib.hid k2
  have HS2 := Lib.hid s2
  have HP2 := Lib.hid p2
  have HSt := Lib.hid st2
  have HT2 := Lib.hid t2
  have HK3 := Lib.hid k3
  have HP3 := Lib.hid p3
  clear hr1 hr2 hr3 k1 s1 t1 k2 s2 p2 st2 t2 k3 p3
  go_enter Try.func8, Try.ntmps8
  go_wp2_with fail
  refine (place_any w).mono ?_
  rintro e v1 ⟨rfl, bv1⟩
  have lv1 : w.heap.size ≤ v1.heap.size := bv1.size
  have bw : Below w.heap.size w v1 := bv1
  go_wp2_with fail
  refine (deposit_any 1 v1).mono ?_
  rintro e v2 ⟨rfl, bv2⟩
  have lv2 : v1.heap.size ≤ v2.heap.size := bv2.size
  replace bw := nx bw bv2
  obtain ⟨W3, eW3⟩ : ∃ Q_ : World, (v2.alloc (.cells (cg zeroM) 34)).setRow v2.heap.size (cg (⟨1, 0, 2, 0, 1, 0, 0, Cm.v9 1 1 1 0 0 0 0 0 5, 1, Ve.zeroV, 0, 0, 0, false⟩ : Msg)) = Q_ := ⟨_, rfl⟩
  have bW3 : Below v2.heap.size v2 W3 := eW3 ▸ below_setRow (below1 _ _) (Nat.le_refl _) _
  have pW3 := (Bx.new v2 (cg zeroM) 34).plain (n := 28) rfl
  have hM1 : Gx W3 v2.heap.size (⟨1, 0, 2, 0, 1, 0, 0, Cm.v9 1 1 1 0 0 0 0 0 5, 1, Ve.zeroV, 0, 0, 0, false⟩ : Msg) := ⟨eW3 ▸ Bx.put (Bx.new _ _ _) _⟩
  have lW3 : v2.heap.size < W3.heap.size := hM1.bx.lt
  replace bw := nx bw bW3
  obtain ⟨fM1_row_W3, -, -, -, -, -, -, -, -⟩ := hM1.facts
  go_wp2_with fail
  refine (hear_is (q := 0) H1 _ W3 (Is.nil _ _ _ _) (by decide)).mono ?_
  rintro e v4 ⟨rfl, bv4⟩
  clear fM1_row_W3
  replace hM1 := hM1.stays bv4
  have lv4 : W3.heap.size ≤ v4.heap.size := bv4.size
  replace bw := nx bw bv4
  obtain ⟨W5, eW5⟩ : ∃ Q_ : World, v4.alloc (.cells (ci zeroI) 37) = Q_ := ⟨_, rfl⟩
  have bW5 : Below v4.heap.size v4 W5 := eW5 ▸ below1 _ _
  replace hM1 := hM1.stays bW5
  have hI2 : Ix W5 v4.heap.size zeroI := ⟨eW5 ▸ Bx.new _ _ _⟩
  have lW5 : v4.heap.size < W5.heap.size := hI2.bx.lt
  replace bw := nx bw bW5
  obtain ⟨W6, eW6⟩ : ∃ Q_ : World, W5.alloc (.cells (cg zeroM) 34) = Q_ := ⟨_, rfl⟩
  have bW6 : Below W5.heap.size W5 W6 := eW6 ▸ below1 _ _
  replace hM1 := hM1.stays bW6
  replace hI2 := hI2.stays bW6
  have hM3 : Gx W6 W5.heap.size zeroM := ⟨eW6 ▸ Bx.new _ _ _⟩
  have lW6 : W5.heap.size < W6.heap.size := hM3.bx.lt
  replace bw := nx bw bW6
  obtain ⟨-, -, -, -, fI2_plain_W6, -⟩ := hI2.facts
  obtain ⟨W7, eW7⟩ : ∃ Q_ : World, W6.setRow (v4.heap.size) (ci (i1)) = Q_ := ⟨_, rfl⟩
  replace hM1 : Gx W7 (v2.heap.size) ((⟨1, 0, 2, 0, 1, 0, 0, Cm.v9 1 1 1 0 0 0 0 0 5, 1, Ve.zeroV, 0, 0, 0, false⟩ : Msg)) := ⟨eW7 ▸ hM1.bx.put' (by omega) _⟩
  replace hM3 : Gx W7 (W5.heap.size) (zeroM) := ⟨eW7 ▸ hM3.bx.put' (by omega) _⟩
  replace hI2 : Ix W7 (v4.heap.size) (i1) := ⟨eW7 ▸ hI2.bx.put _⟩
  have lW7 : W6.heap.size ≤ W7.heap.size := eW7 ▸ (low_setRow (n := 0) _ (Nat.zero_le _)).size
  replace bw : Below w.heap.size w W7 := eW7 ▸ bw.trans (low_setRow _ (by omega))
  obtain ⟨-, -, -, -, -, -, -, fM3_plain_W7, -⟩ := hM3.facts
  obtain ⟨W8, eW8⟩ : ∃ Q_ : World, W7.setRow (W5.heap.size) (cg (r1)) = Q_ := ⟨_, rfl⟩
  replace hM1 : Gx W8 (v2.heap.size) ((⟨1, 0, 2, 0, 1, 0, 0, Cm.v9 1 1 1 0 0 0 0 0 5, 1, Ve.zeroV, 0, 0, 0, false⟩ : Msg)) := ⟨eW8 ▸ hM1.bx.put' (by omega) _⟩
  replace hI2 : Ix W8 (v4.heap.size) (i1) := ⟨eW8 ▸ hI2.bx.put' (by omega) _⟩
  replace hM3 : Gx W8 (W5.heap.size) (r1) := ⟨eW8 ▸ hM3.bx.put _⟩
  have lW8 : W7.heap.size ≤ W8.heap.size := eW8 ▸ (low_setRow (n := 0) _ (Nat.zero_le _)).size
  replace bw : Below w.heap.size w W8 := eW8 ▸ bw.trans (low_setRow _ (by omega))
  go_wp2_with fail
  refine (place_any W8).mono ?_
  rintro e v9 ⟨rfl, bv9⟩
  clear fI2_plain_W6 fM3_plain_W7
  replace hM1 := hM1.stays bv9
  replace hI2 := hI2.stays bv9
  replace hM3 := hM3.stays bv9
  have lv9 : W8.heap.size ≤ v9.heap.size := bv9.size
  replace bw := nx bw bv9
  obtain ⟨W10, eW10⟩ : ∃ Q_ : World, (v9.alloc (.cells (cg zeroM) 34)).setRow v9.heap.size (cg (⟨6, 1, 2, 0, 1, 2, 1, Cm.zeroF, 0, Ve.zeroV, 0, 0, 0, false⟩ : Msg)) = Q_ := ⟨_, rfl⟩
  have bW10 : Below v9.heap.size v9 W10 := eW10 ▸ below_setRow (below1 _ _) (Nat.le_refl _) _
  have pW10 := (Bx.new v9 (cg zeroM) 34).plain (n := 28) rfl
  replace hM1 := hM1.stays bW10
  replace hI2 := hI2.stays bW10
  replace hM3 := hM3.stays bW10
  have hM6 : Gx W10 v9.heap.size (⟨6, 1, 2, 0, 1, 2, 1, Cm.zeroF, 0, Ve.zeroV, 0, 0, 0, false⟩ : Msg) := ⟨eW10 ▸ Bx.put (Bx.new _ _ _) _⟩
  have lW10 : v9.heap.size < W10.heap.size := hM6.bx.lt
  replace bw := nx bw bW10
  obtain ⟨fI2_row_W10, -, -, -, -, -⟩ := hI2.facts
  obtain ⟨W11, eW11⟩ : ∃ Q_ : World, W10.alloc (.cells (ci i1) 37) = Q_ := ⟨_, rfl⟩
  have bW11 : Below W10.heap.size W10 W11 := eW11 ▸ below1 _ _
  replace hM1 := hM1.stays bW11
  replace hI2 := hI2.stays bW11
  replace hM3 := hM3.stays bW11
  replace hM6 := hM6.stays bW11
  have hL : Ix W11 W10.heap.size i1 := ⟨eW11 ▸ Bx.new _ _ _⟩
  have lW11 : W10.heap.size < W11.heap.size := hL.bx.lt
  replace bw := nx bw bW11
  obtain ⟨fM6_row_W11, -, -, -, -, -, -, -, -⟩ := hM6.facts
  go_wp2_with fail
  refine (hear_is (q := 0) H2 _ W11 (ti_bx hL.bx (Nat.zero_le _)) (by simp)).mono ?_
  rintro e v12 ⟨rfl, bv12⟩
  clear fI2_row_W10 fM6_row_W11
  replace hM1 := hM1.stays bv12
  replace hI2 := hI2.stays bv12
  replace hM3 := hM3.stays bv12
  replace hM6 := hM6.stays bv12
  replace hL := hL.stays bv12
  have lv12 : W11.heap.size ≤ v12.heap.size := bv12.size
  replace bw := nx bw bv12
  obtain ⟨W13, eW13⟩ : ∃ Q_ : World, v12.alloc (.cells (ci zeroI) 37) = Q_ := ⟨_, rfl⟩
  have bW13 : Below v12.heap.size v12 W13 := eW13 ▸ below1 _ _
  replace hM1 := hM1.stays bW13
  replace hI2 := hI2.stays bW13
  replace hM3 := hM3.stays bW13
  replace hM6 := hM6.stays bW13
  replace hL := hL.stays bW13
  have hI7 : Ix W13 v12.heap.size zeroI := ⟨eW13 ▸ Bx.new _ _ _⟩
  have lW13 : v12.heap.size < W13.heap.size := hI7.bx.lt
  replace bw := nx bw bW13
  obtain ⟨W14, eW14⟩ : ∃ Q_ : World, W13.alloc (.cells (cg zeroM) 34) = Q_ := ⟨_, rfl⟩
  have bW14 : Below W13.heap.size W13 W14 := eW14 ▸ below1 _ _
  replace hM1 := hM1.stays bW14
  replace hI2 := hI2.stays bW14
  replace hM3 := hM3.stays bW14
  replace hM6 := hM6.stays bW14
  replace hL := hL.stays bW14
  replace hI7 := hI7.stays bW14
  have hM8 : Gx W14 W13.heap.size zeroM := ⟨eW14 ▸ Bx.new _ _ _⟩
  have lW14 : W13.heap.size < W14.heap.size := hM8.bx.lt
  replace bw := nx bw bW14
  obtain ⟨-, -, -, -, fI7_plain_W14, -⟩ := hI7.facts
  obtain ⟨W15, eW15⟩ : ∃ Q_ : World, W14.setRow (v12.heap.size) (ci (i2)) = Q_ := ⟨_, rfl⟩
  replace hM1 : Gx W15 (v2.heap.size) ((⟨1, 0, 2, 0, 1, 0, 0, Cm.v9 1 1 1 0 0 0 0 0 5, 1, Ve.zeroV, 0, 0, 0, false⟩ : Msg)) := ⟨eW15 ▸ hM1.bx.put' (by omega) _⟩
  replace hI2 : Ix W15 (v4.heap.size) (i1) := ⟨eW15 ▸ hI2.bx.put' (by omega) _⟩
  replace hM3 : Gx W15 (W5.heap.size) (r1) := ⟨eW15 ▸ hM3.bx.put' (by omega) _⟩
  replace hM6 : Gx W15 (v9.heap.size) ((⟨6, 1, 2, 0, 1, 2, 1, Cm.zeroF, 0, Ve.zeroV, 0, 0, 0, false⟩ : Msg)) := ⟨eW15 ▸ hM6.bx.put' (by omega) _⟩
  replace hL : Ix W15 (W10.heap.size) (i1) := ⟨eW15 ▸ hL.bx.put' (by omega) _⟩
  replace hM8 : Gx W15 (W13.heap.size) (zeroM) := ⟨eW15 ▸ hM8.bx.put' (by omega) _⟩
  replace hI7 : Ix W15 (v12.heap.size) (i2) := ⟨eW15 ▸ hI7.bx.put _⟩
  have lW15 : W14.heap.size ≤ W15.heap.size := eW15 ▸ (low_setRow (n := 0) _ (Nat.zero_le _)).size
  replace bw : Below w.heap.size w W15 := eW15 ▸ bw.trans (low_setRow _ (by omega))
  obtain ⟨-, -, -, -, -, -, -, fM8_plain_W15, -⟩ := hM8.facts
  obtain ⟨W16, eW16⟩ : ∃ Q_ : World, W15.setRow (W13.heap.size) (cg (r2)) = Q_ := ⟨_, rfl⟩
  replace hM1 : Gx W16 (v2.heap.size) ((⟨1, 0, 2, 0, 1, 0, 0, Cm.v9 1 1 1 0 0 0 0 0 5, 1, Ve.zeroV, 0, 0, 0, false⟩ : Msg)) := ⟨eW16 ▸ hM1.bx.put' (by omega) _⟩
  replace hI2 : Ix W16 (v4.heap.size) (i1) := ⟨eW16 ▸ hI2.bx.put' (by omega) _⟩
  replace hM3 : Gx W16 (W5.heap.size) (r1) := ⟨eW16 ▸ hM3.bx.put' (by omega) _⟩
  replace hM6 : Gx W16 (v9.heap.size) ((⟨6, 1, 2, 0, 1, 2, 1, Cm.zeroF, 0, Ve.zeroV, 0, 0, 0, false⟩ : Msg)) := ⟨eW16 ▸ hM6.bx.put' (by omega) _⟩
  replace hL : Ix W16 (W10.heap.size) (i1) := ⟨eW16 ▸ hL.bx.put' (by omega) _⟩
  replace hI7 : Ix W16 (v12.heap.size) (i2) := ⟨eW16 ▸ hI7.bx.put' (by omega) _⟩
  replace hM8 : Gx W16 (W13.heap.size) (r2) := ⟨eW16 ▸ hM8.bx.put _⟩
  have lW16 : W15.heap.size ≤ W16.heap.size := eW16 ▸ (low_setRow (n := 0) _ (Nat.zero_le _)).size
  replace bw : Below w.heap.size w W16 := eW16 ▸ bw.trans (low_setRow _ (by omega))
  obtain ⟨fI7_row_W16, -, -, -, -, -⟩ := hI7.facts
  obtain ⟨W17, eW17⟩ : ∃ Q_ : World, W16.alloc (.cells (ci i2) 37) = Q_ := ⟨_, rfl⟩
  have bW17 : Below W16.heap.size W16 W17 := eW17 ▸ below1 _ _
  replace hM1 := hM1.stays bW17
  replace hI2 := hI2.stays bW17
  replace hM3 := hM3.stays bW17
  replace hM6 := hM6.stays bW17
  replace hL := hL.stays bW17
  replace hI7 := hI7.stays bW17
  replace hM8 := hM8.stays bW17
  have hL2 : Ix W17 W16.heap.size i2 := ⟨eW17 ▸ Bx.new _ _ _⟩
  have lW17 : W16.heap.size < W17.heap.size := hL2.bx.lt
  replace bw := nx bw bW17
  obtain ⟨fM1_row_W17, -, -, -, -, -, -, -, -⟩ := hM1.facts
  go_wp2_with fail
  refine (hear_is (q := 0) H3 _ W17 (ti_bx hL2.bx (Nat.zero_le _)) (by simp)).mono ?_
  rintro e v18 ⟨rfl, bv18⟩
  clear fI7_plain_W14 fM8_plain_W15 fI7_row_W16 fM1_row_W17
  replace hM1 := hM1.stays bv18
  replace hI2 := hI2.stays bv18
  replace hM3 := hM3.stays bv18
  replace hM6 := hM6.stays bv18
  replace hL := hL.stays bv18
  replace hI7 := hI7.stays bv18
  replace hM8 := hM8.stays bv18
  replace hL2 := hL2.stays bv18
  have lv18 : W17.heap.size ≤ v18.heap.size := bv18.size
  replace bw := nx bw bv18
  obtain ⟨W19, eW19⟩ : ∃ Q_ : World, v18.alloc (.cells (ci zeroI) 37) = Q_ := ⟨_, rfl⟩
  have bW19 : Below v18.heap.size v18 W19 := eW19 ▸ below1 _ _
  replace hM1 := hM1.stays bW19
  replace hI2 := hI2.stays bW19
  replace hM3 := hM3.stays bW19
  replace hM6 := hM6.stays bW19
  replace hL := hL.stays bW19
  replace hI7 := hI7.stays bW19
  replace hM8 := hM8.stays bW19
  replace hL2 := hL2.stays bW19
  have hI11 : Ix W19 v18.heap.size zeroI := ⟨eW19 ▸ Bx.new _ _ _⟩
  have lW19 : v18.heap.size < W19.heap.size := hI11.bx.lt
  replace bw := nx bw bW19
  obtain ⟨W20, eW20⟩ : ∃ Q_ : World, W19.alloc (.cells (cg zeroM) 34) = Q_ := ⟨_, rfl⟩
  have bW20 : Below W19.heap.size W19 W20 := eW20 ▸ below1 _ _
  replace hM1 := hM1.stays bW20
  replace hI2 := hI2.stays bW20
  replace hM3 := hM3.stays bW20
  replace hM6 := hM6.stays bW20
  replace hL := hL.stays bW20
  replace hI7 := hI7.stays bW20
  replace hM8 := hM8.stays bW20
  replace hL2 := hL2.stays bW20
  replace hI11 := hI11.stays bW20
  have hM12 : Gx W20 W19.heap.size zeroM := ⟨eW20 ▸ Bx.new _ _ _⟩
  have lW20 : W19.heap.size < W20.heap.size := hM12.bx.lt
  replace bw := nx bw bW20
  obtain ⟨-, -, -, -, fI11_plain_W20, -⟩ := hI11.facts
  obtain ⟨W21, eW21⟩ : ∃ Q_ : World, W20.setRow (v18.heap.size) (ci (i3)) = Q_ := ⟨_, rfl⟩
  replace hM1 : Gx W21 (v2.heap.size) ((⟨1, 0, 2, 0, 1, 0, 0, Cm.v9 1 1 1 0 0 0 0 0 5, 1, Ve.zeroV, 0, 0, 0, false⟩ : Msg)) := ⟨eW21 ▸ hM1.bx.put' (by omega) _⟩
  replace hI2 : Ix W21 (v4.heap.size) (i1) := ⟨eW21 ▸ hI2.bx.put' (by omega) _⟩
  replace hM3 : Gx W21 (W5.heap.size) (r1) := ⟨eW21 ▸ hM3.bx.put' (by omega) _⟩
  replace hM6 : Gx W21 (v9.heap.size) ((⟨6, 1, 2, 0, 1, 2, 1, Cm.zeroF, 0, Ve.zeroV, 0, 0, 0, false⟩ : Msg)) := ⟨eW21 ▸ hM6.bx.put' (by omega) _⟩
  replace hL : Ix W21 (W10.heap.size) (i1) := ⟨eW21 ▸ hL.bx.put' (by omega) _⟩
  replace hI7 : Ix W21 (v12.heap.size) (i2) := ⟨eW21 ▸ hI7.bx.put' (by omega) _⟩
  replace hM8 : Gx W21 (W13.heap.size) (r2) := ⟨eW21 ▸ hM8.bx.put' (by omega) _⟩
  replace hL2 : Ix W21 (W16.heap.size) (i2) := ⟨eW21 ▸ hL2.bx.put' (by omega) _⟩
  replace hM12 : Gx W21 (W19.heap.size) (zeroM) := ⟨eW21 ▸ hM12.bx.put' (by omega) _⟩
  replace hI11 : Ix W21 (v18.heap.size) (i3) := ⟨eW21 ▸ hI11.bx.put _⟩
  have lW21 : W20.heap.size ≤ W21.heap.size := eW21 ▸ (low_setRow (n := 0) _ (Nat.zero_le _)).size
  replace bw : Below w.heap.size w W21 := eW21 ▸ bw.trans (low_setRow _ (by omega))
  obtain ⟨-, -, -, -, -, -, -, fM12_plain_W21, -⟩ := hM12.facts
  obtain ⟨W22, eW22⟩ : ∃ Q_ : World, W21.setRow (W19.heap.size) (cg (r3)) = Q_ := ⟨_, rfl⟩
  replace hM1 : Gx W22 (v2.heap.size) ((⟨1, 0, 2, 0, 1, 0, 0, Cm.v9 1 1 1 0 0 0 0 0 5, 1, Ve.zeroV, 0, 0, 0, false⟩ : Msg)) := ⟨eW22 ▸ hM1.bx.put' (by omega) _⟩
  replace hI2 : Ix W22 (v4.heap.size) (i1) := ⟨eW22 ▸ hI2.bx.put' (by omega) _⟩
  replace hM3 : Gx W22 (W5.heap.size) (r1) := ⟨eW22 ▸ hM3.bx.put' (by omega) _⟩
  replace hM6 : Gx W22 (v9.heap.size) ((⟨6, 1, 2, 0, 1, 2, 1, Cm.zeroF, 0, Ve.zeroV, 0, 0, 0, false⟩ : Msg)) := ⟨eW22 ▸ hM6.bx.put' (by omega) _⟩
  replace hL : Ix W22 (W10.heap.size) (i1) := ⟨eW22 ▸ hL.bx.put' (by omega) _⟩
  replace hI7 : Ix W22 (v12.heap.size) (i2) := ⟨eW22 ▸ hI7.bx.put' (by omega) _⟩
  replace hM8 : Gx W22 (W13.heap.size) (r2) := ⟨eW22 ▸ hM8.bx.put' (by omega) _⟩
  replace hL2 : Ix W22 (W16.heap.size) (i2) := ⟨eW22 ▸ hL2.bx.put' (by omega) _⟩
  replace hI11 : Ix W22 (v18.heap.size) (i3) := ⟨eW22 ▸ hI11.bx.put' (by omega) _⟩
  replace hM12 : Gx W22 (W19.heap.size) (r3) := ⟨eW22 ▸ hM12.bx.put _⟩
  have lW22 : W21.heap.size ≤ W22.heap.size := eW22 ▸ (low_setRow (n := 0) _ (Nat.zero_le _)).size
  replace bw : Below w.heap.size w W22 := eW22 ▸ bw.trans (low_setRow _ (by omega))
  obtain ⟨-, fM3_c0_W22, -, -, -, -, fM3_c27_W22, -, -⟩ := hM3.facts
  obtain ⟨-, fI2_c6_W22, -, -, -, -⟩ := hI2.facts
  obtain ⟨-, fM8_c0_W22, -, -, -, fM8_c24_W22, -, -, -⟩ := hM8.facts
  obtain ⟨fI7_row_W22, -, -, -, -, -⟩ := hI7.facts
  obtain ⟨fM6_row_W22, -, -, -, -, -, -, -, -⟩ := hM6.facts
  obtain ⟨fM12_row_W22, fM12_c0_W22, -, -, -, -, -, -, -⟩ := hM12.facts
  obtain ⟨fM1_row_W22, -, -, -, -, -, -, -, -⟩ := hM1.facts
  rw [HK1.out] at fM3_c0_W22
  rw [HS1.out] at fM3_c27_W22
  rw [HT1.out] at fI2_c6_W22
  rw [HK2.out] at fM8_c0_W22
  rw [HS2.out] at fM8_c24_W22
  rw [HK3.out] at fM12_c0_W22
  have p2 := HP2.out
  have p3 := HP3.out
  go_wp2_with fail
  refine (stale_is HSt W22).mono ?_
  rintro e v23 ⟨rfl, bv23⟩
  clear fI11_plain_W20 fM12_plain_W21 fM3_c0_W22 fM3_c27_W22 fI2_c6_W22 fM8_c0_W22 fM8_c24_W22 fI7_row_W22 fM6_row_W22 fM12_row_W22 fM12_c0_W22 fM1_row_W22
  replace hM1 := hM1.stays bv23
  replace hI2 := hI2.stays bv23
  replace hM3 := hM3.stays bv23
  replace hM6 := hM6.stays bv23
  replace hL := hL.stays bv23
  replace hI7 := hI7.stays bv23
  replace hM8 := hM8.stays bv23
  replace hL2 := hL2.stays bv23
  replace hI11 := hI11.stays bv23
  replace hM12 := hM12.stays bv23
  have lv23 : W22.heap.size ≤ v23.heap.size := bv23.size
  replace bw := nx bw bv23
  obtain ⟨fI7_row_v23, -, -, -, -, -⟩ := hI7.facts
  go_wp2_with fail
  refine (settled_is HT2 v23).mono ?_
  rintro e v24 ⟨rfl, bv24⟩
  clear fI7_row_v23
  replace hM1 := hM1.stays bv24
  replace hI2 := hI2.stays bv24
  replace hM3 := hM3.stays bv24
  replace hM6 := hM6.stays bv24
  replace hL := hL.stays bv24
  replace hI7 := hI7.stays bv24
  replace hM8 := hM8.stays bv24
  replace hL2 := hL2.stays bv24
  replace hI11 := hI11.stays bv24
  replace hM12 := hM12.stays bv24
  have lv24 : v23.heap.size ≤ v24.heap.size := bv24.size
  replace bw := nx bw bv24
  go_wp2
  go_ret
  exact ⟨rfl, bw⟩
end Go.Proofs.Ytmaecknjamnnpaa.An
