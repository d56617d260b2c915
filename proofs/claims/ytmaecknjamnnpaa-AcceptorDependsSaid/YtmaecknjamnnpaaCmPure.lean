/- Plain mathematics of layer 6: a command as nine numbers, in the order of its fields: client, number, kind, lane, asset, order, side, price, quantity. -/
import Derived.WalkKit
namespace Go.Proofs.Ytmaecknjamnnpaa.Cm
def zeroF : Nat → Int := fun _ => 0
def upd (f : Nat → Int) (k : Nat) (x : Int) : Nat → Int := fun i => if i = k then x else f i
def eqF (f g : Nat → Int) : Bool := (List.range' 0 9).all fun i => decide (f i = g i)
theorem eqF_iff {f g : Nat → Int} : eqF f g = true ↔ ∀ i, i < 9 → f i = g i := by
  unfold eqF
  rw [List.all_eq_true]
  constructor
  · intro h i hi
    simpa using h i (by rw [List.mem_range'_1]; omega)
  · intro h i hi
    simpa using h i (by rw [List.mem_range'_1] at hi; omega)
theorem eqF_refl (f : Nat → Int) : eqF f f = true := eqF_iff.2 fun _ _ => rfl
/-- A number within bounds. -/
def wi (n lo hi : Int) : Bool := decide (lo ≤ n) && decide (n ≤ hi)
theorem wi_iff {n lo hi : Int} : wi n lo hi = true ↔ lo ≤ n ∧ n ≤ hi := by simp [wi]
/-- The nine tests, in the program's order. -/
def tst (c : Nat → Int) : Nat → Bool
  | 0 => wi (c 2) 1 8
  | 1 => wi (c 0) 0 63
  | 2 => wi (c 1) 1 1125899906842624
  | 3 => wi (c 3) 0 5
  | 4 => wi (c 4) 0 7
  | 5 => wi (c 5) 0 1073741824
  | 6 => wi (c 6) 0 2
  | 7 => wi (c 7) 0 1125899906842624
  | _ => wi (c 8) 0 1125899906842624
def limB (c : Nat → Int) : Bool := (List.range' 0 9).all (tst c)
theorem limB_iff {c : Nat → Int} : limB c = true ↔ ∀ i, i < 9 → tst c i = true := by
  unfold limB
  rw [List.all_eq_true]
  constructor
  · intro h i hi
    exact h i (by rw [List.mem_range'_1]; omega)
  · intro h i hi
    exact h i (by rw [List.mem_range'_1] at hi; omega)
theorem limB_no {c : Nat → Int} (i : Nat) (hi : i < 9) (h : tst c i = false) : limB c = false := by
  cases e : limB c
  · rfl
  · rw [limB_iff.1 e i hi] at h; cases h
/-- The first test that fails. -/
theorem first_no {c : Nat → Int} : limB c = true ∨ ∃ i, i < 9 ∧ tst c i = false ∧ ∀ j, j < i → tst c j = true := by
  have key : ∀ n, n ≤ 9 → (∀ j, j < n → tst c j = true) ∨ ∃ i, i < 9 ∧ tst c i = false ∧ ∀ j, j < i → tst c j = true := by
    intro n
    induction n with
    | zero => intro _; exact .inl fun j hj => by omega
    | succ n ih =>
      intro hn
      rcases ih (by omega) with h | h
      · cases e : tst c n
        · exact .inr ⟨n, by omega, e, h⟩
        · exact .inl fun j hj => by
            by_cases k : j = n
            · subst k; exact e
            · exact h j (by omega)
      · exact .inr h
  rcases key 9 (Nat.le_refl _) with h | h
  · exact .inl (limB_iff.2 h)
  · exact .inr h
def zeroB (c : Nat → Int) : Bool := eqF c zeroF
def chkB (c : Nat → Int) : Bool := zeroB c || limB c
def chkE (c : Nat → Int) : Int := if chkB c then 0 else 1
theorem lim_eq (c : Nat → Int) : limB c = true ↔ (1 ≤ c 2 ∧ c 2 ≤ 8) ∧ (0 ≤ c 0 ∧ c 0 ≤ 63) ∧ (1 ≤ c 1 ∧ c 1 ≤ 1125899906842624) ∧ (0 ≤ c 3 ∧ c 3 ≤ 5) ∧ (0 ≤ c 4 ∧ c 4 ≤ 7) ∧ (0 ≤ c 5 ∧ c 5 ≤ 1073741824) ∧ (0 ≤ c 6 ∧ c 6 ≤ 2) ∧ (0 ≤ c 7 ∧ c 7 ≤ 1125899906842624) ∧ (0 ≤ c 8 ∧ c 8 ≤ 1125899906842624) := by
  rw [limB_iff]
  constructor
  · intro h
    exact ⟨wi_iff.1 (h 0 (by omega)), wi_iff.1 (h 1 (by omega)), wi_iff.1 (h 2 (by omega)), wi_iff.1 (h 3 (by omega)), wi_iff.1 (h 4 (by omega)), wi_iff.1 (h 5 (by omega)), wi_iff.1 (h 6 (by omega)), wi_iff.1 (h 7 (by omega)), wi_iff.1 (h 8 (by omega))⟩
  · rintro ⟨h0, h1, h2, h3, h4, h5, h6, h7, h8⟩ i hi
    match i, hi with
    | 0, _ => exact wi_iff.2 h0
    | 1, _ => exact wi_iff.2 h1
    | 2, _ => exact wi_iff.2 h2
    | 3, _ => exact wi_iff.2 h3
    | 4, _ => exact wi_iff.2 h4
    | 5, _ => exact wi_iff.2 h5
    | 6, _ => exact wi_iff.2 h6
    | 7, _ => exact wi_iff.2 h7
    | 8, _ => exact wi_iff.2 h8
/-- Does a kind have a lane? -/
def laneB (k : Int) : Bool := k == 3 || k == 4 || k == 5 || k == 6 || k == 8
def movB (c : Nat → Int) : Bool := wi (c 2) 1 6
/-- Do two commands have a key in common? -/
def meetB (a b : Nat → Int) : Bool := (a 2 != 0) && (b 2 != 0) && ((a 0 == b 0) || (laneB (a 2) && laneB (b 2) && (a 3 == b 3)))
theorem meetB_comm (a b : Nat → Int) : meetB a b = meetB b a := by
  unfold meetB
  rw [show (a 0 == b 0) = (b 0 == a 0) by rw [Bool.eq_iff_iff]; simp; exact eq_comm, show (a 3 == b 3) = (b 3 == a 3) by rw [Bool.eq_iff_iff]; simp; exact eq_comm]
  cases (a 2 != 0) <;> cases (b 2 != 0) <;> cases laneB (a 2) <;> cases laneB (b 2) <;> rfl
theorem meetB_zero (a : Nat → Int) : meetB a zeroF = false := by unfold meetB zeroF; simp
theorem meetB_zero' (a : Nat → Int) : meetB zeroF a = false := by rw [meetB_comm]; exact meetB_zero a
/-- Which field is written at which place. -/
def fld : Nat → Nat
  | 0 => 2 | 1 => 0 | 2 => 3 | 3 => 4 | 4 => 6 | 5 => 1 | 6 => 7 | 7 => 8 | _ => 5
/-- At which place a field is written. -/
def plc : Nat → Nat
  | 0 => 1 | 1 => 5 | 2 => 0 | 3 => 2 | 4 => 3 | 5 => 8 | 6 => 4 | 7 => 6 | _ => 7
/-- In how many bytes. -/
def wd : Nat → Nat
  | 0 => 1 | 1 => 1 | 2 => 1 | 3 => 1 | 4 => 1 | 5 => 7 | 6 => 7 | 7 => 7 | _ => 4
/-- How many bytes lie ahead of a place. -/
def pre : Nat → Nat
  | 0 => 0
  | k + 1 => pre k + wd k
theorem pre9 : pre 9 = 30 := rfl
theorem wd_bd (k : Nat) : 1 ≤ wd k ∧ wd k ≤ 7 := by unfold wd; split <;> omega
theorem pre_mono (k j : Nat) (h : k ≤ j) : pre k ≤ pre j := by
  induction j with
  | zero => rw [Nat.le_zero.1 h]; exact Nat.le_refl _
  | succ j ih =>
    by_cases e : k = j + 1
    · rw [e]; exact Nat.le_refl _
    · have := ih (by omega); rw [pre]; omega
def numF (c : Nat → Int) : Nat → Int := fun i => c (fld i)
def ofF (l : Nat → Int) : Nat → Int := fun i => l (plc i)
theorem fld_plc (i : Nat) (h : i < 9) : fld (plc i) = i := by
  match i, h with
  | 0, _ => rfl | 1, _ => rfl | 2, _ => rfl | 3, _ => rfl | 4, _ => rfl | 5, _ => rfl | 6, _ => rfl | 7, _ => rfl | 8, _ => rfl
theorem plc_fld (i : Nat) (h : i < 9) : plc (fld i) = i := by
  match i, h with
  | 0, _ => rfl | 1, _ => rfl | 2, _ => rfl | 3, _ => rfl | 4, _ => rfl | 5, _ => rfl | 6, _ => rfl | 7, _ => rfl | 8, _ => rfl
theorem plc_lt (i : Nat) : plc i < 9 := by unfold plc; split <;> omega
theorem fld_lt (i : Nat) : fld i < 9 := by unfold fld; split <;> omega
/-- the first k of some numbers, the others 0 -/
def mix (f : Nat → Int) (k : Nat) : Nat → Int := fun i => if i < k then f i else 0
theorem mix_at (f : Nat → Int) (k : Nat) : mix f k k = 0 := by simp [mix]
theorem mix_succ (f : Nat → Int) (k : Nat) : upd (mix f k) k (f k) = mix f (k + 1) := by
  funext i; unfold upd mix
  by_cases h : i = k
  · subst h; simp
  · by_cases h2 : i < k
    · simp [h, h2, show i < k + 1 by omega]
    · simp [h, h2, show ¬ i < k + 1 by omega]
theorem mix_zero (f : Nat → Int) : mix f 0 = zeroF := by funext i; simp [mix, zeroF]
end Go.Proofs.Ytmaecknjamnnpaa.Cm
