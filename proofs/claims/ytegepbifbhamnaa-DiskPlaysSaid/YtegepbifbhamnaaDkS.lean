/- Of the statements of layer 14: far. -/
import Derived.Test.YtegepbifbhamnaaDkR
namespace Go.Proofs.Ytegepbifbhamnaa.Dk
open Go.RowKit
set_option linter.unusedVariables false
open Go.Proofs.Ytegepbifbhamnaa.Rw
open Go.Proofs.Ytegepbifbhamnaa.Da
theorem any_false {l : List Op5} (h : l.any (fun o => decide (5000 < o.2.2.2.2.size)) = false) (k : Nat) (hk : k < l.length) : l[k].2.2.2.2.size ≤ 5000 := by
  rw [List.any_eq_false] at h
  have := h l[k] (List.getElem_mem hk)
  simpa using this
theorem wc_small {l : List Op5} (h : ∀ k (hk : k < l.length), l[k].2.2.2.2.size ≤ 5000) : ∀ k, k ≤ l.length → wc (l.take k) ≤ 5000 * k
  | 0, _ => by simp [wc]
  | k + 1, hk => by
    rw [wc_take (by omega)]
    have := wc_small h k (by omega)
    have := h k (by omega)
    omega
theorem any_true {l : List Op5} {k : Nat} {hk : k < l.length} (h : 5000 < l[k].2.2.2.2.size) : farB l = true := by
  have : l.any (fun o => decide (5000 < o.2.2.2.2.size)) = true := List.any_eq_true.2 ⟨l[k], List.getElem_mem hk, by simpa using h⟩
  simp [farB, this]
set_option maxRecDepth 8000 in
set_option maxHeartbeats 4000000 in
theorem far_big (B : Bs) (l : List Op5) (v : Value) (w : World) (h : CL B l v w) (hl : l.length ≤ maxLen) (hbig : 100 < l.length) :
    Calls Try.prog 6 #[v] w fun e w' => e = .returned (.bool (farB l)) ∧ Below w.heap.size w w' := by
  unfold maxLen at hl
  obtain ⟨a1, c1, rfl, hel⟩ := h
  obtain ⟨n, hn⟩ : ∃ n, l.length = n := ⟨_, rfl⟩
  have HF := Lib.hid (show 100 < n → farB l = true from fun h => by have : 100 < l.length := by omega
                                                                    simp [farB, this])
  rw [hn] at hl hbig ⊢
  have HN := Lib.hid hn
  have HE := Lib.hid hel
  clear hn hel
  go_enter Try.func6, Try.ntmps6
  go_wp2
  go_loopw [3, 8] (fun s i wr => ∃ k : Nat, ∃ x : Int, k ≤ n ∧ i = .int .i64 k ∧ s = .int .i64 x ∧ Below w.heap.size w wr) (fun _ i _ => n - (intOf i).toNat)
  case atStart => exact ⟨0, 0, Nat.zero_le _, rfl, rfl, Below.refl _ _⟩
  case round =>
    obtain ⟨k, x, hk, rfl, rfl, hb⟩ := hrel
    by_cases hlt : k < n
    · have hlt2 : (k : Int) < n := by omega
      have hkl : k < l.length := by rw [HN.out]; exact hlt
      rcases HE.out with ⟨e, _⟩ | ⟨bb, off, rfl, hat⟩
      · rw [e] at hkl; cases hkl
      have hat2 := atC (Lies.keep eC 31 hat (Keeps.of_below hb)) k hkl
      have hwt := wc_take hkl
      have hel := fun h1 => any_true (l := l) (k := k) (hk := hkl) h1
      obtain ⟨⟨o1, o2, o3, o4, o5⟩, hs⟩ : ∃ s, l[k] = s := ⟨_, rfl⟩
      rw [hs] at hat2 hwt hel
      simp only at hat2 hwt hel
      obtain ⟨y0, y1, y2, y3, y4⟩ := hat2
      have HX := Lib.hid hel
      obtain ⟨W, hW⟩ : ∃ Q_ : World, wr.alloc (.cells #[.int .i64 o1, .int .i64 o2, .int .i64 o3, .int .i64 o4, .string o5] 31) = Q_ := ⟨_, rfl⟩
      have aW : Below wr.heap.size wr W := hW ▸ below1 _ _
      have bW := nx hb aW
      have BW : Bx W wr.heap.size #[.int .i64 o1, .int .i64 o2, .int .i64 o3, .int .i64 o4, .string o5] 31 := hW ▸ Bx.new _ _ _
      obtain ⟨q1, q2, q3, q4, q5, q6, q7, q8⟩ := BW.d5
      by_cases h5 : 5000 < o5.size
      · have h6 : decide ((5000 : Int) < o5.size) = true := decide_eq_true (by omega)
        clear hat hs hwt hel
        go_wp2
        go_ret
        exact ⟨ret_bool (HX.out h5).symm, bW⟩
      · have h6 : decide ((5000 : Int) < o5.size) = false := decide_eq_false (by omega)
        clear hat hs hwt hel h5
        go_wp2
        go_roundw
        case rel => exact ⟨k + 1, _, by omega, by go_num, rfl, bW⟩
        case measure => simp [intOf]; omega
    · obtain rfl : k = n := by omega
      have hd : decide ((100 : Int) < k) = true := decide_eq_true (by omega)
      go_wp2
      go_ret
      exact ⟨ret_bool (HF.out (by omega)).symm, hb⟩
set_option maxRecDepth 8000 in
set_option maxHeartbeats 4000000 in
theorem far_small (B : Bs) (l : List Op5) (v : Value) (w : World) (h : CL B l v w) (hl : l.length ≤ 100) :
    Calls Try.prog 6 #[v] w fun e w' => e = .returned (.bool (farB l)) ∧ Below w.heap.size w w' := by
  obtain ⟨a1, c1, rfl, hel⟩ := h
  obtain ⟨n, hn⟩ : ∃ n, l.length = n := ⟨_, rfl⟩
  rw [hn] at hl ⊢
  have HN := Lib.hid hn
  have HE := Lib.hid hel
  clear hn hel
  go_enter Try.func6, Try.ntmps6
  go_wp2
  go_loopw [3, 8] (fun s i wr => ∃ k : Nat, k ≤ n ∧ i = .int .i64 k ∧ s = .int .i64 (wc (l.take k) : Nat) ∧ (∀ j (hj : j < l.length), j < k → l[j].2.2.2.2.size ≤ 5000) ∧ Below w.heap.size w wr) (fun _ i _ => n - (intOf i).toNat)
  case atStart => exact ⟨0, Nat.zero_le _, rfl, by simp [wc], fun j _ h => by omega, Below.refl _ _⟩
  case round =>
    obtain ⟨k, hk, rfl, rfl, hsm, hb⟩ := hrel
    by_cases hlt : k < n
    · have hlt2 : (k : Int) < n := by omega
      have hkl : k < l.length := by rw [HN.out]; exact hlt
      rcases HE.out with ⟨e, _⟩ | ⟨bb, off, rfl, hat⟩
      · rw [e] at hkl; cases hkl
      have hat2 := atC (Lies.keep eC 31 hat (Keeps.of_below hb)) k hkl
      have hwt := wc_take hkl
      have hel := fun h1 => any_true (l := l) (k := k) (hk := hkl) h1
      obtain ⟨⟨o1, o2, o3, o4, o5⟩, hs⟩ : ∃ s, l[k] = s := ⟨_, rfl⟩
      rw [hs] at hat2 hwt hel
      simp only at hat2 hwt hel
      obtain ⟨y0, y1, y2, y3, y4⟩ := hat2
      have hsm2 : 5000 < o5.size ∨ (∀ j (hj : j < l.length), j < k + 1 → l[j].2.2.2.2.size ≤ 5000) := by
        by_cases h9 : 5000 < o5.size
        · exact .inl h9
        · refine .inr fun j hj hjk => ?_
          by_cases e : j = k
          · subst e; rw [hs]; simp only; omega
          · exact hsm j hj (by omega)
      have hws : wc (l.take k) ≤ 5000 * k := by
        have h9 : ∀ m, m ≤ k → wc (l.take m) ≤ 5000 * m := by
          intro m
          induction m with
          | zero => intro _; simp [wc]
          | succ m ih =>
            intro hm
            rw [wc_take (by omega)]
            have := ih (by omega)
            have := hsm m (by omega) (by omega)
            omega
        exact h9 k (Nat.le_refl _)
      obtain ⟨q, hq⟩ : ∃ q, wc (l.take k) = q := ⟨_, rfl⟩
      rw [hq] at hwt hws ⊢
      have HQ := Lib.hid hq
      have HW := Lib.hid hwt
      have HSM := Lib.hid hsm2
      have HX := Lib.hid hel
      obtain ⟨W, hW⟩ : ∃ Q_ : World, wr.alloc (.cells #[.int .i64 o1, .int .i64 o2, .int .i64 o3, .int .i64 o4, .string o5] 31) = Q_ := ⟨_, rfl⟩
      have aW : Below wr.heap.size wr W := hW ▸ below1 _ _
      have bW := nx hb aW
      have BW : Bx W wr.heap.size #[.int .i64 o1, .int .i64 o2, .int .i64 o3, .int .i64 o4, .string o5] 31 := hW ▸ Bx.new _ _ _
      obtain ⟨q1, q2, q3, q4, q5, q6, q7, q8⟩ := BW.d5
      by_cases h5 : 5000 < o5.size
      · have h6 : decide ((5000 : Int) < o5.size) = true := decide_eq_true (by omega)
        clear hat hs hwt hel hsm hsm2 hq
        go_wp2
        go_ret
        exact ⟨ret_bool (HX.out h5).symm, bW⟩
      · have h6 : decide ((5000 : Int) < o5.size) = false := decide_eq_false (by omega)
        have hsz : o5.size ≤ 5000 := by omega
        clear hat hs hwt hel hsm hsm2 hq h5
        go_wp2
        go_roundw
        case rel => exact ⟨k + 1, by omega, by go_num, by rw [HW.out]; go_num, HSM.out.resolve_left (by omega), bW⟩
        case measure => simp [intOf]; omega
    · obtain rfl : k = n := by omega
      have ht : l.take k = l := by rw [← HN.out, List.take_length]
      have hall : l.any (fun o => decide (5000 < o.2.2.2.2.size)) = false := by
        rw [List.any_eq_false]
        intro o ho
        obtain ⟨j, hj, rfl⟩ := List.getElem_of_mem ho
        have := hsm j hj (by have := HN.out; omega)
        simp; omega
      rw [ht]
      obtain ⟨q, hq⟩ : ∃ q, wc l = q := ⟨_, rfl⟩
      rw [hq]
      have hfar : farB l = decide (40000 < q) := by
        unfold farB
        rw [hall, hq, decide_eq_false (by have := HN.out; omega : ¬ 100 < l.length)]; simp
      have HFar := Lib.hid hfar
      have hd : decide ((100 : Int) < k) = false := decide_eq_false (by omega)
      clear hsm hq ht hall hfar
      go_wp2
      go_ret
      exact ⟨ret_bool (by rw [HFar.out]; first | rfl | (simp; omega) | simp), hb⟩
theorem far_any (B : Bs) (l : List Op5) (v : Value) (w : World) (h : CL B l v w) (hl : l.length ≤ maxLen) :
    Calls Try.prog 6 #[v] w fun e w' => e = .returned (.bool (farB l)) ∧ Below w.heap.size w w' := by
  by_cases hb : 100 < l.length
  · exact far_big B l v w h hl hb
  · exact far_small B l v w h (by omega)
theorem far_is {q : Bool} {l : List Op5} (H : Hid (farB l = q)) {B : Bs} {v : Value} {w : World} (h : CL B l v w) (hl : l.length ≤ maxLen) :
    Calls Try.prog 6 #[v] w fun e w' => e = .returned (.bool q) ∧ Below w.heap.size w w' := by
  rw [← H.out]; exact far_any B l v w h hl
end Go.Proofs.Ytegepbifbhamnaa.Dk
