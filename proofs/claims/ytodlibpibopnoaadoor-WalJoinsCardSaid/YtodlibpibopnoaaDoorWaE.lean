/- Of the statements of layer 15: far. -/
import Derived.Test.YtodlibpibopnoaaDoorWaD
namespace Go.Proofs.YtodlibpibopnoaaDoor.Wa
open Go.RowKit
set_option linter.unusedVariables false
open Go.Proofs.YtodlibpibopnoaaDoor.Rw
open Go.Proofs.YtodlibpibopnoaaDoor.Da
/-- The bytes of the texts. -/
def tw : List ByteArray → Nat
  | [] => 0
  | x :: l => x.size + tw l
theorem tw_append (l m : List ByteArray) : tw (l ++ m) = tw l + tw m := by
  induction l with
  | nil => simp [tw]
  | cons x l ih => rw [List.cons_append, tw, tw, ih]; omega
theorem tw_snoc {l : List ByteArray} {k : Nat} (h : k < l.length) : tw (l.take (k + 1)) = tw (l.take k) + l[k].size := by
  rw [List.take_succ_eq_append_getElem h, tw_append]; simp [tw]
theorem wl_tw (l : List ByteArray) : wl l = tw l + 6 * l.length := by
  induction l with
  | nil => rfl
  | cons x l ih => rw [wl, tw, ih, List.length_cons]; omega
def farB (l : List ByteArray) : Bool := l.any (fun x => decide (3000 < x.size)) || decide (100 < l.length) || decide (30000 < tw l)
/-- What is not far. -/
theorem far_no {l : List ByteArray} (h : farB l = false) : (∀ x ∈ l, x.size ≤ 3000) ∧ l.length ≤ 100 ∧ tw l ≤ 30000 := by
  unfold farB at h
  simp only [Bool.or_eq_false_iff, decide_eq_false_iff_not, List.any_eq_false, decide_eq_true_eq] at h
  exact ⟨fun x hx => by have := h.1.1 x hx; omega, by omega, by omega⟩
theorem any_true {l : List ByteArray} {k : Nat} {hk : k < l.length} (h : 3000 < l[k].size) : farB l = true := by
  have : l.any (fun o => decide (3000 < o.size)) = true := List.any_eq_true.2 ⟨l[k], List.getElem_mem hk, by simpa using h⟩
  simp [farB, this]
set_option maxRecDepth 8000 in
set_option maxHeartbeats 4000000 in
theorem far_big (q : Nat) (l : List ByteArray) (v : Value) (w : World) (h : TL q l v w) (hl : l.length ≤ maxLen) (hbig : 100 < l.length) :
    Calls Tryd.prog 13 #[v] w fun e w' => e = .returned (.bool (farB l)) ∧ Below w.heap.size w w' := by
  unfold maxLen at hl
  obtain ⟨a1, c1, rfl⟩ := h.len
  obtain ⟨n, hn⟩ : ∃ n, l.length = n := ⟨_, rfl⟩
  have HF := Lib.hid (show 100 < n → farB l = true from fun h => by have : 100 < l.length := by omega
                                                                    simp [farB, this])
  rw [hn] at hl hbig h ⊢
  have HN := Lib.hid hn
  have HE := Lib.hid h
  clear hn h
  go_enter Tryd.func13, Tryd.ntmps13
  go_wp2
  go_loopw [3, 8] (fun s i wr => ∃ k : Nat, ∃ x : Int, k ≤ n ∧ i = .int .i64 k ∧ s = .int .i64 x ∧ w = wr) (fun _ i _ => n - (intOf i).toNat)
  case atStart => exact ⟨0, 0, Nat.zero_le _, rfl, rfl, rfl⟩
  case round =>
    obtain ⟨k, x, hk, rfl, rfl, rfl⟩ := hrel
    by_cases hlt : k < n
    · have hlt2 : (k : Int) < n := by omega
      have hkl : k < l.length := by rw [HN.out]; exact hlt
      obtain ⟨b3, o3, c3, e, hc, hbb⟩ := TL.get HE.out (Below.refl _ _) hkl
      rw [HN.out] at e
      simp only [Value.slice.injEq] at e
      obtain ⟨rfl, -, rfl⟩ := e
      have hel := fun h1 => any_true (l := l) (k := k) (hk := hkl) h1
      obtain ⟨z, hz⟩ : ∃ z, l[k] = z := ⟨_, rfl⟩
      rw [hz] at hc hel
      have HX := Lib.hid hel
      clear hel hz
      by_cases h5 : 3000 < z.size
      · have h6 : decide ((3000 : Int) < z.size) = true := decide_eq_true (by omega)
        go_wp2
        go_ret
        exact ⟨ret_bool (HX.out h5).symm, Below.refl _ _⟩
      · have h6 : decide ((3000 : Int) < z.size) = false := decide_eq_false (by omega)
        go_wp2
        go_roundw
        case rel => exact ⟨k + 1, _, by omega, by go_num, rfl, trivial⟩
        case measure => simp [intOf]; omega
    · obtain rfl : k = n := by omega
      have hd : decide ((100 : Int) < k) = true := decide_eq_true (by omega)
      go_wp2
      go_ret
      exact ⟨ret_bool (HF.out (by omega)).symm, Below.refl _ _⟩
set_option maxRecDepth 8000 in
set_option maxHeartbeats 4000000 in
theorem far_small (q : Nat) (l : List ByteArray) (v : Value) (w : World) (h : TL q l v w) (hl : l.length ≤ 100) :
    Calls Tryd.prog 13 #[v] w fun e w' => e = .returned (.bool (farB l)) ∧ Below w.heap.size w w' := by
  obtain ⟨a1, c1, rfl⟩ := h.len
  obtain ⟨n, hn⟩ : ∃ n, l.length = n := ⟨_, rfl⟩
  rw [hn] at hl h ⊢
  have HN := Lib.hid hn
  have HE := Lib.hid h
  clear hn h
  go_enter Tryd.func13, Tryd.ntmps13
  go_wp2
  go_loopw [3, 8] (fun s i wr => ∃ k : Nat, k ≤ n ∧ i = .int .i64 k ∧ s = .int .i64 (tw (l.take k) : Nat) ∧ (∀ j (hj : j < l.length), j < k → l[j].size ≤ 3000) ∧ w = wr) (fun _ i _ => n - (intOf i).toNat)
  case atStart => exact ⟨0, Nat.zero_le _, rfl, by simp [tw], fun j _ h => by omega, rfl⟩
  case round =>
    obtain ⟨k, hk, rfl, rfl, hsm, rfl⟩ := hrel
    by_cases hlt : k < n
    · have hlt2 : (k : Int) < n := by omega
      have hkl : k < l.length := by rw [HN.out]; exact hlt
      obtain ⟨b3, o3, c3, e, hc, hbb⟩ := TL.get HE.out (Below.refl _ _) hkl
      rw [HN.out] at e
      simp only [Value.slice.injEq] at e
      obtain ⟨rfl, -, rfl⟩ := e
      have hel := fun h1 => any_true (l := l) (k := k) (hk := hkl) h1
      have hwt := tw_snoc hkl
      obtain ⟨z, hz⟩ : ∃ z, l[k] = z := ⟨_, rfl⟩
      rw [hz] at hc hel hwt
      have hsm2 : 3000 < z.size ∨ (∀ j (hj : j < l.length), j < k + 1 → l[j].size ≤ 3000) := by
        by_cases h9 : 3000 < z.size
        · exact .inl h9
        · refine .inr fun j hj hjk => ?_
          by_cases e : j = k
          · subst e; rw [hz]; omega
          · exact hsm j hj (by omega)
      have hws : tw (l.take k) ≤ 3000 * k := by
        have h9 : ∀ m, m ≤ k → tw (l.take m) ≤ 3000 * m := by
          intro m
          induction m with
          | zero => intro _; simp [tw]
          | succ m ih =>
            intro hm
            rw [tw_snoc (by omega)]
            have := ih (by omega)
            have := hsm m (by omega) (by omega)
            omega
        exact h9 k (Nat.le_refl _)
      obtain ⟨u, hu⟩ : ∃ u, tw (l.take k) = u := ⟨_, rfl⟩
      rw [hu] at hwt hws ⊢
      have HW := Lib.hid hwt
      have HSM := Lib.hid hsm2
      have HX := Lib.hid hel
      clear hel hz hwt hsm hsm2 hu
      by_cases h5 : 3000 < z.size
      · have h6 : decide ((3000 : Int) < z.size) = true := decide_eq_true (by omega)
        go_wp2
        go_ret
        exact ⟨ret_bool (HX.out h5).symm, Below.refl _ _⟩
      · have h6 : decide ((3000 : Int) < z.size) = false := decide_eq_false (by omega)
        have hsz : z.size ≤ 3000 := by omega
        clear h5
        go_wp2
        go_roundw
        case rel => exact ⟨k + 1, by omega, by go_num, by rw [HW.out]; go_num, HSM.out.resolve_left (by omega), trivial⟩
        case measure => simp [intOf]; omega
    · obtain rfl : k = n := by omega
      have ht : l.take k = l := by rw [← HN.out, List.take_length]
      have hall : l.any (fun o => decide (3000 < o.size)) = false := by
        rw [List.any_eq_false]
        intro o ho
        obtain ⟨j, hj, rfl⟩ := List.getElem_of_mem ho
        have := hsm j hj (by have := HN.out; omega)
        simp; omega
      rw [ht]
      obtain ⟨u, hu⟩ : ∃ u, tw l = u := ⟨_, rfl⟩
      rw [hu]
      have hfar : farB l = decide (30000 < u) := by
        unfold farB
        rw [hall, hu, decide_eq_false (by have := HN.out; omega : ¬ 100 < l.length)]; simp
      have HFar := Lib.hid hfar
      have hd : decide ((100 : Int) < k) = false := decide_eq_false (by omega)
      clear hsm hu ht hall hfar
      go_wp2
      go_ret
      exact ⟨ret_bool (by rw [HFar.out]; first | rfl | (simp; omega) | simp), Below.refl _ _⟩
theorem far_is {q : Bool} {l : List ByteArray} (H : Hid (farB l = q)) {n : Nat} {v : Value} {w : World} (h : TL n l v w) (hl : l.length ≤ maxLen) :
    Calls Tryd.prog 13 #[v] w fun e w' => e = .returned (.bool q) ∧ Below w.heap.size w w' := by
  rw [← H.out]
  by_cases hb : 100 < l.length
  · exact far_big n l v w h hl hb
  · exact far_small n l v w h (by omega)
end Go.Proofs.YtodlibpibopnoaaDoor.Wa
