/- Package disk as it landed: Start, Arm, Room, New. -/
import Derived.Test.YtegepbifbhamnaaDkB
namespace Go.Proofs.Ytegepbifbhamnaa.Dk
open Go.RowKit
set_option linter.unusedVariables false
open Go.Proofs.Ytegepbifbhamnaa.Rw
open Go.Proofs.Ytegepbifbhamnaa.Da
set_option maxHeartbeats 1000000
theorem start_any (n : Nat) (d : Ds) (v : Value) (w : World) (h : DV n d v w) : Calls Try.prog 21 #[v] w (PostD n (staP d) w) := by
  obtain ⟨o, rfl, hO, hc⟩ := h
  obtain ⟨a, b, l, c, f, dn⟩ := d
  simp only at hO ⊢
  obtain ⟨a1, c1, rfl⟩ := hO.len
  obtain ⟨n1, hn1⟩ : ∃ q, l.length = q := ⟨_, rfl⟩
  rw [hn1] at hO hc ⊢
  have HH := Lib.hid (show ∀ u, Below w.heap.size w u → OL n l (.slice a1 n1 c1) u from fun u hu => hO.stays hu)
  have HC := Lib.hid hc
  clear hO hc hn1
  go_enter Try.func21, Try.ntmps21
  go_wp2
  refine bodyPost_ret (v := .agg (cD a b (.slice a1 n1 c1) c f false)) (ret_D1 Try.results21 _ _ rfl ?c1) rfl ?_
  case c1 => simp [go_sem]
  exact ⟨_, rfl, below2 _ _ _, DV.mk (HH.out _ (below2 _ _ _)) HC.out⟩
theorem arm_any (n : Nat) (d : Ds) (v : Value) (k : Int) (w : World) (h : DV n d v w) : Calls Try.prog 27 #[v, .int .i64 k] w (PostD n (armP d k) w) := by
  obtain ⟨o, rfl, hO, hc⟩ := h
  obtain ⟨a, b, l, c, f, dn⟩ := d
  simp only at hO ⊢
  obtain ⟨a1, c1, rfl⟩ := hO.len
  obtain ⟨n1, hn1⟩ : ∃ q, l.length = q := ⟨_, rfl⟩
  rw [hn1] at hO hc ⊢
  have HH := Lib.hid (show ∀ u, Below w.heap.size w u → OL n l (.slice a1 n1 c1) u from fun u hu => hO.stays hu)
  have HC := Lib.hid hc
  clear hO hc hn1
  obtain ⟨m, hm⟩ : ∃ m, max k (-1) = m := ⟨_, rfl⟩
  have HM := Lib.hid (show armP ⟨a, b, l, c, f, dn⟩ k = ⟨a, b, l, c, m, dn⟩ by unfold armP; rw [hm])
  have HM2 := Lib.hid hm
  clear hm
  go_enter Try.func27, Try.ntmps27
  go_wp2
  all_goals
    refine bodyPost_ret (v := .agg (cD a b (.slice a1 n1 c1) c m dn)) (ret_D1 Try.results27 _ _ rfl ?_) rfl ?_
    · rw [← HM2.out]; simp [go_sem]; omega
    · rw [HM.out]; exact ⟨_, rfl, below2 _ _ _, DV.mk (HH.out _ (below2 _ _ _)) HC.out⟩
theorem room_any (n : Nat) (d : Ds) (v : Value) (k : Int) (w : World) (h : DV n d v w) : Calls Try.prog 25 #[v, .int .i64 k] w (PostD n (rooP d k) w) := by
  obtain ⟨o, rfl, hO, hc⟩ := h
  obtain ⟨a, b, l, c, f, dn⟩ := d
  simp only at hO ⊢
  obtain ⟨a1, c1, rfl⟩ := hO.len
  obtain ⟨n1, hn1⟩ : ∃ q, l.length = q := ⟨_, rfl⟩
  rw [hn1] at hO hc ⊢
  have HH := Lib.hid (show ∀ u, Below w.heap.size w u → OL n l (.slice a1 n1 c1) u from fun u hu => hO.stays hu)
  have HC := Lib.hid hc
  clear hO hc hn1
  go_enter Try.func25, Try.ntmps25
  go_wp2_with fail
  refine (limit_any k 60000 _).mono ?_
  rintro e w1 ⟨rfl, rfl⟩
  obtain ⟨m, hm⟩ : ∃ m, lim k 60000 = m := ⟨_, rfl⟩
  have HM := Lib.hid (show rooP ⟨a, b, l, c, f, dn⟩ k = ⟨a, b, l, m, f, dn⟩ by unfold rooP; rw [hm])
  rw [hm]
  clear hm
  go_wp2
  refine bodyPost_ret (v := .agg (cD a b (.slice a1 n1 c1) m f dn)) (ret_D1 Try.results25 _ _ rfl ?c1) rfl ?_
  case c1 => simp [go_sem]
  rw [HM.out]; exact ⟨_, rfl, below2 _ _ _, DV.mk (HH.out _ (below2 _ _ _)) HC.out⟩
theorem new_any (n : Nat) (k : Int) (w : World) (hn : n ≤ w.heap.size) : Calls Try.prog 8 #[.int .i64 k] w (PostD n (newP k) w) := by
  have HD := Lib.hid (show ∀ u, DV n ⟨nul, nul, [], 0, -1, false⟩ (.agg #[.string ⟨#[]⟩, .string ⟨#[]⟩, .slice none 0 0, .int .i64 0, .int .i64 (-1), .bool false]) u from fun u => ⟨_, rfl, Is.nil _ _ _ _, Nat.le_refl 0⟩)
  go_enter Try.func8, Try.ntmps8
  go_wp2_with fail
  refine (room_any n _ _ k _ (HD.out _)).mono ?_
  rintro e w1 ⟨v1, rfl, hb1, o1, rfl, hO, hc⟩
  obtain ⟨m, hm⟩ : ∃ m, lim k 60000 = m := ⟨_, rfl⟩
  have HM := Lib.hid (show newP k = ⟨nul, nul, [], m, -1, false⟩ by unfold newP; rw [hm])
  simp only [rooP] at hO hc ⊢
  rw [hm]
  obtain ⟨a1, c1, rfl⟩ := hO.len
  simp only [List.length_nil] at hO hc ⊢
  have B0 : Bx w1 w.heap.size #[.string ⟨#[]⟩, .string ⟨#[]⟩, .slice none 0 0, .int .i64 0, .int .i64 0, .bool false] 28 := (Bx.new w _ _).stays hb1
  obtain ⟨X, hX⟩ : ∃ X, w1.setRow w.heap.size #[.string nul, .string nul, .slice a1 0 c1, .int .i64 m, .int .i64 (-1), .bool false] = X := ⟨_, rfl⟩
  have bX : Below w.heap.size w X := hX ▸ (nx (below1 _ _) hb1).trans (low_setRow _ (Nat.le_refl _))
  have BX : Bx X w.heap.size #[.string nul, .string nul, .slice a1 0 c1, .int .i64 m, .int .i64 (-1), .bool false] 28 := hX ▸ B0.put _
  have HO := Lib.hid (show OL n [] (.slice a1 0 c1) X from hX ▸ hO.keep (keeps_setRow _ B0 (by decide) hn))
  have HC := Lib.hid hc
  have HX := Lib.hid BX
  obtain ⟨l0, _, p0, _⟩ := B0.d6
  obtain ⟨_, r1, _⟩ := BX.d6
  clear hO hc B0 BX hm
  go_wp2
  refine bodyPost_ret (v := .agg (cD nul nul (.slice a1 0 c1) m (-1) false)) (ret_D1 Try.results8 _ _ rfl ?c1) rfl ?_
  case c1 => simp [go_sem, r1]
  rw [HM.out]
  exact ⟨_, rfl, bX, DV.mk HO.out HC.out⟩
end Go.Proofs.Ytegepbifbhamnaa.Dk
