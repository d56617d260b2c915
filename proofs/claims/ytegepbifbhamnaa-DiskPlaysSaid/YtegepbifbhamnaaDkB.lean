/- Package disk as it landed: limit, isZone, check, burn, Start, Arm, Room, New. -/
import Derived.Test.YtegepbifbhamnaaDkA
namespace Go.Proofs.Ytegepbifbhamnaa.Dk
open Go.RowKit
set_option linter.unusedVariables false
open Go.Proofs.Ytegepbifbhamnaa.Rw
open Go.Proofs.Ytegepbifbhamnaa.Da
theorem limit_any (n m : Int) (w : World) : Calls Try.prog 37 #[.int .i64 n, .int .i64 m] w fun e w' => e = .returned (.int .i64 (lim n m)) ∧ w = w' := by
  go_enter Try.func37, Try.ntmps37
  go_wp2
  all_goals (go_ret; exact ⟨ret_int (by unfold lim; omega), rfl⟩)
theorem isZone_any (z : Int) (w : World) : Calls Try.prog 38 #[.int .i64 z] w fun e w' => e = .returned (.bool (zoneB z)) ∧ w = w' := by
  have HZ := Lib.hid (show zoneB z = (z == 0 || z == 1) from rfl)
  by_cases h0 : z = 0
  · subst h0
    go_enter Try.func38, Try.ntmps38
    go_wp2
    go_ret
    exact ⟨ret_bool (by rw [HZ.out]; rfl), rfl⟩
  · have h1 : (z == 0) = false := by simpa using h0
    by_cases h2 : z = 1
    · subst h2
      go_enter Try.func38, Try.ntmps38
      go_wp2
      go_ret
      exact ⟨ret_bool (by rw [HZ.out]; rfl), rfl⟩
    · have h3 : (z == 1) = false := by simpa using h2
      go_enter Try.func38, Try.ntmps38
      go_wp2
      go_ret
      exact ⟨ret_bool (by rw [HZ.out, h1, h3]; rfl), rfl⟩
theorem zone_cases {z : Int} (h : zoneB z = true) : z = 0 ∨ z = 1 := by simpa [zoneB] using h
theorem isZone_is {z : Int} {q : Bool} (H : Hid (zoneB z = q)) (w : World) : Calls Try.prog 38 #[.int .i64 z] w fun e w' => e = .returned (.bool q) ∧ w = w' := by
  rw [← H.out]; exact isZone_any z w
theorem check_any (d : Ds) (o : Value) (z : Int) (w : World) : Calls Try.prog 32 #[.agg (cD d.a d.b o d.c d.f d.n), .int .i64 z] w fun e w' => e = .returned (.int .i64 (readE d z)) ∧ Below w.heap.size w w' := by
  obtain ⟨a, b, l, c, f, dn⟩ := d
  simp only
  have HE := Lib.hid (show readE ⟨a, b, l, c, f, dn⟩ z = if dn then 15 else if zoneB z then 0 else 1 from rfl)
  cases dn
  · obtain ⟨q, hq⟩ : ∃ q, zoneB z = q := ⟨_, rfl⟩
    have HQ := Lib.hid hq
    clear hq
    cases q
    all_goals
      go_enter Try.func32, Try.ntmps32
      go_wp2_with fail
      refine (isZone_is HQ _).mono ?_
      rintro e w1 ⟨rfl, rfl⟩
      go_wp2
      go_ret
      exact ⟨ret_int (by rw [HE.out, HQ.out]; rfl), below1 _ _⟩
  · go_enter Try.func32, Try.ntmps32
    go_wp2
    go_ret
    exact ⟨ret_int (by rw [HE.out]; rfl), below1 _ _⟩
theorem check_is {d : Ds} {z q : Int} (H : Hid (readE d z = q)) (o : Value) (w : World) : Calls Try.prog 32 #[.agg (cD d.a d.b o d.c d.f d.n), .int .i64 z] w fun e w' => e = .returned (.int .i64 q) ∧ Below w.heap.size w w' := by
  rw [← H.out]; exact check_any d o z w
set_option maxHeartbeats 1000000 in
theorem burn_any (n : Nat) (d : Ds) (v : Value) (w : World) (h : DV n d v w) (hf : -1 ≤ d.f ∧ d.f ≤ 9223372036854775807) : Calls Try.prog 36 #[v] w (Post2 n (burnP d) w) := by
  obtain ⟨o, rfl, hO, hc⟩ := h
  obtain ⟨a, b, l, c, f, dn⟩ := d
  simp only at hf hO ⊢
  obtain ⟨a1, c1, rfl⟩ := hO.len
  obtain ⟨n1, hn1⟩ : ∃ q, l.length = q := ⟨_, rfl⟩
  rw [hn1] at hO hc ⊢
  have HH := Lib.hid (show ∀ u, Below w.heap.size w u → OL n l (.slice a1 n1 c1) u from fun u hu => hO.stays hu)
  have HC := Lib.hid hc
  obtain ⟨p, hp⟩ : ∃ p, burnP ⟨a, b, l, c, f, dn⟩ = p := ⟨_, rfl⟩
  rw [hp]
  have HP := Lib.hid hp
  clear hO hc hn1 hp
  by_cases h0 : f = 0
  · subst h0
    go_enter Try.func36, Try.ntmps36
    go_wp2
    refine bodyPost_ret (v := .tuple #[.agg (cD a b (.slice a1 n1 c1) c 0 true), .int .i64 15]) (ret_D2 Try.results36 _ _ rfl ?c1) rfl ?_
    case c1 => simp [go_sem]
    · rw [← HP.out]; exact ⟨_, rfl, below2 _ _ _, DV.mk (HH.out _ (below2 _ _ _)) HC.out⟩
  · have h1 : (f == 0) = false := by simpa using h0
    have HM : Hid (burnP ⟨a, b, l, c, f, dn⟩ = (⟨a, b, l, c, max f 0 - 1, dn⟩, 0)) := Lib.hid (by simp only [burnP]; rw [if_neg h0])
    go_enter Try.func36, Try.ntmps36
    go_wp2
    all_goals
      refine bodyPost_ret (v := .tuple #[.agg (cD a b (.slice a1 n1 c1) c (max f 0 - 1) dn), .int .i64 0]) (ret_D2 Try.results36 _ _ rfl ?_) rfl ?_
      · simp [go_sem]; omega
      · rw [← HP.out, HM.out]; exact ⟨_, rfl, below2 _ _ _, DV.mk (HH.out _ (below2 _ _ _)) HC.out⟩
end Go.Proofs.Ytegepbifbhamnaa.Dk
