/- The document's own of layer 14: own, burn, New, Start, Arm, Room. -/
import Derived.Test.YtegepbifbhamnaaDkYB
namespace Go.Proofs.Ytegepbifbhamnaa.Dk
open Go.RowKit
set_option linter.unusedVariables false
open Go.Proofs.Ytegepbifbhamnaa.Rw
open Go.Proofs.Ytegepbifbhamnaa.Da
theorem own_lower {n Bo Bo' : Nat} {l : List Do} {v : Value} {w : World} (h : OwnO n Bo l v w) (hb : Bo' ≤ Bo) : OwnO n Bo' l v w := by
  obtain ⟨css, h1, h2, h3, h4⟩ := h
  exact ⟨css, h1, h2, h3, h4.imp id fun ⟨g, cap, cur, k1, k2, k3⟩ => ⟨g, cap, cur, k1, Nat.le_trans hb k2, k3⟩⟩
def PostO (n : Nat) (d : Ds) (w : World) (e : Ending) (w' : World) : Prop := ∃ o, e = .returned (.agg (cD d.a d.b o d.c d.f d.n)) ∧ Below w.heap.size w w' ∧ OwnO n w.heap.size d.l o w'
set_option maxRecDepth 8000 in
set_option maxHeartbeats 4000000 in
theorem rOwn_any (n : Nat) (d : Ds) (v : Value) (w : World) (h : DV n d v w) (hn : n ≤ w.heap.size) (hl : d.l.length ≤ 100000) :
    Calls Try.prog 28 #[v] w (PostO n d w) := by
  obtain ⟨o, rfl, hO, hc⟩ := h
  obtain ⟨a, b, l, c, f, dn⟩ := d
  simp only at hO hl ⊢
  obtain ⟨a1, c1, rfl⟩ := hO.len
  obtain ⟨n1, hn1⟩ : ∃ q, l.length = q := ⟨_, rfl⟩
  rw [hn1] at hO hc ⊢
  obtain ⟨V, hV⟩ : ∃ Q_ : World, (w.alloc (.cells #[.string a, .string b, .slice a1 n1 c1, .int .i64 c, .int .i64 f, .bool dn] 28)).alloc (.cells #[.string ⟨#[]⟩, .string ⟨#[]⟩, .slice none 0 0, .int .i64 0, .int .i64 0, .bool false] 28) = Q_ := ⟨_, rfl⟩
  have bV : Below w.heap.size w V := hV ▸ below2 _ _ _
  obtain ⟨B0, B1⟩ : Bx V w.heap.size #[.string a, .string b, .slice a1 n1 c1, .int .i64 c, .int .i64 f, .bool dn] 28 ∧ Bx V (w.heap.size + 1) #[.string ⟨#[]⟩, .string ⟨#[]⟩, .slice none 0 0, .int .i64 0, .int .i64 0, .bool false] 28 := hV ▸ bx2 w _ _ _ _
  have hBo : (Bs.of n).le V.heap.size := ⟨by show n ≤ _; have := bV.size; omega, fun _ h => h.elim⟩
  obtain ⟨v', w2, hrun, hS, _, hbl, hkp⟩ := Own.append elemO 26 typesO hBo (by simp) (Own.made (e := eO) (T := 52) (Bs.of n) V V.heap.size (Nat.le_refl _)) ((hO.stays bV).stays (below1 V (.cells #[] 52))) (by rw [hn1] at hl; simp only [List.length_nil, hn1]; omega) (by decide)
  have hb2 : Below V.heap.size V w2 := hbl _ _ (Nat.le_refl _) (below1 V _)
  rw [List.nil_append] at hS
  replace hS := own_lower hS bV.size
  obtain ⟨a2, c2, hv'⟩ := (Own.is (by decide) (show (Bs.of n).le w.heap.size from ⟨hn, fun _ h => h.elim⟩) hS).len
  rw [hn1] at hv'
  subst hv'
  clear hbl hkp hO hc hn1
  obtain ⟨q1l, q1r, q1p, ⟨q1c0, q1c1, q1c2, q1c3, q1c4, q1c5⟩, ⟨q1f0, q1f1, q1f2, q1f3, q1f4, q1f5⟩⟩ := B0.d6
  replace B0 := B0.stays hb2
  replace B1 := B1.stays hb2
  have bw2 := nx bV hb2
  obtain ⟨q2l, q2r, q2p, ⟨q2c0, q2c1, q2c2, q2c3, q2c4, q2c5⟩, ⟨q2f0, q2f1, q2f2, q2f3, q2f4, q2f5⟩⟩ := B0.d6
  have hS0 := hS
  have hS1 := Own.keep (show (Bs.of n).le w.heap.size from ⟨hn, fun _ h => h.elim⟩) hS0 (keeps_setCell 2 (.slice a2 n1 c2) B0 (by decide) hn)
  obtain ⟨X, hX⟩ : ∃ Q_ : World, w2.setCell ⟨w.heap.size, 2, none⟩ (.slice a2 n1 c2) = Q_ := ⟨_, rfl⟩
  have bX : Below w.heap.size w X := hX ▸ (bw2).trans (low_setCell _ _ (by omega))
  replace B1 : Bx X (w.heap.size + 1) #[.string ⟨#[]⟩, .string ⟨#[]⟩, .slice none 0 0, .int .i64 0, .int .i64 0, .bool false] 28 := hX ▸ B1.set' (by omega) _ _
  replace B0 : Bx X (w.heap.size) #[.string a, .string b, .slice a2 n1 c2, .int .i64 c, .int .i64 f, .bool dn] 28 := hX ▸ (show Bx (w2.setCell ⟨w.heap.size, 2, none⟩ (.slice a2 n1 c2)) (w.heap.size) #[.string a, .string b, .slice a2 n1 c2, .int .i64 c, .int .i64 f, .bool dn] 28 from B0.set 2 (.slice a2 n1 c2))
  replace hS1 := hX ▸ hS1
  obtain ⟨q3l, q3r, q3p, ⟨q3c0, q3c1, q3c2, q3c3, q3c4, q3c5⟩, ⟨q3f0, q3f1, q3f2, q3f3, q3f4, q3f5⟩⟩ := B0.d6
  obtain ⟨q4l, q4r, q4p, ⟨q4c0, q4c1, q4c2, q4c3, q4c4, q4c5⟩, ⟨q4f0, q4f1, q4f2, q4f3, q4f4, q4f5⟩⟩ := B1.d6
  have hS2 := Own.keep (show (Bs.of n).le w.heap.size from ⟨hn, fun _ h => h.elim⟩) hS1 (keeps_setRow #[.string a, .string b, .slice a2 n1 c2, .int .i64 c, .int .i64 f, .bool dn] B1 (by decide) (by show n ≤ _; omega))
  obtain ⟨Y, hY⟩ : ∃ Q_ : World, X.setRow (w.heap.size + 1) #[.string a, .string b, .slice a2 n1 c2, .int .i64 c, .int .i64 f, .bool dn] = Q_ := ⟨_, rfl⟩
  have bY : Below w.heap.size w Y := hY ▸ (bX).trans (low_setRow _ (by omega))
  replace B0 : Bx Y (w.heap.size) #[.string a, .string b, .slice a2 n1 c2, .int .i64 c, .int .i64 f, .bool dn] 28 := hY ▸ B0.put' (by omega) _
  replace B1 : Bx Y (w.heap.size + 1) #[.string a, .string b, .slice a2 n1 c2, .int .i64 c, .int .i64 f, .bool dn] 28 := hY ▸ B1.put _
  replace hS2 := hY ▸ hS2
  obtain ⟨q5l, q5r, q5p, ⟨q5c0, q5c1, q5c2, q5c3, q5c4, q5c5⟩, ⟨q5f0, q5f1, q5f2, q5f3, q5f4, q5f5⟩⟩ := B1.d6
  go_enter Try.func28, Try.ntmps28
  go_wp2
  refine bodyPost_ret (v := .agg (cD a b (.slice a2 n1 c2) c f dn)) (ret_D1 Try.results28 _ _ rfl ?_) rfl ⟨_, rfl, bY, hS2⟩
  simp [go_sem, *]
/-- The document's burn: the disk, its slice as it was, and whether the power is on. -/
theorem rBurn_no (a b : ByteArray) (a1 : Option Addr) (n1 c1 : Nat) (c : Int) (dn : Bool) (w : World) :
    Calls Try.prog 30 #[.agg (cD a b (.slice a1 n1 c1) c 0 dn)] w fun e w' => e = .returned (.tuple #[.agg (cD a b (.slice a1 n1 c1) c 0 true), .bool false]) ∧ Below w.heap.size w w' := by
  go_enter Try.func30, Try.ntmps30
  go_wp2
  refine bodyPost_ret (v := .tuple #[.agg (cD a b (.slice a1 n1 c1) c 0 true), .bool false]) (ret_D2 Try.results30 _ _ rfl ?_) rfl ⟨rfl, below2 _ _ _⟩
  simp [go_sem]
theorem rBurn_yes {f f2 : Int} (HF : Hid (max f 0 - 1 = f2)) (h0 : f ≠ 0) (a b : ByteArray) (a1 : Option Addr) (n1 c1 : Nat) (c : Int) (dn : Bool) (w : World) (hf : -1 ≤ f ∧ f ≤ 9223372036854775807) :
    Calls Try.prog 30 #[.agg (cD a b (.slice a1 n1 c1) c f dn)] w fun e w' => e = .returned (.tuple #[.agg (cD a b (.slice a1 n1 c1) c f2 dn), .bool true]) ∧ Below w.heap.size w w' := by
  have h1 : (f == 0) = false := by simpa using h0
  go_enter Try.func30, Try.ntmps30
  go_wp2
  all_goals
    refine bodyPost_ret (v := .tuple #[.agg (cD a b (.slice a1 n1 c1) c f2 dn), .bool true]) (ret_D2 Try.results30 _ _ rfl ?_) rfl ⟨rfl, below2 _ _ _⟩
    rw [← HF.out]; simp [go_sem]; omega
theorem rNew_any (n : Nat) (k : Int) (w : World) : Calls Try.prog 9 #[.int .i64 k] w (PostD n (newP k) w) := by
  obtain ⟨m, hm⟩ : ∃ q, lim k 60000 = q := ⟨_, rfl⟩
  have HM := Lib.hid (show newP k = ⟨nul, nul, [], m, -1, false⟩ by unfold newP; rw [hm])
  have HL := Lib.hid hm
  clear hm
  go_enter Try.func9, Try.ntmps9
  go_wp2
  all_goals
    refine bodyPost_ret (v := .agg (cD nul nul (.slice none 0 0) m (-1) false)) (ret_D1 Try.results9 _ _ rfl ?_) rfl ?_
    · rw [← HL.out]; simp [go_sem, nul, lim]; omega
    · rw [HM.out]; exact ⟨_, rfl, below1 _ _, DV.mk (Is.nil _ _ _ _) (Nat.le_refl 0)⟩
end Go.Proofs.Ytegepbifbhamnaa.Dk
