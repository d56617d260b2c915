/- Package session as it landed: slices.Grow of nothing, slices.Concat of three lists of sessions. -/
import Derived.Test.YtigoemecphilkaaSeA
import Derived.Test.YtigoemecphilkaaGz
import Derived.Test.YtigoemecphilkaaSub
namespace Go.Proofs.Ytigoemecphilkaa.Se
open Go.RowKit
set_option linter.unusedVariables false
open Go.Proofs.Ytigoemecphilkaa.Rw
open Go.Proofs.Ytigoemecphilkaa.Da
open Go.Proofs.Ytigoemecphilkaa.Ro
def Post (F : Value → World → Prop) (w : World) (e : Ending) (w' : World) : Prop := ∃ v, e = .returned v ∧ Below w.heap.size w w' ∧ F v w'
/-- A list that is no longer than its capacity. -/
def NC (B : Bs) (l : List Sn) (v : Value) (w : World) : Prop := NL B l v w ∧ capOk v
theorem NC.stays {B : Bs} {l : List Sn} {v : Value} {w w' : World} (h : NC B l v w) (hb : Below w.heap.size w w') : NC B l v w' := ⟨Is.stays eS 42 h.1 hb, h.2⟩
abbrev OwnN (B : Bs) (Bo : Nat) (l : List Sn) (v : Value) (w : World) : Prop := Own eS 42 B Bo l v w
def fS : Flat Sn := ⟨7, cellsS, fun _ => rfl, fun o u hu => by simp [cellsS] at hu; rcases hu with rfl | rfl | rfl | rfl | rfl | rfl | rfl <;> rfl⟩
theorem elemFS : Elem Try.prog 22 42 fS.k 56 := elemS
theorem zero7 (w : World) : (zeroValue 42).run Try.prog w = .ok (.agg #[.int .i64 0, .int .i64 0, .int .i64 0, .int .i64 0, .int .i64 0, .int .i64 0, .int .i64 0]) w := by kernel_rfl
/-- An empty list of the call's own, with room. -/
theorem own_room {B : Bs} {Bo g c : Nat} {hs : List Sn} {w : World} (h : Row fS 42 g c hs w) (hB : Bo ≤ g) (hc : c ≤ maxLen) : OwnN B Bo [] (.slice (some ⟨g, 0, none⟩) 0 c) w := by
  have := (h.take 0).owns hB hc
  rw [List.take_zero] at this
  exact ⟨[], rfl, by simp, this⟩
set_option maxRecDepth 8000 in
set_option maxHeartbeats 1000000 in
theorem grow_any (B : Bs) (n : Nat) (hn : n ≤ 4000000) (w : World) : Calls Try.prog 22 #[.slice none 0 0, .int .i64 n] w (Post (OwnN B w.heap.size []) w) := by
  by_cases h0 : n = 0
  · subst h0
    go_enter Try.func22, Try.ntmps22
    go_wp2
    go_ret
    exact ⟨_, rfl, Below.refl _ _, Own.nil _ _ _⟩
  · have h1 : (0 : Int) < n := by omega
    obtain ⟨c2, w2, hrun, hr2, hb2, hc2⟩ := growz_nil (e := fS) (u := 3) (ik := .i64) elemFS Try.underlying3 22 zero7 (x0 := (z7 : Sn)) rfl (w := w) (m := n) (by omega) (by omega) (by decide)
    have HO := Lib.hid (own_room (B := B) hr2 (Nat.le_refl _) hc2)
    have k2 : (0 : Int) ≤ c2 := by omega
    clear hr2 hc2 h0
    go_enter Try.func22, Try.ntmps22
    go_wp2
    go_ret
    exact ⟨_, rfl, hb2, HO.out⟩
set_option maxRecDepth 8000 in
set_option maxHeartbeats 2000000 in
theorem concat_any (B : Bs) (l m q : List Sn) (x y z : Value) (p : Nat) (w : World) (hx : NL B l x w) (hy : NL B m y w) (hz : NL B q z w) (hp : p < w.heap.size) (c0 : w.cell? ⟨p, 0, none⟩ = some x) (c1 : w.cell? ⟨p, 1, none⟩ = some y) (c2 : w.cell? ⟨p, 2, none⟩ = some z) (hB : B.le w.heap.size) (h1 : l.length ≤ 1000000) (h2 : m.length ≤ 1000000) (h3 : q.length ≤ 1000000) :
    Calls Try.prog 18 #[.slice (some ⟨p, 0, none⟩) 3 3] w (Post (NC B (l ++ (m ++ q))) w) := by
  obtain ⟨a1, k1, rfl⟩ := hx.len
  obtain ⟨a2, k2, rfl⟩ := hy.len
  obtain ⟨a3, k3, rfl⟩ := hz.len
  obtain ⟨n1, hn1⟩ : ∃ n, l.length = n := ⟨_, rfl⟩
  obtain ⟨n2, hn2⟩ : ∃ n, m.length = n := ⟨_, rfl⟩
  obtain ⟨n3, hn3⟩ : ∃ n, q.length = n := ⟨_, rfl⟩
  rw [hn1] at hx c0 h1
  rw [hn2] at hy c1 h2
  rw [hn3] at hz c2 h3
  have HX := Lib.hid hx
  have HY := Lib.hid hy
  have HZ := Lib.hid hz
  have HB := Lib.hid hB
  have HN1 := Lib.hid hn1
  have HN2 := Lib.hid hn2
  have HN3 := Lib.hid hn3
  clear hx hy hz hn1 hn2 hn3
  go_enter Try.func18, Try.ntmps18
  go_wp2
  go_loopw [3, 11] (fun s i wr => w = wr ∧ ((i = .int .i64 0 ∧ s = .int .i64 0) ∨ (i = .int .i64 1 ∧ s = .int .i64 (n1 : Nat)) ∨ (i = .int .i64 2 ∧ s = .int .i64 ((n1 + n2 : Nat) : Int)) ∨ (i = .int .i64 3 ∧ s = .int .i64 ((n1 + n2 + n3 : Nat) : Int)))) (fun _ i _ => 3 - (intOf i).toNat)
  case atStart => exact ⟨rfl, .inl ⟨rfl, rfl⟩⟩
  case round =>
    obtain ⟨rfl, ⟨rfl, rfl⟩ | ⟨rfl, rfl⟩ | ⟨rfl, rfl⟩ | ⟨rfl, rfl⟩⟩ := hrel
    · go_wp2
      go_roundw
      case rel => exact ⟨trivial, .inr (.inl ⟨rfl, by go_num⟩)⟩
      case measure => simp [intOf]
    · go_wp2
      go_roundw
      case rel => exact ⟨trivial, .inr (.inr (.inl ⟨rfl, by push_cast; go_num⟩))⟩
      case measure => simp [intOf]
    · go_wp2
      go_roundw
      case rel => exact ⟨trivial, .inr (.inr (.inr ⟨rfl, by push_cast; go_num⟩))⟩
      case measure => simp [intOf]
    · go_wp2_with fail
      refine (grow_any B (n1 + n2 + n3) (by omega) _).mono ?_
      rintro e w1 ⟨v1, rfl, hb1, ho1⟩
      have HO1 := Lib.hid ho1
      obtain ⟨a9, c9, rfl⟩ := (HO1.out.is (by decide) HB.out).len
      clear ho1
      go_wp2
      go_loopw [6, 27] (fun t i wr => ∃ zs, OwnN B w.heap.size zs t wr ∧ Below w.heap.size w wr ∧ ((i = .int .i64 0 ∧ [] = zs) ∨ (i = .int .i64 1 ∧ l = zs) ∨ (i = .int .i64 2 ∧ l ++ m = zs) ∨ (i = .int .i64 3 ∧ l ++ m ++ q = zs))) (fun _ i _ => 3 - (intOf i).toNat)
      case atStart => exact ⟨[], HO1.out, hb1, .inl ⟨rfl, rfl⟩⟩
      case round =>
        obtain ⟨zs, ho9, hb, hcs⟩ := hrel
        obtain ⟨a8, c8, rfl⟩ := (ho9.is (by decide) HB.out).len
        obtain ⟨nz, hnz⟩ : ∃ n, n = zs.length := ⟨_, rfl⟩
        rw [← hnz] at ho9 ⊢
        have HO9 := Lib.hid ho9
        have HNz := Lib.hid hnz
        clear ho9 hnz
        have hpw : p < wr.heap.size := Nat.lt_of_lt_of_le hp hb.size
        obtain ⟨rfl, rfl⟩ | ⟨rfl, rfl⟩ | ⟨rfl, rfl⟩ | ⟨rfl, rfl⟩ := hcs
        · obtain ⟨v', w', hrun, hown', _, hbl, _⟩ := Own.append elemS 22 typesS HB.out hb.size HO9.out (Is.stays eS 42 HX.out hb) (by simp only [List.length_nil, HN1.out]; omega) (by omega)
          have HR := Lib.hid (show OwnN B w.heap.size ([] ++ l) v' w' ∧ Below w.heap.size w w' from ⟨hown', hbl _ _ (Nat.le_refl _) hb⟩)
          obtain ⟨a7, c7, rfl⟩ := (hown'.is (by decide) HB.out).len
          have d0 := (hb.cell (p := ⟨p, 0, none⟩) hp).trans c0
          clear hown' hbl
          go_wp2
          go_roundw
          case rel => exact ⟨_, HR.out.1, HR.out.2, .inr (.inl ⟨rfl, rfl⟩)⟩
          case measure => simp [intOf]
        · obtain ⟨v', w', hrun, hown', _, hbl, _⟩ := Own.append elemS 22 typesS HB.out hb.size HO9.out (Is.stays eS 42 HY.out hb) (by rw [HN1.out, HN2.out]; omega) (by omega)
          have HR := Lib.hid (show OwnN B w.heap.size (l ++ m) v' w' ∧ Below w.heap.size w w' from ⟨hown', hbl _ _ (Nat.le_refl _) hb⟩)
          obtain ⟨a7, c7, rfl⟩ := (hown'.is (by decide) HB.out).len
          have d0 := (hb.cell (p := ⟨p, 1, none⟩) hp).trans c1
          clear hown' hbl
          go_wp2
          go_roundw
          case rel => exact ⟨l ++ m, by rw [← List.length_append]; exact HR.out.1, HR.out.2, .inr (.inr (.inl ⟨rfl, rfl⟩))⟩
          case measure => simp [intOf]
        · obtain ⟨v', w', hrun, hown', _, hbl, _⟩ := Own.append elemS 22 typesS HB.out hb.size HO9.out (Is.stays eS 42 HZ.out hb) (by simp only [List.length_append, HN1.out, HN2.out, HN3.out]; omega) (by omega)
          have HR := Lib.hid (show OwnN B w.heap.size (l ++ m ++ q) v' w' ∧ Below w.heap.size w w' from ⟨hown', hbl _ _ (Nat.le_refl _) hb⟩)
          obtain ⟨a7, c7, rfl⟩ := (hown'.is (by decide) HB.out).len
          have d0 := (hb.cell (p := ⟨p, 2, none⟩) hp).trans c2
          clear hown' hbl
          go_wp2
          go_roundw
          case rel => exact ⟨l ++ m ++ q, by rw [show l.length + (m.length + q.length) = (l ++ m ++ q).length by simp]; exact HR.out.1, HR.out.2, .inr (.inr (.inr ⟨rfl, rfl⟩))⟩
          case measure => simp [intOf]
        · have HF := Lib.hid (show NC B (l ++ (m ++ q)) (.slice a8 nz c8) wr from by rw [← List.append_assoc]; exact ⟨HO9.out.is (by decide) HB.out, HO9.out.cap⟩)
          go_wp2
          go_ret
          exact ⟨_, rfl, hb, HF.out⟩
end Go.Proofs.Ytigoemecphilkaa.Se
