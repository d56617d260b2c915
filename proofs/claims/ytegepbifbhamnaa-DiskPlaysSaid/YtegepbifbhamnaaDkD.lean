/- Package disk as it landed: slices.Grow of nothing, slices.Concat of two lists of operations; do. -/
import Derived.Test.YtegepbifbhamnaaDkC
import Derived.Test.YtegepbifbhamnaaGz
namespace Go.Proofs.Ytegepbifbhamnaa.Dk
open Go.RowKit
set_option linter.unusedVariables false
open Go.Proofs.Ytegepbifbhamnaa.Rw
open Go.Proofs.Ytegepbifbhamnaa.Da
open Go.Proofs.Ytegepbifbhamnaa.Ro
def Post (F : Value → World → Prop) (w : World) (e : Ending) (w' : World) : Prop := ∃ v, e = .returned v ∧ Below w.heap.size w w' ∧ F v w'
/-- A list that is no longer than its capacity. -/
def OC (n : Nat) (l : List Do) (v : Value) (w : World) : Prop := OL n l v w ∧ capOk v
theorem OC.stays {n : Nat} {l : List Do} {v : Value} {w w' : World} (h : OC n l v w) (hb : Below w.heap.size w w') : OC n l v w' := ⟨h.1.stays hb, h.2⟩
abbrev OwnO (n : Nat) (Bo : Nat) (l : List Do) (v : Value) (w : World) : Prop := Own eO 52 (Bs.of n) Bo l v w
def fO : Flat Do := ⟨3, cellsO, fun _ => rfl, fun o u hu => by simp [cellsO] at hu; rcases hu with rfl | rfl | rfl <;> rfl⟩
theorem elemFO : Elem Try.prog 26 52 fO.k 32 := elemO
theorem zero3 (w : World) : (zeroValue 52).run Try.prog w = .ok (.agg #[.int .i64 0, .string ⟨#[]⟩, .bool false]) w := by kernel_rfl
/-- An empty list of the call's own, with room. -/
theorem own_room {n : Nat} {Bo g c : Nat} {hs : List Do} {w : World} (h : Row fO 52 g c hs w) (hB : Bo ≤ g) (hc : c ≤ maxLen) : OwnO n Bo [] (.slice (some ⟨g, 0, none⟩) 0 c) w := by
  have := (h.take 0).owns hB hc
  rw [List.take_zero] at this
  exact ⟨[], rfl, by simp, this⟩
set_option maxRecDepth 8000 in
set_option maxHeartbeats 1000000 in
theorem grow_any (q : Nat) (n : Nat) (hn : n ≤ 4000000) (w : World) : Calls Try.prog 40 #[.slice none 0 0, .int .i64 n] w (Post (OwnO q w.heap.size []) w) := by
  by_cases h0 : n = 0
  · subst h0
    go_enter Try.func40, Try.ntmps40
    go_wp2
    go_ret
    exact ⟨_, rfl, Below.refl _ _, Own.nil _ _ _⟩
  · have h1 : (0 : Int) < n := by omega
    obtain ⟨c2, w2, hrun, hr2, hb2, hc2⟩ := growz_nil (e := fO) (u := 3) (ik := .i64) elemFO Try.underlying3 26 zero3 (x0 := ((false, ⟨#[]⟩, false) : Do)) rfl (w := w) (m := n) (by omega) (by omega) (by decide)
    have HO := Lib.hid (own_room (n := q) hr2 (Nat.le_refl _) hc2)
    have k2 : (0 : Int) ≤ c2 := by omega
    clear hr2 hc2 h0
    go_enter Try.func40, Try.ntmps40
    go_wp2
    go_ret
    exact ⟨_, rfl, hb2, HO.out⟩
set_option maxRecDepth 8000 in
set_option maxHeartbeats 2000000 in
theorem concat_any (n : Nat) (l m : List Do) (x y : Value) (p : Nat) (w : World) (hx : OL n l x w) (hy : OL n m y w) (hp : p < w.heap.size) (c0 : w.cell? ⟨p, 0, none⟩ = some x) (c1 : w.cell? ⟨p, 1, none⟩ = some y) (hB : n ≤ w.heap.size) (h1 : l.length ≤ 1000000) (h2 : m.length ≤ 1000000) :
    Calls Try.prog 39 #[.slice (some ⟨p, 0, none⟩) 2 2] w (Post (OC n (l ++ m)) w) := by
  obtain ⟨a1, k1, rfl⟩ := hx.len
  obtain ⟨a2, k2, rfl⟩ := hy.len
  obtain ⟨n1, hn1⟩ : ∃ n, l.length = n := ⟨_, rfl⟩
  obtain ⟨n2, hn2⟩ : ∃ n, m.length = n := ⟨_, rfl⟩
  rw [hn1] at hx c0 h1
  rw [hn2] at hy c1 h2
  have HX := Lib.hid hx
  have HY := Lib.hid hy
  have HB := Lib.hid (show (Bs.of n).le w.heap.size from ⟨hB, fun _ h => h.elim⟩)
  have HN1 := Lib.hid hn1
  have HN2 := Lib.hid hn2
  clear hx hy hn1 hn2 hB
  go_enter Try.func39, Try.ntmps39
  go_wp2
  go_loopw [3, 11] (fun s i wr => w = wr ∧ ((i = .int .i64 0 ∧ s = .int .i64 0) ∨ (i = .int .i64 1 ∧ s = .int .i64 (n1 : Nat)) ∨ (i = .int .i64 2 ∧ s = .int .i64 ((n1 + n2 : Nat) : Int)))) (fun _ i _ => 2 - (intOf i).toNat)
  case atStart => exact ⟨rfl, .inl ⟨rfl, rfl⟩⟩
  case round =>
    obtain ⟨rfl, ⟨rfl, rfl⟩ | ⟨rfl, rfl⟩ | ⟨rfl, rfl⟩⟩ := hrel
    · go_wp2
      go_roundw
      case rel => exact ⟨trivial, .inr (.inl ⟨rfl, by go_num⟩)⟩
      case measure => simp [intOf]
    · go_wp2
      go_roundw
      case rel => exact ⟨trivial, .inr (.inr ⟨rfl, by push_cast; go_num⟩)⟩
      case measure => simp [intOf]
    · go_wp2_with fail
      refine (grow_any n (n1 + n2) (by omega) _).mono ?_
      rintro e w1 ⟨v1, rfl, hb1, ho1⟩
      have HO1 := Lib.hid ho1
      obtain ⟨a9, c9, rfl⟩ := (HO1.out.is (by decide) HB.out).len
      clear ho1
      go_wp2
      go_loopw [6, 27] (fun t i wr => ∃ zs, OwnO n w.heap.size zs t wr ∧ Below w.heap.size w wr ∧ ((i = .int .i64 0 ∧ [] = zs) ∨ (i = .int .i64 1 ∧ l = zs) ∨ (i = .int .i64 2 ∧ l ++ m = zs))) (fun _ i _ => 2 - (intOf i).toNat)
      case atStart => exact ⟨[], HO1.out, hb1, .inl ⟨rfl, rfl⟩⟩
      case round =>
        obtain ⟨zs, ho9, hb, hcs⟩ := hrel
        obtain ⟨a8, c8, rfl⟩ := (ho9.is (by decide) HB.out).len
        obtain ⟨nz, hnz⟩ : ∃ n, n = zs.length := ⟨_, rfl⟩
        rw [← hnz] at ho9 ⊢
        have HO9 := Lib.hid ho9
        have HNz := Lib.hid hnz
        clear ho9 hnz
        have hpw : p < wr.heap.size := Nat.lt_of_lt_of_le hp hb.size
        obtain ⟨rfl, rfl⟩ | ⟨rfl, rfl⟩ | ⟨rfl, rfl⟩ := hcs
        · obtain ⟨v', w', hrun, hown', _, hbl, _⟩ := Own.append elemO 26 typesO HB.out hb.size HO9.out (HX.out.stays hb) (by simp only [List.length_nil, HN1.out]; omega) (by omega)
          have HR := Lib.hid (show OwnO n w.heap.size ([] ++ l) v' w' ∧ Below w.heap.size w w' from ⟨hown', hbl _ _ (Nat.le_refl _) hb⟩)
          obtain ⟨a7, c7, rfl⟩ := (hown'.is (by decide) HB.out).len
          have d0 := (hb.cell (p := ⟨p, 0, none⟩) hp).trans c0
          clear hown' hbl
          go_wp2
          go_roundw
          case rel => exact ⟨_, HR.out.1, HR.out.2, .inr (.inl ⟨rfl, rfl⟩)⟩
          case measure => simp [intOf]
        · obtain ⟨v', w', hrun, hown', _, hbl, _⟩ := Own.append elemO 26 typesO HB.out hb.size HO9.out (HY.out.stays hb) (by rw [HN1.out, HN2.out]; omega) (by omega)
          have HR := Lib.hid (show OwnO n w.heap.size (l ++ m) v' w' ∧ Below w.heap.size w w' from ⟨hown', hbl _ _ (Nat.le_refl _) hb⟩)
          obtain ⟨a7, c7, rfl⟩ := (hown'.is (by decide) HB.out).len
          have d0 := (hb.cell (p := ⟨p, 1, none⟩) hp).trans c1
          clear hown' hbl
          go_wp2
          go_roundw
          case rel => exact ⟨l ++ m, by rw [← List.length_append]; exact HR.out.1, HR.out.2, .inr (.inr ⟨rfl, rfl⟩)⟩
          case measure => simp [intOf]
        · have HF := Lib.hid (show OC n (l ++ m) (.slice a8 nz c8) wr from ⟨HO9.out.is (by decide) HB.out, HO9.out.cap⟩)
          go_wp2
          go_ret
          exact ⟨_, rfl, hb, HF.out⟩
end Go.Proofs.Ytegepbifbhamnaa.Dk
