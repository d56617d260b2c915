/- Package book as it landed: slices.Grow of nothing, slices.Concat of two lists of levels. -/
import Derived.Test.YtfnmmknbjfmagaaLvD
import Derived.Test.YtfnmmknbjfmagaaLvL
namespace Go.Proofs.Ytfnmmknbjfmagaa.Bk
open Go.RowKit
set_option linter.unusedVariables false
open Go.Proofs.Ytfnmmknbjfmagaa.Rw
open Go.Proofs.Ytfnmmknbjfmagaa.Da
open Go.Proofs.Ytfnmmknbjfmagaa.Ro
open Go.Proofs.Ytfnmmknbjfmagaa.Le
/-- An append of m zero elements to no slice at all. -/
theorem growz_nil {α : Type} {e : Flat α} {T : TypeId} {P : Program} {t u : TypeId} {bytes : Nat} {ik : IntKind} (E : Elem P t T e.k bytes) (hu : P.underlying u = some (.int ik)) (ty : TypeId) {z : Array Value} (hzv : ∀ w, (zeroValue T).run P w = .ok (.agg z) w) {x0 : α} (hx0 : z.toList = e.f x0) {w : World} {m : Nat} (hm : 0 < m) (h6 : m ≤ 1000000000) (hby : bytes ≤ 100000) :
    ∃ c' w', appzRun P t u ty (.slice none 0 0) (.int .i64 (m : Nat)) w = .ok (.slice (some ⟨w.heap.size, 0, none⟩) m c') w' ∧ Row e T w.heap.size c' (List.replicate m x0) w' ∧ Below w.heap.size w w' ∧ c' ≤ maxLen := by
  obtain ⟨i, z', hi, hz', hs, hb, hzs⟩ := E.ex
  have hzz : z' = .agg z := by
    have := hzv w
    simpa [zeroValue, typeInfo, hi, hz'] using this
  subst hzz
  subst hb
  have hbytes : m * i.bytes ≤ 140737488355328 := Nat.le_trans (Nat.mul_le_mul h6 hby) (by decide)
  have hne0 : ¬ (m = 0) := by omega
  have h63 : ¬ (9223372036854775807 < (m : Int)) := by omega
  have hfit : Builtin.nextslicecap m 0 * i.bytes ≤ 281474976710656 := by
    have := growslice_fits (need := m) (old := 0) (by omega) hbytes
    simpa using this
  have h48 : ¬ (281474976710656 < Builtin.nextslicecap m 0 * i.bytes) := by omega
  have hw : IntKind.i64.wrap (m : Int) = m := by rw [IntKind.wrap_i64]; omega
  have hm0 : ¬ ((m : Int) < 0) := by omega
  have hmb2 : ¬ (281474976710656 < (m : Int) * (i.bytes : Int)) := by
    have : ((m * i.bytes : Nat) : Int) ≤ 140737488355328 := by omega
    rw [Int.natCast_mul] at this; omega
  have hge := grownCap_ge w m 0 T
  refine ⟨grownCap w m 0 T, w.drew.alloc (.cells (((List.replicate m x0).map e.f).flatten ++ ((List.replicate (grownCap w m 0 T - m) x0).map e.f).flatten).toArray T), ?_, ?_, ?_, grownCap_le_maxLen w m 0 T (by unfold maxLen; omega)⟩
  rotate_left
  · refine ⟨⟨_, heap_alloc_new w.drew _, ?_, ?_⟩, ?_⟩
    · simp only [List.length_append, flat_length, List.length_replicate]
      rw [← Nat.add_mul]; congr 1; omega
    · have := says_flat (e := e) (List.replicate m x0 ++ List.replicate (grownCap w m 0 T - m) x0)
      rw [List.map_append, List.flatten_append] at this
      intro i' x hx j u hu
      have hi' : i' < (List.replicate m x0).length := (List.getElem?_eq_some_iff.1 hx).1
      exact this i' x (by rw [List.getElem?_append_left hi']; exact hx) j u hu
    · simp only [List.length_replicate]; exact hge
  · exact ((Below.refl _ _).drew).alloc (Nat.le_refl _) _
  · have hz1 := zeroCells_says (e := e) hx0 m
    have hz2 := zeroCells_says (e := e) hx0 (grownCap w m 0 T - m)
    have hz1' : Builtin.zeroCells z m = ((List.replicate m x0).map e.f).flatten.toArray := by rw [← hz1]
    have hz2' : Builtin.zeroCells z (grownCap w m 0 T - m) = ((List.replicate (grownCap w m 0 T - m) x0).map e.f).flatten.toArray := by rw [← hz2]
    have hmz : m * i.size = 0 → ((List.replicate m x0).map e.f).flatten.toArray = #[] := fun hh => by
      have : ((List.replicate m x0).map e.f).flatten.length = 0 := by rw [flat_length, List.length_replicate, ← hs]; exact hh
      rw [List.eq_nil_of_length_eq_zero this]
    clear hz1 hz2
    generalize ((List.replicate m x0).map e.f).flatten = F2 at hz1' hmz ⊢
    generalize ((List.replicate (grownCap w m 0 T - m) x0).map e.f).flatten = F3 at hz2' ⊢
    have hgc : (Question.appendCap m 0 T).cut (w.tape w.drawn (Question.appendCap m 0 T)) = grownCap w m 0 T := rfl
    by_cases hmm : m * i.size = 0
    · have := hmz hmm
      simp [appzRun, Builtin.append_, run_underlying E.ht, run_underlying hu, sizeOf, typeInfo, zeroValue, hi, hz', Builtin.lenOf, Builtin.firstCells, hne0, h63, h48, hw, hm0, hmb2, asInt, asIntOf, Question.forced, newRow, hmm, Value.cells]
      rw [hgc, hz2']
      have hF2 : F2 = [] := by simpa using this
      subst hF2
      simp
    · simp [appzRun, Builtin.append_, run_underlying E.ht, run_underlying hu, sizeOf, typeInfo, zeroValue, hi, hz', Builtin.lenOf, Builtin.firstCells, hne0, h63, h48, hw, hm0, hmb2, asInt, asIntOf, Question.forced, newRow, hmm, Value.cells, hz1']
      rw [hgc, hz2']
      simp
abbrev OwnLv (B : Bs) (Bo : Nat) (l : List Lv) (v : Value) (w : World) : Prop := Own eL 48 B Bo l v w
/-- An empty list of the call's own, with room. -/
theorem own_room {B : Bs} {Bo g c : Nat} {hs : List Hw} {w : World} (h : RowF g c hs w) (hB : Bo ≤ g) (hc : c ≤ maxLen) : OwnLv B Bo [] (.slice (some ⟨g, 0, none⟩) 0 c) w := by
  have := (h.take 0).owns hB hc
  rw [List.take_zero] at this
  exact ⟨[], rfl, by simp, this⟩
set_option maxRecDepth 8000 in
set_option maxHeartbeats 1000000 in
theorem grow_any (B : Bs) (n : Nat) (hn : n ≤ 4000000) (w : World) : Calls Try.prog 51 #[.slice none 0 0, .int .i64 n] w (Post (OwnLv B w.heap.size []) w) := by
  by_cases h0 : n = 0
  · subst h0
    go_enter Try.func51, Try.ntmps51
    go_wp2
    go_ret
    exact ⟨_, rfl, Below.refl _ _, Own.nil _ _ _⟩
  · have h1 : (0 : Int) < n := by omega
    obtain ⟨c2, w2, hrun, hr2, hb2, hc2⟩ := growz_nil (e := fF) (u := 3) (ik := .i64) elemF Try.underlying3 24 zero2 (x0 := ((0, none, 0, 0) : Hw)) rfl (w := w) (m := n) (by omega) (by omega) (by decide)
    have HO := Lib.hid (own_room (B := B) hr2 (Nat.le_refl _) hc2)
    have k2 : (0 : Int) ≤ c2 := by omega
    clear hr2 hc2 h0
    go_enter Try.func51, Try.ntmps51
    go_wp2
    go_ret
    exact ⟨_, rfl, hb2, HO.out⟩
set_option maxRecDepth 8000 in
set_option maxHeartbeats 2000000 in
theorem concat_any (B : Bs) (l m : List Lv) (x y : Value) (p : Nat) (w : World) (hx : LL B l x w) (hy : LL B m y w) (hp : p < w.heap.size) (c0 : w.cell? ⟨p, 0, none⟩ = some x) (c1 : w.cell? ⟨p, 1, none⟩ = some y) (hB : B.le w.heap.size) (h1 : l.length ≤ 1000000) (h2 : m.length ≤ 1000000) :
    Calls Try.prog 24 #[.slice (some ⟨p, 0, none⟩) 2 2] w (Post (LL B (l ++ m)) w) := by
  obtain ⟨a1, k1, rfl⟩ := hx.len
  obtain ⟨a2, k2, rfl⟩ := hy.len
  obtain ⟨n1, hn1⟩ : ∃ n, l.length = n := ⟨_, rfl⟩
  obtain ⟨n2, hn2⟩ : ∃ n, m.length = n := ⟨_, rfl⟩
  rw [hn1] at hx c0 h1
  rw [hn2] at hy c1 h2
  have HX := Lib.hid hx
  have HY := Lib.hid hy
  have HB := Lib.hid hB
  have HN1 := Lib.hid hn1
  have HN2 := Lib.hid hn2
  clear hx hy hn1 hn2
  go_enter Try.func24, Try.ntmps24
  go_wp2
  go_loopw [3, 11] (fun s i wr => w = wr ∧ ((i = .int .i64 0 ∧ s = .int .i64 0) ∨ (i = .int .i64 1 ∧ s = .int .i64 (n1 : Nat)) ∨ (i = .int .i64 2 ∧ s = .int .i64 ((n1 + n2 : Nat) : Int)))) (fun _ i _ => 2 - (intOf i).toNat)
  case atStart => exact ⟨rfl, .inl ⟨rfl, rfl⟩⟩
  case round =>
    obtain ⟨rfl, ⟨rfl, rfl⟩ | ⟨rfl, rfl⟩ | ⟨rfl, rfl⟩⟩ := hrel
    · go_wp2
      go_roundw
      case rel => exact ⟨trivial, .inr (.inl ⟨rfl, by go_num⟩)⟩
      case measure => simp [intOf]
    · go_wp2
      go_roundw
      case rel => exact ⟨trivial, .inr (.inr ⟨rfl, by push_cast; go_num⟩)⟩
      case measure => simp [intOf]
    · go_wp2_with fail
      refine (grow_any B (n1 + n2) (by omega) _).mono ?_
      rintro e w1 ⟨v1, rfl, hb1, ho1⟩
      have HO1 := Lib.hid ho1
      obtain ⟨a3, c3, rfl⟩ := (HO1.out.is (by decide) HB.out).len
      clear ho1
      go_wp2
      go_loopw [6, 27] (fun t i wr => ∃ zs, OwnLv B w.heap.size zs t wr ∧ Below w.heap.size w wr ∧ ((i = .int .i64 0 ∧ [] = zs) ∨ (i = .int .i64 1 ∧ l = zs) ∨ (i = .int .i64 2 ∧ l ++ m = zs))) (fun _ i _ => 2 - (intOf i).toNat)
      case atStart => exact ⟨[], HO1.out, hb1, .inl ⟨rfl, rfl⟩⟩
      case round =>
        obtain ⟨zs, ho9, hb, hcs⟩ := hrel
        obtain ⟨a9, c9, rfl⟩ := (ho9.is (by decide) HB.out).len
        obtain ⟨nz, hnz⟩ : ∃ n, n = zs.length := ⟨_, rfl⟩
        rw [← hnz] at ho9 ⊢
        have HO9 := Lib.hid ho9
        have HNz := Lib.hid hnz
        clear ho9 hnz
        obtain ⟨rfl, rfl⟩ | ⟨rfl, rfl⟩ | ⟨rfl, rfl⟩ := hcs
        · obtain ⟨v', w', hrun, hown', _, hbl, _⟩ := Own.append elemL 24 typesL HB.out hb.size HO9.out (Is.stays eL 48 HX.out hb) (by simp only [List.length_nil, HN1.out]; omega) (by omega)
          have HR := Lib.hid (show OwnLv B w.heap.size l v' w' ∧ Below w.heap.size w w' from ⟨hown', hbl _ _ (Nat.le_refl _) hb⟩)
          obtain ⟨a8, c8, rfl⟩ := (hown'.is (by decide) HB.out).len
          have d0 := (hb.cell (p := ⟨p, 0, none⟩) hp).trans c0
          have hpw : p < wr.heap.size := Nat.lt_of_lt_of_le hp hb.size
          clear hown' hbl
          go_wp2
          go_roundw
          case rel => exact ⟨_, HR.out.1, HR.out.2, .inr (.inl ⟨rfl, rfl⟩)⟩
          case measure => simp [intOf]
        · obtain ⟨v', w', hrun, hown', _, hbl, _⟩ := Own.append elemL 24 typesL HB.out hb.size HO9.out (Is.stays eL 48 HY.out hb) (by rw [HN1.out, HN2.out]; omega) (by omega)
          have HR := Lib.hid (show OwnLv B w.heap.size (l ++ m) v' w' ∧ Below w.heap.size w w' from ⟨hown', hbl _ _ (Nat.le_refl _) hb⟩)
          obtain ⟨a8, c8, rfl⟩ := (hown'.is (by decide) HB.out).len
          have d0 := (hb.cell (p := ⟨p, 1, none⟩) hp).trans c1
          have hpw : p < wr.heap.size := Nat.lt_of_lt_of_le hp hb.size
          clear hown' hbl
          go_wp2
          go_roundw
          case rel => exact ⟨l ++ m, by rw [← List.length_append]; exact HR.out.1, HR.out.2, .inr (.inr ⟨rfl, rfl⟩)⟩
          case measure => simp [intOf]
        · have HF := Lib.hid (show LL B (l ++ m) (.slice a9 nz c9) wr from HO9.out.is (by decide) HB.out)
          go_wp2
          go_ret
          exact ⟨_, rfl, hb, HF.out⟩
end Go.Proofs.Ytfnmmknbjfmagaa.Bk
