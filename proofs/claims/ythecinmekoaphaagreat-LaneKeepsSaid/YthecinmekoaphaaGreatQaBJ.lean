/- Package book as it landed: slices.Grow of nothing, slices.Concat of two lists of levels. -/
import Derived.Test.YthecinmekoaphaaGreatQaAT
import Derived.Test.YthecinmekoaphaaGreatQaBE
import Derived.Test.YthecinmekoaphaaGreatQaBI
import Derived.Test.YthecinmekoaphaaGreatQaBF
set_option linter.unusedVariables false
namespace Go.Proofs.YthecinmekoaphaaGreat.Bk
open Go.RowKit
open Go.Proofs.YthecinmekoaphaaGreat.Rw
open Go.Proofs.YthecinmekoaphaaGreat.Da
open Go.Proofs.YthecinmekoaphaaGreat.Ro
open Go.Proofs.YthecinmekoaphaaGreat.Le
/-- An append of m zero elements to no slice at all. -/
theorem growz_nil {α : Type} {e : Flat α} {T : TypeId} {P : Program} {t u : TypeId} {bytes : Nat} {ik : IntKind} (E : Elem P t T e.k bytes) (hu : P.underlying u = some (.int ik)) (ty : TypeId) {z : Array Value} (hzv : ∀ w, (zeroValue T).run P w = .ok (.agg z) w) {x0 : α} (hx0 : z.toList = e.f x0) {w : World} {m : Nat} (hm : 0 < m) (h6 : m ≤ 1000000000) (hby : bytes ≤ 100000) :
    ∃ c' w', appzRun P t u ty (.slice none 0 0) (.int .i64 (m : Nat)) w = .ok (.slice (some ⟨w.heap.size, 0, none⟩) m c') w' ∧ Row e T w.heap.size c' (List.replicate m x0) w' ∧ Below w.heap.size w w' ∧ c' ≤ maxLen := by
  obtain ⟨i, z', hi, hz', hs, hb, hzs⟩ := E.ex
  have hzz : z' = .agg z := by
    have := hzv w
    simpa [zeroValue, typeInfo, hi, hz'] using this
  subst hzz
  subst hb
  have hbytes : m * i.bytes ≤ 140737488355328 := Nat.le_trans (Nat.mul_le_mul h6 hby) (by decide)
  have hne0 : ¬ (m = 0) := by omega
  have h63 : ¬ (9223372036854775807 < (m : Int)) := by omega
  have hfit : Builtin.nextslicecap m 0 * i.bytes ≤ 281474976710656 := by
    have := growslice_fits (need := m) (old := 0) (by omega) hbytes
    simpa using this
  have h48 : ¬ (281474976710656 < Builtin.nextslicecap m 0 * i.bytes) := by omega
  have hw : IntKind.i64.wrap (m : Int) = m := by rw [IntKind.wrap_i64]; omega
  have hm0 : ¬ ((m : Int) < 0) := by omega
  have hmb2 : ¬ (281474976710656 < (m : Int) * (i.bytes : Int)) := by
    have : ((m * i.bytes : Nat) : Int) ≤ 140737488355328 := by omega
    rw [Int.natCast_mul] at this; omega
  have hge := grownCap_ge w m 0 T
  refine ⟨grownCap w m 0 T, w.drew.alloc (.cells (((List.replicate m x0).map e.f).flatten ++ ((List.replicate (grownCap w m 0 T - m) x0).map e.f).flatten).toArray T), ?_, ?_, ?_, grownCap_le_maxLen w m 0 T (by unfold maxLen; omega)⟩
  rotate_left
  · refine ⟨⟨_, heap_alloc_new w.drew _, ?_, ?_⟩, ?_⟩
    · simp only [List.length_append, flat_length, List.length_replicate]
      rw [← Nat.add_mul]; congr 1; omega
    · have := says_flat (e := e) (List.replicate m x0 ++ List.replicate (grownCap w m 0 T - m) x0)
      rw [List.map_append, List.flatten_append] at this
      intro i' x hx j u hu
      have hi' : i' < (List.replicate m x0).length := (List.getElem?_eq_some_iff.1 hx).1
      exact this i' x (by rw [List.getElem?_append_left hi']; exact hx) j u hu
    · simp only [List.length_replicate]; exact hge
  · exact ((Below.refl _ _).drew).alloc (Nat.le_refl _) _
  · have hz1 := zeroCells_says (e := e) hx0 m
    have hz2 := zeroCells_says (e := e) hx0 (grownCap w m 0 T - m)
    have hz1' : Builtin.zeroCells z m = ((List.replicate m x0).map e.f).flatten.toArray := by rw [← hz1]
    have hz2' : Builtin.zeroCells z (grownCap w m 0 T - m) = ((List.replicate (grownCap w m 0 T - m) x0).map e.f).flatten.toArray := by rw [← hz2]
    have hmz : m * i.size = 0 → ((List.replicate m x0).map e.f).flatten.toArray = #[] := fun hh => by
      have : ((List.replicate m x0).map e.f).flatten.length = 0 := by rw [flat_length, List.length_replicate, ← hs]; exact hh
      rw [List.eq_nil_of_length_eq_zero this]
    clear hz1 hz2
    generalize ((List.replicate m x0).map e.f).flatten = F2 at hz1' hmz ⊢
    generalize ((List.replicate (grownCap w m 0 T - m) x0).map e.f).flatten = F3 at hz2' ⊢
    have hgc : (Question.appendCap m 0 T).cut (w.tape w.drawn (Question.appendCap m 0 T)) = grownCap w m 0 T := rfl
    by_cases hmm : m * i.size = 0
    · have := hmz hmm
      simp [appzRun, Builtin.append_, run_underlying E.ht, run_underlying hu, sizeOf, typeInfo, zeroValue, hi, hz', Builtin.lenOf, Builtin.firstCells, hne0, h63, h48, hw, hm0, hmb2, asInt, asIntOf, Question.forced, newRow, hmm, Value.cells]
      rw [hgc, hz2']
      have hF2 : F2 = [] := by simpa using this
      subst hF2
      simp
    · simp [appzRun, Builtin.append_, run_underlying E.ht, run_underlying hu, sizeOf, typeInfo, zeroValue, hi, hz', Builtin.lenOf, Builtin.firstCells, hne0, h63, h48, hw, hm0, hmb2, asInt, asIntOf, Question.forced, newRow, hmm, Value.cells, hz1']
      rw [hgc, hz2']
      simp
abbrev OwnLv (B : Bs) (Bo : Nat) (l : List Lv) (v : Value) (w : World) : Prop := Own eL 98 B Bo l v w
/-- An empty list of the call's own, with room. -/
theorem own_room {B : Bs} {Bo g c : Nat} {hs : List Hw} {w : World} (h : RowF g c hs w) (hB : Bo ≤ g) (hc : c ≤ maxLen) : OwnLv B Bo [] (.slice (some ⟨g, 0, none⟩) 0 c) w := by
  have := (h.take 0).owns hB hc
  rw [List.take_zero] at this
  exact ⟨[], rfl, by simp, this⟩
set_option maxRecDepth 8000 in
set_option maxHeartbeats 1000000 in
theorem grow_any (B : Bs) (n : Nat) (hn : n ≤ 4000000) (w : World) : Calls Tryz.prog 110 #[.slice none 0 0, .int .i64 n] w (Post (OwnLv B w.heap.size []) w) := by
  by_cases h0 : n = 0
  · subst h0
    go_enter Tryz.func110, Tryz.ntmps110
    go_wp2
    go_ret
    exact ⟨_, rfl, Below.refl _ _, Own.nil _ _ _⟩
  · have h1 : (0 : Int) < n := by omega
    obtain ⟨c2, w2, hrun, hr2, hb2, hc2⟩ := growz_nil (e := fF) (u := 3) (ik := .i64) elemF Tryz.underlying3 23 zero2 (x0 := ((0, none, 0, 0) : Hw)) rfl (w := w) (m := n) (by omega) (by omega) (by decide)
    have HO := Lib.hid (own_room (B := B) hr2 (Nat.le_refl _) hc2)
    have k2 : (0 : Int) ≤ c2 := by omega
    clear hr2 hc2 h0
    go_enter Tryz.func110, Tryz.ntmps110
    go_wp2
    go_ret
    exact ⟨_, rfl, hb2, HO.out⟩
set_option maxRecDepth 8000 in
set_option maxHeartbeats 2000000 in
theorem concat_any (B : Bs) (l m : List Lv) (x y : Value) (p : Nat) (w : World) (hx : LL B l x w) (hy : LL B m y w) (hp : p < w.heap.size) (c0 : w.cell? ⟨p, 0, none⟩ = some x) (c1 : w.cell? ⟨p, 1, none⟩ = some y) (hB : B.le w.heap.size) (h1 : l.length ≤ 1000000) (h2 : m.length ≤ 1000000) :
    Calls Tryz.prog 68 #[.slice (some ⟨p, 0, none⟩) 2 2] w (Post (LL B (l ++ m)) w) := by
  obtain ⟨a1, k1, rfl⟩ := hx.len
  obtain ⟨a2, k2, rfl⟩ := hy.len
  obtain ⟨n1, hn1⟩ : ∃ n, l.length = n := ⟨_, rfl⟩
  obtain ⟨n2, hn2⟩ : ∃ n, m.length = n := ⟨_, rfl⟩
  rw [hn1] at hx c0 h1
  rw [hn2] at hy c1 h2
  have HX := Lib.hid hx
  have HY := Lib.hid hy
  have HB := Lib.hid hB
  have HN1 := Lib.hid hn1
  have HN2 := Lib.hid hn2
  clear hx hy hn1 hn2
  go_enter Tryz.func68, Tryz.ntmps68
  go_wp2
  go_loopw [3, 11] (fun s i wr => w = wr ∧ ((i = .int .i64 0 ∧ s = .int .i64 0) ∨ (i = .int .i64 1 ∧ s = .int .i64 (n1 : Nat)) ∨ (i = .int .i64 2 ∧ s = .int .i64 ((n1 + n2 : Nat) : Int)))) (fun _ i _ => 2 - (intOf i).toNat)
  case atStart => exact ⟨rfl, .inl ⟨rfl, rfl⟩⟩
  case round =>
    obtain ⟨rfl, ⟨rfl, rfl⟩ | ⟨rfl, rfl⟩ | ⟨rfl, rfl⟩⟩ := hrel
    · go_wp2
      go_roundw
      case rel => exact ⟨trivial, .inr (.inl ⟨rfl, by go_num⟩)⟩
      case measure => simp [intOf]
    · go_wp2
      go_roundw
      case rel => exact ⟨trivial, .inr (.inr ⟨rfl, by push_cast; go_num⟩)⟩
      case measure => simp [intOf]
    · go_wp2_with fail
      refine (grow_any B (n1 + n2) (by omega) _).mono ?_
      rintro e w1 ⟨v1, rfl, hb1, ho1⟩
      have HO1 := Lib.hid ho1
      obtain ⟨a3, c3, rfl⟩ := (HO1.out.is (by decide) HB.out).len
      clear ho1
      go_wp2
      go_loopw [6, 27] (fun t i wr => ∃ zs, OwnLv B w.heap.size zs t wr ∧ Below w.heap.size w wr ∧ ((i = .int .i64 0 ∧ [] = zs) ∨ (i = .int .i64 1 ∧ l = zs) ∨ (i = .int .i64 2 ∧ l ++ m = zs))) (fun _ i _ => 2 - (intOf i).toNat)
      case atStart => exact ⟨[], HO1.out, hb1, .inl ⟨rfl, rfl⟩⟩
      case round =>
        obtain ⟨zs, ho9, hb, hcs⟩ := hrel
        obtain ⟨a9, c9, rfl⟩ := (ho9.is (by decide) HB.out).len
        obtain ⟨nz, hnz⟩ : ∃ n, n = zs.length := ⟨_, rfl⟩
        rw [← hnz] at ho9 ⊢
        have HO9 := Lib.hid ho9
        have HNz := Lib.hid hnz
        clear ho9 hnz
        obtain ⟨rfl, rfl⟩ | ⟨rfl, rfl⟩ | ⟨rfl, rfl⟩ := hcs
        · obtain ⟨v', w', hrun, hown', _, hbl, _⟩ := Own.append elemL 23 typesL HB.out hb.size HO9.out (Is.stays eL 98 HX.out hb) (by simp only [List.length_nil, HN1.out]; omega) (by omega)
          have HR := Lib.hid (show OwnLv B w.heap.size l v' w' ∧ Below w.heap.size w w' from ⟨hown', hbl _ _ (Nat.le_refl _) hb⟩)
          obtain ⟨a8, c8, rfl⟩ := (hown'.is (by decide) HB.out).len
          have d0 := (hb.cell (p := ⟨p, 0, none⟩) hp).trans c0
          have hpw : p < wr.heap.size := Nat.lt_of_lt_of_le hp hb.size
          clear hown' hbl
          go_wp2
          go_roundw
          case rel => exact ⟨_, HR.out.1, HR.out.2, .inr (.inl ⟨rfl, rfl⟩)⟩
          case measure => simp [intOf]
        · obtain ⟨v', w', hrun, hown', _, hbl, _⟩ := Own.append elemL 23 typesL HB.out hb.size HO9.out (Is.stays eL 98 HY.out hb) (by rw [HN1.out, HN2.out]; omega) (by omega)
          have HR := Lib.hid (show OwnLv B w.heap.size (l ++ m) v' w' ∧ Below w.heap.size w w' from ⟨hown', hbl _ _ (Nat.le_refl _) hb⟩)
          obtain ⟨a8, c8, rfl⟩ := (hown'.is (by decide) HB.out).len
          have d0 := (hb.cell (p := ⟨p, 1, none⟩) hp).trans c1
          have hpw : p < wr.heap.size := Nat.lt_of_lt_of_le hp hb.size
          clear hown' hbl
          go_wp2
          go_roundw
          case rel => exact ⟨l ++ m, by rw [← List.length_append]; exact HR.out.1, HR.out.2, .inr (.inr ⟨rfl, rfl⟩)⟩
          case measure => simp [intOf]
        · have HF := Lib.hid (show LL B (l ++ m) (.slice a9 nz c9) wr from HO9.out.is (by decide) HB.out)
          go_wp2
          go_ret
          exact ⟨_, rfl, hb, HF.out⟩
/-- No two have one number, none the next one's or a greater one. -/
def idsB (os : List Od) (n : Int) : Bool := decide ((os.map oid).Nodup ∧ ∀ i ∈ os.map oid, i < n)
def fI : Flat Int := ⟨1, fun x => [.int .i64 x], fun _ => rfl, fun o u hu => by simp at hu; subst hu; rfl⟩
theorem elemI : Elem Tryz.prog 152 3 eI.k 8 := elem_of Tryz.underlying152 infoIs rfl (by decide)
theorem typesI : 3 ∉ eI.ts := by decide
theorem ints_own {B : Bs} {Bo : Nat} {zs : List Int} {v : Value} {w : World} (h : Own eI 3 B Bo zs v w) (hn : v ≠ .slice none 0 0) : ∃ g cap, v = .slice (some ⟨g, 0, none⟩) zs.length cap ∧ Bo ≤ g ∧ zs.length ≤ cap ∧ Ints g zs.length (fun j => zs.getD j 0) w := by
  rcases Row.ofOwn (e := fI) (show Own fI.enc 3 B Bo zs v w from h) with ⟨e, _⟩ | ⟨g, cap, h1, h2, h3, h4⟩
  · exact absurd e hn
  · refine ⟨g, cap, h1, h2, h4.le, h4.lt, fun j hj => ⟨?_, h4.frozen _⟩⟩
    have := h4.cell (i := j) (x := zs[j]) (List.getElem?_eq_getElem hj) (j := 0) rfl
    rw [show j * fI.k + 0 = j from Nat.mul_one j] at this
    rw [this]; simp [hj]
theorem id_app {B : Bs} {n cg : Nat} {ag : Option Addr} {zs : List Int} {wr : World} (o1 o2 o3 o4 o5 : Int) (hBn : B.le n) (hsz : n ≤ wr.heap.size) (hown : Own eI 3 B n zs (.slice ag zs.length cg) wr) (hgl : zs.length ≤ 10000000) :
    ∃ v8 w8, appRun Tryz.prog 152 152 (.slice ag zs.length cg) (.slice (some ⟨wr.heap.size + 1, 0, none⟩) 1 1) ((wr.alloc (.cells #[.int .i64 o1, .int .i64 o2, .int .i64 o3, .int .i64 o4, .int .i64 o5] 70)).alloc (.cells #[.int .i64 o1] 3)) = .ok v8 w8 ∧ Own eI 3 B n (zs ++ [o1]) v8 w8 ∧ Below n wr w8 ∧ ∀ ts, 3 ∉ ts → Keeps B ts wr w8 := by
  obtain ⟨V, hV⟩ : ∃ V, V = wr.alloc (.cells #[.int .i64 o1, .int .i64 o2, .int .i64 o3, .int .i64 o4, .int .i64 o5] 70) := ⟨_, rfl⟩
  have hbV : Below wr.heap.size wr V := hV ▸ below1 wr _
  have hzV : V.heap.size = wr.heap.size + 1 := by rw [hV]; simp
  obtain ⟨U, hU⟩ : ∃ U, U = V.alloc (.cells #[.int .i64 o1] 3) := ⟨_, rfl⟩
  have hbU : Below V.heap.size V U := hU ▸ below1 V _
  have hzU : U.heap.size = V.heap.size + 1 := by rw [hU]; simp
  have hbUV := nx hbV hbU
  have hsrc : Is eI 3 B [o1] (.slice (some ⟨V.heap.size, 0, none⟩) 1 1) U := by
    rw [hU]; exact Is.one (e := eI) (T := 3) (B := B) (x := o1) (cs := [.int .i64 o1]) (w := V) (hBn.mono (by omega)) rfl
  obtain ⟨v8, w8, hrun, hown8, _, hbl, hkp⟩ := Own.append elemI 152 typesI hBn (by omega) (Own.stays hown hbUV) hsrc (by simp only [List.length_singleton]; omega) (by omega)
  rw [hzV, hU, hV] at hrun
  exact ⟨v8, w8, hrun, hown8, (hbUV.mono (by omega)).trans (hbl _ U (Nat.le_refl _) (Below.refl _ _)), fun ts ht => (Keeps.of_below hbUV).trans (hkp ts ht)⟩
/-- Sorted, whatever room there is. -/
theorem sort2_any (g m c : Nat) (zs : List Int) (w : World) (hm : m = zs.length) (h : Ints g m (fun j => zs.getD j 0) w) (h6 : m ≤ 10000000) : Calls Tryz.prog 131 #[.slice (some ⟨g, 0, none⟩) m c] w (SortPost zs g w) := by
  subst hm
  refine (Any.slices_Sort_int Tryz.sortL g 0 c zs w h.holds h.1 (by omega)).mono ?_
  rintro e w' ⟨rfl, n, os, rfl⟩
  have hl : (zs.mergeSort fun x y => decide (x ≤ y)).length = zs.length := List.length_mergeSort zs
  refine ⟨_, rfl, grown_putRow _ _, ints_putRow os h hl, List.mergeSort_perm zs _, ?_, hl⟩
  have := List.pairwise_mergeSort (le := fun (x y : Int) => decide (x ≤ y)) (fun a b c h1 h2 => by simp at *; omega) (fun a b => by simp; omega) zs
  exact this.imp (fun h => by simpa using h)
theorem compact2_any (g m c : Nat) (ss : List Int) (w : World) (hm : m = ss.length) (h : Ints g m (fun j => ss.getD j 0) w) (hc : m ≤ c) (h6 : m ≤ 10000000) : Calls Tryz.prog 132 #[.slice (some ⟨g, 0, none⟩) m c] w fun e w' => e = .returned (.slice (some ⟨g, 0, none⟩) (Lib.compact ss).length c) ∧ w.grownBy w' (some g) := by
  subst hm
  refine (Any.slices_Compact_int Tryz.cmpL g 0 c ss w h.holds (by omega) hc).mono ?_
  rintro e w' ⟨rfl, q, rfl⟩
  have := grown_putRow (w := w) (g := g) (off := 0) (n := q) (Lib.compact ss ++ List.replicate (ss.length - (Lib.compact ss).length) 0).toArray #[]
  rw [Go.Sort.grow_empty] at this
  exact ⟨rfl, this⟩
theorem idsB_of {os : List Od} {n : Int} {ss : List Int} {k : Nat} (hp : ss.Perm (os.map oid)) (hs : ss.Pairwise (· ≤ ·)) (hl : ss.length = k + 1) : idsB os n = (decide (ss.getD k 0 < n) && decide ((Lib.compact ss).length = k + 1)) := by
  have h1 := compact_nodup hs
  rw [hl] at h1
  have hk : k < ss.length := by omega
  have hget : ss.getD k 0 = ss[k] := by simp [hk]
  unfold idsB
  rw [Bool.eq_iff_iff, Bool.and_eq_true, decide_eq_true_iff, decide_eq_true_iff, decide_eq_true_iff, h1, hp.nodup_iff, hget]
  constructor
  · rintro ⟨a, b⟩
    exact ⟨b _ (hp.mem_iff.1 (List.getElem_mem hk)), a⟩
  · rintro ⟨a, b⟩
    refine ⟨b, fun i hi => ?_⟩
    obtain ⟨j, hj, rfl⟩ := List.getElem_of_mem (hp.mem_iff.2 hi)
    rcases Nat.lt_or_ge j k with h | h
    · have := List.pairwise_iff_getElem.1 hs j k hj hk h
      omega
    · have e : j = k := by omega
      subst e; exact a
set_option maxRecDepth 8000 in
set_option maxHeartbeats 4000000 in
theorem ids_any (B : Bs) (b : Bk) (v : Value) (w : World) (h : BL B b v w) (hB : B.le w.heap.size) (h1 : b.1.length ≤ 1000000) (h2 : (flat b.1).length ≤ 500000) (h3 : b.2.1.length ≤ 1000000) (h4 : (flat b.2.1).length ≤ 500000) (h5 : (b.1 ++ b.2.1).length ≤ 1000000) :
    Calls Tryz.prog 100 #[v] w fun e w' => e = .returned (.bool (idsB (flat b.1 ++ flat b.2.1) b.2.2)) ∧ Below w.heap.size w w' := by
  obtain ⟨x, y, rfl, hx, hy⟩ := h
  obtain ⟨n, hn⟩ : ∃ n, b.2.2 = n := ⟨_, rfl⟩
  rw [hn]
  obtain ⟨a1, c1, rfl⟩ := hx.len
  obtain ⟨a2, c2, rfl⟩ := hy.len
  obtain ⟨n1, hn1⟩ : ∃ n, b.1.length = n := ⟨_, rfl⟩
  obtain ⟨n2, hn2⟩ : ∃ n, b.2.1.length = n := ⟨_, rfl⟩
  rw [hn1] at hx ⊢
  rw [hn2] at hy ⊢
  obtain ⟨os, hos⟩ : ∃ os, flat b.1 ++ flat b.2.1 = os := ⟨_, rfl⟩
  rw [hos]
  obtain ⟨s, hs⟩ : ∃ s, s = w.heap.size := ⟨_, rfl⟩
  have hm2 : os.length ≤ 1000000 := by rw [← hos, List.length_append]; omega
  obtain ⟨U, hU⟩ : ∃ U, U = w.alloc (.cells #[.slice a1 n1 c1, .slice a2 n2 c2, .int .i64 n] 25) := ⟨_, rfl⟩
  have hbU : Below w.heap.size w U := hU ▸ below1 w _
  have hzU : U.heap.size = s + 1 := by rw [hU, hs]; simp
  have hown0 : Own eI 3 B (s + 1) [] (.slice (some ⟨s + 1, 0, none⟩) 0 0) (U.alloc (.cells #[] 3)) := by
    have := Own.made (e := eI) (T := 3) B U (s + 1) (by omega)
    rw [hzU] at this; exact this
  obtain ⟨V, hV⟩ : ∃ V, V = (U.alloc (.cells #[] 3)).alloc (.cells #[.slice a1 n1 c1, .slice a2 n2 c2] 23) := ⟨_, rfl⟩
  have hbV : Below U.heap.size U V := hV ▸ below2 U _ _
  have hzV : V.heap.size = s + 3 := by rw [hV]; simp [hzU]
  have hownV : Own eI 3 B (s + 1) [] (.slice (some ⟨s + 1, 0, none⟩) 0 0) V := hV ▸ hown0.stays (below1 _ _)
  have q0 : V.cell? ⟨s + 2, 0, none⟩ = some (.slice a1 n1 c1) := by rw [hV]; simp [go_sem, hzU]
  have q1 : V.cell? ⟨s + 2, 1, none⟩ = some (.slice a2 n2 c2) := by rw [hV]; simp [go_sem, hzU]
  have q2 : V.cell? ⟨s, 2, none⟩ = some (.int .i64 n) := by
    rw [hbV.cell (p := ⟨s, 2, none⟩) (by rw [hzU]; exact Nat.lt_succ_self s), hU, hs]; simp [go_sem]
  have hbw := nx hbU hbV
  have HO0 := Lib.hid hownV
  have HC := Lib.hid (show _ ∧ _ from ⟨q0, q1⟩)
  have HX := Lib.hid (Is.stays eL 98 hx hbw)
  have HY := Lib.hid (Is.stays eL 98 hy hbw)
  have HOs := Lib.hid hos
  have HBV : Hid (B.le V.heap.size) := Lib.hid (hB.mono hbw.size)
  have HBs : Hid (B.le (s + 1)) := Lib.hid (hB.mono (by omega))
  have HU := Lib.hid hU
  have HV := Lib.hid hV
  have HS := Lib.hid hs
  have HQ2 := Lib.hid q2
  have HN1 := Lib.hid hn1
  have HN2 := Lib.hid hn2
  rw [← hs] at hbw ⊢
  clear hx hy hn hU hV hs hown0 hownV q0 q1 q2 hbU hbV hn1 hn2
  go_enter Tryz.func100, Tryz.ntmps100
  go_wp2_with fail
  rw [← HU.out, ← HV.out, ← HS.out]
  refine (concat_any B b.1 b.2.1 _ _ (s + 2) V HX.out HY.out (by omega) HC.out.1 HC.out.2 HBV.out h1 h3).mono ?_
  rintro e w1 ⟨v1, rfl, hb1, hl1⟩
  obtain ⟨a3, c3, rfl⟩ := hl1.len
  obtain ⟨n3, hn3⟩ : ∃ n, (b.1 ++ b.2.1).length = n := ⟨_, rfl⟩
  rw [hn3] at hl1 ⊢
  have HL1 := Lib.hid hl1
  clear hl1 hn3
  have hf3 : (flat (b.1 ++ b.2.1)).length ≤ 1000000 := by rw [flat_app, hos]; exact hm2
  have HF3 := Lib.hid hf3
  clear hf3 hos
  go_wp2_with fail
  refine (ords_big B (b.1 ++ b.2.1) _ w1 HL1.out (HBV.out.mono hb1.size) h5 HF3.out).mono ?_
  rintro e w2 ⟨v2, rfl, hb2, hol⟩
  rw [flat_app, HOs.out] at hol
  obtain ⟨a4, c4, rfl⟩ := hol.len
  obtain ⟨m, hmm⟩ : ∃ m, m = os.length := ⟨_, rfl⟩
  rw [← hmm] at hm2 hol ⊢
  have HM := Lib.hid hmm
  have HE := Lib.hid hol
  have HO2 := Lib.hid ((HO0.out.stays hb1).stays hb2)
  have hbw2 : Below s w w2 := hbw.trans ((nx hb1 hb2).mono (by omega))
  have hz2 : s + 3 ≤ w2.heap.size := by have := hb1.size; have := hb2.size; omega
  have HQ := Lib.hid (((nx hb1 hb2).cell (p := ⟨s, 2, none⟩) (by rw [hzV]; show s < s + 3; omega)).trans HQ2.out)
  clear hmm hol hb1 hbw h1 h2 h3 h4 h5
  go_wp2
  go_loopw [3, 16] (fun t i wr => ∃ k : Nat, k ≤ m ∧ i = .int .i64 k ∧ Below (s + 1) w2 wr ∧ OL B os (.slice a4 m c4) wr ∧ ∃ g c, t = .slice (some ⟨g, 0, none⟩) k c ∧ Own eI 3 B (s + 1) ((os.map oid).take k) t wr) (fun _ i _ => m - (intOf i).toNat)
  case atStart => exact ⟨0, Nat.zero_le _, rfl, Below.refl _ _, HE.out, s + 1, 0, rfl, HO2.out⟩
  case round =>
    obtain ⟨k, hk, rfl, hb, hol, g, c, rfl, hown⟩ := hrel
    have HOw := Lib.hid hown
    have HBw := Lib.hid hb
    have HOL := Lib.hid hol
    have hszw : s + 1 ≤ wr.heap.size := by have := hb.size; omega
    clear hown hb hol
    by_cases hkm : k < m
    · have hkm2 : (k : Int) < m := by omega
      have hko : k < os.length := by rw [← HM.out]; exact hkm
      obtain ⟨aa, ca, ee, hel⟩ := HOL.out
      rw [← HM.out] at ee
      simp only [Value.slice.injEq] at ee
      obtain ⟨rfl, _, rfl⟩ := ee
      rcases hel with ⟨e, _⟩ | ⟨b2, off2, rfl, hat2⟩
      · rw [e] at hko; cases hko
      have hc5 := at5 hat2 k hko
      have hbb := hat2.1
      have hsn : (os.map oid).take (k + 1) = (os.map oid).take k ++ [os[k].1] := by
        rw [Da.take_snoc (by rw [List.length_map]; exact hko), List.getElem_map]; rfl
      have hlt : ((os.map oid).take k).length = k := by rw [List.length_take, List.length_map]; omega
      obtain ⟨⟨o1, o2, o3, o4, o5⟩, ho⟩ : ∃ o, os[k] = o := ⟨_, rfl⟩
      rw [ho] at hc5 hsn
      simp only at hc5 hsn
      obtain ⟨s0, s1, s2, s3, s4⟩ := hc5
      obtain ⟨v8, w8, hrun, hown8, hb8, hk8⟩ := id_app (zs := (os.map oid).take k) (ag := some ⟨g, 0, none⟩) (cg := c) o1 o2 o3 o4 o5 HBs.out hszw (by rw [hlt]; exact HOw.out) (by omega)
      rw [hlt] at hrun
      rw [← hsn] at hown8
      have hn8 : ((os.map oid).take (k + 1)).length = k + 1 := by rw [List.length_take, List.length_map]; omega
      obtain ⟨g8, c8, rfl, _⟩ := ints_own hown8 (fun e => by
        have := (hown8.is (by decide) HBs.out).len
        obtain ⟨a, c, e2⟩ := this
        rw [e, hn8] at e2
        simp at e2)
      rw [hn8] at hrun hown8
      have HRel := Lib.hid (show Below (s + 1) w2 w8 ∧ OL B os (.slice (some ⟨b2, off2, none⟩) m c4) w8 ∧ Own eI 3 B (s + 1) ((os.map oid).take (k + 1)) (.slice (some ⟨g8, 0, none⟩) (k + 1) c8) w8 from ⟨HBw.out.trans hb8, Is.keep eO 70 HOL.out (hk8 _ (by decide)), hown8⟩)
      clear hat2 ho hsn hlt hown8 hb8 hk8 hn8
      go_wp2
      go_roundw
      case rel => exact ⟨k + 1, by omega, by go_num, HRel.out.1, HRel.out.2.1, g8, c8, rfl, HRel.out.2.2⟩
      case measure => simp [intOf]; omega
    · obtain rfl : k = m := by omega
      have htk : (os.map oid).take k = os.map oid := List.take_of_length_le (by rw [List.length_map, ← HM.out]; exact Nat.le_refl _)
      have hlm : (os.map oid).length = k := by rw [List.length_map]; exact HM.out.symm
      have hown := HOw.out
      rw [htk] at hown
      obtain ⟨g', c', e, hg1, hgc, hint⟩ := ints_own hown (by simp)
      rw [hlm] at e hgc hint
      simp only [Value.slice.injEq, Option.some.injEq, Addr.mk.injEq, and_true, true_and] at e
      obtain ⟨rfl, rfl⟩ := e
      have HI := Lib.hid hint
      have HLm := Lib.hid hlm.symm
      have hbw3 : Below s w wr := hbw2.trans (HBw.out.mono (Nat.le_succ s))
      have hq3 : wr.cell? ⟨s, 2, none⟩ = some (.int .i64 n) := (HBw.out.cell (p := ⟨s, 2, none⟩) (Nat.lt_succ_self s)).trans HQ.out
      have hsz3 : s < wr.heap.size := by omega
      clear hown htk hlm hint hkm hbw2
      go_wp2_with fail
      refine (sort2_any g k c _ wr HLm.out HI.out (by omega)).mono ?_
      rintro e w4 ⟨ss, rfl, hg4, hi4, hp, hsd, hsl⟩
      have hq4 : w4.cell? ⟨s, 2, none⟩ = some (.int .i64 n) := (grown_cell hg4 hsz3 (by simp; omega)).trans hq3
      have hb4 : Below s w w4 := hbw3.grown hg4 (by omega) (fun k hk => by injection hk with e; omega)
      rw [← HLm.out] at hi4 hsl
      clear hq3
      have hF : ∀ u, w4.grownBy u (some g) → u.cell? ⟨s, 2, none⟩ = some (.int .i64 n) := fun u hu => (grown_cell hu (by have := hg4.size; omega) (by simp; omega)).trans hq4
      have hs4 : s ≤ w4.heap.size := by have := hg4.size; omega
      rcases k with _ | k
      · have HZ : Hid (idsB os n = true) := Lib.hid (by
          have : os = [] := List.eq_nil_of_length_eq_zero HM.out.symm
          subst this; simp [idsB])
        go_wp2
        refine Rf.region [0, 1, 2, 3, 4, 5, 6, 7, 8, 9, 10, 11, 12, 13, 14, 15, 16, 17, 18, 19] (by kernel_rfl) (by kernel_rfl) (by kernel_rfl) (fun _ _ d _ _ h => by cases d <;> exact h) ?_
        repeat (first | (refine Rf.Steps.skip (by rfl) (by kernel_rfl) (by rfl) ?_; simp only [Act.put, List.setIfInBounds_toArray, List.set_cons_zero, List.set_cons_succ]) | (refine Rf.Steps.pure (v := ?_) (by rfl) (by kernel_rfl) (by rfl) ?_ ?_; rotate_left; (intro w_ hS_; skip; go_simp <;> with_reducible rfl); simp only [Act.put, List.setIfInBounds_toArray, List.set_cons_zero, List.set_cons_succ]))
        refine Rf.Steps.nil (by kernel_rfl) ?_
        intro w5 hb5
        go_wp2
        go_ret
        exact ⟨ret_bool HZ.out.symm, hb4.trans (hb5.mono hs4)⟩
      · obtain ⟨last, hlast⟩ : ∃ x, ss.getD k 0 = x := ⟨_, rfl⟩
        have hz := idsB_of (n := n) hp hsd hsl
        rw [hlast] at hz
        have HZ := Lib.hid hz
        have HC4 := Lib.hid (show ∀ u, Below w4.heap.size w4 u → u.cell? ⟨g, k, none⟩ = some (.int .i64 last) from fun u hu => by
          rw [← hlast]; exact ((hi4.stays hu).2 k (Nat.lt_succ_self k)).1)
        have HI4 := Lib.hid hi4
        have HSl := Lib.hid hsl
        have hkc : (k : Int) < (k : Int) + 1 := by omega
        have hd0 : ((k : Int) + 1 == 0) = false := by simp; omega
        have hwk : IntKind.i64.wrap (k : Int) = (k : Int) := by rw [IntKind.wrap_i64]; omega
        have hk0 : (0 : Int) ≤ (k : Int) := by omega
        clear hz hi4 hsl hp hsd hlast hq4 hg4
        by_cases hln : last < n
        · have HZ2 : Hid (idsB os n = decide ((Lib.compact ss).length = k + 1)) := Lib.hid (by rw [HZ.out, decide_eq_true hln, Bool.true_and])
          go_wp2
          refine Rh.region (fun u => w4.grownBy u (some g)) (fun u => Below w4.heap.size w4 u) (fun _ _ h k => grown_stays _ _ _ _ h k) (fun _ _ h k => nx h k) (grown_drew w4 _) ((Below.refl _ _).drew) [0, 1, 2, 8, 9, 3, 4, 5, 6, 7, 10, 11, 12, 15, 13, 14, 16, 17, 18, 19] (by kernel_rfl) (by kernel_rfl) (by kernel_rfl) (fun _ _ d _ _ h => by cases d <;> exact h) ?_
          repeat (first | (refine Rh.Steps.skip (by rfl) (by kernel_rfl) (by rfl) ?_; simp only [Act.put, List.setIfInBounds_toArray, List.set_cons_zero, List.set_cons_succ]) | (refine Rh.Steps.pure (v := ?_) (by rfl) (by kernel_rfl) (by rfl) ?_ ?_; rotate_left; (intro w_ hS_; have hk_ := hF w_ hS_; go_simp <;> with_reducible rfl); simp only [Act.put, List.setIfInBounds_toArray, List.set_cons_zero, List.set_cons_succ]))
          refine Rh.Steps.forced (i := 7) (by kernel_rfl) ?_
          refine Rh.One.val (fun v u => v = .int .i64 last) (fun _ _ _ h _ => h) (by rfl) (by rfl) ?_ ?_
          · intro w_ hS_ hG_
            have hc := HC4.out w_ hG_
            refine ⟨_, w_, ?_, Below.refl _ _, rfl⟩
            go_simp
          rintro v7 u7 rfl
          simp only [Act.put, List.setIfInBounds_toArray, List.set_cons_zero, List.set_cons_succ]
          repeat (first | (refine Rh.Steps.skip (by rfl) (by kernel_rfl) (by rfl) ?_; simp only [Act.put, List.setIfInBounds_toArray, List.set_cons_zero, List.set_cons_succ]) | (refine Rh.Steps.pure (v := ?_) (by rfl) (by kernel_rfl) (by rfl) ?_ ?_; rotate_left; (intro w_ hS_; have hk_ := hF w_ hS_; go_simp <;> with_reducible rfl); simp only [Act.put, List.setIfInBounds_toArray, List.set_cons_zero, List.set_cons_succ]))
          refine Rh.Steps.forced (i := 13) (by kernel_rfl) ?_
          refine Rh.One.callw (fun v u => v = .slice (some ⟨g, 0, none⟩) (Lib.compact ss).length c ∧ Below s w u ∧ s ≤ u.heap.size) (fun v _ _ h k => ⟨h.1, h.2.1.trans (k.mono h.2.2), Nat.le_trans h.2.2 k.size⟩) (f := ?_) (args := ?_) (by rfl) (by rfl) ?_ ?_ ?_
          rotate_left 2
          · intro w_ hS_ hG_; go_simp <;> first | with_reducible rfl | (constructor <;> with_reducible rfl)
          · intro w_ hS_ hG_
            go_at_call 132
            refine (compact2_any g (k + 1) c ss w_ HSl.out.symm (HI4.out.stays hG_.1) hgc (by omega)).mono ?_
            rintro e w' ⟨rfl, hg'⟩
            exact ⟨_, rfl, grown_trans hS_ hg', rfl, (hb4.trans (hG_.1.mono hs4)).grown hg' (by have := hb4.size; have := hG_.1.size; omega) (fun k hk => by injection hk with e; omega), by have := hG_.1.size; have := hg'.size; omega⟩
          rintro v13 u13 ⟨rfl, hv13⟩
          simp only [Act.put, List.setIfInBounds_toArray, List.set_cons_zero, List.set_cons_succ]
          repeat (first | (refine Rh.Steps.skip (by rfl) (by kernel_rfl) (by rfl) ?_; simp only [Act.put, List.setIfInBounds_toArray, List.set_cons_zero, List.set_cons_succ]) | (refine Rh.Steps.pure (v := ?_) (by rfl) (by kernel_rfl) (by rfl) ?_ ?_; rotate_left; (intro w_ hS_; have hk_ := hF w_ hS_; go_simp <;> with_reducible rfl); simp only [Act.put, List.setIfInBounds_toArray, List.set_cons_zero, List.set_cons_succ]))
          refine Rh.Steps.nil (by kernel_rfl) ?_
          rintro w5 _ ⟨_, hb5, _⟩
          go_wp2
          go_ret
          exact ⟨ret_bool (by rw [HZ2.out, Bool.eq_iff_iff]; simp; omega), hb5⟩
        · have HZ2 : Hid (idsB os n = false) := Lib.hid (by rw [HZ.out, decide_eq_false hln, Bool.false_and])
          have fL : decide (last < n) = false := decide_eq_false hln
          go_wp2
          refine Rh.region (fun u => w4.grownBy u (some g)) (fun u => Below w4.heap.size w4 u) (fun _ _ h k => grown_stays _ _ _ _ h k) (fun _ _ h k => nx h k) (grown_drew w4 _) ((Below.refl _ _).drew) [0, 1, 2, 8, 9, 3, 4, 5, 6, 7, 10, 11, 12, 15, 13, 14, 16, 17, 18, 19] (by kernel_rfl) (by kernel_rfl) (by kernel_rfl) (fun _ _ d _ _ h => by cases d <;> exact h) ?_
          repeat (first | (refine Rh.Steps.skip (by rfl) (by kernel_rfl) (by rfl) ?_; simp only [Act.put, List.setIfInBounds_toArray, List.set_cons_zero, List.set_cons_succ]) | (refine Rh.Steps.pure (v := ?_) (by rfl) (by kernel_rfl) (by rfl) ?_ ?_; rotate_left; (intro w_ hS_; have hk_ := hF w_ hS_; go_simp <;> with_reducible rfl); simp only [Act.put, List.setIfInBounds_toArray, List.set_cons_zero, List.set_cons_succ]))
          refine Rh.Steps.forced (i := 7) (by kernel_rfl) ?_
          refine Rh.One.val (fun v u => v = .int .i64 last) (fun _ _ _ h _ => h) (by rfl) (by rfl) ?_ ?_
          · intro w_ hS_ hG_
            have hc := HC4.out w_ hG_
            refine ⟨_, w_, ?_, Below.refl _ _, rfl⟩
            go_simp
          rintro v7 u7 rfl
          simp only [Act.put, List.setIfInBounds_toArray, List.set_cons_zero, List.set_cons_succ]
          repeat (first | (refine Rh.Steps.skip (by rfl) (by kernel_rfl) (by rfl) ?_; simp only [Act.put, List.setIfInBounds_toArray, List.set_cons_zero, List.set_cons_succ]) | (refine Rh.Steps.pure (v := ?_) (by rfl) (by kernel_rfl) (by rfl) ?_ ?_; rotate_left; (intro w_ hS_; have hk_ := hF w_ hS_; go_simp <;> with_reducible rfl); simp only [Act.put, List.setIfInBounds_toArray, List.set_cons_zero, List.set_cons_succ]))
          refine Rh.Steps.nil (by kernel_rfl) ?_
          rintro w5 _ hb5
          go_wp2
          go_ret
          exact ⟨ret_bool HZ2.out.symm, hb4.trans (hb5.1.mono hs4)⟩
end Go.Proofs.YthecinmekoaphaaGreat.Bk
