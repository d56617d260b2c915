/- Package book as it landed: haveOwnIds. -/
import Derived.Test.YtfnmmknbjfmagaaBoB
import Derived.Test.YtfnmmknbjfmagaaBoA
import Derived.Test.YtfnmmknbjfmagaaLvE
namespace Go.Proofs.Ytfnmmknbjfmagaa.Bk
open Go.RowKit
set_option linter.unusedVariables false
open Go.Proofs.Ytfnmmknbjfmagaa.Rw
open Go.Proofs.Ytfnmmknbjfmagaa.Da
open Go.Proofs.Ytfnmmknbjfmagaa.Ro
open Go.Proofs.Ytfnmmknbjfmagaa.Le
/-- No two have one number, none the next one's or a greater one. -/
def idsB (os : List Od) (n : Int) : Bool := decide ((os.map oid).Nodup ∧ ∀ i ∈ os.map oid, i < n)
def fI : Flat Int := ⟨1, fun x => [.int .i64 x], fun _ => rfl, fun o u hu => by simp at hu; subst hu; rfl⟩
theorem elemI : Elem Try.prog 97 3 eI.k 8 := elem_of Try.underlying97 infoI rfl (by decide)
theorem typesI : 3 ∉ eI.ts := by decide
theorem ints_own {B : Bs} {Bo : Nat} {zs : List Int} {v : Value} {w : World} (h : Own eI 3 B Bo zs v w) (hn : v ≠ .slice none 0 0) : ∃ g cap, v = .slice (some ⟨g, 0, none⟩) zs.length cap ∧ Bo ≤ g ∧ zs.length ≤ cap ∧ Ints g zs.length (fun j => zs.getD j 0) w := by
  rcases Row.ofOwn (e := fI) (show Own fI.enc 3 B Bo zs v w from h) with ⟨e, _⟩ | ⟨g, cap, h1, h2, h3, h4⟩
  · exact absurd e hn
  · refine ⟨g, cap, h1, h2, h4.le, h4.lt, fun j hj => ⟨?_, h4.frozen _⟩⟩
    have := h4.cell (i := j) (x := zs[j]) (List.getElem?_eq_getElem hj) (j := 0) rfl
    rw [show j * fI.k + 0 = j from Nat.mul_one j] at this
    rw [this]; simp [hj]
theorem id_app {B : Bs} {n cg : Nat} {ag : Option Addr} {zs : List Int} {wr : World} (o1 o2 o3 o4 o5 : Int) (hBn : B.le n) (hsz : n ≤ wr.heap.size) (hown : Own eI 3 B n zs (.slice ag zs.length cg) wr) (hgl : zs.length ≤ 10000000) :
    ∃ v8 w8, appRun Try.prog 97 97 (.slice ag zs.length cg) (.slice (some ⟨wr.heap.size + 1, 0, none⟩) 1 1) ((wr.alloc (.cells #[.int .i64 o1, .int .i64 o2, .int .i64 o3, .int .i64 o4, .int .i64 o5] 31)).alloc (.cells #[.int .i64 o1] 3)) = .ok v8 w8 ∧ Own eI 3 B n (zs ++ [o1]) v8 w8 ∧ Below n wr w8 ∧ ∀ ts, 3 ∉ ts → Keeps B ts wr w8 := by
  obtain ⟨V, hV⟩ : ∃ V, V = wr.alloc (.cells #[.int .i64 o1, .int .i64 o2, .int .i64 o3, .int .i64 o4, .int .i64 o5] 31) := ⟨_, rfl⟩
  have hbV : Below wr.heap.size wr V := hV ▸ below1 wr _
  have hzV : V.heap.size = wr.heap.size + 1 := by rw [hV]; simp
  obtain ⟨U, hU⟩ : ∃ U, U = V.alloc (.cells #[.int .i64 o1] 3) := ⟨_, rfl⟩
  have hbU : Below V.heap.size V U := hU ▸ below1 V _
  have hzU : U.heap.size = V.heap.size + 1 := by rw [hU]; simp
  have hbUV := nx hbV hbU
  have hsrc : Is eI 3 B [o1] (.slice (some ⟨V.heap.size, 0, none⟩) 1 1) U := by
    rw [hU]; exact Is.one (e := eI) (T := 3) (B := B) (x := o1) (cs := [.int .i64 o1]) (w := V) (hBn.mono (by omega)) rfl
  obtain ⟨v8, w8, hrun, hown8, _, hbl, hkp⟩ := Own.append elemI 97 typesI hBn (by omega) (Own.stays hown hbUV) hsrc (by simp only [List.length_singleton]; omega) (by omega)
  rw [hzV, hU, hV] at hrun
  exact ⟨v8, w8, hrun, hown8, (hbUV.mono (by omega)).trans (hbl _ U (Nat.le_refl _) (Below.refl _ _)), fun ts ht => (Keeps.of_below hbUV).trans (hkp ts ht)⟩
/-- Sorted, whatever room there is. -/
theorem sort2_any (g m c : Nat) (zs : List Int) (w : World) (hm : m = zs.length) (h : Ints g m (fun j => zs.getD j 0) w) (h6 : m ≤ 10000000) : Calls Try.prog 71 #[.slice (some ⟨g, 0, none⟩) m c] w (SortPost zs g w) := by
  subst hm
  refine (Any.slices_Sort_int Try.sortL g 0 c zs w h.holds h.1 (by omega)).mono ?_
  rintro e w' ⟨rfl, n, os, rfl⟩
  have hl : (zs.mergeSort fun x y => decide (x ≤ y)).length = zs.length := List.length_mergeSort zs
  refine ⟨_, rfl, grown_putRow _ _, ints_putRow os h hl, List.mergeSort_perm zs _, ?_, hl⟩
  have := List.pairwise_mergeSort (le := fun (x y : Int) => decide (x ≤ y)) (fun a b c h1 h2 => by simp at *; omega) (fun a b => by simp; omega) zs
  exact this.imp (fun h => by simpa using h)
theorem compact2_any (g m c : Nat) (ss : List Int) (w : World) (hm : m = ss.length) (h : Ints g m (fun j => ss.getD j 0) w) (hc : m ≤ c) (h6 : m ≤ 10000000) : Calls Try.prog 72 #[.slice (some ⟨g, 0, none⟩) m c] w fun e w' => e = .returned (.slice (some ⟨g, 0, none⟩) (Lib.compact ss).length c) ∧ w.grownBy w' (some g) := by
  subst hm
  refine (Any.slices_Compact_int Try.cmpL g 0 c ss w h.holds (by omega) hc).mono ?_
  rintro e w' ⟨rfl, q, rfl⟩
  have := grown_putRow (w := w) (g := g) (off := 0) (n := q) (Lib.compact ss ++ List.replicate (ss.length - (Lib.compact ss).length) 0).toArray #[]
  rw [Go.Sort.grow_empty] at this
  exact ⟨rfl, this⟩
theorem idsB_of {os : List Od} {n : Int} {ss : List Int} {k : Nat} (hp : ss.Perm (os.map oid)) (hs : ss.Pairwise (· ≤ ·)) (hl : ss.length = k + 1) : idsB os n = (decide (ss.getD k 0 < n) && decide ((Lib.compact ss).length = k + 1)) := by
  have h1 := compact_nodup hs
  rw [hl] at h1
  have hk : k < ss.length := by omega
  have hget : ss.getD k 0 = ss[k] := by simp [hk]
  unfold idsB
  rw [Bool.eq_iff_iff, Bool.and_eq_true, decide_eq_true_iff, decide_eq_true_iff, decide_eq_true_iff, h1, hp.nodup_iff, hget]
  constructor
  · rintro ⟨a, b⟩
    exact ⟨b _ (hp.mem_iff.1 (List.getElem_mem hk)), a⟩
  · rintro ⟨a, b⟩
    refine ⟨b, fun i hi => ?_⟩
    obtain ⟨j, hj, rfl⟩ := List.getElem_of_mem (hp.mem_iff.2 hi)
    rcases Nat.lt_or_ge j k with h | h
    · have := List.pairwise_iff_getElem.1 hs j k hj hk h
      omega
    · have e : j = k := by omega
      subst e; exact a
set_option maxRecDepth 8000 in
set_option maxHeartbeats 4000000 in
theorem ids_any (B : Bs) (b : Bk) (v : Value) (w : World) (h : BL B b v w) (hB : B.le w.heap.size) (h1 : b.1.length ≤ 1000000) (h2 : (flat b.1).length ≤ 500000) (h3 : b.2.1.length ≤ 1000000) (h4 : (flat b.2.1).length ≤ 500000) (h5 : (b.1 ++ b.2.1).length ≤ 1000000) :
    Calls Try.prog 46 #[v] w fun e w' => e = .returned (.bool (idsB (flat b.1 ++ flat b.2.1) b.2.2)) ∧ Below w.heap.size w w' := by
  obtain ⟨x, y, rfl, hx, hy⟩ := h
  obtain ⟨n, hn⟩ : ∃ n, b.2.2 = n := ⟨_, rfl⟩
  rw [hn]
  obtain ⟨a1, c1, rfl⟩ := hx.len
  obtain ⟨a2, c2, rfl⟩ := hy.len
  obtain ⟨n1, hn1⟩ : ∃ n, b.1.length = n := ⟨_, rfl⟩
  obtain ⟨n2, hn2⟩ : ∃ n, b.2.1.length = n := ⟨_, rfl⟩
  rw [hn1] at hx ⊢
  rw [hn2] at hy ⊢
  obtain ⟨os, hos⟩ : ∃ os, flat b.1 ++ flat b.2.1 = os := ⟨_, rfl⟩
  rw [hos]
  obtain ⟨s, hs⟩ : ∃ s, s = w.heap.size := ⟨_, rfl⟩
  have hm2 : os.length ≤ 1000000 := by rw [← hos, List.length_append]; omega
  obtain ⟨U, hU⟩ : ∃ U, U = w.alloc (.cells #[.slice a1 n1 c1, .slice a2 n2 c2, .int .i64 n] 26) := ⟨_, rfl⟩
  have hbU : Below w.heap.size w U := hU ▸ below1 w _
  have hzU : U.heap.size = s + 1 := by rw [hU, hs]; simp
  have hown0 : Own eI 3 B (s + 1) [] (.slice (some ⟨s + 1, 0, none⟩) 0 0) (U.alloc (.cells #[] 3)) := by
    have := Own.made (e := eI) (T := 3) B U (s + 1) (by omega)
    rw [hzU] at this; exact this
  obtain ⟨V, hV⟩ : ∃ V, V = (U.alloc (.cells #[] 3)).alloc (.cells #[.slice a1 n1 c1, .slice a2 n2 c2] 24) := ⟨_, rfl⟩
  have hbV : Below U.heap.size U V := hV ▸ below2 U _ _
  have hzV : V.heap.size = s + 3 := by rw [hV]; simp [hzU]
  have hownV : Own eI 3 B (s + 1) [] (.slice (some ⟨s + 1, 0, none⟩) 0 0) V := hV ▸ hown0.stays (below1 _ _)
  have q0 : V.cell? ⟨s + 2, 0, none⟩ = some (.slice a1 n1 c1) := by rw [hV]; simp [go_sem, hzU]
  have q1 : V.cell? ⟨s + 2, 1, none⟩ = some (.slice a2 n2 c2) := by rw [hV]; simp [go_sem, hzU]
  have q2 : V.cell? ⟨s, 2, none⟩ = some (.int .i64 n) := by
    rw [hbV.cell (p := ⟨s, 2, none⟩) (by rw [hzU]; exact Nat.lt_succ_self s), hU, hs]; simp [go_sem]
  have hbw := nx hbU hbV
  have HO0 := Lib.hid hownV
  have HC := Lib.hid (show _ ∧ _ from ⟨q0, q1⟩)
  have HX := Lib.hid (Is.stays eL 48 hx hbw)
  have HY := Lib.hid (Is.stays eL 48 hy hbw)
  have HOs := Lib.hid hos
  have HBV : Hid (B.le V.heap.size) := Lib.hid (hB.mono hbw.size)
  have HBs : Hid (B.le (s + 1)) := Lib.hid (hB.mono (by omega))
  have HU := Lib.hid hU
  have HV := Lib.hid hV
  have HS := Lib.hid hs
  have HQ2 := Lib.hid q2
  have HN1 := Lib.hid hn1
  have HN2 := Lib.hid hn2
  rw [← hs] at hbw ⊢
  clear hx hy hn hU hV hs hown0 hownV q0 q1 q2 hbU hbV hn1 hn2
  go_enter Try.func46, Try.ntmps46
  go_wp2_with fail
  rw [← HU.out, ← HV.out, ← HS.out]
  refine (concat_any B b.1 b.2.1 _ _ (s + 2) V HX.out HY.out (by omega) HC.out.1 HC.out.2 HBV.out h1 h3).mono ?_
  rintro e w1 ⟨v1, rfl, hb1, hl1⟩
  obtain ⟨a3, c3, rfl⟩ := hl1.len
  obtain ⟨n3, hn3⟩ : ∃ n, (b.1 ++ b.2.1).length = n := ⟨_, rfl⟩
  rw [hn3] at hl1 ⊢
  have HL1 := Lib.hid hl1
  clear hl1 hn3
  have hf3 : (flat (b.1 ++ b.2.1)).length ≤ 1000000 := by rw [flat_app, hos]; exact hm2
  have HF3 := Lib.hid hf3
  clear hf3 hos
  go_wp2_with fail
  refine (ords_big B (b.1 ++ b.2.1) _ w1 HL1.out (HBV.out.mono hb1.size) h5 HF3.out).mono ?_
  rintro e w2 ⟨v2, rfl, hb2, hol⟩
  rw [flat_app, HOs.out] at hol
  obtain ⟨a4, c4, rfl⟩ := hol.len
  obtain ⟨m, hmm⟩ : ∃ m, m = os.length := ⟨_, rfl⟩
  rw [← hmm] at hm2 hol ⊢
  have HM := Lib.hid hmm
  have HE := Lib.hid hol
  have HO2 := Lib.hid ((HO0.out.stays hb1).stays hb2)
  have hbw2 : Below s w w2 := hbw.trans ((nx hb1 hb2).mono (by omega))
  have hz2 : s + 3 ≤ w2.heap.size := by have := hb1.size; have := hb2.size; omega
  have HQ := Lib.hid (((nx hb1 hb2).cell (p := ⟨s, 2, none⟩) (by rw [hzV]; show s < s + 3; omega)).trans HQ2.out)
  clear hmm hol hb1 hbw h1 h2 h3 h4 h5
  go_wp2
  go_loopw [3, 16] (fun t i wr => ∃ k : Nat, k ≤ m ∧ i = .int .i64 k ∧ Below (s + 1) w2 wr ∧ OL B os (.slice a4 m c4) wr ∧ ∃ g c, t = .slice (some ⟨g, 0, none⟩) k c ∧ Own eI 3 B (s + 1) ((os.map oid).take k) t wr) (fun _ i _ => m - (intOf i).toNat)
  case atStart => exact ⟨0, Nat.zero_le _, rfl, Below.refl _ _, HE.out, s + 1, 0, rfl, HO2.out⟩
  case round =>
    obtain ⟨k, hk, rfl, hb, hol, g, c, rfl, hown⟩ := hrel
    have HOw := Lib.hid hown
    have HBw := Lib.hid hb
    have HOL := Lib.hid hol
    have hszw : s + 1 ≤ wr.heap.size := by have := hb.size; omega
    clear hown hb hol
    by_cases hkm : k < m
    · have hkm2 : (k : Int) < m := by omega
      have hko : k < os.length := by rw [← HM.out]; exact hkm
      obtain ⟨aa, ca, ee, hel⟩ := HOL.out
      rw [← HM.out] at ee
      simp only [Value.slice.injEq] at ee
      obtain ⟨rfl, _, rfl⟩ := ee
      rcases hel with ⟨e, _⟩ | ⟨b2, off2, rfl, hat2⟩
      · rw [e] at hko; cases hko
      have hc5 := at5 hat2 k hko
      have hbb := hat2.1
      have hsn : (os.map oid).take (k + 1) = (os.map oid).take k ++ [os[k].1] := by
        rw [Da.take_snoc (by rw [List.length_map]; exact hko), List.getElem_map]; rfl
      have hlt : ((os.map oid).take k).length = k := by rw [List.length_take, List.length_map]; omega
      obtain ⟨⟨o1, o2, o3, o4, o5⟩, ho⟩ : ∃ o, os[k] = o := ⟨_, rfl⟩
      rw [ho] at hc5 hsn
      simp only at hc5 hsn
      obtain ⟨s0, s1, s2, s3, s4⟩ := hc5
      obtain ⟨v8, w8, hrun, hown8, hb8, hk8⟩ := id_app (zs := (os.map oid).take k) (ag := some ⟨g, 0, none⟩) (cg := c) o1 o2 o3 o4 o5 HBs.out hszw (by rw [hlt]; exact HOw.out) (by omega)
      rw [hlt] at hrun
      rw [← hsn] at hown8
      have hn8 : ((os.map oid).take (k + 1)).length = k + 1 := by rw [List.length_take, List.length_map]; omega
      obtain ⟨g8, c8, rfl, _⟩ := ints_own hown8 (fun e => by
        have := (hown8.is (by decide) HBs.out).len
        obtain ⟨a, c, e2⟩ := this
        rw [e, hn8] at e2
        simp at e2)
      rw [hn8] at hrun hown8
      have HRel := Lib.hid (show Below (s + 1) w2 w8 ∧ OL B os (.slice (some ⟨b2, off2, none⟩) m c4) w8 ∧ Own eI 3 B (s + 1) ((os.map oid).take (k + 1)) (.slice (some ⟨g8, 0, none⟩) (k + 1) c8) w8 from ⟨HBw.out.trans hb8, Is.keep eO 31 HOL.out (hk8 _ (by decide)), hown8⟩)
      clear hat2 ho hsn hlt hown8 hb8 hk8 hn8
      go_wp2
      go_roundw
      case rel => exact ⟨k + 1, by omega, by go_num, HRel.out.1, HRel.out.2.1, g8, c8, rfl, HRel.out.2.2⟩
      case measure => simp [intOf]; omega
    · obtain rfl : k = m := by omega
      have htk : (os.map oid).take k = os.map oid := List.take_of_length_le (by rw [List.length_map, ← HM.out]; exact Nat.le_refl _)
      have hlm : (os.map oid).length = k := by rw [List.length_map]; exact HM.out.symm
      have hown := HOw.out
      rw [htk] at hown
      obtain ⟨g', c', e, hg1, hgc, hint⟩ := ints_own hown (by simp)
      rw [hlm] at e hgc hint
      simp only [Value.slice.injEq, Option.some.injEq, Addr.mk.injEq, and_true, true_and] at e
      obtain ⟨rfl, rfl⟩ := e
      have HI := Lib.hid hint
      have HLm := Lib.hid hlm.symm
      have hbw3 : Below s w wr := hbw2.trans (HBw.out.mono (Nat.le_succ s))
      have hq3 : wr.cell? ⟨s, 2, none⟩ = some (.int .i64 n) := (HBw.out.cell (p := ⟨s, 2, none⟩) (Nat.lt_succ_self s)).trans HQ.out
      have hsz3 : s < wr.heap.size := by omega
      clear hown htk hlm hint hkm hbw2
      go_wp2_with fail
      refine (sort2_any g k c _ wr HLm.out HI.out (by omega)).mono ?_
      rintro e w4 ⟨ss, rfl, hg4, hi4, hp, hsd, hsl⟩
      have hq4 : w4.cell? ⟨s, 2, none⟩ = some (.int .i64 n) := (grown_cell hg4 hsz3 (by simp; omega)).trans hq3
      have hb4 : Below s w w4 := hbw3.grown hg4 (by omega) (fun k hk => by injection hk with e; omega)
      rw [← HLm.out] at hi4 hsl
      clear hq3
      have hF : ∀ u, w4.grownBy u (some g) → u.cell? ⟨s, 2, none⟩ = some (.int .i64 n) := fun u hu => (grown_cell hu (by have := hg4.size; omega) (by simp; omega)).trans hq4
      have hs4 : s ≤ w4.heap.size := by have := hg4.size; omega
      rcases k with _ | k
      · have HZ : Hid (idsB os n = true) := Lib.hid (by
          have : os = [] := List.eq_nil_of_length_eq_zero HM.out.symm
          subst this; simp [idsB])
        go_wp2
        refine Rf.region [0, 1, 2, 3, 4, 5, 6, 7, 8, 9, 10, 11, 12, 13, 14, 15, 16, 17, 18, 19] (by kernel_rfl) (by kernel_rfl) (by kernel_rfl) (fun _ _ d _ _ h => by cases d <;> exact h) ?_
        repeat (first | (refine Rf.Steps.skip (by rfl) (by kernel_rfl) (by rfl) ?_; simp only [Act.put, List.setIfInBounds_toArray, List.set_cons_zero, List.set_cons_succ]) | (refine Rf.Steps.pure (v := ?_) (by rfl) (by kernel_rfl) (by rfl) ?_ ?_; rotate_left; (intro w_ hS_; skip; go_simp <;> with_reducible rfl); simp only [Act.put, List.setIfInBounds_toArray, List.set_cons_zero, List.set_cons_succ]))
        refine Rf.Steps.nil (by kernel_rfl) ?_
        intro w5 hb5
        go_wp2
        go_ret
        exact ⟨ret_bool HZ.out.symm, hb4.trans (hb5.mono hs4)⟩
      · obtain ⟨last, hlast⟩ : ∃ x, ss.getD k 0 = x := ⟨_, rfl⟩
        have hz := idsB_of (n := n) hp hsd hsl
        rw [hlast] at hz
        have HZ := Lib.hid hz
        have HC4 := Lib.hid (show ∀ u, Below w4.heap.size w4 u → u.cell? ⟨g, k, none⟩ = some (.int .i64 last) from fun u hu => by
          rw [← hlast]; exact ((hi4.stays hu).2 k (Nat.lt_succ_self k)).1)
        have HI4 := Lib.hid hi4
        have HSl := Lib.hid hsl
        have hkc : (k : Int) < (k : Int) + 1 := by omega
        have hd0 : ((k : Int) + 1 == 0) = false := by simp; omega
        have hwk : IntKind.i64.wrap (k : Int) = (k : Int) := by rw [IntKind.wrap_i64]; omega
        have hk0 : (0 : Int) ≤ (k : Int) := by omega
        clear hz hi4 hsl hp hsd hlast hq4 hg4
        by_cases hln : last < n
        · have HZ2 : Hid (idsB os n = decide ((Lib.compact ss).length = k + 1)) := Lib.hid (by rw [HZ.out, decide_eq_true hln, Bool.true_and])
          go_wp2
          refine Rh.region (fun u => w4.grownBy u (some g)) (fun u => Below w4.heap.size w4 u) (fun _ _ h k => grown_stays _ _ _ _ h k) (fun _ _ h k => nx h k) (grown_drew w4 _) ((Below.refl _ _).drew) [0, 1, 2, 8, 9, 3, 4, 5, 6, 7, 10, 11, 12, 15, 13, 14, 16, 17, 18, 19] (by kernel_rfl) (by kernel_rfl) (by kernel_rfl) (fun _ _ d _ _ h => by cases d <;> exact h) ?_
          repeat (first | (refine Rh.Steps.skip (by rfl) (by kernel_rfl) (by rfl) ?_; simp only [Act.put, List.setIfInBounds_toArray, List.set_cons_zero, List.set_cons_succ]) | (refine Rh.Steps.pure (v := ?_) (by rfl) (by kernel_rfl) (by rfl) ?_ ?_; rotate_left; (intro w_ hS_; have hk_ := hF w_ hS_; go_simp <;> with_reducible rfl); simp only [Act.put, List.setIfInBounds_toArray, List.set_cons_zero, List.set_cons_succ]))
          refine Rh.Steps.forced (i := 7) (by kernel_rfl) ?_
          refine Rh.One.val (fun v u => v = .int .i64 last) (fun _ _ _ h _ => h) (by rfl) (by rfl) ?_ ?_
          · intro w_ hS_ hG_
            have hc := HC4.out w_ hG_
            refine ⟨_, w_, ?_, Below.refl _ _, rfl⟩
            go_simp
          rintro v7 u7 rfl
          simp only [Act.put, List.setIfInBounds_toArray, List.set_cons_zero, List.set_cons_succ]
          repeat (first | (refine Rh.Steps.skip (by rfl) (by kernel_rfl) (by rfl) ?_; simp only [Act.put, List.setIfInBounds_toArray, List.set_cons_zero, List.set_cons_succ]) | (refine Rh.Steps.pure (v := ?_) (by rfl) (by kernel_rfl) (by rfl) ?_ ?_; rotate_left; (intro w_ hS_; have hk_ := hF w_ hS_; go_simp <;> with_reducible rfl); simp only [Act.put, List.setIfInBounds_toArray, List.set_cons_zero, List.set_cons_succ]))
          refine Rh.Steps.forced (i := 13) (by kernel_rfl) ?_
          refine Rh.One.callw (fun v u => v = .slice (some ⟨g, 0, none⟩) (Lib.compact ss).length c ∧ Below s w u ∧ s ≤ u.heap.size) (fun v _ _ h k => ⟨h.1, h.2.1.trans (k.mono h.2.2), Nat.le_trans h.2.2 k.size⟩) (f := ?_) (args := ?_) (by rfl) (by rfl) ?_ ?_ ?_
          rotate_left 2
          · intro w_ hS_ hG_; go_simp <;> first | with_reducible rfl | (constructor <;> with_reducible rfl)
          · intro w_ hS_ hG_
            go_at_call 72
            refine (compact2_any g (k + 1) c ss w_ HSl.out.symm (HI4.out.stays hG_.1) hgc (by omega)).mono ?_
            rintro e w' ⟨rfl, hg'⟩
            exact ⟨_, rfl, grown_trans hS_ hg', rfl, (hb4.trans (hG_.1.mono hs4)).grown hg' (by have := hb4.size; have := hG_.1.size; omega) (fun k hk => by injection hk with e; omega), by have := hG_.1.size; have := hg'.size; omega⟩
          rintro v13 u13 ⟨rfl, hv13⟩
          simp only [Act.put, List.setIfInBounds_toArray, List.set_cons_zero, List.set_cons_succ]
          repeat (first | (refine Rh.Steps.skip (by rfl) (by kernel_rfl) (by rfl) ?_; simp only [Act.put, List.setIfInBounds_toArray, List.set_cons_zero, List.set_cons_succ]) | (refine Rh.Steps.pure (v := ?_) (by rfl) (by kernel_rfl) (by rfl) ?_ ?_; rotate_left; (intro w_ hS_; have hk_ := hF w_ hS_; go_simp <;> with_reducible rfl); simp only [Act.put, List.setIfInBounds_toArray, List.set_cons_zero, List.set_cons_succ]))
          refine Rh.Steps.nil (by kernel_rfl) ?_
          rintro w5 _ ⟨_, hb5, _⟩
          go_wp2
          go_ret
          exact ⟨ret_bool (by rw [HZ2.out, Bool.eq_iff_iff]; simp; omega), hb5⟩
        · have HZ2 : Hid (idsB os n = false) := Lib.hid (by rw [HZ.out, decide_eq_false hln, Bool.false_and])
          have fL : decide (last < n) = false := decide_eq_false hln
          go_wp2
          refine Rh.region (fun u => w4.grownBy u (some g)) (fun u => Below w4.heap.size w4 u) (fun _ _ h k => grown_stays _ _ _ _ h k) (fun _ _ h k => nx h k) (grown_drew w4 _) ((Below.refl _ _).drew) [0, 1, 2, 8, 9, 3, 4, 5, 6, 7, 10, 11, 12, 15, 13, 14, 16, 17, 18, 19] (by kernel_rfl) (by kernel_rfl) (by kernel_rfl) (fun _ _ d _ _ h => by cases d <;> exact h) ?_
          repeat (first | (refine Rh.Steps.skip (by rfl) (by kernel_rfl) (by rfl) ?_; simp only [Act.put, List.setIfInBounds_toArray, List.set_cons_zero, List.set_cons_succ]) | (refine Rh.Steps.pure (v := ?_) (by rfl) (by kernel_rfl) (by rfl) ?_ ?_; rotate_left; (intro w_ hS_; have hk_ := hF w_ hS_; go_simp <;> with_reducible rfl); simp only [Act.put, List.setIfInBounds_toArray, List.set_cons_zero, List.set_cons_succ]))
          refine Rh.Steps.forced (i := 7) (by kernel_rfl) ?_
          refine Rh.One.val (fun v u => v = .int .i64 last) (fun _ _ _ h _ => h) (by rfl) (by rfl) ?_ ?_
          · intro w_ hS_ hG_
            have hc := HC4.out w_ hG_
            refine ⟨_, w_, ?_, Below.refl _ _, rfl⟩
            go_simp
          rintro v7 u7 rfl
          simp only [Act.put, List.setIfInBounds_toArray, List.set_cons_zero, List.set_cons_succ]
          repeat (first | (refine Rh.Steps.skip (by rfl) (by kernel_rfl) (by rfl) ?_; simp only [Act.put, List.setIfInBounds_toArray, List.set_cons_zero, List.set_cons_succ]) | (refine Rh.Steps.pure (v := ?_) (by rfl) (by kernel_rfl) (by rfl) ?_ ?_; rotate_left; (intro w_ hS_; have hk_ := hF w_ hS_; go_simp <;> with_reducible rfl); simp only [Act.put, List.setIfInBounds_toArray, List.set_cons_zero, List.set_cons_succ]))
          refine Rh.Steps.nil (by kernel_rfl) ?_
          rintro w5 _ hb5
          go_wp2
          go_ret
          exact ⟨ret_bool HZ2.out.symm, hb4.trans (hb5.1.mono hs4)⟩
end Go.Proofs.Ytfnmmknbjfmagaa.Bk
