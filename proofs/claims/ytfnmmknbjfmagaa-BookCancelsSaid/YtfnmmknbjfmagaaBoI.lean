/- Lemmas for Place of package book. -/
import Derived.Test.YtfnmmknbjfmagaaBoG
import Derived.Test.YtfnmmknbjfmagaaBoC
import Derived.Test.YtfnmmknbjfmagaaBkL
import Derived.Test.YtfnmmknbjfmagaaBlC
namespace Go.Proofs.Ytfnmmknbjfmagaa.Bk
open Go.RowKit
set_option linter.unusedVariables false
open Go.Proofs.Ytfnmmknbjfmagaa.Rw
open Go.Proofs.Ytfnmmknbjfmagaa.Da
open Go.Proofs.Ytfnmmknbjfmagaa.Le
/-- Ahead of each fill, the orders that are left. -/
theorem fil_take {sd ow s p : Int} : ∀ (os : List Od) {l : List Lv} {q : Int} {fs : List Fl} {lf : Int}, flat l = os → RightL sd l → 0 ≤ q → tr ow s p os q = some (fs, lf) → ∀ j, j < fs.length → flat (fil l (fs.take j)) = os.drop j
  | [], l, q, fs, lf, hf, hr, hq, h, j, hj => by
    simp only [tr, Option.some.injEq, Prod.mk.injEq] at h
    obtain ⟨rfl, rfl⟩ := h
    cases hj
  | o :: r, l, q, fs, lf, hf, hr, hq, h, 0, hj => hf
  | o :: r, l, q, fs, lf, hf, hr, hq, h, j + 1, hj => by
    have ho1 : 1 ≤ olf o := by
      obtain ⟨v, hv, hx⟩ := List.mem_flatMap.1 (show o ∈ flat l by rw [hf]; exact List.mem_cons_self)
      have := ((hr.2.1 v hv).2 o hx).1
      rw [omay_iff] at this; unfold olf; omega
    rcases tr_step h hq ho1 with ⟨h1, rfl, rfl, h2⟩ | ⟨h1, h2, h3, h4, rfl, rfl, h5⟩ | ⟨h1, h2, h3, h4, gs, rfl, h5, h6⟩
    · cases hj
    · simp at hj
    · have hd : decide (olf o = olf o) = true := decide_eq_true rfl
      have e1 : fil l ((mkF o (olf o) :: gs).take (j + 1)) = fil (rem l o.1) (gs.take j) := by
        rw [List.take_succ_cons]
        show fil (fil1 l (mkF o (olf o))) (gs.take j) = _
        congr 1
        unfold fil1 mkF
        rw [if_pos hd]
      rw [e1, List.drop_succ_cons]
      exact fil_take r (flat_rem_head hr hf) (right_remL o.1 hr) (by omega) h5 j (by simpa using hj)
/-- What 'traded' asks of the fills. -/
theorem tr_ids {sd ow s p q : Int} {l : List Lv} {fs : List Fl} {lf : Int} (hr : RightL sd l) (hq : 0 ≤ q) (h : tr ow s p (flat l) q = some (fs, lf)) (hT : TrS ow s p (flat l) q fs lf) :
    ∀ j (h : j < fs.length), fs[j].2.2.2.2 = false → j + 1 = fs.length ∧ ((flat (fil l (fs.take j))).map oid).Nodup ∧ ∃ o ∈ flat (fil l (fs.take j)), o.1 = fs[j].1 := fun j hj hd => by
  obtain ⟨h', n, e, n1, n2, _, _, n3⟩ := hT.at' j hj
  rw [fil_take _ rfl hr hq h j hj]
  refine ⟨n3 ?_, ?_, (flat l)[j], ?_, ?_⟩
  · rw [e] at hd
    have : n ≠ olf (flat l)[j] := by simpa [mkF] using hd
    omega
  · exact List.Sublist.nodup ((List.drop_sublist j _).map oid) hr.2.2.2
  · rw [List.drop_eq_getElem_cons h']; exact List.mem_cons_self
  · rw [e]; rfl
/-- The box of the result takes what lies in box k. -/
structure FinP (A : Bs) (b : Bk) (x y : Value) (n : Int) (fs : List Fl) (fv : Value) (s k : Nat) (w W : World) : Prop where
  r0 : row W k = #[x, y, .int .i64 n]
  p1 : plain 3 W (s + 1) = true
  r1 : row (W.setRow (s + 1) #[x, y, .int .i64 n]) (s + 1) = #[x, y, .int .i64 n]
  bel : Below s w (W.setRow (s + 1) #[x, y, .int .i64 n])
  bl : BL A b (.agg #[x, y, .int .i64 n]) (W.setRow (s + 1) #[x, y, .int .i64 n])
  fl : FL A fs fv (W.setRow (s + 1) #[x, y, .int .i64 n])
theorem finP {A : Bs} {b : Bk} {x y : Value} {n : Int} {fs : List Fl} {fv : Value} {s k : Nat} {w W : World} {c1 : Array Value} (hn : b.2.2 = n) (g : W.heap[k]? = some (.cells #[x, y, .int .i64 n] 26 (0, 0))) (g1 : W.heap[s + 1]? = some (.cells c1 26 (0, 0))) (hc : c1.size = 3) (lo : A.lo ≤ s) (l1 : LL A b.1 x W) (l2 : LL A b.2.1 y W) (fl : FL A fs fv W) (bel : Below s w W) : FinP A b x y n fs fv s k w W := by
  subst hn
  refine ⟨by unfold Rw.row; rw [g], ?_, ?_, below_setRow bel (by omega) _, ⟨x, y, rfl, Is.keep eL 48 l1 (keeps_setRow _ g1 (by decide) (by omega)), Is.keep eL 48 l2 (keeps_setRow _ g1 (by decide) (by omega))⟩, Is.keep eFl 53 fl (keeps_setRow _ g1 (by decide) (by omega))⟩
  · unfold Rw.plain; rw [g1]; simp [hc]
  · unfold Rw.row; rw [setRow_heap W (s + 1) _ _ _ _ g1]
/-- Behind 'traded', with what it told stored into the box k. -/
structure AftK (A : Bs) (l1 l2 : List Lv) (x y : Value) (n : Int) (fs : List Fl) (fv : Value) (s k : Nat) (w W' F : World) : Prop where
  gk : F.heap[k]? = some (.cells #[x, y, .int .i64 n] 26 (0, 0))
  low : ∀ q, q ≤ s + 2 → F.heap[q]? = W'.heap[q]?
  l1 : LL A l1 x F
  l2 : LL A l2 y F
  fl : FL A fs fv F
  bel : Below s w F
  cell : ∃ u v t, W'.heap[k]? = some (.cells #[u, v, t] 26 (0, 0))
theorem aftK2 {A : Bs} {Bo : Nat} {b : Bk} {x y v : Value} {hs1 hs2 : List Hw} {s k : Nat} {n : Int} {w W W' : World} {fs : List Fl} {fv : Value} {l : List Lv} (hm : MyB A Bo b x y hs1 hs2 W) (gk : W.heap[k]? = some (.cells #[x, y, .int .i64 n] 26 (0, 0))) (hk : ∀ q, Blk hs2 q → q < k) (hA : A.lo ≤ s) (hs : s + 2 < Bo) (hBk : Bo ≤ k) (hf : FL A fs fv W) (ha : Alt (Blk hs2) W W') (hl : LL A l v W') (hb : Below s w W) : AftK A b.1 l x v n fs fv s k w W' (W'.setCell ⟨k, 1, none⟩ v) ∧ (∀ q, q ≤ s + 2 → W'.heap[q]? = W.heap[q]?) := by
  have hz := (Array.getElem?_eq_some_iff.1 gk).1
  have hne : ∀ q, q < Bo → W'.heap[q]? = W.heap[q]? := fun q hq => ha.block q (by omega) (fun hx => by have := (blk_ge hm.m2 q hx).1; omega)
  have h0 : W'.heap[k]? = some (.cells #[x, y, .int .i64 n] 26 (0, 0)) := (ha.block k hz (fun hx => by have := hk k hx; omega)).trans gk
  have hl1 : LL A b.1 x W' := Is.up eL 48 (Bs.sub_but _ _) (Is.keep eL 48 hm.o1 (Keeps.of_alt ha (fun q hq _ => ⟨.inr hq, by have := (blk_ge hm.m2 q hq).1; show A.lo ≤ q; omega⟩)))
  have hbl : Below s w W' := Alt.below hb ha (by omega) (fun q hq => by have := (blk_ge hm.m2 q hq).1; omega)
  have hfl : FL A fs fv W' := Is.keep eFl 53 hf (keeps_blk hm.m2 (by decide) ha A (by omega))
  refine ⟨⟨set3 h0, fun q hq => Below.heap_setCell W' ⟨k, 1, none⟩ v q (by show q ≠ k; omega), Is.keep eL 48 hl1 (keeps_setCell 1 v h0 (by decide) (by omega)), Is.keep eL 48 hl (keeps_setCell 1 v h0 (by decide) (by omega)), Is.keep eFl 53 hfl (keeps_setCell 1 v h0 (by decide) (by omega)), hbl.trans (low_setCell 1 v (by omega)), ⟨_, _, _, h0⟩⟩, fun q hq => hne q (by omega)⟩
theorem aftK1 {A : Bs} {Bo : Nat} {b : Bk} {x y v : Value} {hs1 hs2 : List Hw} {s k : Nat} {n : Int} {w W W' : World} {fs : List Fl} {fv : Value} {l : List Lv} (hm : MyB A Bo b x y hs1 hs2 W) (gk : W.heap[k]? = some (.cells #[x, y, .int .i64 n] 26 (0, 0))) (hk : ∀ q, Blk hs1 q → q < k) (hA : A.lo ≤ s) (hs : s + 2 < Bo) (hBk : Bo ≤ k) (hf : FL A fs fv W) (ha : Alt (Blk hs1) W W') (hl : LL A l v W') (hb : Below s w W) : AftK A l b.2.1 v y n fs fv s k w W' (W'.setCell ⟨k, 0, none⟩ v) ∧ (∀ q, q ≤ s + 2 → W'.heap[q]? = W.heap[q]?) := by
  have hz := (Array.getElem?_eq_some_iff.1 gk).1
  have hne : ∀ q, q < Bo → W'.heap[q]? = W.heap[q]? := fun q hq => ha.block q (by omega) (fun hx => by have := (blk_ge hm.m1 q hx).1; omega)
  have h0 : W'.heap[k]? = some (.cells #[x, y, .int .i64 n] 26 (0, 0)) := (ha.block k hz (fun hx => by have := hk k hx; omega)).trans gk
  have hl1 : LL A b.2.1 y W' := Is.up eL 48 (Bs.sub_but _ _) (Is.keep eL 48 hm.o2 (Keeps.of_alt ha (fun q hq _ => ⟨.inr hq, by have := (blk_ge hm.m1 q hq).1; show A.lo ≤ q; omega⟩)))
  have hbl : Below s w W' := Alt.below hb ha (by omega) (fun q hq => by have := (blk_ge hm.m1 q hq).1; omega)
  have hfl : FL A fs fv W' := Is.keep eFl 53 hf (keeps_blk hm.m1 (by decide) ha A (by omega))
  refine ⟨⟨set3 h0, fun q hq => Below.heap_setCell W' ⟨k, 0, none⟩ v q (by show q ≠ k; omega), Is.keep eL 48 hl (keeps_setCell 0 v h0 (by decide) (by omega)), Is.keep eL 48 hl1 (keeps_setCell 0 v h0 (by decide) (by omega)), Is.keep eFl 53 hfl (keeps_setCell 0 v h0 (by decide) (by omega)), hbl.trans (low_setCell 0 v (by omega)), ⟨_, _, _, h0⟩⟩, fun q hq => hne q (by omega)⟩
theorem set5 {w : World} {b o : Nat} {x1 x2 x3 x4 x5 v : Value} {t : TypeId} (h : w.heap[b]? = some (.cells #[x1, x2, x3, x4, x5] t (0, 0))) : (w.setCell ⟨b, o, none⟩ v).heap[b]? = some (.cells (#[x1, x2, x3, x4, x5].setIfInBounds o v) t (0, 0)) := by
  simp [World.setCell, Array.getElem?_modify, h]
theorem put_isB {s : Int} {l : List Lv} {o : Od} (hr : RightL s l) (hm : omay o s = true) (hn : fnd (flat l) o.1 = none) : putE l o = 0 ∧ put l o = putL s o l := by
  obtain rfl : o.2.2.1 = s := (omay_iff.1 hm).2.2.2.2.1
  have : putE l o = 0 := by unfold putE; rw [rightL_iff.2 hr, hm, hn]; rfl
  exact ⟨this, by unfold put; rw [if_pos this]⟩
end Go.Proofs.Ytfnmmknbjfmagaa.Bk
