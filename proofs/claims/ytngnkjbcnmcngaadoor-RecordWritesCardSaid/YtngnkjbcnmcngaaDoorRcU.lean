/- RecordWrites: the call. -/
import Derived.Test.YtngnkjbcnmcngaaDoorRcS
import Derived.Test.YtngnkjbcnmcngaaDoorRcP
namespace Go.Proofs.YtngnkjbcnmcngaaDoor.Rc
open Go.RowKit
set_option linter.unusedVariables false
open Go.Proofs.YtngnkjbcnmcngaaDoor.Rw
open Go.Proofs.YtngnkjbcnmcngaaDoor.Bv
open Go.Proofs.YtngnkjbcnmcngaaDoor.Cm (Tab)
def pvS (i : Ins) (n : Int) : ByteArray := if okV i.c i.q i.d n then cat (valF i.c i.q i.d n.toNat) else ByteArray.empty
def pvE (i : Ins) (n : Int) : Int := if okV i.c i.q i.d n then 0 else 1
theorem putValue_is {i : Ins} {n : Int} {x : ByteArray} {y : Int} (h : Hid (pvS i n = x ∧ pvE i n = y)) (w : World) (ht : Tab w) :
    Calls Tryd.prog 9 #[.agg (cv i.c i.q i.d), .int .i64 n] w fun e w' => e = .returned (.tuple #[.string x, .int .i64 y]) ∧ Below w.heap.size w w' := by
  obtain ⟨rfl, rfl⟩ := h.out
  exact putValue_any i.c i.q i.d n w ht
theorem rPutValue_is {i : Ins} {n : Int} {x : ByteArray} {y : Int} (h : Hid (pvS i n = x ∧ pvE i n = y)) (w : World) :
    Calls Tryd.prog 10 #[.agg (cv i.c i.q i.d), .int .i64 n] w fun e w' => e = .returned (.tuple #[.string x, .int .i64 y]) ∧ Below w.heap.size w w' := by
  obtain ⟨rfl, rfl⟩ := h.out
  exact rPutValue_any i.c i.q i.d n w
set_option maxRecDepth 8000 in
set_option maxHeartbeats 4000000 in
theorem walkWrites (i : Ins) (n : Int) (wn : (Lit.int .i64 n).wf = true) (w : World) (ht : Tab w ∧ Tb w) :
    Calls Tryd.prog 3 #[.agg (ci i), .int .i64 n] w fun e w' => e = .returned (.bool true) ∧ Below w.heap.size w w' := by
  obtain ⟨V, hV⟩ : ∃ Q_ : World, w.alloc (.cells (ci i) 33) = Q_ := ⟨_, rfl⟩
  have bV : Below w.heap.size w V := hV ▸ below1 _ _
  have A0 : At V w.heap.size i := hV ▸ At.new _ _ _
  have HT := Lib.hid (show ∀ u, Below V.heap.size V u → Tab u ∧ Tb u from fun u hu => ⟨ht.1.below (nx bV hu), ht.2.below (nx bV hu)⟩)
  obtain ⟨m1, m2, m3, m4⟩ := A0.facts
  have HA := Lib.hid (show ∀ u, Below V.heap.size V u → At u w.heap.size i from fun u hu => A0.stays hu)
  obtain ⟨x, hx⟩ : ∃ x, wrS i n = x := ⟨_, rfl⟩
  obtain ⟨y, hy⟩ : ∃ x, wrE i n = x := ⟨_, rfl⟩
  obtain ⟨p, hp⟩ : ∃ x, pvS i n = x := ⟨_, rfl⟩
  obtain ⟨q, hq⟩ : ∃ x, pvE i n = x := ⟨_, rfl⟩
  obtain ⟨r, hr⟩ : ∃ x, okI i n = x := ⟨_, rfl⟩
  have HX := Lib.hid (⟨hx, hy⟩ : wrS i n = x ∧ wrE i n = y)
  have HP := Lib.hid (⟨hp, hq⟩ : pvS i n = p ∧ pvE i n = q)
  have HR := Lib.hid hr
  clear A0 ht wn hx hy hp hq hr
  go_enter Tryd.func3, Tryd.ntmps3
  go_wp2_with fail
  clear m1 m2 m3 m4
  refine (write_is HX _ (HT.out _ (Below.refl _ _)).1 (HT.out _ (Below.refl _ _)).2).mono ?_
  rintro e w1 ⟨rfl, hb1⟩
  have A1 := HA.out w1 hb1
  obtain ⟨m1, m2, m3, m4⟩ := A1.facts
  go_wp2_with fail
  clear m1 m2 m3 m4
  refine (rWrite_is HX _).mono ?_
  rintro e w2 ⟨rfl, hb2⟩
  have b2 := nx hb1 hb2
  have A2 := HA.out w2 b2
  obtain ⟨m1, m2, m3, m4⟩ := A2.facts
  go_wp2_with fail
  clear m1 m2 m3 m4
  refine (putValue_is HP _ (HT.out _ b2).1).mono ?_
  rintro e w3 ⟨rfl, hb3⟩
  have b3 := nx b2 hb3
  have A3 := HA.out w3 b3
  obtain ⟨m1, m2, m3, m4⟩ := A3.facts
  go_wp2_with fail
  clear m1 m2 m3 m4
  refine (rPutValue_is HP _).mono ?_
  rintro e w4 ⟨rfl, hb4⟩
  have b4 := nx b3 hb4
  have hK : ∀ u, Below w4.heap.size w4 u → row u w.heap.size = ci i ∧ Tab u ∧ Tb u := fun u hu => ⟨(HA.out u (nx b4 hu)).rw, HT.out u (nx b4 hu)⟩
  go_wp2
  refine Rf.region [0, 1, 2, 3, 4, 5, 6, 7, 8, 9, 10, 11, 12, 13, 14, 15, 16, 17, 18, 19, 20, 21, 22, 23, 24, 25, 26, 27, 28, 29, 30] (by kernel_rfl) (by kernel_rfl) (by kernel_rfl) (fun _ _ d _ _ h => by cases d <;> exact h) ?_
  repeat (first | (refine Rf.Steps.skip (by rfl) (by kernel_rfl) (by rfl) ?_; simp only [Act.put, List.setIfInBounds_toArray, List.set_cons_zero, List.set_cons_succ]) | (refine Rf.Steps.pure (v := ?_) (by rfl) (by kernel_rfl) (by rfl) ?_ ?_; rotate_left; (intro w_ hS_; have hk_ := hK w_ hS_; go_simp <;> with_reducible rfl); simp only [Act.put, List.setIfInBounds_toArray, List.set_cons_zero, List.set_cons_succ]) | (refine Rf.Steps.call (v := ?_) (f := ?_) (args := ?_) (by rfl) (by kernel_rfl) (by rfl) ?_ ?_ ?_; rotate_left 3; (intro w_ hS_; have hk_ := hK w_ hS_; go_simp <;> first | with_reducible rfl | (constructor <;> with_reducible rfl)); (intro w_ hS_; have hk_ := hK w_ hS_; first | (go_at_call 11; refine (right_is HR _).mono ?_; first | (rintro e w_ ⟨rfl, rfl⟩; refine ⟨?_, Below.refl _ _⟩; with_reducible rfl) | (rintro e w_ ⟨rfl, hb_⟩; refine ⟨?_, hb_⟩; with_reducible rfl)) | (go_at_call 12; refine (rRight_is HR _).mono ?_; first | (rintro e w_ ⟨rfl, rfl⟩; refine ⟨?_, Below.refl _ _⟩; with_reducible rfl) | (rintro e w_ ⟨rfl, hb_⟩; refine ⟨?_, hb_⟩; with_reducible rfl)) | (go_at_call 13; refine (awake_any _ hk_.2.1 hk_.2.2).mono ?_; first | (rintro e w_ ⟨rfl, rfl⟩; refine ⟨?_, Below.refl _ _⟩; with_reducible rfl) | (rintro e w_ ⟨rfl, hb_⟩; refine ⟨?_, hb_⟩; with_reducible rfl))); simp only [Act.put, List.setIfInBounds_toArray, List.set_cons_zero, List.set_cons_succ]))
  refine Rf.Steps.nil (by kernel_rfl) ?_
  intro w5 hb5
  go_wp2
  go_ret
  exact ⟨rfl, nx bV (nx b4 hb5)⟩
end Go.Proofs.YtngnkjbcnmcngaaDoor.Rc
