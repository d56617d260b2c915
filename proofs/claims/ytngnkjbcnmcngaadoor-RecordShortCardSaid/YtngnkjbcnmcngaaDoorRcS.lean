/- awake of layer 16. -/
import Derived.Test.YtngnkjbcnmcngaaDoorRcR
import Derived.Test.YtngnkjbcnmcngaaDoorRf
namespace Go.Proofs.YtngnkjbcnmcngaaDoor.Rc
open Go.RowKit
set_option linter.unusedVariables false
open Go.Proofs.YtngnkjbcnmcngaaDoor.Rw
open Go.Proofs.YtngnkjbcnmcngaaDoor.Bv
open Go.Proofs.YtngnkjbcnmcngaaDoor.Fx (enc enc_size)
open Go.Proofs.YtngnkjbcnmcngaaDoor.Cm (Tab)
def oneI : Ins := ⟨1, 300, 2, 1, 0, 1, 1, Cm.v9 3 9 8 0 0 0 0 0 0, 7, Ve.upd (Ve.upd (Ve.upd (v7 0 0 0 0 0 0 0) 0 1) 1 2) 2 3, true⟩
section
variable (a : Act) (dst : Option Tmp) (ty : TypeId) (pos : String) (after : Array Edge) (guard : Option (Nat × Bool)) (w : World)
theorem oneV (x z : Operand) (hx : a.eval x = .agg (Cm.fc (fnC (a.eval x)))) (hz : a.eval z = .agg (Ve.fc (fnC (a.eval z)))) : (execOp a.eval { dst, op := .build 31 #[(0, x), (1, .const (.int .i64 7)), (2, z)], type := ty, pos, after, guard }).run Tryd.prog w = .ok (.value (.agg (cv (fnC (a.eval x)) 7 (fnC (a.eval z))))) w :=
  buildV3 a.eval dst ty pos after guard w x _ z hx rfl hz
theorem oneB (x s t v : Operand) (hx : a.eval x = .agg #[.int .i64 (nA (a.eval x) 0), .int .i64 (nA (a.eval x) 1)]) (hs : a.eval s = .agg #[.int .i64 (nA (a.eval s) 0), .int .i64 (nA (a.eval s) 1)]) (ht : a.eval t = .agg #[.int .i64 (nA (a.eval t) 0), .int .i64 (nA (a.eval t) 1)]) (hv : a.eval v = .agg (cv (fV (a.eval v)) (qV (a.eval v)) (dV (a.eval v)))) : (execOp a.eval { dst, op := .build 33 #[(0, x), (1, s), (2, t), (3, .const (.int .i64 1)), (4, v), (5, .const (.bool true))], type := ty, pos, after, guard }).run Tryd.prog w = .ok (.value (.agg (ci ⟨nA (a.eval x) 0, nA (a.eval x) 1, nA (a.eval s) 0, nA (a.eval s) 1, nA (a.eval t) 0, nA (a.eval t) 1, 1, fV (a.eval v), qV (a.eval v), dV (a.eval v), true⟩))) w :=
  buildI6 a.eval dst ty pos after guard w x s t _ v _ hx hs ht rfl hv rfl
end
attribute [go_sem ↓] oneV oneB
set_option maxRecDepth 8000 in
set_option maxHeartbeats 2000000 in
theorem one_any (w : World) :
    Calls Tryd.prog 34 #[] w fun e w' => e = .returned (.agg (ci oneI)) ∧ Below w.heap.size w w' := by
  have H := Lib.hid (show ci ⟨1, 300, 2, 1, 0, 1, 1, Cm.v9 3 9 8 0 0 0 0 0 0, 7, Ve.upd (Ve.upd (Ve.upd (v7 0 0 0 0 0 0 0) 0 1) 1 2) 2 3, true⟩ = ci oneI from rfl)
  go_enter Tryd.func34, Tryd.ntmps34
  go_wp2
  exact bodyPost_ret (v := .agg (ci oneI)) (ret_I Tryd.results34 _ _ oneI (by simp [go_sem, H.out])) rfl ⟨rfl, below1 _ _⟩
theorem ci_congr {i j : Ins} (h : Same i j) : ci i = ci j := by
  unfold ci
  rw [h.pr, h.ps, h.bn, h.br, h.tn, h.tr, h.st, h.q, h.sm, h.c 0 (by omega), h.c 1 (by omega), h.c 2 (by omega), h.c 3 (by omega), h.c 4 (by omega), h.c 5 (by omega), h.c 6 (by omega), h.c 7 (by omega), h.c 8 (by omega),
    h.d 0 (by omega), h.d 1 (by omega), h.d 2 (by omega), h.d 3 (by omega), h.d 4 (by omega), h.d 5 (by omega), h.d 6 (by omega)]
theorem ok3 : okI oneI 3 = true := by kernel_rfl
theorem ok2 : okI oneI 2 = false := by kernel_rfl
theorem awr {S : ByteArray} (hS : Hid (cat (insF oneI 3) = S)) (w : World) (ht : Tab w) (hb : Tb w) :
    Calls Tryd.prog 7 #[.agg (ci oneI), .int .i64 3] w fun e w' => e = .returned (.tuple #[.string S, .int .i64 0]) ∧ Below w.heap.size w w' := by
  refine write_is (Lib.hid ⟨?_, ?_⟩) w ht hb
  · unfold wrS; rw [ok3, if_pos rfl]; exact hS.out
  · unfold wrE; rw [ok3]; rfl
theorem ard {S : ByteArray} (hS : Hid (cat (insF oneI 3) = S)) (w : World) (ht : Tab w) (hb : Tb w) :
    Calls Tryd.prog 14 #[.string S, .int .i64 3] w fun e w' => e = .returned (.tuple #[.agg (ci oneI), .int .i64 0]) ∧ Below w.heap.size w w' := by
  have hz := ins_size oneI 3
  obtain ⟨e1, e2⟩ := read_write (i := oneI) (n := 3) ok3
  rw [show (3 : Int).toNat = 3 from rfl] at e1 e2
  have k := read_any (cat (insF oneI 3)) 3 (by rw [hz]; omega) w ht hb
  rw [← hS.out]
  have e3 : rdT (cat (insF oneI 3)) 3 = .tuple #[.agg (ci oneI), .int .i64 0] := by rw [rd_good e1, ci_congr e2]
  rw [e3] at k; exact k
theorem acut {S : ByteArray} (hS : Hid (cat (insF oneI 3) = S)) (w : World) (ht : Tab w) (hb : Tb w) :
    Calls Tryd.prog 14 #[.string (S.extract 0 54), .int .i64 3] w fun e w' => e = .returned (.tuple #[.agg (ci zeroI), .int .i64 2]) ∧ Below w.heap.size w w' := by
  have hz := ins_size oneI 3
  have e1 := read_cut (i := oneI) (n := 3) ok3 54 (by decide)
  have k := read_any ((cat (insF oneI 3)).extract 0 54) 3 (by rw [ByteArray.size_extract, hz]; omega) w ht hb
  rw [← hS.out]
  have e3 : rdT ((cat (insF oneI 3)).extract 0 54) 3 = .tuple #[.agg (ci zeroI), .int .i64 2] := rd_bad e1 (by decide)
  rw [e3] at k; exact k
set_option maxRecDepth 8000 in
set_option maxHeartbeats 4000000 in
theorem awake_any (w : World) (ht : Tab w) (hb : Tb w) : Calls Tryd.prog 13 #[] w fun e w' => e = .returned (.bool true) ∧ Below w.heap.size w w' := by
  have HT := Lib.hid (show ∀ u, Below w.heap.size w u → Tab u ∧ Tb u from fun u hu => ⟨ht.below hu, hb.below hu⟩)
  clear ht hb
  obtain ⟨S, hS⟩ : ∃ S, cat (insF oneI 3) = S := ⟨_, rfl⟩
  have hSz : S.size = 55 := by rw [← hS]; exact ins_size oneI 3
  have HS := Lib.hid hS
  have O3 := Lib.hid ok3
  have O2 := Lib.hid ok2
  have he : eqIns oneI oneI = true := eqIns_refl oneI
  clear hS
  go_enter Tryd.func13, Tryd.ntmps13
  go_wp2_with fail
  refine (one_any _).mono ?_
  rintro e w1 ⟨rfl, hb1⟩
  go_wp2_with fail
  refine (awr HS _ (HT.out _ hb1).1 (HT.out _ hb1).2).mono ?_
  rintro e w2 ⟨rfl, hb2⟩
  have b2 := nx hb1 hb2
  go_wp2_with fail
  refine (ard HS _ (HT.out _ b2).1 (HT.out _ b2).2).mono ?_
  rintro e w3 ⟨rfl, hb3⟩
  have b3 := nx b2 hb3
  obtain ⟨U, hU⟩ : ∃ Q_ : World, w3.alloc (.cells (ci oneI) 33) = Q_ := ⟨_, rfl⟩
  have U0 : Bx U w3.heap.size (ci oneI) 33 := hU ▸ Bx.new _ _ _
  have bU := nx b3 (hU ▸ below1 w3 (.cells (ci oneI) 33))
  have HU := Lib.hid hU
  clear hU
  go_wp2_with fail
  rw [HU.out]
  refine (acut HS _ (HT.out _ bU).1 (HT.out _ bU).2).mono ?_
  rintro e w4 ⟨rfl, hb4⟩
  have b4 := nx bU hb4
  have W0 := U0.stays hb4
  go_wp2
  obtain ⟨T, hT⟩ : ∃ Q_ : World, w4.alloc (.cells (ci zeroI) 33) = Q_ := ⟨_, rfl⟩
  have aT := hT ▸ below1 w4 (.cells (ci zeroI) 33)
  have T0 := W0.stays aT
  have bT := nx b4 aT
  have hK : ∀ u, Below T.heap.size T u → row u w3.heap.size = ci oneI := fun u hu => (T0.stays hu).row
  rw [hT]
  clear hT T0 W0 U0
  refine Rf.region [0, 1, 2, 3, 4, 5, 6, 7, 8, 9, 10, 11, 12, 13, 14, 15, 16, 17, 18, 19, 20, 21, 22, 23, 24, 25, 26, 27, 28, 29] (by kernel_rfl) (by kernel_rfl) (by kernel_rfl) (fun _ _ d _ _ h => by cases d <;> exact h) ?_
  repeat (first | (refine Rf.Steps.skip (by rfl) (by kernel_rfl) (by rfl) ?_; simp only [Act.put, List.setIfInBounds_toArray, List.set_cons_zero, List.set_cons_succ]) | (refine Rf.Steps.pure (v := ?_) (by rfl) (by kernel_rfl) (by rfl) ?_ ?_; rotate_left; (intro w_ hS_; have hk_ := hK w_ hS_; go_simp <;> with_reducible rfl); simp only [Act.put, List.setIfInBounds_toArray, List.set_cons_zero, List.set_cons_succ]) | (refine Rf.Steps.call (v := ?_) (f := ?_) (args := ?_) (by rfl) (by kernel_rfl) (by rfl) ?_ ?_ ?_; rotate_left 3; (intro w_ hS_; have hk_ := hK w_ hS_; go_simp <;> first | with_reducible rfl | (constructor <;> with_reducible rfl)); (intro w_ hS_; have hk_ := hK w_ hS_; first | (go_at_call 34; refine (one_any _).mono ?_; first | (rintro e w_ ⟨rfl, rfl⟩; refine ⟨?_, Below.refl _ _⟩; with_reducible rfl) | (rintro e w_ ⟨rfl, hb_⟩; refine ⟨?_, hb_⟩; with_reducible rfl)) | (go_at_call 11; (first | with_reducible refine (right_is O3 _).mono ?_ | with_reducible refine (right_is O2 _).mono ?_); first | (rintro e w_ ⟨rfl, rfl⟩; refine ⟨?_, Below.refl _ _⟩; with_reducible rfl) | (rintro e w_ ⟨rfl, hb_⟩; refine ⟨?_, hb_⟩; with_reducible rfl))); simp only [Act.put, List.setIfInBounds_toArray, List.set_cons_zero, List.set_cons_succ]))
  refine Rf.Steps.nil (by kernel_rfl) ?_
  intro w5 hb5
  go_wp2
  go_ret
  exact ⟨rfl, nx bT hb5⟩
end Go.Proofs.YtngnkjbcnmcngaaDoor.Rc
