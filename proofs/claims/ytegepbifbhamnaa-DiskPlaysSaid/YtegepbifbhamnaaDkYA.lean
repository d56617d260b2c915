/- The document's own of layer 14: done, now. -/
import Derived.Test.YtegepbifbhamnaaDkX
namespace Go.Proofs.Ytegepbifbhamnaa.Dk
open Go.RowKit
set_option linter.unusedVariables false
open Go.Proofs.Ytegepbifbhamnaa.Rw
open Go.Proofs.Ytegepbifbhamnaa.Da
set_option maxRecDepth 8000 in
set_option maxHeartbeats 4000000 in
theorem rDone_any (a b : ByteArray) (z : Bool) (x : ByteArray) (er : Bool) (w : World) (hl : a.size + b.size + x.size ≤ 1000000) :
    Calls Try.prog 31 #[.agg #[.string a, .string b], .agg #[.int .i64 (zi z), .string x, .bool er]] w fun e w' => e = .returned (.agg #[.string (done (a, b) (z, x, er)).1, .string (done (a, b) (z, x, er)).2]) ∧ Below w.heap.size w w' := by
  have hz0 : zi false = 0 := rfl
  have hz1 : zi true = 1 := rfl
  have ha1 : a.size + x.size ≤ 1000000000 := by omega
  have ha2 : b.size + x.size ≤ 1000000000 := by omega
  clear hl
  cases z <;> cases er
  · rw [hz0]
    clear hz0 hz1
    obtain ⟨V, hV⟩ : ∃ Q_ : World, ((w.alloc (.cells #[.string a, .string b] 25)).alloc (.cells #[.int .i64 0, .string x, .bool false] 52)).alloc (.cells #[.string ⟨#[]⟩, .string ⟨#[]⟩] 25) = Q_ := ⟨_, rfl⟩
    have bV : Below w.heap.size w V := hV ▸ below3 w _ _ _
    obtain ⟨B0, B1, B2⟩ : Bx V w.heap.size #[.string a, .string b] 25 ∧ Bx V (w.heap.size + 1) #[.int .i64 0, .string x, .bool false] 52 ∧ Bx V (w.heap.size + 2) #[.string ⟨#[]⟩, .string ⟨#[]⟩] 25 := hV ▸ bx3 w _ _ _ _ _ _
    obtain ⟨q1l, q1r, q1p, ⟨q1c0, q1c1⟩, ⟨q1f0, q1f1⟩⟩ := B0.d2
    obtain ⟨q2l, q2r, q2p, ⟨q2c0, q2c1, q2c2⟩, ⟨q2f0, q2f1, q2f2⟩⟩ := B1.d3
    obtain ⟨q, hq⟩ : ∃ q, a ++ x = q := ⟨_, rfl⟩
    have hadd : ∀ u, (Op.stringOp .add a x).run Try.prog u = .ok (.string q) u := fun u => by rw [← hq]; exact str_add ha1 u
    have HQ := Lib.hid hq
    clear hq
    obtain ⟨X, hX⟩ : ∃ Q_ : World, V.setCell ⟨w.heap.size, 0, none⟩ (.string q) = Q_ := ⟨_, rfl⟩
    have bX : Below w.heap.size w X := hX ▸ (bV).trans (low_setCell _ _ (by omega))
    replace B1 : Bx X (w.heap.size + 1) #[.int .i64 0, .string x, .bool false] 52 := hX ▸ B1.set' (by omega) _ _
    replace B2 : Bx X (w.heap.size + 2) #[.string ⟨#[]⟩, .string ⟨#[]⟩] 25 := hX ▸ B2.set' (by omega) _ _
    replace B0 : Bx X (w.heap.size) #[.string q, .string b] 25 := hX ▸ (show Bx (V.setCell ⟨w.heap.size, 0, none⟩ (.string q)) (w.heap.size) #[.string q, .string b] 25 from B0.set 0 (.string q))
    obtain ⟨X2, hX2⟩ : ∃ Q_ : World, X.drew = Q_ := ⟨_, rfl⟩
    have aX2 : Below X.heap.size X X2 := hX2 ▸ (Below.refl _ _).drew
    replace B0 := B0.stays aX2
    replace B1 := B1.stays aX2
    replace B2 := B2.stays aX2
    have bX2 := nx bX aX2
    obtain ⟨q3l, q3r, q3p, ⟨q3c0, q3c1⟩, ⟨q3f0, q3f1⟩⟩ := B0.d2
    obtain ⟨q4l, q4r, q4p, ⟨q4c0, q4c1⟩, ⟨q4f0, q4f1⟩⟩ := B2.d2
    obtain ⟨Y, hY⟩ : ∃ Q_ : World, X2.setRow (w.heap.size + 2) #[.string q, .string b] = Q_ := ⟨_, rfl⟩
    have bY : Below w.heap.size w Y := hY ▸ (bX2).trans (low_setRow _ (by omega))
    replace B0 : Bx Y (w.heap.size) #[.string q, .string b] 25 := hY ▸ B0.put' (by omega) _
    replace B1 : Bx Y (w.heap.size + 1) #[.int .i64 0, .string x, .bool false] 52 := hY ▸ B1.put' (by omega) _
    replace B2 : Bx Y (w.heap.size + 2) #[.string q, .string b] 25 := hY ▸ B2.put _
    obtain ⟨q5l, q5r, q5p, ⟨q5c0, q5c1⟩, ⟨q5f0, q5f1⟩⟩ := B2.d2
    go_enter Try.func31, Try.ntmps31
    go_wp2
    go_region
    go_wp2
    refine bodyPost_ret (v := .agg #[.string q, .string b]) (ret_Z1 Try.results31 _ _ rfl ?_) rfl ⟨?_, bY⟩
    · simp [go_sem, *]
    · simp only [done, HQ.out]
  · rw [hz0]
    clear hz0 hz1
    obtain ⟨V, hV⟩ : ∃ Q_ : World, ((w.alloc (.cells #[.string a, .string b] 25)).alloc (.cells #[.int .i64 0, .string x, .bool true] 52)).alloc (.cells #[.string ⟨#[]⟩, .string ⟨#[]⟩] 25) = Q_ := ⟨_, rfl⟩
    have bV : Below w.heap.size w V := hV ▸ below3 w _ _ _
    obtain ⟨B0, B1, B2⟩ : Bx V w.heap.size #[.string a, .string b] 25 ∧ Bx V (w.heap.size + 1) #[.int .i64 0, .string x, .bool true] 52 ∧ Bx V (w.heap.size + 2) #[.string ⟨#[]⟩, .string ⟨#[]⟩] 25 := hV ▸ bx3 w _ _ _ _ _ _
    obtain ⟨q1l, q1r, q1p, ⟨q1c0, q1c1⟩, ⟨q1f0, q1f1⟩⟩ := B0.d2
    obtain ⟨q2l, q2r, q2p, ⟨q2c0, q2c1, q2c2⟩, ⟨q2f0, q2f1, q2f2⟩⟩ := B1.d3
    obtain ⟨X, hX⟩ : ∃ Q_ : World, V.setCell ⟨w.heap.size, 0, none⟩ (.string ⟨#[]⟩) = Q_ := ⟨_, rfl⟩
    have bX : Below w.heap.size w X := hX ▸ (bV).trans (low_setCell _ _ (by omega))
    replace B1 : Bx X (w.heap.size + 1) #[.int .i64 0, .string x, .bool true] 52 := hX ▸ B1.set' (by omega) _ _
    replace B2 : Bx X (w.heap.size + 2) #[.string ⟨#[]⟩, .string ⟨#[]⟩] 25 := hX ▸ B2.set' (by omega) _ _
    replace B0 : Bx X (w.heap.size) #[.string ⟨#[]⟩, .string b] 25 := hX ▸ (show Bx (V.setCell ⟨w.heap.size, 0, none⟩ (.string ⟨#[]⟩)) (w.heap.size) #[.string ⟨#[]⟩, .string b] 25 from B0.set 0 (.string ⟨#[]⟩))
    obtain ⟨q3l, q3r, q3p, ⟨q3c0, q3c1⟩, ⟨q3f0, q3f1⟩⟩ := B0.d2
    obtain ⟨q4l, q4r, q4p, ⟨q4c0, q4c1⟩, ⟨q4f0, q4f1⟩⟩ := B2.d2
    obtain ⟨Y, hY⟩ : ∃ Q_ : World, X.setRow (w.heap.size + 2) #[.string ⟨#[]⟩, .string b] = Q_ := ⟨_, rfl⟩
    have bY : Below w.heap.size w Y := hY ▸ (bX).trans (low_setRow _ (by omega))
    replace B0 : Bx Y (w.heap.size) #[.string ⟨#[]⟩, .string b] 25 := hY ▸ B0.put' (by omega) _
    replace B1 : Bx Y (w.heap.size + 1) #[.int .i64 0, .string x, .bool true] 52 := hY ▸ B1.put' (by omega) _
    replace B2 : Bx Y (w.heap.size + 2) #[.string ⟨#[]⟩, .string b] 25 := hY ▸ B2.put _
    obtain ⟨q5l, q5r, q5p, ⟨q5c0, q5c1⟩, ⟨q5f0, q5f1⟩⟩ := B2.d2
    go_enter Try.func31, Try.ntmps31
    go_wp2
    refine bodyPost_ret (v := .agg #[.string ⟨#[]⟩, .string b]) (ret_Z1 Try.results31 _ _ rfl ?_) rfl ⟨?_, bY⟩
    · simp [go_sem, *]
    · rfl
  · rw [hz1]
    clear hz0 hz1
    obtain ⟨V, hV⟩ : ∃ Q_ : World, ((w.alloc (.cells #[.string a, .string b] 25)).alloc (.cells #[.int .i64 1, .string x, .bool false] 52)).alloc (.cells #[.string ⟨#[]⟩, .string ⟨#[]⟩] 25) = Q_ := ⟨_, rfl⟩
    have bV : Below w.heap.size w V := hV ▸ below3 w _ _ _
    obtain ⟨B0, B1, B2⟩ : Bx V w.heap.size #[.string a, .string b] 25 ∧ Bx V (w.heap.size + 1) #[.int .i64 1, .string x, .bool false] 52 ∧ Bx V (w.heap.size + 2) #[.string ⟨#[]⟩, .string ⟨#[]⟩] 25 := hV ▸ bx3 w _ _ _ _ _ _
    obtain ⟨q1l, q1r, q1p, ⟨q1c0, q1c1⟩, ⟨q1f0, q1f1⟩⟩ := B0.d2
    obtain ⟨q2l, q2r, q2p, ⟨q2c0, q2c1, q2c2⟩, ⟨q2f0, q2f1, q2f2⟩⟩ := B1.d3
    obtain ⟨q, hq⟩ : ∃ q, b ++ x = q := ⟨_, rfl⟩
    have hadd : ∀ u, (Op.stringOp .add b x).run Try.prog u = .ok (.string q) u := fun u => by rw [← hq]; exact str_add ha2 u
    have HQ := Lib.hid hq
    clear hq
    obtain ⟨X, hX⟩ : ∃ Q_ : World, V.setCell ⟨w.heap.size, 1, none⟩ (.string q) = Q_ := ⟨_, rfl⟩
    have bX : Below w.heap.size w X := hX ▸ (bV).trans (low_setCell _ _ (by omega))
    replace B1 : Bx X (w.heap.size + 1) #[.int .i64 1, .string x, .bool false] 52 := hX ▸ B1.set' (by omega) _ _
    replace B2 : Bx X (w.heap.size + 2) #[.string ⟨#[]⟩, .string ⟨#[]⟩] 25 := hX ▸ B2.set' (by omega) _ _
    replace B0 : Bx X (w.heap.size) #[.string a, .string q] 25 := hX ▸ (show Bx (V.setCell ⟨w.heap.size, 1, none⟩ (.string q)) (w.heap.size) #[.string a, .string q] 25 from B0.set 1 (.string q))
    obtain ⟨X2, hX2⟩ : ∃ Q_ : World, X.drew = Q_ := ⟨_, rfl⟩
    have aX2 : Below X.heap.size X X2 := hX2 ▸ (Below.refl _ _).drew
    replace B0 := B0.stays aX2
    replace B1 := B1.stays aX2
    replace B2 := B2.stays aX2
    have bX2 := nx bX aX2
    obtain ⟨q3l, q3r, q3p, ⟨q3c0, q3c1⟩, ⟨q3f0, q3f1⟩⟩ := B0.d2
    obtain ⟨q4l, q4r, q4p, ⟨q4c0, q4c1⟩, ⟨q4f0, q4f1⟩⟩ := B2.d2
    obtain ⟨Y, hY⟩ : ∃ Q_ : World, X2.setRow (w.heap.size + 2) #[.string a, .string q] = Q_ := ⟨_, rfl⟩
    have bY : Below w.heap.size w Y := hY ▸ (bX2).trans (low_setRow _ (by omega))
    replace B0 : Bx Y (w.heap.size) #[.string a, .string q] 25 := hY ▸ B0.put' (by omega) _
    replace B1 : Bx Y (w.heap.size + 1) #[.int .i64 1, .string x, .bool false] 52 := hY ▸ B1.put' (by omega) _
    replace B2 : Bx Y (w.heap.size + 2) #[.string a, .string q] 25 := hY ▸ B2.put _
    obtain ⟨q5l, q5r, q5p, ⟨q5c0, q5c1⟩, ⟨q5f0, q5f1⟩⟩ := B2.d2
    go_enter Try.func31, Try.ntmps31
    go_wp2
    go_region
    go_wp2
    refine bodyPost_ret (v := .agg #[.string a, .string q]) (ret_Z1 Try.results31 _ _ rfl ?_) rfl ⟨?_, bY⟩
    · simp [go_sem, *]
    · simp only [done, HQ.out]
  · rw [hz1]
    clear hz0 hz1
    obtain ⟨V, hV⟩ : ∃ Q_ : World, ((w.alloc (.cells #[.string a, .string b] 25)).alloc (.cells #[.int .i64 1, .string x, .bool true] 52)).alloc (.cells #[.string ⟨#[]⟩, .string ⟨#[]⟩] 25) = Q_ := ⟨_, rfl⟩
    have bV : Below w.heap.size w V := hV ▸ below3 w _ _ _
    obtain ⟨B0, B1, B2⟩ : Bx V w.heap.size #[.string a, .string b] 25 ∧ Bx V (w.heap.size + 1) #[.int .i64 1, .string x, .bool true] 52 ∧ Bx V (w.heap.size + 2) #[.string ⟨#[]⟩, .string ⟨#[]⟩] 25 := hV ▸ bx3 w _ _ _ _ _ _
    obtain ⟨q1l, q1r, q1p, ⟨q1c0, q1c1⟩, ⟨q1f0, q1f1⟩⟩ := B0.d2
    obtain ⟨q2l, q2r, q2p, ⟨q2c0, q2c1, q2c2⟩, ⟨q2f0, q2f1, q2f2⟩⟩ := B1.d3
    obtain ⟨X, hX⟩ : ∃ Q_ : World, V.setCell ⟨w.heap.size, 1, none⟩ (.string ⟨#[]⟩) = Q_ := ⟨_, rfl⟩
    have bX : Below w.heap.size w X := hX ▸ (bV).trans (low_setCell _ _ (by omega))
    replace B1 : Bx X (w.heap.size + 1) #[.int .i64 1, .string x, .bool true] 52 := hX ▸ B1.set' (by omega) _ _
    replace B2 : Bx X (w.heap.size + 2) #[.string ⟨#[]⟩, .string ⟨#[]⟩] 25 := hX ▸ B2.set' (by omega) _ _
    replace B0 : Bx X (w.heap.size) #[.string a, .string ⟨#[]⟩] 25 := hX ▸ (show Bx (V.setCell ⟨w.heap.size, 1, none⟩ (.string ⟨#[]⟩)) (w.heap.size) #[.string a, .string ⟨#[]⟩] 25 from B0.set 1 (.string ⟨#[]⟩))
    obtain ⟨q3l, q3r, q3p, ⟨q3c0, q3c1⟩, ⟨q3f0, q3f1⟩⟩ := B0.d2
    obtain ⟨q4l, q4r, q4p, ⟨q4c0, q4c1⟩, ⟨q4f0, q4f1⟩⟩ := B2.d2
    obtain ⟨Y, hY⟩ : ∃ Q_ : World, X.setRow (w.heap.size + 2) #[.string a, .string ⟨#[]⟩] = Q_ := ⟨_, rfl⟩
    have bY : Below w.heap.size w Y := hY ▸ (bX).trans (low_setRow _ (by omega))
    replace B0 : Bx Y (w.heap.size) #[.string a, .string ⟨#[]⟩] 25 := hY ▸ B0.put' (by omega) _
    replace B1 : Bx Y (w.heap.size + 1) #[.int .i64 1, .string x, .bool true] 52 := hY ▸ B1.put' (by omega) _
    replace B2 : Bx Y (w.heap.size + 2) #[.string a, .string ⟨#[]⟩] 25 := hY ▸ B2.put _
    obtain ⟨q5l, q5r, q5p, ⟨q5c0, q5c1⟩, ⟨q5f0, q5f1⟩⟩ := B2.d2
    go_enter Try.func31, Try.ntmps31
    go_wp2
    refine bodyPost_ret (v := .agg #[.string a, .string ⟨#[]⟩]) (ret_Z1 Try.results31 _ _ rfl ?_) rfl ⟨?_, bY⟩
    · simp [go_sem, *]
    · rfl
theorem rDone_is {a b : ByteArray} {z : Bool} {k : Int} {x : ByteArray} {er : Bool} {s : Pz} (H : Hid (done (a, b) (z, x, er) = s)) (hz : zi z = k) (w : World) (hl : a.size + b.size + x.size ≤ 1000000) :
    Calls Try.prog 31 #[.agg #[.string a, .string b], .agg #[.int .i64 k, .string x, .bool er]] w fun e w' => e = .returned (.agg #[.string s.1, .string s.2]) ∧ Below w.heap.size w w' := by
  rw [← H.out, ← hz]; exact rDone_any a b z x er w hl
end Go.Proofs.Ytegepbifbhamnaa.Dk
