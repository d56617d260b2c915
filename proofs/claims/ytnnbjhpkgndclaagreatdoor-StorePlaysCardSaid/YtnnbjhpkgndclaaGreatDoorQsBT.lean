/- Of the statements of layer 14: far. -/
import Derived.Test.YtnnbjhpkgndclaaGreatDoorQsZZ
import Derived.Test.YtnnbjhpkgndclaaGreatDoorQsBS
import Derived.Test.YtnnbjhpkgndclaaGreatDoorQsBR
set_option linter.unusedVariables false
namespace Go.Proofs.YtnnbjhpkgndclaaGreatDoor.Dk
open Go.RowKit
open Go.Proofs.YtnnbjhpkgndclaaGreatDoor.Rw
open Go.Proofs.YtnnbjhpkgndclaaGreatDoor.Da
theorem str_add {a b : ByteArray} (h : a.size + b.size ≤ 1000000000) (u : World) : (Op.stringOp .add a b).run Tryz.prog u = .ok (.string (a ++ b)) u := by
  have h2 : ¬ (((a.size + b.size : Nat) : Int) > IntKind.i64.max) := by
    have : IntKind.i64.max = 9223372036854775807 := rfl
    omega
  unfold Op.stringOp
  simp only
  rw [if_neg h2];rfl
set_option maxRecDepth 8000 in
set_option maxHeartbeats 4000000 in
theorem rDone_any (a b : ByteArray) (z : Bool) (x : ByteArray) (er : Bool) (w : World) (hl : a.size + b.size + x.size ≤ 1000000) :
    Calls Tryz.prog 95 #[.agg #[.string a,.string b],.agg #[.int .i64 (zi z),.string x,.bool er]] w fun e w' => e = .returned (.agg #[.string (done (a,b) (z,x,er)).1,.string (done (a,b) (z,x,er)).2]) ∧ Below w.heap.size w w' := by
  have hz0 : zi false = 0 := rfl
  have hz1 : zi true = 1 := rfl
  have ha1 : a.size + x.size ≤ 1000000000 := by omega
  have ha2 : b.size + x.size ≤ 1000000000 := by omega
  clear hl
  cases z <;> cases er
  · rw [hz0]
    clear hz0 hz1
    obtain ⟨V,hV⟩ : ∃ Q_ : World,((w.alloc (.cells #[.string a,.string b] 24)).alloc (.cells #[.int .i64 0,.string x,.bool false] 82)).alloc (.cells #[.string ⟨#[]⟩,.string ⟨#[]⟩] 24) = Q_ := ⟨_,rfl⟩
    have bV : Below w.heap.size w V := hV ▸ below3 w _ _ _
    obtain ⟨B0,B1,B2⟩ : Bx V w.heap.size #[.string a,.string b] 24 ∧ Bx V (w.heap.size + 1) #[.int .i64 0,.string x,.bool false] 82 ∧ Bx V (w.heap.size + 2) #[.string ⟨#[]⟩,.string ⟨#[]⟩] 24 := hV ▸ bx3 w _ _ _ _ _ _
    obtain ⟨q1l,q1r,q1p,⟨q1c0,q1c1⟩,⟨q1f0,q1f1⟩⟩ := B0.d2
    obtain ⟨q2l,q2r,q2p,⟨q2c0,q2c1,q2c2⟩,⟨q2f0,q2f1,q2f2⟩⟩ := B1.d3
    obtain ⟨q,hq⟩ : ∃ q,a ++ x = q := ⟨_,rfl⟩
    have hadd : ∀ u,(Op.stringOp .add a x).run Tryz.prog u = .ok (.string q) u := fun u => by rw [← hq];exact str_add ha1 u
    have HQ := lH hq
    clear hq
    obtain ⟨X,hX⟩ : ∃ Q_ : World,V.setCell ⟨w.heap.size,0,none⟩ (.string q) = Q_ := ⟨_,rfl⟩
    have bX : Below w.heap.size w X := hX ▸ (bV).trans (low_setCell _ _ (by omega))
    replace B1 : Bx X (w.heap.size + 1) #[.int .i64 0,.string x,.bool false] 82 := hX ▸ B1.set' (by omega) _ _
    replace B2 : Bx X (w.heap.size + 2) #[.string ⟨#[]⟩,.string ⟨#[]⟩] 24 := hX ▸ B2.set' (by omega) _ _
    replace B0 : Bx X (w.heap.size) #[.string q,.string b] 24 := hX ▸ (show Bx (V.setCell ⟨w.heap.size,0,none⟩ (.string q)) (w.heap.size) #[.string q,.string b] 24 from B0.set 0 (.string q))
    obtain ⟨X2,hX2⟩ : ∃ Q_ : World,X.drew = Q_ := ⟨_,rfl⟩
    have aX2 : Below X.heap.size X X2 := hX2 ▸ (Below.refl _ _).drew
    replace B0 := B0.stays aX2
    replace B1 := B1.stays aX2
    replace B2 := B2.stays aX2
    have bX2 := nx bX aX2
    obtain ⟨q3l,q3r,q3p,⟨q3c0,q3c1⟩,⟨q3f0,q3f1⟩⟩ := B0.d2
    obtain ⟨q4l,q4r,q4p,⟨q4c0,q4c1⟩,⟨q4f0,q4f1⟩⟩ := B2.d2
    obtain ⟨Y,hY⟩ : ∃ Q_ : World,X2.setRow (w.heap.size + 2) #[.string q,.string b] = Q_ := ⟨_,rfl⟩
    have bY : Below w.heap.size w Y := hY ▸ (bX2).trans (low_setRow _ (by omega))
    replace B0 : Bx Y (w.heap.size) #[.string q,.string b] 24 := hY ▸ B0.put' (by omega) _
    replace B1 : Bx Y (w.heap.size + 1) #[.int .i64 0,.string x,.bool false] 82 := hY ▸ B1.put' (by omega) _
    replace B2 : Bx Y (w.heap.size + 2) #[.string q,.string b] 24 := hY ▸ B2.put _
    obtain ⟨q5l,q5r,q5p,⟨q5c0,q5c1⟩,⟨q5f0,q5f1⟩⟩ := B2.d2
    go_enter Tryz.func95,Tryz.ntmps95
    go_wp2
    go_region
    go_wp2
    refine bodyPost_ret (v := .agg #[.string q,.string b]) (ret_Z1 Tryz.results95 _ _ rfl ?_) rfl ⟨?_,bY⟩
    · simp [go_sem, *]
    · simp only [done,HQ.out]
  · rw [hz0]
    clear hz0 hz1
    obtain ⟨V,hV⟩ : ∃ Q_ : World,((w.alloc (.cells #[.string a,.string b] 24)).alloc (.cells #[.int .i64 0,.string x,.bool true] 82)).alloc (.cells #[.string ⟨#[]⟩,.string ⟨#[]⟩] 24) = Q_ := ⟨_,rfl⟩
    have bV : Below w.heap.size w V := hV ▸ below3 w _ _ _
    obtain ⟨B0,B1,B2⟩ : Bx V w.heap.size #[.string a,.string b] 24 ∧ Bx V (w.heap.size + 1) #[.int .i64 0,.string x,.bool true] 82 ∧ Bx V (w.heap.size + 2) #[.string ⟨#[]⟩,.string ⟨#[]⟩] 24 := hV ▸ bx3 w _ _ _ _ _ _
    obtain ⟨q1l,q1r,q1p,⟨q1c0,q1c1⟩,⟨q1f0,q1f1⟩⟩ := B0.d2
    obtain ⟨q2l,q2r,q2p,⟨q2c0,q2c1,q2c2⟩,⟨q2f0,q2f1,q2f2⟩⟩ := B1.d3
    obtain ⟨X,hX⟩ : ∃ Q_ : World,V.setCell ⟨w.heap.size,0,none⟩ (.string ⟨#[]⟩) = Q_ := ⟨_,rfl⟩
    have bX : Below w.heap.size w X := hX ▸ (bV).trans (low_setCell _ _ (by omega))
    replace B1 : Bx X (w.heap.size + 1) #[.int .i64 0,.string x,.bool true] 82 := hX ▸ B1.set' (by omega) _ _
    replace B2 : Bx X (w.heap.size + 2) #[.string ⟨#[]⟩,.string ⟨#[]⟩] 24 := hX ▸ B2.set' (by omega) _ _
    replace B0 : Bx X (w.heap.size) #[.string ⟨#[]⟩,.string b] 24 := hX ▸ (show Bx (V.setCell ⟨w.heap.size,0,none⟩ (.string ⟨#[]⟩)) (w.heap.size) #[.string ⟨#[]⟩,.string b] 24 from B0.set 0 (.string ⟨#[]⟩))
    obtain ⟨q3l,q3r,q3p,⟨q3c0,q3c1⟩,⟨q3f0,q3f1⟩⟩ := B0.d2
    obtain ⟨q4l,q4r,q4p,⟨q4c0,q4c1⟩,⟨q4f0,q4f1⟩⟩ := B2.d2
    obtain ⟨Y,hY⟩ : ∃ Q_ : World,X.setRow (w.heap.size + 2) #[.string ⟨#[]⟩,.string b] = Q_ := ⟨_,rfl⟩
    have bY : Below w.heap.size w Y := hY ▸ (bX).trans (low_setRow _ (by omega))
    replace B0 : Bx Y (w.heap.size) #[.string ⟨#[]⟩,.string b] 24 := hY ▸ B0.put' (by omega) _
    replace B1 : Bx Y (w.heap.size + 1) #[.int .i64 0,.string x,.bool true] 82 := hY ▸ B1.put' (by omega) _
    replace B2 : Bx Y (w.heap.size + 2) #[.string ⟨#[]⟩,.string b] 24 := hY ▸ B2.put _
    obtain ⟨q5l,q5r,q5p,⟨q5c0,q5c1⟩,⟨q5f0,q5f1⟩⟩ := B2.d2
    go_enter Tryz.func95,Tryz.ntmps95
    go_wp2
    refine bodyPost_ret (v := .agg #[.string ⟨#[]⟩,.string b]) (ret_Z1 Tryz.results95 _ _ rfl ?_) rfl ⟨?_,bY⟩
    · simp [go_sem, *]
    · rfl
  · rw [hz1]
    clear hz0 hz1
    obtain ⟨V,hV⟩ : ∃ Q_ : World,((w.alloc (.cells #[.string a,.string b] 24)).alloc (.cells #[.int .i64 1,.string x,.bool false] 82)).alloc (.cells #[.string ⟨#[]⟩,.string ⟨#[]⟩] 24) = Q_ := ⟨_,rfl⟩
    have bV : Below w.heap.size w V := hV ▸ below3 w _ _ _
    obtain ⟨B0,B1,B2⟩ : Bx V w.heap.size #[.string a,.string b] 24 ∧ Bx V (w.heap.size + 1) #[.int .i64 1,.string x,.bool false] 82 ∧ Bx V (w.heap.size + 2) #[.string ⟨#[]⟩,.string ⟨#[]⟩] 24 := hV ▸ bx3 w _ _ _ _ _ _
    obtain ⟨q1l,q1r,q1p,⟨q1c0,q1c1⟩,⟨q1f0,q1f1⟩⟩ := B0.d2
    obtain ⟨q2l,q2r,q2p,⟨q2c0,q2c1,q2c2⟩,⟨q2f0,q2f1,q2f2⟩⟩ := B1.d3
    obtain ⟨q,hq⟩ : ∃ q,b ++ x = q := ⟨_,rfl⟩
    have hadd : ∀ u,(Op.stringOp .add b x).run Tryz.prog u = .ok (.string q) u := fun u => by rw [← hq];exact str_add ha2 u
    have HQ := lH hq
    clear hq
    obtain ⟨X,hX⟩ : ∃ Q_ : World,V.setCell ⟨w.heap.size,1,none⟩ (.string q) = Q_ := ⟨_,rfl⟩
    have bX : Below w.heap.size w X := hX ▸ (bV).trans (low_setCell _ _ (by omega))
    replace B1 : Bx X (w.heap.size + 1) #[.int .i64 1,.string x,.bool false] 82 := hX ▸ B1.set' (by omega) _ _
    replace B2 : Bx X (w.heap.size + 2) #[.string ⟨#[]⟩,.string ⟨#[]⟩] 24 := hX ▸ B2.set' (by omega) _ _
    replace B0 : Bx X (w.heap.size) #[.string a,.string q] 24 := hX ▸ (show Bx (V.setCell ⟨w.heap.size,1,none⟩ (.string q)) (w.heap.size) #[.string a,.string q] 24 from B0.set 1 (.string q))
    obtain ⟨X2,hX2⟩ : ∃ Q_ : World,X.drew = Q_ := ⟨_,rfl⟩
    have aX2 : Below X.heap.size X X2 := hX2 ▸ (Below.refl _ _).drew
    replace B0 := B0.stays aX2
    replace B1 := B1.stays aX2
    replace B2 := B2.stays aX2
    have bX2 := nx bX aX2
    obtain ⟨q3l,q3r,q3p,⟨q3c0,q3c1⟩,⟨q3f0,q3f1⟩⟩ := B0.d2
    obtain ⟨q4l,q4r,q4p,⟨q4c0,q4c1⟩,⟨q4f0,q4f1⟩⟩ := B2.d2
    obtain ⟨Y,hY⟩ : ∃ Q_ : World,X2.setRow (w.heap.size + 2) #[.string a,.string q] = Q_ := ⟨_,rfl⟩
    have bY : Below w.heap.size w Y := hY ▸ (bX2).trans (low_setRow _ (by omega))
    replace B0 : Bx Y (w.heap.size) #[.string a,.string q] 24 := hY ▸ B0.put' (by omega) _
    replace B1 : Bx Y (w.heap.size + 1) #[.int .i64 1,.string x,.bool false] 82 := hY ▸ B1.put' (by omega) _
    replace B2 : Bx Y (w.heap.size + 2) #[.string a,.string q] 24 := hY ▸ B2.put _
    obtain ⟨q5l,q5r,q5p,⟨q5c0,q5c1⟩,⟨q5f0,q5f1⟩⟩ := B2.d2
    go_enter Tryz.func95,Tryz.ntmps95
    go_wp2
    go_region
    go_wp2
    refine bodyPost_ret (v := .agg #[.string a,.string q]) (ret_Z1 Tryz.results95 _ _ rfl ?_) rfl ⟨?_,bY⟩
    · simp [go_sem, *]
    · simp only [done,HQ.out]
  · rw [hz1]
    clear hz0 hz1
    obtain ⟨V,hV⟩ : ∃ Q_ : World,((w.alloc (.cells #[.string a,.string b] 24)).alloc (.cells #[.int .i64 1,.string x,.bool true] 82)).alloc (.cells #[.string ⟨#[]⟩,.string ⟨#[]⟩] 24) = Q_ := ⟨_,rfl⟩
    have bV : Below w.heap.size w V := hV ▸ below3 w _ _ _
    obtain ⟨B0,B1,B2⟩ : Bx V w.heap.size #[.string a,.string b] 24 ∧ Bx V (w.heap.size + 1) #[.int .i64 1,.string x,.bool true] 82 ∧ Bx V (w.heap.size + 2) #[.string ⟨#[]⟩,.string ⟨#[]⟩] 24 := hV ▸ bx3 w _ _ _ _ _ _
    obtain ⟨q1l,q1r,q1p,⟨q1c0,q1c1⟩,⟨q1f0,q1f1⟩⟩ := B0.d2
    obtain ⟨q2l,q2r,q2p,⟨q2c0,q2c1,q2c2⟩,⟨q2f0,q2f1,q2f2⟩⟩ := B1.d3
    obtain ⟨X,hX⟩ : ∃ Q_ : World,V.setCell ⟨w.heap.size,1,none⟩ (.string ⟨#[]⟩) = Q_ := ⟨_,rfl⟩
    have bX : Below w.heap.size w X := hX ▸ (bV).trans (low_setCell _ _ (by omega))
    replace B1 : Bx X (w.heap.size + 1) #[.int .i64 1,.string x,.bool true] 82 := hX ▸ B1.set' (by omega) _ _
    replace B2 : Bx X (w.heap.size + 2) #[.string ⟨#[]⟩,.string ⟨#[]⟩] 24 := hX ▸ B2.set' (by omega) _ _
    replace B0 : Bx X (w.heap.size) #[.string a,.string ⟨#[]⟩] 24 := hX ▸ (show Bx (V.setCell ⟨w.heap.size,1,none⟩ (.string ⟨#[]⟩)) (w.heap.size) #[.string a,.string ⟨#[]⟩] 24 from B0.set 1 (.string ⟨#[]⟩))
    obtain ⟨q3l,q3r,q3p,⟨q3c0,q3c1⟩,⟨q3f0,q3f1⟩⟩ := B0.d2
    obtain ⟨q4l,q4r,q4p,⟨q4c0,q4c1⟩,⟨q4f0,q4f1⟩⟩ := B2.d2
    obtain ⟨Y,hY⟩ : ∃ Q_ : World,X.setRow (w.heap.size + 2) #[.string a,.string ⟨#[]⟩] = Q_ := ⟨_,rfl⟩
    have bY : Below w.heap.size w Y := hY ▸ (bX).trans (low_setRow _ (by omega))
    replace B0 : Bx Y (w.heap.size) #[.string a,.string ⟨#[]⟩] 24 := hY ▸ B0.put' (by omega) _
    replace B1 : Bx Y (w.heap.size + 1) #[.int .i64 1,.string x,.bool true] 82 := hY ▸ B1.put' (by omega) _
    replace B2 : Bx Y (w.heap.size + 2) #[.string a,.string ⟨#[]⟩] 24 := hY ▸ B2.put _
    obtain ⟨q5l,q5r,q5p,⟨q5c0,q5c1⟩,⟨q5f0,q5f1⟩⟩ := B2.d2
    go_enter Tryz.func95,Tryz.ntmps95
    go_wp2
    refine bodyPost_ret (v := .agg #[.string a,.string ⟨#[]⟩]) (ret_Z1 Tryz.results95 _ _ rfl ?_) rfl ⟨?_,bY⟩
    · simp [go_sem, *]
    · rfl
theorem rDone_is {a b : ByteArray} {z : Bool} {k : Int} {x : ByteArray} {er : Bool} {s : Pz} (H : Hid (done (a,b) (z,x,er) = s)) (hz : zi z = k) (w : World) (hl : a.size + b.size + x.size ≤ 1000000) :
    Calls Tryz.prog 95 #[.agg #[.string a,.string b],.agg #[.int .i64 k,.string x,.bool er]] w fun e w' => e = .returned (.agg #[.string s.1,.string s.2]) ∧ Below w.heap.size w w' := by
  rw [← H.out,← hz];exact rDone_any a b z x er w hl
set_option maxRecDepth 8000 in
set_option maxHeartbeats 4000000 in
theorem rNow_any (n : Nat) (d : Ds) (v : Value) (w : World) (h : DV n d v w) (hw : d.wt ≤ 1000000) (hl : d.l.length ≤ 1000000) :
    Calls Tryz.prog 63 #[v] w fun e w' => e = .returned (.agg #[.string d.now.1,.string d.now.2]) ∧ Below w.heap.size w w' := by
  obtain ⟨o,rfl,hO,hc⟩ := h
  obtain ⟨a,b,l,c,f,dn⟩ := d
  simp only at hO hl ⊢
  have hw2 : a.size + b.size + wl l ≤ 1000000 := hw
  obtain ⟨a1,c1,rfl⟩ := hO.len
  obtain ⟨n1,hn1⟩ : ∃ q,l.length = q := ⟨_,rfl⟩
  rw [hn1] at hO hc hl ⊢
  have HN := lH hn1
  obtain ⟨V,hV⟩ : ∃ Q_ : World,((w.alloc (.cells #[.string a,.string b,.slice a1 n1 c1,.int .i64 c,.int .i64 f,.bool dn] 27)).alloc (.cells #[.string ⟨#[]⟩,.string ⟨#[]⟩] 24)).alloc (.cells #[.string a,.string b] 24) = Q_ := ⟨_,rfl⟩
  have bV : Below w.heap.size w V := hV ▸ below3 w _ _ _
  obtain ⟨B0,B1,B2⟩ : Bx V w.heap.size #[.string a,.string b,.slice a1 n1 c1,.int .i64 c,.int .i64 f,.bool dn] 27 ∧ Bx V (w.heap.size + 1) #[.string ⟨#[]⟩,.string ⟨#[]⟩] 24 ∧ Bx V (w.heap.size + 2) #[.string a,.string b] 24 := hV ▸ bx3 w _ _ _ _ _ _
  have HA : Hid (Bx V (w.heap.size + 1) #[.string ⟨#[]⟩,.string ⟨#[]⟩] 24 ∧ Bx V (w.heap.size + 2) #[.string (fin (a,b) (l.take 0)).1,.string (fin (a,b) (l.take 0)).2] 24 ∧ Below w.heap.size w V) := lH ⟨B1,B2,bV⟩
  have HL := lH (show ∀ u,Below w.heap.size w u → OL n l (.slice a1 n1 c1) u from fun u hu => hO.stays hu)
  obtain ⟨_,_,_,⟨q0,q1,q2,_⟩,_⟩ := B0.d6
  clear hn1 B0 B1 B2 hO bV hw
  go_enter Tryz.func63,Tryz.ntmps63
  go_wp2
  go_loopw [11] (fun i wr => ∃ k : Nat,k ≤ n1 ∧ i = .int .i64 k ∧ Bx wr (w.heap.size + 1) #[.string ⟨#[]⟩,.string ⟨#[]⟩] 24 ∧ Bx wr (w.heap.size + 2) #[.string (fin (a,b) (l.take k)).1,.string (fin (a,b) (l.take k)).2] 24 ∧ Below w.heap.size w wr) (fun i _ => n1 - (intOf i).toNat)
  case atStart => exact ⟨0,Nat.zero_le _,rfl,HA.out⟩
  case round =>
    obtain ⟨k,hk,rfl,B1,B2,hb⟩ := hrel
    obtain ⟨⟨s1,s2⟩,hS⟩ : ∃ q,fin (a,b) (l.take k) = q := ⟨_,rfl⟩
    rw [hS] at B2
    have HS := lH hS
    have j2 := B2.lt
    by_cases hlt : k < n1
    · have hlt2 : (k : Int) < n1 := by omega
      have hkl : k < l.length := by rw [HN.out];exact hlt
      have hsn : fin (a,b) (l.take (k + 1)) = done (fin (a,b) (l.take k)) l[k] := take_snoc' hkl
      have hsz : (fin (a,b) (l.take k)).1.size + (fin (a,b) (l.take k)).2.size ≤ a.size + b.size + wl (l.take k) := fin_wt (l.take k) (a,b)
      have hwk : wl (l.take k) + l[k].2.1.size ≤ wl l := by
        have h1 := wl_take l (k + 1)
        rw [Da.take_snoc hkl,wl_append] at h1
        have h2 : wl [l[k]] = l[k].2.1.size := by simp [wl]
        omega
      rcases (HL.out wr hb).cases with ⟨e,_⟩ | ⟨_,bb,off,cc,e,hat⟩
      · rw [e] at hkl;cases hkl
      simp only [Value.slice.injEq] at e
      obtain ⟨rfl,-,rfl⟩ := e
      obtain ⟨y0,y1,y2⟩ := at3 hat k hkl
      obtain ⟨⟨z,x,er⟩,hz⟩ : ∃ q,l[k] = q := ⟨_,rfl⟩
      rw [hz] at hsn y0 y1 y2 hwk
      rw [hS] at hsn hsz
      simp only at y0 y1 y2 hwk hsz
      obtain ⟨⟨r1,r2⟩,hr⟩ : ∃ q,done (s1,s2) (z,x,er) = q := ⟨_,rfl⟩
      rw [hr] at hsn
      have HR := lH hr
      have HSN := lH hsn
      obtain ⟨zz,hzz⟩ : ∃ q,zi z = q := ⟨_,rfl⟩
      rw [hzz] at y0
      have HZ := lH hzz
      have hbd : s1.size + s2.size + x.size ≤ 1000000 := by omega
      clear hS hsn hsz hwk hat hz hr hzz
      obtain ⟨W,hW⟩ : ∃ Q_ : World,wr.alloc (.cells #[.int .i64 zz,.string x,.bool er] 82) = Q_ := ⟨_,rfl⟩
      have aW : Below wr.heap.size wr W := hW ▸ below1 _ _
      have B5 : Bx W (wr.heap.size) #[.int .i64 zz,.string x,.bool er] 82 := hW ▸ Bx.at (by first | rfl | omega) _ _
      replace B1 := B1.stays aW
      replace B2 := B2.stays aW
      have bW := nx hb aW
      obtain ⟨q1l,q1r,q1p,⟨q1c0,q1c1⟩,⟨q1f0,q1f1⟩⟩ := B2.d2
      obtain ⟨q2l,q2r,q2p,⟨q2c0,q2c1,q2c2⟩,⟨q2f0,q2f1,q2f2⟩⟩ := B5.d3
      go_wp2_with fail
      with_reducible refine (rDone_is HR HZ.out _ hbd).mono ?_
      rintro e w1 ⟨rfl,hb1⟩
      simp only
      clear q1l q1r q1p q1c0 q1c1 q1f0 q1f1
      clear q2l q2r q2p q2c0 q2c1 q2c2 q2f0 q2f1 q2f2
      replace B1 := B1.stays hb1
      replace B2 := B2.stays hb1
      replace B5 := B5.stays hb1
      have bw1 := nx bW hb1
      obtain ⟨q3l,q3r,q3p,⟨q3c0,q3c1⟩,⟨q3f0,q3f1⟩⟩ := B2.d2
      obtain ⟨X,hX⟩ : ∃ Q_ : World,w1.setRow (w.heap.size + 2) #[.string r1,.string r2] = Q_ := ⟨_,rfl⟩
      have bX : Below w.heap.size w X := hX ▸ (bw1).trans (low_setRow _ (by omega))
      replace B1 : Bx X (w.heap.size + 1) #[.string ⟨#[]⟩,.string ⟨#[]⟩] 24 := hX ▸ B1.put' (by omega) _
      replace B5 : Bx X (wr.heap.size) #[.int .i64 zz,.string x,.bool er] 82 := hX ▸ B5.put' (by omega) _
      replace B2 : Bx X (w.heap.size + 2) #[.string r1,.string r2] 24 := hX ▸ B2.put _
      have HX := lH (show Bx X (w.heap.size + 1) #[.string ⟨#[]⟩,.string ⟨#[]⟩] 24 ∧ Bx X (w.heap.size + 2) #[.string r1,.string r2] 24 ∧ Below w.heap.size w X from ⟨B1,B2,bX⟩)
      go_wp2
      go_roundw
      case rel => first | exact ⟨k + 1,by omega,by go_num,by rw [HSN.out];exact HX.out⟩ | ((repeat apply Exists.intro);exact ⟨⟨k + 1,by omega,by go_num,by rw [HSN.out];exact HX.out⟩,rfl⟩)
      case measure => simp [intOf];omega
    · obtain rfl : k = n1 := by omega
      have HF : Hid ((s1,s2) = Ds.now ⟨a,b,l,c,f,dn⟩) := lH (by rw [← HS.out,← HN.out,List.take_length];rfl)
      clear hS
      obtain ⟨q1l,q1r,q1p,⟨q1c0,q1c1⟩,⟨q1f0,q1f1⟩⟩ := B2.d2
      obtain ⟨q2l,q2r,q2p,⟨q2c0,q2c1⟩,⟨q2f0,q2f1⟩⟩ := B1.d2
      obtain ⟨X,hX⟩ : ∃ Q_ : World,wr.setRow (w.heap.size + 1) #[.string s1,.string s2] = Q_ := ⟨_,rfl⟩
      have bX : Below w.heap.size w X := hX ▸ (hb).trans (low_setRow _ (by omega))
      replace B2 : Bx X (w.heap.size + 2) #[.string s1,.string s2] 24 := hX ▸ B2.put' (by omega) _
      replace B1 : Bx X (w.heap.size + 1) #[.string s1,.string s2] 24 := hX ▸ B1.put _
      obtain ⟨q3l,q3r,q3p,⟨q3c0,q3c1⟩,⟨q3f0,q3f1⟩⟩ := B1.d2
      go_wp2
      refine bodyPost_ret (v := .agg #[.string s1,.string s2]) (ret_Z1 Tryz.results63 _ _ rfl ?_) rfl ⟨by rw [← HF.out],bX⟩
      simp [go_sem, *]
theorem rNow_is {d : Ds} {s : Pz} (H : Hid (d.now = s)) {n : Nat} {v : Value} {w : World} (h : DV n d v w) (hw : d.wt ≤ 1000000) (hl : d.l.length ≤ 1000000) :
    Calls Tryz.prog 63 #[v] w fun e w' => e = .returned (.agg #[.string s.1,.string s.2]) ∧ Below w.heap.size w w' := by
  rw [← H.out];exact rNow_any n d v w h hw hl
theorem own_lower {n Bo Bo' : Nat} {l : List Do} {v : Value} {w : World} (h : OwnO n Bo l v w) (hb : Bo' ≤ Bo) : OwnO n Bo' l v w := by
  obtain ⟨css,h1,h2,h3,h4⟩ := h
  exact ⟨css,h1,h2,h3,h4.imp id fun ⟨g,cap,cur,k1,k2,k3⟩ => ⟨g,cap,cur,k1,Nat.le_trans hb k2,k3⟩⟩
def PostO (n : Nat) (d : Ds) (w : World) (e : Ending) (w' : World) : Prop := ∃ o,e = .returned (.agg (cD d.a d.b o d.c d.f d.n)) ∧ Below w.heap.size w w' ∧ OwnO n w.heap.size d.l o w'
set_option maxRecDepth 8000 in
set_option maxHeartbeats 4000000 in
theorem rOwn_any (n : Nat) (d : Ds) (v : Value) (w : World) (h : DV n d v w) (hn : n ≤ w.heap.size) (hl : d.l.length ≤ 100000) :
    Calls Tryz.prog 62 #[v] w (PostO n d w) := by
  obtain ⟨o,rfl,hO,hc⟩ := h
  obtain ⟨a,b,l,c,f,dn⟩ := d
  simp only at hO hl ⊢
  obtain ⟨a1,c1,rfl⟩ := hO.len
  obtain ⟨n1,hn1⟩ : ∃ q,l.length = q := ⟨_,rfl⟩
  rw [hn1] at hO hc ⊢
  obtain ⟨V,hV⟩ : ∃ Q_ : World,(w.alloc (.cells #[.string a,.string b,.slice a1 n1 c1,.int .i64 c,.int .i64 f,.bool dn] 27)).alloc (.cells #[.string ⟨#[]⟩,.string ⟨#[]⟩,.slice none 0 0,.int .i64 0,.int .i64 0,.bool false] 27) = Q_ := ⟨_,rfl⟩
  have bV : Below w.heap.size w V := hV ▸ below2 _ _ _
  obtain ⟨B0,B1⟩ : Bx V w.heap.size #[.string a,.string b,.slice a1 n1 c1,.int .i64 c,.int .i64 f,.bool dn] 27 ∧ Bx V (w.heap.size + 1) #[.string ⟨#[]⟩,.string ⟨#[]⟩,.slice none 0 0,.int .i64 0,.int .i64 0,.bool false] 27 := hV ▸ bx2 w _ _ _ _
  have hBo : (Bs.of n).le V.heap.size := ⟨by show n ≤ _;have := bV.size;omega,fun _ h => h.elim⟩
  obtain ⟨v',w2,hrun,hS,_,hbl,hkp⟩ := Own.append elemO 25 typesO hBo (by simp) (Own.made (e := eO) (T := 82) (Bs.of n) V V.heap.size (Nat.le_refl _)) ((hO.stays bV).stays (below1 V (.cells #[] 82))) (by rw [hn1] at hl;simp only [List.length_nil,hn1];omega) (by decide)
  have hb2 : Below V.heap.size V w2 := hbl _ _ (Nat.le_refl _) (below1 V _)
  rw [List.nil_append] at hS
  replace hS := own_lower hS bV.size
  obtain ⟨a2,c2,hv'⟩ := (Own.is (by decide) (show (Bs.of n).le w.heap.size from ⟨hn,fun _ h => h.elim⟩) hS).len
  rw [hn1] at hv'
  subst hv'
  clear hbl hkp hO hc hn1
  obtain ⟨q1l,q1r,q1p,⟨q1c0,q1c1,q1c2,q1c3,q1c4,q1c5⟩,⟨q1f0,q1f1,q1f2,q1f3,q1f4,q1f5⟩⟩ := B0.d6
  replace B0 := B0.stays hb2
  replace B1 := B1.stays hb2
  have bw2 := nx bV hb2
  obtain ⟨q2l,q2r,q2p,⟨q2c0,q2c1,q2c2,q2c3,q2c4,q2c5⟩,⟨q2f0,q2f1,q2f2,q2f3,q2f4,q2f5⟩⟩ := B0.d6
  have hS0 := hS
  have hS1 := Own.keep (show (Bs.of n).le w.heap.size from ⟨hn,fun _ h => h.elim⟩) hS0 (keeps_setCell 2 (.slice a2 n1 c2) B0 (by decide) hn)
  obtain ⟨X,hX⟩ : ∃ Q_ : World,w2.setCell ⟨w.heap.size,2,none⟩ (.slice a2 n1 c2) = Q_ := ⟨_,rfl⟩
  have bX : Below w.heap.size w X := hX ▸ (bw2).trans (low_setCell _ _ (by omega))
  replace B1 : Bx X (w.heap.size + 1) #[.string ⟨#[]⟩,.string ⟨#[]⟩,.slice none 0 0,.int .i64 0,.int .i64 0,.bool false] 27 := hX ▸ B1.set' (by omega) _ _
  replace B0 : Bx X (w.heap.size) #[.string a,.string b,.slice a2 n1 c2,.int .i64 c,.int .i64 f,.bool dn] 27 := hX ▸ (show Bx (w2.setCell ⟨w.heap.size,2,none⟩ (.slice a2 n1 c2)) (w.heap.size) #[.string a,.string b,.slice a2 n1 c2,.int .i64 c,.int .i64 f,.bool dn] 27 from B0.set 2 (.slice a2 n1 c2))
  replace hS1 := hX ▸ hS1
  obtain ⟨q3l,q3r,q3p,⟨q3c0,q3c1,q3c2,q3c3,q3c4,q3c5⟩,⟨q3f0,q3f1,q3f2,q3f3,q3f4,q3f5⟩⟩ := B0.d6
  obtain ⟨q4l,q4r,q4p,⟨q4c0,q4c1,q4c2,q4c3,q4c4,q4c5⟩,⟨q4f0,q4f1,q4f2,q4f3,q4f4,q4f5⟩⟩ := B1.d6
  have hS2 := Own.keep (show (Bs.of n).le w.heap.size from ⟨hn,fun _ h => h.elim⟩) hS1 (keeps_setRow #[.string a,.string b,.slice a2 n1 c2,.int .i64 c,.int .i64 f,.bool dn] B1 (by decide) (by show n ≤ _;omega))
  obtain ⟨Y,hY⟩ : ∃ Q_ : World,X.setRow (w.heap.size + 1) #[.string a,.string b,.slice a2 n1 c2,.int .i64 c,.int .i64 f,.bool dn] = Q_ := ⟨_,rfl⟩
  have bY : Below w.heap.size w Y := hY ▸ (bX).trans (low_setRow _ (by omega))
  replace B0 : Bx Y (w.heap.size) #[.string a,.string b,.slice a2 n1 c2,.int .i64 c,.int .i64 f,.bool dn] 27 := hY ▸ B0.put' (by omega) _
  replace B1 : Bx Y (w.heap.size + 1) #[.string a,.string b,.slice a2 n1 c2,.int .i64 c,.int .i64 f,.bool dn] 27 := hY ▸ B1.put _
  replace hS2 := hY ▸ hS2
  obtain ⟨q5l,q5r,q5p,⟨q5c0,q5c1,q5c2,q5c3,q5c4,q5c5⟩,⟨q5f0,q5f1,q5f2,q5f3,q5f4,q5f5⟩⟩ := B1.d6
  go_enter Tryz.func62,Tryz.ntmps62
  go_wp2
  refine bodyPost_ret (v := .agg (cD a b (.slice a2 n1 c2) c f dn)) (ret_D1 Tryz.results62 _ _ rfl ?_) rfl ⟨_,rfl,bY,hS2⟩
  simp [go_sem, *]
theorem rBurn_no (a b : ByteArray) (a1 : Option Addr) (n1 c1 : Nat) (c : Int) (dn : Bool) (w : World) :
    Calls Tryz.prog 64 #[.agg (cD a b (.slice a1 n1 c1) c 0 dn)] w fun e w' => e = .returned (.tuple #[.agg (cD a b (.slice a1 n1 c1) c 0 true),.bool false]) ∧ Below w.heap.size w w' := by
  go_enter Tryz.func64,Tryz.ntmps64
  go_wp2
  refine bodyPost_ret (v := .tuple #[.agg (cD a b (.slice a1 n1 c1) c 0 true),.bool false]) (ret_D2 Tryz.results64 _ _ rfl ?_) rfl ⟨rfl,below2 _ _ _⟩
  simp [go_sem]
theorem rBurn_yes {f f2 : Int} (HF : Hid (max f 0 - 1 = f2)) (h0 : f ≠ 0) (a b : ByteArray) (a1 : Option Addr) (n1 c1 : Nat) (c : Int) (dn : Bool) (w : World) (hf : -1 ≤ f ∧ f ≤ 9223372036854775807) :
    Calls Tryz.prog 64 #[.agg (cD a b (.slice a1 n1 c1) c f dn)] w fun e w' => e = .returned (.tuple #[.agg (cD a b (.slice a1 n1 c1) c f2 dn),.bool true]) ∧ Below w.heap.size w w' := by
  have h1 : (f == 0) = false := by simpa using h0
  go_enter Tryz.func64,Tryz.ntmps64
  go_wp2
  all_goals
    refine bodyPost_ret (v := .tuple #[.agg (cD a b (.slice a1 n1 c1) c f2 dn),.bool true]) (ret_D2 Tryz.results64 _ _ rfl ?_) rfl ⟨rfl,below2 _ _ _⟩
    rw [← HF.out];simp [go_sem];omega
set_option maxRecDepth 8000
set_option maxHeartbeats 8000000
theorem zone_no {d : Ds} {z : Int} (e : readE d z = 1) (hdn : d.n = false) : ((z == 0) = false ∧ (z == 1) = false) ∧ (z != 0) = true ∧ (z != 1) = true := by
  have hz : zoneB z = false := by
    cases hz : zoneB z
    · rfl
    · unfold readE at e;rw [if_neg (by simp [hdn]),if_pos hz] at e;cases e
  have g0 : (z == 0) = false := by cases h9 : (z == 0) <;> simp_all [zoneB]
  have g1 : (z == 1) = false := by cases h9 : (z == 1) <;> simp_all [zoneB]
  exact ⟨⟨g0,g1⟩,by simpa using g0,by simpa using g1⟩
theorem rRead_any (n : Nat) (d : Ds) (v : Value) (z : Int) (w : World) (h : DV n d v w) (hn : n ≤ w.heap.size) (hw : d.wt ≤ 1000000) (hl : d.l.length ≤ 1000000) :
    Calls Tryz.prog 44 #[v,.int .i64 z] w (PostS (readS d z) (readE d z) w) := by
  obtain ⟨o,rfl,hO,hc⟩ := h
  obtain ⟨a,b,l,c,f,dn⟩ := d
  simp only at hO hl ⊢
  obtain ⟨a1,c1,rfl⟩ := hO.len
  obtain ⟨n1,hn1⟩ : ∃ q,l.length = q := ⟨_,rfl⟩
  rw [hn1] at hO hc ⊢
  have HL := lH (show (⟨a,b,l,c,f,dn⟩ : Ds).l.length ≤ 1000000 from hl)
  have hE := readE_cases ⟨a,b,l,c,f,dn⟩ z
  have HE := lH hE
  obtain ⟨V,hV⟩ : ∃ Q_ : World,w.alloc (.cells #[.string a,.string b,.slice a1 n1 c1,.int .i64 c,.int .i64 f,.bool dn] 27) = Q_ := ⟨_,rfl⟩
  have bV : Below w.heap.size w V := hV ▸ below1 _ _
  have B0 : Bx V w.heap.size #[.string a,.string b,.slice a1 n1 c1,.int .i64 c,.int .i64 f,.bool dn] 27 := hV ▸ Bx.new _ _ _
  have HD := lH (show DV n ⟨a,b,l,c,f,dn⟩ (.agg (cD a b (.slice a1 n1 c1) c f dn)) V from DV.mk (hO.stays bV) hc)
  obtain ⟨q1,q2,q3,⟨q4,q5,q6,q7,q8,q9⟩,_⟩ := B0.d6
  clear hn1 hO hc hl hE
  rcases HE.out with ⟨e,hdn⟩ | ⟨e,hdn⟩ | ⟨e,hdn,hz⟩
  · have HS := lH (readS_no (d := ⟨a,b,l,c,f,dn⟩) (z := z) (by rw [e];decide))
    have HQ := lH e
    simp only at hdn
    subst hdn
    clear e
    go_enter Tryz.func44,Tryz.ntmps44
    go_wp2
    go_ret2
    exact ⟨by rw [HS.out,HQ.out];rfl,bV⟩
  · have HS := lH (readS_no (d := ⟨a,b,l,c,f,dn⟩) (z := z) (by rw [e];decide))
    have HQ := lH e
    obtain ⟨⟨g0,g1⟩,g2,g3⟩ := zone_no e hdn
    simp only at hdn
    subst hdn
    clear e
    go_enter Tryz.func44,Tryz.ntmps44
    go_wp2
    go_ret2
    exact ⟨by rw [HS.out,HQ.out];rfl,bV⟩
  · have hS : readS ⟨a,b,l,c,f,dn⟩ z = at2 (Ds.now ⟨a,b,l,c,f,dn⟩) z := by unfold readS;rw [if_pos e]
    obtain ⟨⟨s1,s2⟩,hs⟩ : ∃ q,Ds.now ⟨a,b,l,c,f,dn⟩ = q := ⟨_,rfl⟩
    rw [hs] at hS
    have HS := lH hS
    have HF := lH hs
    have HQ := lH e
    simp only at hdn
    subst hdn
    clear hS hs e
    rcases hz with rfl | rfl
    all_goals
      go_enter Tryz.func44,Tryz.ntmps44
      go_wp2_with fail
      with_reducible refine (rNow_is HF HD.out hw HL.out).mono ?_
      rintro e w2 ⟨rfl,hb3⟩
      simp only
      go_wp2
      go_ret2
      exact ⟨by rw [HS.out,HQ.out];rfl,nx bV hb3⟩
theorem rRead_is {d : Ds} {z k : Int} {x : ByteArray} (HS : Hid (readS d z = x)) (HE : Hid (readE d z = k)) {n : Nat} {v : Value} {w : World} (h : DV n d v w) (hn : n ≤ w.heap.size) (hw : d.wt ≤ 1000000) (hl : d.l.length ≤ 1000000) :
    Calls Tryz.prog 44 #[v,.int .i64 z] w (PostS x k w) := by
  rw [← HS.out,← HE.out];exact rRead_any n d v z w h hn hw hl
set_option maxRecDepth 8000
set_option maxHeartbeats 8000000
theorem bx_ownO {n Bo b : Nat} {l : List Do} {v : Value} {w w' : World} {cs : Array Value} {t : TypeId} (hx : Bx w b cs t) (h : OwnO n Bo l v w) (hg : w.grownBy w' v.ownBlock) (ht : t ≠ 82) : Bx w' b cs t := by
  refine (hg.block b hx.lt fun e => ?_).trans hx
  obtain ⟨css,_,_,hr⟩ := h
  rcases hr.2 with ⟨rfl,_⟩ | ⟨g,cap,cur,rfl,_,h2,_⟩
  · simp [Value.ownBlock] at e
  · obtain rfl : b = g := by simpa [Value.ownBlock] using e
    have h3 : w.heap[b]? = some (.cells cs t (0,0)) := hx
    rw [h3] at h2
    simp at h2
    exact ht h2.2
theorem doP_no {d : Ds} (h : d.f = 0) (o : Do) : doP d o = ({ d with n := true },15) := by unfold doP;rw [if_pos h]
theorem doP_yes {d : Ds} {f2 : Int} (h : d.f ≠ 0) (hf : max d.f 0 - 1 = f2) (o : Do) : doP d o = ({ d with f := f2,l := d.l ++ [o] },0) := by unfold doP;rw [if_neg h,hf]
theorem rAppend_any (n : Nat) (d : Ds) (v : Value) (z : Int) (x : ByteArray) (w : World) (h : DV n d v w) (hn : n ≤ w.heap.size) (hk : Ok 1000000 1000 d) (hx : x.size ≤ 1000000) :
    Calls Tryz.prog 36 #[v,.int .i64 z,.string x] w (Post2 n (appP d z x) w) := by
  obtain ⟨o,rfl,hO,hc⟩ := h
  obtain ⟨a,b,l,c,f,dn⟩ := d
  simp only at hO ⊢
  obtain ⟨a1,c1,rfl⟩ := hO.len
  obtain ⟨n1,hn1⟩ : ∃ q,l.length = q := ⟨_,rfl⟩
  rw [hn1] at hO hc ⊢
  have HN := lH hn1
  have hBo : (Bs.of n).le w.heap.size := ⟨hn,fun _ h => h.elim⟩
  obtain ⟨V,hV⟩ : ∃ Q_ : World,(w.alloc (.cells #[.string a,.string b,.slice a1 n1 c1,.int .i64 c,.int .i64 f,.bool dn] 27)).alloc (.cells #[.string ⟨#[]⟩,.string ⟨#[]⟩,.slice none 0 0,.int .i64 0,.int .i64 0,.bool false] 27) = Q_ := ⟨_,rfl⟩
  have bV : Below w.heap.size w V := hV ▸ below2 _ _ _
  obtain ⟨B0,B1⟩ : Bx V w.heap.size #[.string a,.string b,.slice a1 n1 c1,.int .i64 c,.int .i64 f,.bool dn] 27 ∧ Bx V (w.heap.size + 1) #[.string ⟨#[]⟩,.string ⟨#[]⟩,.slice none 0 0,.int .i64 0,.int .i64 0,.bool false] 27 := hV ▸ bx2 w _ _ _ _
  have hlc : l.length ≤ 1000 := hk.len
  have HLL : Hid (l.length ≤ 100000) := lH (by omega)
  have hw1 : (⟨a,b,l,c,f,dn⟩ : Ds).wt ≤ 1000000 := hk.wt
  have hf1 : -1 ≤ f ∧ f ≤ 9223372036854775807 := hk.f
  have hc1 : 0 ≤ c ∧ c ≤ 60000 := hk.c
  have hnl : n1 ≤ 1000 := by omega
  clear hk hlc
  rcases readE_cases ⟨a,b,l,c,f,dn⟩ z with ⟨e,hdn⟩ | ⟨e,hdn⟩ | ⟨e,hdn,hz⟩
  · simp only at hdn
    subst hdn
    have HP : Hid (appP ⟨a,b,l,c,f,true⟩ z x = (⟨a,b,l,c,f,true⟩,15)) := lH (by unfold appP;rw [if_pos (by rw [e];decide),e])
    clear e
    obtain ⟨q1l,q1r,q1p,⟨q1c0,q1c1,q1c2,q1c3,q1c4,q1c5⟩,⟨q1f0,q1f1,q1f2,q1f3,q1f4,q1f5⟩⟩ := B0.d6
    go_enter Tryz.func36,Tryz.ntmps36
    go_wp2_with fail
    with_reducible refine (rOwn_any n ⟨a,b,l,c,f,true⟩ _ V (DV.mk (hO.stays bV) hc) (by have := bV.size;omega) HLL.out).mono ?_
    rintro e w1 ⟨o1,rfl,hb1,hS⟩
    replace hS := own_lower hS bV.size
    simp only at hS ⊢
    obtain ⟨a2,c2,rfl⟩ := (Own.is (by decide) hBo hS).len
    rw [hn1] at hS ⊢
    clear q1l q1r q1p q1c0 q1c1 q1c2 q1c3 q1c4 q1c5 q1f0 q1f1 q1f2 q1f3 q1f4 q1f5
    replace B0 := B0.stays hb1
    replace B1 := B1.stays hb1
    have bw1 := nx bV hb1
    obtain ⟨q2l,q2r,q2p,⟨q2c0,q2c1,q2c2,q2c3,q2c4,q2c5⟩,⟨q2f0,q2f1,q2f2,q2f3,q2f4,q2f5⟩⟩ := B0.d6
    have hS9 := Own.keep hBo hS (keeps_setRow #[.string a,.string b,.slice a2 n1 c2,.int .i64 c,.int .i64 f,.bool true] B0 (by decide) (by show n ≤ _;omega))
    obtain ⟨X,hX⟩ : ∃ Q_ : World,w1.setRow (w.heap.size) #[.string a,.string b,.slice a2 n1 c2,.int .i64 c,.int .i64 f,.bool true] = Q_ := ⟨_,rfl⟩
    have bX : Below w.heap.size w X := hX ▸ (bw1).trans (low_setRow _ (by omega))
    replace B1 : Bx X (w.heap.size + 1) #[.string ⟨#[]⟩,.string ⟨#[]⟩,.slice none 0 0,.int .i64 0,.int .i64 0,.bool false] 27 := hX ▸ B1.put' (by omega) _
    replace B0 : Bx X (w.heap.size) #[.string a,.string b,.slice a2 n1 c2,.int .i64 c,.int .i64 f,.bool true] 27 := hX ▸ B0.put _
    replace hS : OwnO n w.heap.size l (.slice a2 n1 c2) X := hX ▸ hS9
    clear hS9
    obtain ⟨q3l,q3r,q3p,⟨q3c0,q3c1,q3c2,q3c3,q3c4,q3c5⟩,⟨q3f0,q3f1,q3f2,q3f3,q3f4,q3f5⟩⟩ := B0.d6
    obtain ⟨q4l,q4r,q4p,⟨q4c0,q4c1,q4c2,q4c3,q4c4,q4c5⟩,⟨q4f0,q4f1,q4f2,q4f3,q4f4,q4f5⟩⟩ := B1.d6
    have hS9 := Own.keep hBo hS (keeps_setRow #[.string a,.string b,.slice a2 n1 c2,.int .i64 c,.int .i64 f,.bool true] B1 (by decide) (by show n ≤ _;omega))
    obtain ⟨U,hU⟩ : ∃ Q_ : World,X.setRow (w.heap.size + 1) #[.string a,.string b,.slice a2 n1 c2,.int .i64 c,.int .i64 f,.bool true] = Q_ := ⟨_,rfl⟩
    have bU : Below w.heap.size w U := hU ▸ (bX).trans (low_setRow _ (by omega))
    replace B0 : Bx U (w.heap.size) #[.string a,.string b,.slice a2 n1 c2,.int .i64 c,.int .i64 f,.bool true] 27 := hU ▸ B0.put' (by omega) _
    replace B1 : Bx U (w.heap.size + 1) #[.string a,.string b,.slice a2 n1 c2,.int .i64 c,.int .i64 f,.bool true] 27 := hU ▸ B1.put _
    replace hS := hU ▸ hS9
    obtain ⟨q5l,q5r,q5p,⟨q5c0,q5c1,q5c2,q5c3,q5c4,q5c5⟩,⟨q5f0,q5f1,q5f2,q5f3,q5f4,q5f5⟩⟩ := B1.d6
    clear hn1
    go_wp2
    refine bodyPost_ret (v := .tuple #[.agg #[.string a,.string b,.slice a2 n1 c2,.int .i64 c,.int .i64 f,.bool true],.int .i64 15]) (ret_D2 Tryz.results36 _ _ rfl ?_) rfl (Post2.intro HP bU (DV.mk (Own.is (by decide) hBo hS) (Own.cap hS)))
    simp [go_sem, *]
  · simp only at hdn
    subst hdn
    have HP : Hid (appP ⟨a,b,l,c,f,false⟩ z x = (⟨a,b,l,c,f,false⟩,1)) := lH (by unfold appP;rw [if_pos (by rw [e];decide),e])
    obtain ⟨⟨g0,g1⟩,g2,g3⟩ := zone_no e rfl
    clear e
    obtain ⟨q1l,q1r,q1p,⟨q1c0,q1c1,q1c2,q1c3,q1c4,q1c5⟩,⟨q1f0,q1f1,q1f2,q1f3,q1f4,q1f5⟩⟩ := B0.d6
    go_enter Tryz.func36,Tryz.ntmps36
    go_wp2_with fail
    with_reducible refine (rOwn_any n ⟨a,b,l,c,f,false⟩ _ V (DV.mk (hO.stays bV) hc) (by have := bV.size;omega) HLL.out).mono ?_
    rintro e w1 ⟨o1,rfl,hb1,hS⟩
    replace hS := own_lower hS bV.size
    simp only at hS ⊢
    obtain ⟨a2,c2,rfl⟩ := (Own.is (by decide) hBo hS).len
    rw [hn1] at hS ⊢
    clear q1l q1r q1p q1c0 q1c1 q1c2 q1c3 q1c4 q1c5 q1f0 q1f1 q1f2 q1f3 q1f4 q1f5
    replace B0 := B0.stays hb1
    replace B1 := B1.stays hb1
    have bw1 := nx bV hb1
    obtain ⟨q2l,q2r,q2p,⟨q2c0,q2c1,q2c2,q2c3,q2c4,q2c5⟩,⟨q2f0,q2f1,q2f2,q2f3,q2f4,q2f5⟩⟩ := B0.d6
    have hS9 := Own.keep hBo hS (keeps_setRow #[.string a,.string b,.slice a2 n1 c2,.int .i64 c,.int .i64 f,.bool false] B0 (by decide) (by show n ≤ _;omega))
    obtain ⟨X,hX⟩ : ∃ Q_ : World,w1.setRow (w.heap.size) #[.string a,.string b,.slice a2 n1 c2,.int .i64 c,.int .i64 f,.bool false] = Q_ := ⟨_,rfl⟩
    have bX : Below w.heap.size w X := hX ▸ (bw1).trans (low_setRow _ (by omega))
    replace B1 : Bx X (w.heap.size + 1) #[.string ⟨#[]⟩,.string ⟨#[]⟩,.slice none 0 0,.int .i64 0,.int .i64 0,.bool false] 27 := hX ▸ B1.put' (by omega) _
    replace B0 : Bx X (w.heap.size) #[.string a,.string b,.slice a2 n1 c2,.int .i64 c,.int .i64 f,.bool false] 27 := hX ▸ B0.put _
    replace hS : OwnO n w.heap.size l (.slice a2 n1 c2) X := hX ▸ hS9
    clear hS9
    obtain ⟨q3l,q3r,q3p,⟨q3c0,q3c1,q3c2,q3c3,q3c4,q3c5⟩,⟨q3f0,q3f1,q3f2,q3f3,q3f4,q3f5⟩⟩ := B0.d6
    obtain ⟨q4l,q4r,q4p,⟨q4c0,q4c1,q4c2,q4c3,q4c4,q4c5⟩,⟨q4f0,q4f1,q4f2,q4f3,q4f4,q4f5⟩⟩ := B1.d6
    have hS9 := Own.keep hBo hS (keeps_setRow #[.string a,.string b,.slice a2 n1 c2,.int .i64 c,.int .i64 f,.bool false] B1 (by decide) (by show n ≤ _;omega))
    obtain ⟨U,hU⟩ : ∃ Q_ : World,X.setRow (w.heap.size + 1) #[.string a,.string b,.slice a2 n1 c2,.int .i64 c,.int .i64 f,.bool false] = Q_ := ⟨_,rfl⟩
    have bU : Below w.heap.size w U := hU ▸ (bX).trans (low_setRow _ (by omega))
    replace B0 : Bx U (w.heap.size) #[.string a,.string b,.slice a2 n1 c2,.int .i64 c,.int .i64 f,.bool false] 27 := hU ▸ B0.put' (by omega) _
    replace B1 : Bx U (w.heap.size + 1) #[.string a,.string b,.slice a2 n1 c2,.int .i64 c,.int .i64 f,.bool false] 27 := hU ▸ B1.put _
    replace hS := hU ▸ hS9
    obtain ⟨q5l,q5r,q5p,⟨q5c0,q5c1,q5c2,q5c3,q5c4,q5c5⟩,⟨q5f0,q5f1,q5f2,q5f3,q5f4,q5f5⟩⟩ := B1.d6
    clear hn1
    go_wp2
    refine bodyPost_ret (v := .tuple #[.agg #[.string a,.string b,.slice a2 n1 c2,.int .i64 c,.int .i64 f,.bool false],.int .i64 1]) (ret_D2 Tryz.results36 _ _ rfl ?_) rfl (Post2.intro HP bU (DV.mk (Own.is (by decide) hBo hS) (Own.cap hS)))
    simp [go_sem, *]
  · simp only at hdn
    subst hdn
    by_cases h1 : x.size = 0
    · have HP : Hid (appP ⟨a,b,l,c,f,false⟩ z x = (⟨a,b,l,c,f,false⟩,1)) := lH (by unfold appP;rw [if_neg (by rw [e];simp),if_pos h1])
      obtain rfl := size_nul h1
      clear e h1
      rcases hz with rfl | rfl
      · skip
        obtain ⟨q1l,q1r,q1p,⟨q1c0,q1c1,q1c2,q1c3,q1c4,q1c5⟩,⟨q1f0,q1f1,q1f2,q1f3,q1f4,q1f5⟩⟩ := B0.d6
        go_enter Tryz.func36,Tryz.ntmps36
        go_wp2_with fail
        with_reducible refine (rOwn_any n ⟨a,b,l,c,f,false⟩ _ V (DV.mk (hO.stays bV) hc) (by have := bV.size;omega) HLL.out).mono ?_
        rintro e w1 ⟨o1,rfl,hb1,hS⟩
        replace hS := own_lower hS bV.size
        simp only at hS ⊢
        obtain ⟨a2,c2,rfl⟩ := (Own.is (by decide) hBo hS).len
        rw [hn1] at hS ⊢
        clear q1l q1r q1p q1c0 q1c1 q1c2 q1c3 q1c4 q1c5 q1f0 q1f1 q1f2 q1f3 q1f4 q1f5
        replace B0 := B0.stays hb1
        replace B1 := B1.stays hb1
        have bw1 := nx bV hb1
        obtain ⟨q2l,q2r,q2p,⟨q2c0,q2c1,q2c2,q2c3,q2c4,q2c5⟩,⟨q2f0,q2f1,q2f2,q2f3,q2f4,q2f5⟩⟩ := B0.d6
        have hS9 := Own.keep hBo hS (keeps_setRow #[.string a,.string b,.slice a2 n1 c2,.int .i64 c,.int .i64 f,.bool false] B0 (by decide) (by show n ≤ _;omega))
        obtain ⟨X,hX⟩ : ∃ Q_ : World,w1.setRow (w.heap.size) #[.string a,.string b,.slice a2 n1 c2,.int .i64 c,.int .i64 f,.bool false] = Q_ := ⟨_,rfl⟩
        have bX : Below w.heap.size w X := hX ▸ (bw1).trans (low_setRow _ (by omega))
        replace B1 : Bx X (w.heap.size + 1) #[.string ⟨#[]⟩,.string ⟨#[]⟩,.slice none 0 0,.int .i64 0,.int .i64 0,.bool false] 27 := hX ▸ B1.put' (by omega) _
        replace B0 : Bx X (w.heap.size) #[.string a,.string b,.slice a2 n1 c2,.int .i64 c,.int .i64 f,.bool false] 27 := hX ▸ B0.put _
        replace hS : OwnO n w.heap.size l (.slice a2 n1 c2) X := hX ▸ hS9
        clear hS9
        obtain ⟨q3l,q3r,q3p,⟨q3c0,q3c1,q3c2,q3c3,q3c4,q3c5⟩,⟨q3f0,q3f1,q3f2,q3f3,q3f4,q3f5⟩⟩ := B0.d6
        obtain ⟨q4l,q4r,q4p,⟨q4c0,q4c1,q4c2,q4c3,q4c4,q4c5⟩,⟨q4f0,q4f1,q4f2,q4f3,q4f4,q4f5⟩⟩ := B1.d6
        have hS9 := Own.keep hBo hS (keeps_setRow #[.string a,.string b,.slice a2 n1 c2,.int .i64 c,.int .i64 f,.bool false] B1 (by decide) (by show n ≤ _;omega))
        obtain ⟨U,hU⟩ : ∃ Q_ : World,X.setRow (w.heap.size + 1) #[.string a,.string b,.slice a2 n1 c2,.int .i64 c,.int .i64 f,.bool false] = Q_ := ⟨_,rfl⟩
        have bU : Below w.heap.size w U := hU ▸ (bX).trans (low_setRow _ (by omega))
        replace B0 : Bx U (w.heap.size) #[.string a,.string b,.slice a2 n1 c2,.int .i64 c,.int .i64 f,.bool false] 27 := hU ▸ B0.put' (by omega) _
        replace B1 : Bx U (w.heap.size + 1) #[.string a,.string b,.slice a2 n1 c2,.int .i64 c,.int .i64 f,.bool false] 27 := hU ▸ B1.put _
        replace hS := hU ▸ hS9
        obtain ⟨q5l,q5r,q5p,⟨q5c0,q5c1,q5c2,q5c3,q5c4,q5c5⟩,⟨q5f0,q5f1,q5f2,q5f3,q5f4,q5f5⟩⟩ := B1.d6
        clear hn1
        go_wp2
        refine bodyPost_ret (v := .tuple #[.agg #[.string a,.string b,.slice a2 n1 c2,.int .i64 c,.int .i64 f,.bool false],.int .i64 1]) (ret_D2 Tryz.results36 _ _ rfl ?_) rfl (Post2.intro HP bU (DV.mk (Own.is (by decide) hBo hS) (Own.cap hS)))
        simp [go_sem, *]
      · skip
        obtain ⟨q1l,q1r,q1p,⟨q1c0,q1c1,q1c2,q1c3,q1c4,q1c5⟩,⟨q1f0,q1f1,q1f2,q1f3,q1f4,q1f5⟩⟩ := B0.d6
        go_enter Tryz.func36,Tryz.ntmps36
        go_wp2_with fail
        with_reducible refine (rOwn_any n ⟨a,b,l,c,f,false⟩ _ V (DV.mk (hO.stays bV) hc) (by have := bV.size;omega) HLL.out).mono ?_
        rintro e w1 ⟨o1,rfl,hb1,hS⟩
        replace hS := own_lower hS bV.size
        simp only at hS ⊢
        obtain ⟨a2,c2,rfl⟩ := (Own.is (by decide) hBo hS).len
        rw [hn1] at hS ⊢
        clear q1l q1r q1p q1c0 q1c1 q1c2 q1c3 q1c4 q1c5 q1f0 q1f1 q1f2 q1f3 q1f4 q1f5
        replace B0 := B0.stays hb1
        replace B1 := B1.stays hb1
        have bw1 := nx bV hb1
        obtain ⟨q2l,q2r,q2p,⟨q2c0,q2c1,q2c2,q2c3,q2c4,q2c5⟩,⟨q2f0,q2f1,q2f2,q2f3,q2f4,q2f5⟩⟩ := B0.d6
        have hS9 := Own.keep hBo hS (keeps_setRow #[.string a,.string b,.slice a2 n1 c2,.int .i64 c,.int .i64 f,.bool false] B0 (by decide) (by show n ≤ _;omega))
        obtain ⟨X,hX⟩ : ∃ Q_ : World,w1.setRow (w.heap.size) #[.string a,.string b,.slice a2 n1 c2,.int .i64 c,.int .i64 f,.bool false] = Q_ := ⟨_,rfl⟩
        have bX : Below w.heap.size w X := hX ▸ (bw1).trans (low_setRow _ (by omega))
        replace B1 : Bx X (w.heap.size + 1) #[.string ⟨#[]⟩,.string ⟨#[]⟩,.slice none 0 0,.int .i64 0,.int .i64 0,.bool false] 27 := hX ▸ B1.put' (by omega) _
        replace B0 : Bx X (w.heap.size) #[.string a,.string b,.slice a2 n1 c2,.int .i64 c,.int .i64 f,.bool false] 27 := hX ▸ B0.put _
        replace hS : OwnO n w.heap.size l (.slice a2 n1 c2) X := hX ▸ hS9
        clear hS9
        obtain ⟨q3l,q3r,q3p,⟨q3c0,q3c1,q3c2,q3c3,q3c4,q3c5⟩,⟨q3f0,q3f1,q3f2,q3f3,q3f4,q3f5⟩⟩ := B0.d6
        obtain ⟨q4l,q4r,q4p,⟨q4c0,q4c1,q4c2,q4c3,q4c4,q4c5⟩,⟨q4f0,q4f1,q4f2,q4f3,q4f4,q4f5⟩⟩ := B1.d6
        have hS9 := Own.keep hBo hS (keeps_setRow #[.string a,.string b,.slice a2 n1 c2,.int .i64 c,.int .i64 f,.bool false] B1 (by decide) (by show n ≤ _;omega))
        obtain ⟨U,hU⟩ : ∃ Q_ : World,X.setRow (w.heap.size + 1) #[.string a,.string b,.slice a2 n1 c2,.int .i64 c,.int .i64 f,.bool false] = Q_ := ⟨_,rfl⟩
        have bU : Below w.heap.size w U := hU ▸ (bX).trans (low_setRow _ (by omega))
        replace B0 : Bx U (w.heap.size) #[.string a,.string b,.slice a2 n1 c2,.int .i64 c,.int .i64 f,.bool false] 27 := hU ▸ B0.put' (by omega) _
        replace B1 : Bx U (w.heap.size + 1) #[.string a,.string b,.slice a2 n1 c2,.int .i64 c,.int .i64 f,.bool false] 27 := hU ▸ B1.put _
        replace hS := hU ▸ hS9
        obtain ⟨q5l,q5r,q5p,⟨q5c0,q5c1,q5c2,q5c3,q5c4,q5c5⟩,⟨q5f0,q5f1,q5f2,q5f3,q5f4,q5f5⟩⟩ := B1.d6
        clear hn1
        go_wp2
        refine bodyPost_ret (v := .tuple #[.agg #[.string a,.string b,.slice a2 n1 c2,.int .i64 c,.int .i64 f,.bool false],.int .i64 1]) (ret_D2 Tryz.results36 _ _ rfl ?_) rfl (Post2.intro HP bU (DV.mk (Own.is (by decide) hBo hS) (Own.cap hS)))
        simp [go_sem, *]
    · have hne : x.toList.isEmpty = false := toList_some h1
      obtain ⟨⟨s1,s2⟩,hs⟩ : ∃ q,Ds.now ⟨a,b,l,c,f,false⟩ = q := ⟨_,rfl⟩
      have hnw := now_wt ⟨a,b,l,c,f,false⟩
      rw [hs] at hnw
      simp only at hnw
      have HNW := lH hs
      rcases hz with rfl | rfl
      · have hat : at2 (Ds.now ⟨a,b,l,c,f,false⟩) 0 = s1 := by rw [hs];rfl
        have hwr : IntKind.i64.wrap (c - (s1.size : Int)) = c - (s1.size : Int) := by rw [IntKind.wrap_i64];omega
        clear hs
        by_cases h2 : c < s1.size + x.size
        · have HP : Hid (appP ⟨a,b,l,c,f,false⟩ 0 x = (⟨a,b,l,c,f,false⟩,10)) := lH (by unfold appP;rw [if_neg (by rw [e];simp),if_neg h1,hat,if_pos h2])
          have hd : decide (c - (s1.size : Int) < (x.size : Int)) = true := decide_eq_true (by omega)
          clear e hat h1
          obtain ⟨q1l,q1r,q1p,⟨q1c0,q1c1,q1c2,q1c3,q1c4,q1c5⟩,⟨q1f0,q1f1,q1f2,q1f3,q1f4,q1f5⟩⟩ := B0.d6
          go_enter Tryz.func36,Tryz.ntmps36
          go_wp2_with fail
          with_reducible refine (rOwn_any n ⟨a,b,l,c,f,false⟩ _ V (DV.mk (hO.stays bV) hc) (by have := bV.size;omega) HLL.out).mono ?_
          rintro e w1 ⟨o1,rfl,hb1,hS⟩
          replace hS := own_lower hS bV.size
          simp only at hS ⊢
          obtain ⟨a2,c2,rfl⟩ := (Own.is (by decide) hBo hS).len
          rw [hn1] at hS ⊢
          clear q1l q1r q1p q1c0 q1c1 q1c2 q1c3 q1c4 q1c5 q1f0 q1f1 q1f2 q1f3 q1f4 q1f5
          replace B0 := B0.stays hb1
          replace B1 := B1.stays hb1
          have bw1 := nx bV hb1
          obtain ⟨q2l,q2r,q2p,⟨q2c0,q2c1,q2c2,q2c3,q2c4,q2c5⟩,⟨q2f0,q2f1,q2f2,q2f3,q2f4,q2f5⟩⟩ := B0.d6
          have hS9 := Own.keep hBo hS (keeps_setRow #[.string a,.string b,.slice a2 n1 c2,.int .i64 c,.int .i64 f,.bool false] B0 (by decide) (by show n ≤ _;omega))
          obtain ⟨X,hX⟩ : ∃ Q_ : World,w1.setRow (w.heap.size) #[.string a,.string b,.slice a2 n1 c2,.int .i64 c,.int .i64 f,.bool false] = Q_ := ⟨_,rfl⟩
          have bX : Below w.heap.size w X := hX ▸ (bw1).trans (low_setRow _ (by omega))
          replace B1 : Bx X (w.heap.size + 1) #[.string ⟨#[]⟩,.string ⟨#[]⟩,.slice none 0 0,.int .i64 0,.int .i64 0,.bool false] 27 := hX ▸ B1.put' (by omega) _
          replace B0 : Bx X (w.heap.size) #[.string a,.string b,.slice a2 n1 c2,.int .i64 c,.int .i64 f,.bool false] 27 := hX ▸ B0.put _
          replace hS : OwnO n w.heap.size l (.slice a2 n1 c2) X := hX ▸ hS9
          clear hS9
          have HX0 := lH (show ∀ u,Below X.heap.size X u → DV n ⟨a,b,l,c,f,false⟩ (.agg (cD a b (.slice a2 n1 c2) c f false)) u from fun u hu => DV.mk (OL.stays (Own.is (by decide) hBo hS) hu) (Own.cap hS))
          obtain ⟨q3l,q3r,q3p,⟨q3c0,q3c1,q3c2,q3c3,q3c4,q3c5⟩,⟨q3f0,q3f1,q3f2,q3f3,q3f4,q3f5⟩⟩ := B0.d6
          have hK : ∀ u,Below X.heap.size X u → Rw.row u w.heap.size = #[.string a,.string b,.slice a2 n1 c2,.int .i64 c,.int .i64 f,.bool false] ∧ u.cell? ⟨w.heap.size,3,none⟩ = some (.int .i64 c) := fun u hu => ⟨(B0.stays hu).row,(B0.stays hu).cell 3⟩
          go_wp2
          refine Rg.region (by kernel_rfl) (by kernel_rfl) (by kernel_rfl) (fun _ _ d _ _ h => by cases d <;> exact h) _ rfl ?_
          repeat (first | (refine Rg.Seq.skip (by rfl) ?_;simp only [Act.put,sA,sB,sC]) | (refine Rg.Seq.pure (v := ?_) (by rfl) ?_ ?_;rotate_left;(intro w_ hS_;have hk_ := hK w_ hS_;go_simp <;> with_reducible rfl);simp only [Act.put,sA,sB,sC]) | (refine Rg.Seq.call (v := ?_) (f := ?_) (args := ?_) (by rfl) ?_ ?_ ?_;rotate_left 3;(intro w_ hS_;have hk_ := hK w_ hS_;go_simp <;> first | with_reducible rfl | (constructor <;> with_reducible rfl));(intro w_ hS_;first | (go_at_call 63;refine (rNow_is HNW (HX0.out w_ hS_) hw1 (Nat.le_trans HLL.out (by decide))).mono ?_;rintro e w_ ⟨rfl,hb_⟩;refine ⟨?_,nx hS_ hb_⟩;with_reducible rfl));simp only [Act.put,sA,sB,sC]))
          intro w3 hb3
          clear q2l q2r q2p q2c0 q2c1 q2c2 q2c3 q2c4 q2c5 q2f0 q2f1 q2f2 q2f3 q2f4 q2f5
          clear q3l q3r q3p q3c0 q3c1 q3c2 q3c3 q3c4 q3c5 q3f0 q3f1 q3f2 q3f3 q3f4 q3f5
          clear hK
          replace hS := Own.stays hS hb3
          replace B0 := B0.stays hb3
          replace B1 := B1.stays hb3
          have bw3 := nx bX hb3
          obtain ⟨q4l,q4r,q4p,⟨q4c0,q4c1,q4c2,q4c3,q4c4,q4c5⟩,⟨q4f0,q4f1,q4f2,q4f3,q4f4,q4f5⟩⟩ := B0.d6
          obtain ⟨q5l,q5r,q5p,⟨q5c0,q5c1,q5c2,q5c3,q5c4,q5c5⟩,⟨q5f0,q5f1,q5f2,q5f3,q5f4,q5f5⟩⟩ := B1.d6
          have hS9 := Own.keep hBo hS (keeps_setRow #[.string a,.string b,.slice a2 n1 c2,.int .i64 c,.int .i64 f,.bool false] B1 (by decide) (by show n ≤ _;omega))
          obtain ⟨U,hU⟩ : ∃ Q_ : World,w3.setRow (w.heap.size + 1) #[.string a,.string b,.slice a2 n1 c2,.int .i64 c,.int .i64 f,.bool false] = Q_ := ⟨_,rfl⟩
          have bU : Below w.heap.size w U := hU ▸ (bw3).trans (low_setRow _ (by omega))
          replace B0 : Bx U (w.heap.size) #[.string a,.string b,.slice a2 n1 c2,.int .i64 c,.int .i64 f,.bool false] 27 := hU ▸ B0.put' (by omega) _
          replace B1 : Bx U (w.heap.size + 1) #[.string a,.string b,.slice a2 n1 c2,.int .i64 c,.int .i64 f,.bool false] 27 := hU ▸ B1.put _
          replace hS := hU ▸ hS9
          obtain ⟨q6l,q6r,q6p,⟨q6c0,q6c1,q6c2,q6c3,q6c4,q6c5⟩,⟨q6f0,q6f1,q6f2,q6f3,q6f4,q6f5⟩⟩ := B1.d6
          clear hn1
          go_wp2
          refine bodyPost_ret (v := .tuple #[.agg #[.string a,.string b,.slice a2 n1 c2,.int .i64 c,.int .i64 f,.bool false],.int .i64 10]) (ret_D2 Tryz.results36 _ _ rfl ?_) rfl (Post2.intro HP bU (DV.mk (Own.is (by decide) hBo hS) (Own.cap hS)))
          simp [go_sem, *]
        · have hd : decide (c - (s1.size : Int) < (x.size : Int)) = false := decide_eq_false (by omega)
          by_cases hf0 : f = 0
          · subst hf0
            have HP : Hid (appP ⟨a,b,l,c,0,false⟩ 0 x = (⟨a,b,l,c,0,true⟩,15)) := lH (by unfold appP;rw [if_neg (by rw [e];simp),if_neg h1,hat,if_neg h2,doP_no rfl])
            clear e hat h1
            obtain ⟨q1l,q1r,q1p,⟨q1c0,q1c1,q1c2,q1c3,q1c4,q1c5⟩,⟨q1f0,q1f1,q1f2,q1f3,q1f4,q1f5⟩⟩ := B0.d6
            go_enter Tryz.func36,Tryz.ntmps36
            go_wp2_with fail
            with_reducible refine (rOwn_any n ⟨a,b,l,c,0,false⟩ _ V (DV.mk (hO.stays bV) hc) (by have := bV.size;omega) HLL.out).mono ?_
            rintro e w1 ⟨o1,rfl,hb1,hS⟩
            replace hS := own_lower hS bV.size
            simp only at hS ⊢
            obtain ⟨a2,c2,rfl⟩ := (Own.is (by decide) hBo hS).len
            rw [hn1] at hS ⊢
            clear q1l q1r q1p q1c0 q1c1 q1c2 q1c3 q1c4 q1c5 q1f0 q1f1 q1f2 q1f3 q1f4 q1f5
            replace B0 := B0.stays hb1
            replace B1 := B1.stays hb1
            have bw1 := nx bV hb1
            obtain ⟨q2l,q2r,q2p,⟨q2c0,q2c1,q2c2,q2c3,q2c4,q2c5⟩,⟨q2f0,q2f1,q2f2,q2f3,q2f4,q2f5⟩⟩ := B0.d6
            have hS9 := Own.keep hBo hS (keeps_setRow #[.string a,.string b,.slice a2 n1 c2,.int .i64 c,.int .i64 0,.bool false] B0 (by decide) (by show n ≤ _;omega))
            obtain ⟨X,hX⟩ : ∃ Q_ : World,w1.setRow (w.heap.size) #[.string a,.string b,.slice a2 n1 c2,.int .i64 c,.int .i64 0,.bool false] = Q_ := ⟨_,rfl⟩
            have bX : Below w.heap.size w X := hX ▸ (bw1).trans (low_setRow _ (by omega))
            replace B1 : Bx X (w.heap.size + 1) #[.string ⟨#[]⟩,.string ⟨#[]⟩,.slice none 0 0,.int .i64 0,.int .i64 0,.bool false] 27 := hX ▸ B1.put' (by omega) _
            replace B0 : Bx X (w.heap.size) #[.string a,.string b,.slice a2 n1 c2,.int .i64 c,.int .i64 0,.bool false] 27 := hX ▸ B0.put _
            replace hS : OwnO n w.heap.size l (.slice a2 n1 c2) X := hX ▸ hS9
            clear hS9
            have HX0 := lH (show ∀ u,Below X.heap.size X u → DV n ⟨a,b,l,c,0,false⟩ (.agg (cD a b (.slice a2 n1 c2) c 0 false)) u from fun u hu => DV.mk (OL.stays (Own.is (by decide) hBo hS) hu) (Own.cap hS))
            obtain ⟨q3l,q3r,q3p,⟨q3c0,q3c1,q3c2,q3c3,q3c4,q3c5⟩,⟨q3f0,q3f1,q3f2,q3f3,q3f4,q3f5⟩⟩ := B0.d6
            have hK : ∀ u,Below X.heap.size X u → Rw.row u w.heap.size = #[.string a,.string b,.slice a2 n1 c2,.int .i64 c,.int .i64 0,.bool false] ∧ u.cell? ⟨w.heap.size,3,none⟩ = some (.int .i64 c) := fun u hu => ⟨(B0.stays hu).row,(B0.stays hu).cell 3⟩
            go_wp2
            refine Rg.region (by kernel_rfl) (by kernel_rfl) (by kernel_rfl) (fun _ _ d _ _ h => by cases d <;> exact h) _ rfl ?_
            repeat (first | (refine Rg.Seq.skip (by rfl) ?_;simp only [Act.put,sA,sB,sC]) | (refine Rg.Seq.pure (v := ?_) (by rfl) ?_ ?_;rotate_left;(intro w_ hS_;have hk_ := hK w_ hS_;go_simp <;> with_reducible rfl);simp only [Act.put,sA,sB,sC]) | (refine Rg.Seq.call (v := ?_) (f := ?_) (args := ?_) (by rfl) ?_ ?_ ?_;rotate_left 3;(intro w_ hS_;have hk_ := hK w_ hS_;go_simp <;> first | with_reducible rfl | (constructor <;> with_reducible rfl));(intro w_ hS_;first | (go_at_call 63;refine (rNow_is HNW (HX0.out w_ hS_) hw1 (Nat.le_trans HLL.out (by decide))).mono ?_;rintro e w_ ⟨rfl,hb_⟩;refine ⟨?_,nx hS_ hb_⟩;with_reducible rfl));simp only [Act.put,sA,sB,sC]))
            intro w3 hb3
            clear q2l q2r q2p q2c0 q2c1 q2c2 q2c3 q2c4 q2c5 q2f0 q2f1 q2f2 q2f3 q2f4 q2f5
            clear q3l q3r q3p q3c0 q3c1 q3c2 q3c3 q3c4 q3c5 q3f0 q3f1 q3f2 q3f3 q3f4 q3f5
            clear hK
            replace hS := Own.stays hS hb3
            replace B0 := B0.stays hb3
            replace B1 := B1.stays hb3
            have bw3 := nx bX hb3
            obtain ⟨q4l,q4r,q4p,⟨q4c0,q4c1,q4c2,q4c3,q4c4,q4c5⟩,⟨q4f0,q4f1,q4f2,q4f3,q4f4,q4f5⟩⟩ := B0.d6
            go_wp2_with fail
            with_reducible refine (rBurn_no a b a2 n1 c2 c false _).mono ?_
            rintro e w4 ⟨rfl,hb4⟩
            clear q4l q4r q4p q4c0 q4c1 q4c2 q4c3 q4c4 q4c5 q4f0 q4f1 q4f2 q4f3 q4f4 q4f5
            replace hS := Own.stays hS hb4
            replace B0 := B0.stays hb4
            replace B1 := B1.stays hb4
            have bw4 := nx bw3 hb4
            obtain ⟨q5l,q5r,q5p,⟨q5c0,q5c1,q5c2,q5c3,q5c4,q5c5⟩,⟨q5f0,q5f1,q5f2,q5f3,q5f4,q5f5⟩⟩ := B0.d6
            have hS9 := Own.keep hBo hS (keeps_setRow #[.string a,.string b,.slice a2 n1 c2,.int .i64 c,.int .i64 0,.bool true] B0 (by decide) (by show n ≤ _;omega))
            obtain ⟨Y,hY⟩ : ∃ Q_ : World,w4.setRow (w.heap.size) #[.string a,.string b,.slice a2 n1 c2,.int .i64 c,.int .i64 0,.bool true] = Q_ := ⟨_,rfl⟩
            have bY : Below w.heap.size w Y := hY ▸ (bw4).trans (low_setRow _ (by omega))
            replace B1 : Bx Y (w.heap.size + 1) #[.string ⟨#[]⟩,.string ⟨#[]⟩,.slice none 0 0,.int .i64 0,.int .i64 0,.bool false] 27 := hY ▸ B1.put' (by omega) _
            replace B0 : Bx Y (w.heap.size) #[.string a,.string b,.slice a2 n1 c2,.int .i64 c,.int .i64 0,.bool true] 27 := hY ▸ B0.put _
            replace hS : OwnO n w.heap.size l (.slice a2 n1 c2) Y := hY ▸ hS9
            clear hS9
            obtain ⟨q6l,q6r,q6p,⟨q6c0,q6c1,q6c2,q6c3,q6c4,q6c5⟩,⟨q6f0,q6f1,q6f2,q6f3,q6f4,q6f5⟩⟩ := B0.d6
            obtain ⟨q7l,q7r,q7p,⟨q7c0,q7c1,q7c2,q7c3,q7c4,q7c5⟩,⟨q7f0,q7f1,q7f2,q7f3,q7f4,q7f5⟩⟩ := B1.d6
            have hS9 := Own.keep hBo hS (keeps_setRow #[.string a,.string b,.slice a2 n1 c2,.int .i64 c,.int .i64 0,.bool true] B1 (by decide) (by show n ≤ _;omega))
            obtain ⟨U,hU⟩ : ∃ Q_ : World,Y.setRow (w.heap.size + 1) #[.string a,.string b,.slice a2 n1 c2,.int .i64 c,.int .i64 0,.bool true] = Q_ := ⟨_,rfl⟩
            have bU : Below w.heap.size w U := hU ▸ (bY).trans (low_setRow _ (by omega))
            replace B0 : Bx U (w.heap.size) #[.string a,.string b,.slice a2 n1 c2,.int .i64 c,.int .i64 0,.bool true] 27 := hU ▸ B0.put' (by omega) _
            replace B1 : Bx U (w.heap.size + 1) #[.string a,.string b,.slice a2 n1 c2,.int .i64 c,.int .i64 0,.bool true] 27 := hU ▸ B1.put _
            replace hS := hU ▸ hS9
            obtain ⟨q8l,q8r,q8p,⟨q8c0,q8c1,q8c2,q8c3,q8c4,q8c5⟩,⟨q8f0,q8f1,q8f2,q8f3,q8f4,q8f5⟩⟩ := B1.d6
            clear hn1
            go_wp2
            refine bodyPost_ret (v := .tuple #[.agg #[.string a,.string b,.slice a2 n1 c2,.int .i64 c,.int .i64 0,.bool true],.int .i64 15]) (ret_D2 Tryz.results36 _ _ rfl ?_) rfl (Post2.intro HP bU (DV.mk (Own.is (by decide) hBo hS) (Own.cap hS)))
            simp [go_sem, *]
          · obtain ⟨f2,hf2⟩ : ∃ q,max f 0 - 1 = q := ⟨_,rfl⟩
            have HF := lH hf2
            have HP : Hid (appP ⟨a,b,l,c,f,false⟩ 0 x = (⟨a,b,l ++ [(false,x,false)],c,f2,false⟩,0)) := lH (by unfold appP;rw [if_neg (by rw [e];simp),if_neg h1,hat,if_neg h2,doP_yes (d := ⟨a,b,l,c,f,false⟩) hf0 hf2];rfl)
            clear e hat h1 hf2
            obtain ⟨q1l,q1r,q1p,⟨q1c0,q1c1,q1c2,q1c3,q1c4,q1c5⟩,⟨q1f0,q1f1,q1f2,q1f3,q1f4,q1f5⟩⟩ := B0.d6
            go_enter Tryz.func36,Tryz.ntmps36
            go_wp2_with fail
            with_reducible refine (rOwn_any n ⟨a,b,l,c,f,false⟩ _ V (DV.mk (hO.stays bV) hc) (by have := bV.size;omega) HLL.out).mono ?_
            rintro e w1 ⟨o1,rfl,hb1,hS⟩
            replace hS := own_lower hS bV.size
            simp only at hS ⊢
            obtain ⟨a2,c2,rfl⟩ := (Own.is (by decide) hBo hS).len
            rw [hn1] at hS ⊢
            clear q1l q1r q1p q1c0 q1c1 q1c2 q1c3 q1c4 q1c5 q1f0 q1f1 q1f2 q1f3 q1f4 q1f5
            replace B0 := B0.stays hb1
            replace B1 := B1.stays hb1
            have bw1 := nx bV hb1
            obtain ⟨q2l,q2r,q2p,⟨q2c0,q2c1,q2c2,q2c3,q2c4,q2c5⟩,⟨q2f0,q2f1,q2f2,q2f3,q2f4,q2f5⟩⟩ := B0.d6
            have hS9 := Own.keep hBo hS (keeps_setRow #[.string a,.string b,.slice a2 n1 c2,.int .i64 c,.int .i64 f,.bool false] B0 (by decide) (by show n ≤ _;omega))
            obtain ⟨X,hX⟩ : ∃ Q_ : World,w1.setRow (w.heap.size) #[.string a,.string b,.slice a2 n1 c2,.int .i64 c,.int .i64 f,.bool false] = Q_ := ⟨_,rfl⟩
            have bX : Below w.heap.size w X := hX ▸ (bw1).trans (low_setRow _ (by omega))
            replace B1 : Bx X (w.heap.size + 1) #[.string ⟨#[]⟩,.string ⟨#[]⟩,.slice none 0 0,.int .i64 0,.int .i64 0,.bool false] 27 := hX ▸ B1.put' (by omega) _
            replace B0 : Bx X (w.heap.size) #[.string a,.string b,.slice a2 n1 c2,.int .i64 c,.int .i64 f,.bool false] 27 := hX ▸ B0.put _
            replace hS : OwnO n w.heap.size l (.slice a2 n1 c2) X := hX ▸ hS9
            clear hS9
            have HX0 := lH (show ∀ u,Below X.heap.size X u → DV n ⟨a,b,l,c,f,false⟩ (.agg (cD a b (.slice a2 n1 c2) c f false)) u from fun u hu => DV.mk (OL.stays (Own.is (by decide) hBo hS) hu) (Own.cap hS))
            obtain ⟨q3l,q3r,q3p,⟨q3c0,q3c1,q3c2,q3c3,q3c4,q3c5⟩,⟨q3f0,q3f1,q3f2,q3f3,q3f4,q3f5⟩⟩ := B0.d6
            have hK : ∀ u,Below X.heap.size X u → Rw.row u w.heap.size = #[.string a,.string b,.slice a2 n1 c2,.int .i64 c,.int .i64 f,.bool false] ∧ u.cell? ⟨w.heap.size,3,none⟩ = some (.int .i64 c) := fun u hu => ⟨(B0.stays hu).row,(B0.stays hu).cell 3⟩
            go_wp2
            refine Rg.region (by kernel_rfl) (by kernel_rfl) (by kernel_rfl) (fun _ _ d _ _ h => by cases d <;> exact h) _ rfl ?_
            repeat (first | (refine Rg.Seq.skip (by rfl) ?_;simp only [Act.put,sA,sB,sC]) | (refine Rg.Seq.pure (v := ?_) (by rfl) ?_ ?_;rotate_left;(intro w_ hS_;have hk_ := hK w_ hS_;go_simp <;> with_reducible rfl);simp only [Act.put,sA,sB,sC]) | (refine Rg.Seq.call (v := ?_) (f := ?_) (args := ?_) (by rfl) ?_ ?_ ?_;rotate_left 3;(intro w_ hS_;have hk_ := hK w_ hS_;go_simp <;> first | with_reducible rfl | (constructor <;> with_reducible rfl));(intro w_ hS_;first | (go_at_call 63;refine (rNow_is HNW (HX0.out w_ hS_) hw1 (Nat.le_trans HLL.out (by decide))).mono ?_;rintro e w_ ⟨rfl,hb_⟩;refine ⟨?_,nx hS_ hb_⟩;with_reducible rfl));simp only [Act.put,sA,sB,sC]))
            intro w3 hb3
            clear q2l q2r q2p q2c0 q2c1 q2c2 q2c3 q2c4 q2c5 q2f0 q2f1 q2f2 q2f3 q2f4 q2f5
            clear q3l q3r q3p q3c0 q3c1 q3c2 q3c3 q3c4 q3c5 q3f0 q3f1 q3f2 q3f3 q3f4 q3f5
            clear hK
            replace hS := Own.stays hS hb3
            replace B0 := B0.stays hb3
            replace B1 := B1.stays hb3
            have bw3 := nx bX hb3
            obtain ⟨q4l,q4r,q4p,⟨q4c0,q4c1,q4c2,q4c3,q4c4,q4c5⟩,⟨q4f0,q4f1,q4f2,q4f3,q4f4,q4f5⟩⟩ := B0.d6
            go_wp2_with fail
            with_reducible refine (rBurn_yes HF hf0 a b a2 n1 c2 c false _ hf1).mono ?_
            rintro e w4 ⟨rfl,hb4⟩
            clear q4l q4r q4p q4c0 q4c1 q4c2 q4c3 q4c4 q4c5 q4f0 q4f1 q4f2 q4f3 q4f4 q4f5
            replace hS := Own.stays hS hb4
            replace B0 := B0.stays hb4
            replace B1 := B1.stays hb4
            have bw4 := nx bw3 hb4
            obtain ⟨q5l,q5r,q5p,⟨q5c0,q5c1,q5c2,q5c3,q5c4,q5c5⟩,⟨q5f0,q5f1,q5f2,q5f3,q5f4,q5f5⟩⟩ := B0.d6
            have hS9 := Own.keep hBo hS (keeps_setRow #[.string a,.string b,.slice a2 n1 c2,.int .i64 c,.int .i64 f2,.bool false] B0 (by decide) (by show n ≤ _;omega))
            obtain ⟨Y,hY⟩ : ∃ Q_ : World,w4.setRow (w.heap.size) #[.string a,.string b,.slice a2 n1 c2,.int .i64 c,.int .i64 f2,.bool false] = Q_ := ⟨_,rfl⟩
            have bY : Below w.heap.size w Y := hY ▸ (bw4).trans (low_setRow _ (by omega))
            replace B1 : Bx Y (w.heap.size + 1) #[.string ⟨#[]⟩,.string ⟨#[]⟩,.slice none 0 0,.int .i64 0,.int .i64 0,.bool false] 27 := hY ▸ B1.put' (by omega) _
            replace B0 : Bx Y (w.heap.size) #[.string a,.string b,.slice a2 n1 c2,.int .i64 c,.int .i64 f2,.bool false] 27 := hY ▸ B0.put _
            replace hS : OwnO n w.heap.size l (.slice a2 n1 c2) Y := hY ▸ hS9
            clear hS9
            have hop : OL n [(false,x,false)] (.slice (some ⟨Y.heap.size,0,none⟩) 1 1) (Y.alloc (.cells #[.int .i64 0,.string x,.bool false] 82)) := Is.one (e := eO) (T := 82) (B := Bs.of n) (cs := [.int .i64 0,.string x,.bool false]) ⟨by show n ≤ _;have := bY.size;omega,fun _ h => h.elim⟩ rfl
            obtain ⟨q6l,q6r,q6p,⟨q6c0,q6c1,q6c2,q6c3,q6c4,q6c5⟩,⟨q6f0,q6f1,q6f2,q6f3,q6f4,q6f5⟩⟩ := B0.d6
            obtain ⟨Y2,hY2⟩ : ∃ Q_ : World,Y.alloc (.cells #[.int .i64 0,.string x,.bool false] 82) = Q_ := ⟨_,rfl⟩
            have aY2 : Below Y.heap.size Y Y2 := hY2 ▸ below1 _ _
            replace hS := Own.stays hS aY2
            replace B0 := B0.stays aY2
            replace B1 := B1.stays aY2
            have bY2 := nx bY aY2
            replace hop := hY2 ▸ hop
            obtain ⟨v',w5,hrun,hS5,hg5,hbl5,_⟩ := Own.append elemO 25 typesO hBo bY2.size hS hop (by simp only [List.length_singleton,hn1];omega) (by decide)
            replace B0 := bx_ownO B0 hS hg5 (by decide)
            replace B1 := bx_ownO B1 hS hg5 (by decide)
            have bw5 := hbl5 _ _ (Nat.le_refl _) bY2
            replace hS := hS5
            obtain ⟨a3,c3,hv'⟩ := (Own.is (by decide) hBo hS).len
            obtain ⟨n3,hn3⟩ : ∃ q,(l ++ [(false,x,false)]).length = q := ⟨_,rfl⟩
            rw [hn3] at hv'
            subst hv'
            clear hn3 hS5 hg5 hbl5 hop
            obtain ⟨q57l,q57r,q57p,⟨q57c0,q57c1,q57c2,q57c3,q57c4,q57c5⟩,⟨q57f0,q57f1,q57f2,q57f3,q57f4,q57f5⟩⟩ := B0.d6
            have hS9 := Own.keep hBo hS (keeps_setCell 2 (.slice a3 n3 c3) B0 (by decide) (by show n ≤ _;omega))
            obtain ⟨Y3,hY3⟩ : ∃ Q_ : World,w5.setCell ⟨w.heap.size,2,none⟩ (.slice a3 n3 c3) = Q_ := ⟨_,rfl⟩
            have bY3 : Below w.heap.size w Y3 := hY3 ▸ (bw5).trans (low_setCell _ _ (by omega))
            replace B1 : Bx Y3 (w.heap.size + 1) #[.string ⟨#[]⟩,.string ⟨#[]⟩,.slice none 0 0,.int .i64 0,.int .i64 0,.bool false] 27 := hY3 ▸ B1.set' (by omega) _ _
            replace B0 : Bx Y3 (w.heap.size) #[.string a,.string b,.slice a3 n3 c3,.int .i64 c,.int .i64 f2,.bool false] 27 := hY3 ▸ (show Bx (w5.setCell ⟨w.heap.size,2,none⟩ (.slice a3 n3 c3)) (w.heap.size) #[.string a,.string b,.slice a3 n3 c3,.int .i64 c,.int .i64 f2,.bool false] 27 from B0.set 2 (.slice a3 n3 c3))
            replace hS := hY3 ▸ hS9
            clear hS9
            obtain ⟨q58l,q58r,q58p,⟨q58c0,q58c1,q58c2,q58c3,q58c4,q58c5⟩,⟨q58f0,q58f1,q58f2,q58f3,q58f4,q58f5⟩⟩ := B0.d6
            obtain ⟨q59l,q59r,q59p,⟨q59c0,q59c1,q59c2,q59c3,q59c4,q59c5⟩,⟨q59f0,q59f1,q59f2,q59f3,q59f4,q59f5⟩⟩ := B1.d6
            have hS9 := Own.keep hBo hS (keeps_setRow #[.string a,.string b,.slice a3 n3 c3,.int .i64 c,.int .i64 f2,.bool false] B1 (by decide) (by show n ≤ _;omega))
            obtain ⟨U,hU⟩ : ∃ Q_ : World,Y3.setRow (w.heap.size + 1) #[.string a,.string b,.slice a3 n3 c3,.int .i64 c,.int .i64 f2,.bool false] = Q_ := ⟨_,rfl⟩
            have bU : Below w.heap.size w U := hU ▸ (bY3).trans (low_setRow _ (by omega))
            replace B0 : Bx U (w.heap.size) #[.string a,.string b,.slice a3 n3 c3,.int .i64 c,.int .i64 f2,.bool false] 27 := hU ▸ B0.put' (by omega) _
            replace B1 : Bx U (w.heap.size + 1) #[.string a,.string b,.slice a3 n3 c3,.int .i64 c,.int .i64 f2,.bool false] 27 := hU ▸ B1.put _
            replace hS := hU ▸ hS9
            obtain ⟨q60l,q60r,q60p,⟨q60c0,q60c1,q60c2,q60c3,q60c4,q60c5⟩,⟨q60f0,q60f1,q60f2,q60f3,q60f4,q60f5⟩⟩ := B1.d6
            clear hn1
            go_wp2
            refine bodyPost_ret (v := .tuple #[.agg #[.string a,.string b,.slice a3 n3 c3,.int .i64 c,.int .i64 f2,.bool false],.int .i64 0]) (ret_D2 Tryz.results36 _ _ rfl ?_) rfl (Post2.intro HP bU (DV.mk (Own.is (by decide) hBo hS) (Own.cap hS)))
            simp [go_sem, *]
      · have hat : at2 (Ds.now ⟨a,b,l,c,f,false⟩) 1 = s2 := by rw [hs];rfl
        have hwr : IntKind.i64.wrap (c - (s2.size : Int)) = c - (s2.size : Int) := by rw [IntKind.wrap_i64];omega
        clear hs
        by_cases h2 : c < s2.size + x.size
        · have HP : Hid (appP ⟨a,b,l,c,f,false⟩ 1 x = (⟨a,b,l,c,f,false⟩,10)) := lH (by unfold appP;rw [if_neg (by rw [e];simp),if_neg h1,hat,if_pos h2])
          have hd : decide (c - (s2.size : Int) < (x.size : Int)) = true := decide_eq_true (by omega)
          clear e hat h1
          obtain ⟨q1l,q1r,q1p,⟨q1c0,q1c1,q1c2,q1c3,q1c4,q1c5⟩,⟨q1f0,q1f1,q1f2,q1f3,q1f4,q1f5⟩⟩ := B0.d6
          go_enter Tryz.func36,Tryz.ntmps36
          go_wp2_with fail
          with_reducible refine (rOwn_any n ⟨a,b,l,c,f,false⟩ _ V (DV.mk (hO.stays bV) hc) (by have := bV.size;omega) HLL.out).mono ?_
          rintro e w1 ⟨o1,rfl,hb1,hS⟩
          replace hS := own_lower hS bV.size
          simp only at hS ⊢
          obtain ⟨a2,c2,rfl⟩ := (Own.is (by decide) hBo hS).len
          rw [hn1] at hS ⊢
          clear q1l q1r q1p q1c0 q1c1 q1c2 q1c3 q1c4 q1c5 q1f0 q1f1 q1f2 q1f3 q1f4 q1f5
          replace B0 := B0.stays hb1
          replace B1 := B1.stays hb1
          have bw1 := nx bV hb1
          obtain ⟨q2l,q2r,q2p,⟨q2c0,q2c1,q2c2,q2c3,q2c4,q2c5⟩,⟨q2f0,q2f1,q2f2,q2f3,q2f4,q2f5⟩⟩ := B0.d6
          have hS9 := Own.keep hBo hS (keeps_setRow #[.string a,.string b,.slice a2 n1 c2,.int .i64 c,.int .i64 f,.bool false] B0 (by decide) (by show n ≤ _;omega))
          obtain ⟨X,hX⟩ : ∃ Q_ : World,w1.setRow (w.heap.size) #[.string a,.string b,.slice a2 n1 c2,.int .i64 c,.int .i64 f,.bool false] = Q_ := ⟨_,rfl⟩
          have bX : Below w.heap.size w X := hX ▸ (bw1).trans (low_setRow _ (by omega))
          replace B1 : Bx X (w.heap.size + 1) #[.string ⟨#[]⟩,.string ⟨#[]⟩,.slice none 0 0,.int .i64 0,.int .i64 0,.bool false] 27 := hX ▸ B1.put' (by omega) _
          replace B0 : Bx X (w.heap.size) #[.string a,.string b,.slice a2 n1 c2,.int .i64 c,.int .i64 f,.bool false] 27 := hX ▸ B0.put _
          replace hS : OwnO n w.heap.size l (.slice a2 n1 c2) X := hX ▸ hS9
          clear hS9
          have HX0 := lH (show ∀ u,Below X.heap.size X u → DV n ⟨a,b,l,c,f,false⟩ (.agg (cD a b (.slice a2 n1 c2) c f false)) u from fun u hu => DV.mk (OL.stays (Own.is (by decide) hBo hS) hu) (Own.cap hS))
          obtain ⟨q3l,q3r,q3p,⟨q3c0,q3c1,q3c2,q3c3,q3c4,q3c5⟩,⟨q3f0,q3f1,q3f2,q3f3,q3f4,q3f5⟩⟩ := B0.d6
          have hK : ∀ u,Below X.heap.size X u → Rw.row u w.heap.size = #[.string a,.string b,.slice a2 n1 c2,.int .i64 c,.int .i64 f,.bool false] ∧ u.cell? ⟨w.heap.size,3,none⟩ = some (.int .i64 c) := fun u hu => ⟨(B0.stays hu).row,(B0.stays hu).cell 3⟩
          go_wp2
          refine Rg.region (by kernel_rfl) (by kernel_rfl) (by kernel_rfl) (fun _ _ d _ _ h => by cases d <;> exact h) _ rfl ?_
          repeat (first | (refine Rg.Seq.skip (by rfl) ?_;simp only [Act.put,sA,sB,sC]) | (refine Rg.Seq.pure (v := ?_) (by rfl) ?_ ?_;rotate_left;(intro w_ hS_;have hk_ := hK w_ hS_;go_simp <;> with_reducible rfl);simp only [Act.put,sA,sB,sC]) | (refine Rg.Seq.call (v := ?_) (f := ?_) (args := ?_) (by rfl) ?_ ?_ ?_;rotate_left 3;(intro w_ hS_;have hk_ := hK w_ hS_;go_simp <;> first | with_reducible rfl | (constructor <;> with_reducible rfl));(intro w_ hS_;first | (go_at_call 63;refine (rNow_is HNW (HX0.out w_ hS_) hw1 (Nat.le_trans HLL.out (by decide))).mono ?_;rintro e w_ ⟨rfl,hb_⟩;refine ⟨?_,nx hS_ hb_⟩;with_reducible rfl));simp only [Act.put,sA,sB,sC]))
          intro w3 hb3
          clear q2l q2r q2p q2c0 q2c1 q2c2 q2c3 q2c4 q2c5 q2f0 q2f1 q2f2 q2f3 q2f4 q2f5
          clear q3l q3r q3p q3c0 q3c1 q3c2 q3c3 q3c4 q3c5 q3f0 q3f1 q3f2 q3f3 q3f4 q3f5
          clear hK
          replace hS := Own.stays hS hb3
          replace B0 := B0.stays hb3
          replace B1 := B1.stays hb3
          have bw3 := nx bX hb3
          obtain ⟨q4l,q4r,q4p,⟨q4c0,q4c1,q4c2,q4c3,q4c4,q4c5⟩,⟨q4f0,q4f1,q4f2,q4f3,q4f4,q4f5⟩⟩ := B0.d6
          obtain ⟨q5l,q5r,q5p,⟨q5c0,q5c1,q5c2,q5c3,q5c4,q5c5⟩,⟨q5f0,q5f1,q5f2,q5f3,q5f4,q5f5⟩⟩ := B1.d6
          have hS9 := Own.keep hBo hS (keeps_setRow #[.string a,.string b,.slice a2 n1 c2,.int .i64 c,.int .i64 f,.bool false] B1 (by decide) (by show n ≤ _;omega))
          obtain ⟨U,hU⟩ : ∃ Q_ : World,w3.setRow (w.heap.size + 1) #[.string a,.string b,.slice a2 n1 c2,.int .i64 c,.int .i64 f,.bool false] = Q_ := ⟨_,rfl⟩
          have bU : Below w.heap.size w U := hU ▸ (bw3).trans (low_setRow _ (by omega))
          replace B0 : Bx U (w.heap.size) #[.string a,.string b,.slice a2 n1 c2,.int .i64 c,.int .i64 f,.bool false] 27 := hU ▸ B0.put' (by omega) _
          replace B1 : Bx U (w.heap.size + 1) #[.string a,.string b,.slice a2 n1 c2,.int .i64 c,.int .i64 f,.bool false] 27 := hU ▸ B1.put _
          replace hS := hU ▸ hS9
          obtain ⟨q6l,q6r,q6p,⟨q6c0,q6c1,q6c2,q6c3,q6c4,q6c5⟩,⟨q6f0,q6f1,q6f2,q6f3,q6f4,q6f5⟩⟩ := B1.d6
          clear hn1
          go_wp2
          refine bodyPost_ret (v := .tuple #[.agg #[.string a,.string b,.slice a2 n1 c2,.int .i64 c,.int .i64 f,.bool false],.int .i64 10]) (ret_D2 Tryz.results36 _ _ rfl ?_) rfl (Post2.intro HP bU (DV.mk (Own.is (by decide) hBo hS) (Own.cap hS)))
          simp [go_sem, *]
        · have hd : decide (c - (s2.size : Int) < (x.size : Int)) = false := decide_eq_false (by omega)
          by_cases hf0 : f = 0
          · subst hf0
            have HP : Hid (appP ⟨a,b,l,c,0,false⟩ 1 x = (⟨a,b,l,c,0,true⟩,15)) := lH (by unfold appP;rw [if_neg (by rw [e];simp),if_neg h1,hat,if_neg h2,doP_no rfl])
            clear e hat h1
            obtain ⟨q1l,q1r,q1p,⟨q1c0,q1c1,q1c2,q1c3,q1c4,q1c5⟩,⟨q1f0,q1f1,q1f2,q1f3,q1f4,q1f5⟩⟩ := B0.d6
            go_enter Tryz.func36,Tryz.ntmps36
            go_wp2_with fail
            with_reducible refine (rOwn_any n ⟨a,b,l,c,0,false⟩ _ V (DV.mk (hO.stays bV) hc) (by have := bV.size;omega) HLL.out).mono ?_
            rintro e w1 ⟨o1,rfl,hb1,hS⟩
            replace hS := own_lower hS bV.size
            simp only at hS ⊢
            obtain ⟨a2,c2,rfl⟩ := (Own.is (by decide) hBo hS).len
            rw [hn1] at hS ⊢
            clear q1l q1r q1p q1c0 q1c1 q1c2 q1c3 q1c4 q1c5 q1f0 q1f1 q1f2 q1f3 q1f4 q1f5
            replace B0 := B0.stays hb1
            replace B1 := B1.stays hb1
            have bw1 := nx bV hb1
            obtain ⟨q2l,q2r,q2p,⟨q2c0,q2c1,q2c2,q2c3,q2c4,q2c5⟩,⟨q2f0,q2f1,q2f2,q2f3,q2f4,q2f5⟩⟩ := B0.d6
            have hS9 := Own.keep hBo hS (keeps_setRow #[.string a,.string b,.slice a2 n1 c2,.int .i64 c,.int .i64 0,.bool false] B0 (by decide) (by show n ≤ _;omega))
            obtain ⟨X,hX⟩ : ∃ Q_ : World,w1.setRow (w.heap.size) #[.string a,.string b,.slice a2 n1 c2,.int .i64 c,.int .i64 0,.bool false] = Q_ := ⟨_,rfl⟩
            have bX : Below w.heap.size w X := hX ▸ (bw1).trans (low_setRow _ (by omega))
            replace B1 : Bx X (w.heap.size + 1) #[.string ⟨#[]⟩,.string ⟨#[]⟩,.slice none 0 0,.int .i64 0,.int .i64 0,.bool false] 27 := hX ▸ B1.put' (by omega) _
            replace B0 : Bx X (w.heap.size) #[.string a,.string b,.slice a2 n1 c2,.int .i64 c,.int .i64 0,.bool false] 27 := hX ▸ B0.put _
            replace hS : OwnO n w.heap.size l (.slice a2 n1 c2) X := hX ▸ hS9
            clear hS9
            have HX0 := lH (show ∀ u,Below X.heap.size X u → DV n ⟨a,b,l,c,0,false⟩ (.agg (cD a b (.slice a2 n1 c2) c 0 false)) u from fun u hu => DV.mk (OL.stays (Own.is (by decide) hBo hS) hu) (Own.cap hS))
            obtain ⟨q3l,q3r,q3p,⟨q3c0,q3c1,q3c2,q3c3,q3c4,q3c5⟩,⟨q3f0,q3f1,q3f2,q3f3,q3f4,q3f5⟩⟩ := B0.d6
            have hK : ∀ u,Below X.heap.size X u → Rw.row u w.heap.size = #[.string a,.string b,.slice a2 n1 c2,.int .i64 c,.int .i64 0,.bool false] ∧ u.cell? ⟨w.heap.size,3,none⟩ = some (.int .i64 c) := fun u hu => ⟨(B0.stays hu).row,(B0.stays hu).cell 3⟩
            go_wp2
            refine Rg.region (by kernel_rfl) (by kernel_rfl) (by kernel_rfl) (fun _ _ d _ _ h => by cases d <;> exact h) _ rfl ?_
            repeat (first | (refine Rg.Seq.skip (by rfl) ?_;simp only [Act.put,sA,sB,sC]) | (refine Rg.Seq.pure (v := ?_) (by rfl) ?_ ?_;rotate_left;(intro w_ hS_;have hk_ := hK w_ hS_;go_simp <;> with_reducible rfl);simp only [Act.put,sA,sB,sC]) | (refine Rg.Seq.call (v := ?_) (f := ?_) (args := ?_) (by rfl) ?_ ?_ ?_;rotate_left 3;(intro w_ hS_;have hk_ := hK w_ hS_;go_simp <;> first | with_reducible rfl | (constructor <;> with_reducible rfl));(intro w_ hS_;first | (go_at_call 63;refine (rNow_is HNW (HX0.out w_ hS_) hw1 (Nat.le_trans HLL.out (by decide))).mono ?_;rintro e w_ ⟨rfl,hb_⟩;refine ⟨?_,nx hS_ hb_⟩;with_reducible rfl));simp only [Act.put,sA,sB,sC]))
            intro w3 hb3
            clear q2l q2r q2p q2c0 q2c1 q2c2 q2c3 q2c4 q2c5 q2f0 q2f1 q2f2 q2f3 q2f4 q2f5
            clear q3l q3r q3p q3c0 q3c1 q3c2 q3c3 q3c4 q3c5 q3f0 q3f1 q3f2 q3f3 q3f4 q3f5
            clear hK
            replace hS := Own.stays hS hb3
            replace B0 := B0.stays hb3
            replace B1 := B1.stays hb3
            have bw3 := nx bX hb3
            obtain ⟨q4l,q4r,q4p,⟨q4c0,q4c1,q4c2,q4c3,q4c4,q4c5⟩,⟨q4f0,q4f1,q4f2,q4f3,q4f4,q4f5⟩⟩ := B0.d6
            go_wp2_with fail
            with_reducible refine (rBurn_no a b a2 n1 c2 c false _).mono ?_
            rintro e w4 ⟨rfl,hb4⟩
            clear q4l q4r q4p q4c0 q4c1 q4c2 q4c3 q4c4 q4c5 q4f0 q4f1 q4f2 q4f3 q4f4 q4f5
            replace hS := Own.stays hS hb4
            replace B0 := B0.stays hb4
            replace B1 := B1.stays hb4
            have bw4 := nx bw3 hb4
            obtain ⟨q5l,q5r,q5p,⟨q5c0,q5c1,q5c2,q5c3,q5c4,q5c5⟩,⟨q5f0,q5f1,q5f2,q5f3,q5f4,q5f5⟩⟩ := B0.d6
            have hS9 := Own.keep hBo hS (keeps_setRow #[.string a,.string b,.slice a2 n1 c2,.int .i64 c,.int .i64 0,.bool true] B0 (by decide) (by show n ≤ _;omega))
            obtain ⟨Y,hY⟩ : ∃ Q_ : World,w4.setRow (w.heap.size) #[.string a,.string b,.slice a2 n1 c2,.int .i64 c,.int .i64 0,.bool true] = Q_ := ⟨_,rfl⟩
            have bY : Below w.heap.size w Y := hY ▸ (bw4).trans (low_setRow _ (by omega))
            replace B1 : Bx Y (w.heap.size + 1) #[.string ⟨#[]⟩,.string ⟨#[]⟩,.slice none 0 0,.int .i64 0,.int .i64 0,.bool false] 27 := hY ▸ B1.put' (by omega) _
            replace B0 : Bx Y (w.heap.size) #[.string a,.string b,.slice a2 n1 c2,.int .i64 c,.int .i64 0,.bool true] 27 := hY ▸ B0.put _
            replace hS : OwnO n w.heap.size l (.slice a2 n1 c2) Y := hY ▸ hS9
            clear hS9
            obtain ⟨q6l,q6r,q6p,⟨q6c0,q6c1,q6c2,q6c3,q6c4,q6c5⟩,⟨q6f0,q6f1,q6f2,q6f3,q6f4,q6f5⟩⟩ := B0.d6
            obtain ⟨q7l,q7r,q7p,⟨q7c0,q7c1,q7c2,q7c3,q7c4,q7c5⟩,⟨q7f0,q7f1,q7f2,q7f3,q7f4,q7f5⟩⟩ := B1.d6
            have hS9 := Own.keep hBo hS (keeps_setRow #[.string a,.string b,.slice a2 n1 c2,.int .i64 c,.int .i64 0,.bool true] B1 (by decide) (by show n ≤ _;omega))
            obtain ⟨U,hU⟩ : ∃ Q_ : World,Y.setRow (w.heap.size + 1) #[.string a,.string b,.slice a2 n1 c2,.int .i64 c,.int .i64 0,.bool true] = Q_ := ⟨_,rfl⟩
            have bU : Below w.heap.size w U := hU ▸ (bY).trans (low_setRow _ (by omega))
            replace B0 : Bx U (w.heap.size) #[.string a,.string b,.slice a2 n1 c2,.int .i64 c,.int .i64 0,.bool true] 27 := hU ▸ B0.put' (by omega) _
            replace B1 : Bx U (w.heap.size + 1) #[.string a,.string b,.slice a2 n1 c2,.int .i64 c,.int .i64 0,.bool true] 27 := hU ▸ B1.put _
            replace hS := hU ▸ hS9
            obtain ⟨q8l,q8r,q8p,⟨q8c0,q8c1,q8c2,q8c3,q8c4,q8c5⟩,⟨q8f0,q8f1,q8f2,q8f3,q8f4,q8f5⟩⟩ := B1.d6
            clear hn1
            go_wp2
            refine bodyPost_ret (v := .tuple #[.agg #[.string a,.string b,.slice a2 n1 c2,.int .i64 c,.int .i64 0,.bool true],.int .i64 15]) (ret_D2 Tryz.results36 _ _ rfl ?_) rfl (Post2.intro HP bU (DV.mk (Own.is (by decide) hBo hS) (Own.cap hS)))
            simp [go_sem, *]
          · obtain ⟨f2,hf2⟩ : ∃ q,max f 0 - 1 = q := ⟨_,rfl⟩
            have HF := lH hf2
            have HP : Hid (appP ⟨a,b,l,c,f,false⟩ 1 x = (⟨a,b,l ++ [(true,x,false)],c,f2,false⟩,0)) := lH (by unfold appP;rw [if_neg (by rw [e];simp),if_neg h1,hat,if_neg h2,doP_yes (d := ⟨a,b,l,c,f,false⟩) hf0 hf2];rfl)
            clear e hat h1 hf2
            obtain ⟨q1l,q1r,q1p,⟨q1c0,q1c1,q1c2,q1c3,q1c4,q1c5⟩,⟨q1f0,q1f1,q1f2,q1f3,q1f4,q1f5⟩⟩ := B0.d6
            go_enter Tryz.func36,Tryz.ntmps36
            go_wp2_with fail
            with_reducible refine (rOwn_any n ⟨a,b,l,c,f,false⟩ _ V (DV.mk (hO.stays bV) hc) (by have := bV.size;omega) HLL.out).mono ?_
            rintro e w1 ⟨o1,rfl,hb1,hS⟩
            replace hS := own_lower hS bV.size
            simp only at hS ⊢
            obtain ⟨a2,c2,rfl⟩ := (Own.is (by decide) hBo hS).len
            rw [hn1] at hS ⊢
            clear q1l q1r q1p q1c0 q1c1 q1c2 q1c3 q1c4 q1c5 q1f0 q1f1 q1f2 q1f3 q1f4 q1f5
            replace B0 := B0.stays hb1
            replace B1 := B1.stays hb1
            have bw1 := nx bV hb1
            obtain ⟨q2l,q2r,q2p,⟨q2c0,q2c1,q2c2,q2c3,q2c4,q2c5⟩,⟨q2f0,q2f1,q2f2,q2f3,q2f4,q2f5⟩⟩ := B0.d6
            have hS9 := Own.keep hBo hS (keeps_setRow #[.string a,.string b,.slice a2 n1 c2,.int .i64 c,.int .i64 f,.bool false] B0 (by decide) (by show n ≤ _;omega))
            obtain ⟨X,hX⟩ : ∃ Q_ : World,w1.setRow (w.heap.size) #[.string a,.string b,.slice a2 n1 c2,.int .i64 c,.int .i64 f,.bool false] = Q_ := ⟨_,rfl⟩
            have bX : Below w.heap.size w X := hX ▸ (bw1).trans (low_setRow _ (by omega))
            replace B1 : Bx X (w.heap.size + 1) #[.string ⟨#[]⟩,.string ⟨#[]⟩,.slice none 0 0,.int .i64 0,.int .i64 0,.bool false] 27 := hX ▸ B1.put' (by omega) _
            replace B0 : Bx X (w.heap.size) #[.string a,.string b,.slice a2 n1 c2,.int .i64 c,.int .i64 f,.bool false] 27 := hX ▸ B0.put _
            replace hS : OwnO n w.heap.size l (.slice a2 n1 c2) X := hX ▸ hS9
            clear hS9
            have HX0 := lH (show ∀ u,Below X.heap.size X u → DV n ⟨a,b,l,c,f,false⟩ (.agg (cD a b (.slice a2 n1 c2) c f false)) u from fun u hu => DV.mk (OL.stays (Own.is (by decide) hBo hS) hu) (Own.cap hS))
            obtain ⟨q3l,q3r,q3p,⟨q3c0,q3c1,q3c2,q3c3,q3c4,q3c5⟩,⟨q3f0,q3f1,q3f2,q3f3,q3f4,q3f5⟩⟩ := B0.d6
            have hK : ∀ u,Below X.heap.size X u → Rw.row u w.heap.size = #[.string a,.string b,.slice a2 n1 c2,.int .i64 c,.int .i64 f,.bool false] ∧ u.cell? ⟨w.heap.size,3,none⟩ = some (.int .i64 c) := fun u hu => ⟨(B0.stays hu).row,(B0.stays hu).cell 3⟩
            go_wp2
            refine Rg.region (by kernel_rfl) (by kernel_rfl) (by kernel_rfl) (fun _ _ d _ _ h => by cases d <;> exact h) _ rfl ?_
            repeat (first | (refine Rg.Seq.skip (by rfl) ?_;simp only [Act.put,sA,sB,sC]) | (refine Rg.Seq.pure (v := ?_) (by rfl) ?_ ?_;rotate_left;(intro w_ hS_;have hk_ := hK w_ hS_;go_simp <;> with_reducible rfl);simp only [Act.put,sA,sB,sC]) | (refine Rg.Seq.call (v := ?_) (f := ?_) (args := ?_) (by rfl) ?_ ?_ ?_;rotate_left 3;(intro w_ hS_;have hk_ := hK w_ hS_;go_simp <;> first | with_reducible rfl | (constructor <;> with_reducible rfl));(intro w_ hS_;first | (go_at_call 63;refine (rNow_is HNW (HX0.out w_ hS_) hw1 (Nat.le_trans HLL.out (by decide))).mono ?_;rintro e w_ ⟨rfl,hb_⟩;refine ⟨?_,nx hS_ hb_⟩;with_reducible rfl));simp only [Act.put,sA,sB,sC]))
            intro w3 hb3
            clear q2l q2r q2p q2c0 q2c1 q2c2 q2c3 q2c4 q2c5 q2f0 q2f1 q2f2 q2f3 q2f4 q2f5
            clear q3l q3r q3p q3c0 q3c1 q3c2 q3c3 q3c4 q3c5 q3f0 q3f1 q3f2 q3f3 q3f4 q3f5
            clear hK
            replace hS := Own.stays hS hb3
            replace B0 := B0.stays hb3
            replace B1 := B1.stays hb3
            have bw3 := nx bX hb3
            obtain ⟨q4l,q4r,q4p,⟨q4c0,q4c1,q4c2,q4c3,q4c4,q4c5⟩,⟨q4f0,q4f1,q4f2,q4f3,q4f4,q4f5⟩⟩ := B0.d6
            go_wp2_with fail
            with_reducible refine (rBurn_yes HF hf0 a b a2 n1 c2 c false _ hf1).mono ?_
            rintro e w4 ⟨rfl,hb4⟩
            clear q4l q4r q4p q4c0 q4c1 q4c2 q4c3 q4c4 q4c5 q4f0 q4f1 q4f2 q4f3 q4f4 q4f5
            replace hS := Own.stays hS hb4
            replace B0 := B0.stays hb4
            replace B1 := B1.stays hb4
            have bw4 := nx bw3 hb4
            obtain ⟨q5l,q5r,q5p,⟨q5c0,q5c1,q5c2,q5c3,q5c4,q5c5⟩,⟨q5f0,q5f1,q5f2,q5f3,q5f4,q5f5⟩⟩ := B0.d6
            have hS9 := Own.keep hBo hS (keeps_setRow #[.string a,.string b,.slice a2 n1 c2,.int .i64 c,.int .i64 f2,.bool false] B0 (by decide) (by show n ≤ _;omega))
            obtain ⟨Y,hY⟩ : ∃ Q_ : World,w4.setRow (w.heap.size) #[.string a,.string b,.slice a2 n1 c2,.int .i64 c,.int .i64 f2,.bool false] = Q_ := ⟨_,rfl⟩
            have bY : Below w.heap.size w Y := hY ▸ (bw4).trans (low_setRow _ (by omega))
            replace B1 : Bx Y (w.heap.size + 1) #[.string ⟨#[]⟩,.string ⟨#[]⟩,.slice none 0 0,.int .i64 0,.int .i64 0,.bool false] 27 := hY ▸ B1.put' (by omega) _
            replace B0 : Bx Y (w.heap.size) #[.string a,.string b,.slice a2 n1 c2,.int .i64 c,.int .i64 f2,.bool false] 27 := hY ▸ B0.put _
            replace hS : OwnO n w.heap.size l (.slice a2 n1 c2) Y := hY ▸ hS9
            clear hS9
            have hop : OL n [(true,x,false)] (.slice (some ⟨Y.heap.size,0,none⟩) 1 1) (Y.alloc (.cells #[.int .i64 1,.string x,.bool false] 82)) := Is.one (e := eO) (T := 82) (B := Bs.of n) (cs := [.int .i64 1,.string x,.bool false]) ⟨by show n ≤ _;have := bY.size;omega,fun _ h => h.elim⟩ rfl
            obtain ⟨q6l,q6r,q6p,⟨q6c0,q6c1,q6c2,q6c3,q6c4,q6c5⟩,⟨q6f0,q6f1,q6f2,q6f3,q6f4,q6f5⟩⟩ := B0.d6
            obtain ⟨Y2,hY2⟩ : ∃ Q_ : World,Y.alloc (.cells #[.int .i64 1,.string x,.bool false] 82) = Q_ := ⟨_,rfl⟩
            have aY2 : Below Y.heap.size Y Y2 := hY2 ▸ below1 _ _
            replace hS := Own.stays hS aY2
            replace B0 := B0.stays aY2
            replace B1 := B1.stays aY2
            have bY2 := nx bY aY2
            replace hop := hY2 ▸ hop
            obtain ⟨v',w5,hrun,hS5,hg5,hbl5,_⟩ := Own.append elemO 25 typesO hBo bY2.size hS hop (by simp only [List.length_singleton,hn1];omega) (by decide)
            replace B0 := bx_ownO B0 hS hg5 (by decide)
            replace B1 := bx_ownO B1 hS hg5 (by decide)
            have bw5 := hbl5 _ _ (Nat.le_refl _) bY2
            replace hS := hS5
            obtain ⟨a3,c3,hv'⟩ := (Own.is (by decide) hBo hS).len
            obtain ⟨n3,hn3⟩ : ∃ q,(l ++ [(true,x,false)]).length = q := ⟨_,rfl⟩
            rw [hn3] at hv'
            subst hv'
            clear hn3 hS5 hg5 hbl5 hop
            obtain ⟨q57l,q57r,q57p,⟨q57c0,q57c1,q57c2,q57c3,q57c4,q57c5⟩,⟨q57f0,q57f1,q57f2,q57f3,q57f4,q57f5⟩⟩ := B0.d6
            have hS9 := Own.keep hBo hS (keeps_setCell 2 (.slice a3 n3 c3) B0 (by decide) (by show n ≤ _;omega))
            obtain ⟨Y3,hY3⟩ : ∃ Q_ : World,w5.setCell ⟨w.heap.size,2,none⟩ (.slice a3 n3 c3) = Q_ := ⟨_,rfl⟩
            have bY3 : Below w.heap.size w Y3 := hY3 ▸ (bw5).trans (low_setCell _ _ (by omega))
            replace B1 : Bx Y3 (w.heap.size + 1) #[.string ⟨#[]⟩,.string ⟨#[]⟩,.slice none 0 0,.int .i64 0,.int .i64 0,.bool false] 27 := hY3 ▸ B1.set' (by omega) _ _
            replace B0 : Bx Y3 (w.heap.size) #[.string a,.string b,.slice a3 n3 c3,.int .i64 c,.int .i64 f2,.bool false] 27 := hY3 ▸ (show Bx (w5.setCell ⟨w.heap.size,2,none⟩ (.slice a3 n3 c3)) (w.heap.size) #[.string a,.string b,.slice a3 n3 c3,.int .i64 c,.int .i64 f2,.bool false] 27 from B0.set 2 (.slice a3 n3 c3))
            replace hS := hY3 ▸ hS9
            clear hS9
            obtain ⟨q58l,q58r,q58p,⟨q58c0,q58c1,q58c2,q58c3,q58c4,q58c5⟩,⟨q58f0,q58f1,q58f2,q58f3,q58f4,q58f5⟩⟩ := B0.d6
            obtain ⟨q59l,q59r,q59p,⟨q59c0,q59c1,q59c2,q59c3,q59c4,q59c5⟩,⟨q59f0,q59f1,q59f2,q59f3,q59f4,q59f5⟩⟩ := B1.d6
            have hS9 := Own.keep hBo hS (keeps_setRow #[.string a,.string b,.slice a3 n3 c3,.int .i64 c,.int .i64 f2,.bool false] B1 (by decide) (by show n ≤ _;omega))
            obtain ⟨U,hU⟩ : ∃ Q_ : World,Y3.setRow (w.heap.size + 1) #[.string a,.string b,.slice a3 n3 c3,.int .i64 c,.int .i64 f2,.bool false] = Q_ := ⟨_,rfl⟩
            have bU : Below w.heap.size w U := hU ▸ (bY3).trans (low_setRow _ (by omega))
            replace B0 : Bx U (w.heap.size) #[.string a,.string b,.slice a3 n3 c3,.int .i64 c,.int .i64 f2,.bool false] 27 := hU ▸ B0.put' (by omega) _
            replace B1 : Bx U (w.heap.size + 1) #[.string a,.string b,.slice a3 n3 c3,.int .i64 c,.int .i64 f2,.bool false] 27 := hU ▸ B1.put _
            replace hS := hU ▸ hS9
            obtain ⟨q60l,q60r,q60p,⟨q60c0,q60c1,q60c2,q60c3,q60c4,q60c5⟩,⟨q60f0,q60f1,q60f2,q60f3,q60f4,q60f5⟩⟩ := B1.d6
            clear hn1
            go_wp2
            refine bodyPost_ret (v := .tuple #[.agg #[.string a,.string b,.slice a3 n3 c3,.int .i64 c,.int .i64 f2,.bool false],.int .i64 0]) (ret_D2 Tryz.results36 _ _ rfl ?_) rfl (Post2.intro HP bU (DV.mk (Own.is (by decide) hBo hS) (Own.cap hS)))
            simp [go_sem, *]
end Go.Proofs.YtnnbjhpkgndclaaGreatDoor.Dk
