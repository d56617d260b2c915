/- Layer 17: the document's own mark, marked. -/
import Derived.Test.YtnnbjhpkgndclaaGreatDoorQsZZ
import Derived.Test.YtnnbjhpkgndclaaGreatDoorQsBJ
set_option linter.unusedVariables false
namespace Go.Proofs.YtnnbjhpkgndclaaGreatDoor.St
open Go.RowKit
open Go.Proofs.YtnnbjhpkgndclaaGreatDoor.Rw
open Go.Proofs.YtnnbjhpkgndclaaGreatDoor.Da
open Go.Proofs.YtnnbjhpkgndclaaGreatDoor.Bv
open Go.Proofs.YtnnbjhpkgndclaaGreatDoor.Fx (enc enc_size dec putV getV)
open Go.Proofs.YtnnbjhpkgndclaaGreatDoor.Rc (Ins ci zeroI)
def Let (v : Int) (c : UInt8) : Prop := (v = 72 ∧ c = 72) ∨ (v = 67 ∧ c = 67)
theorem rput4_is {g : Int} {x : ByteArray} (h : 0 ≤ g ∧ g < 4294967296) (hx : Hid (enc g 4 = x)) (w : World) :
    Calls Tryz.prog 58 #[.int .i64 g,.int .i64 4] w fun e w' => e = .returned (.tuple #[.string x,.int .i64 0]) ∧ Below w.heap.size w w' := by
  have h1 := Rc.put_ok (x := g) (k := 4) ⟨g.toNat,by show g = _;omega,by show g.toNat < 256 ^ 4;omega⟩ (by decide)
  have h2 := Fx.rPut_any g 4 w
  rw [show (4 : Int) = ((4 : Nat) : Int) from rfl,h1,hx.out] at h2
  exact h2
def clp (g : Int) : Int := if g ≤ 1073741824 then g else 1073741824
set_option maxRecDepth 8000 in
set_option maxHeartbeats 1000000 in
theorem rmark_is {v : Int} {c : UInt8} {g : Int} {x : ByteArray} (hl : Let v c) (h : 0 ≤ g) (hx : Hid (mark c (clp g) = x)) (w : World) :
    Calls Tryz.prog 83 #[.int .u8 v,.int .i64 g] w fun e w' => e = .returned (.string x) ∧ Below w.heap.size w w' := by
  obtain ⟨y,hy⟩ : ∃ y,enc (clp g) 4 = y := ⟨_,rfl⟩
  have HX : Hid (x = ⟨#[c]⟩ ++ y) := lH (by rw [← hx.out,← hy];rfl)
  have hys : 1 + y.size ≤ 9223372036854775807 := by rw [← hy,enc_size];decide
  have hcl : 0 ≤ clp g ∧ clp g < 4294967296 := by unfold clp;split <;> omega
  have HY := lH hy
  have hcv : ∀ W : World,(convert 105 9 (.slice (some ⟨W.heap.size,0,none⟩) 1 1)).run Tryz.prog (W.alloc (.cells #[.int .u8 v] 5)) = .ok (.string ⟨#[c]⟩) (W.alloc (.cells #[.int .u8 v] 5)) := fun W => by
    have h9 := Rc.conv1 v W
    rcases hl with ⟨rfl,rfl⟩ | ⟨rfl,rfl⟩
    · exact h9
    · exact h9
  clear hy
  have e : max 0 (min g 1073741824) = clp g := by unfold clp;split <;> omega
  obtain ⟨k,hk⟩ : ∃ k,clp g = k := ⟨_,rfl⟩
  rw [hk] at e hcl HY
  clear hk
  go_enter Tryz.func83,Tryz.ntmps83
  go_wp2_with fail
  refine (rput4_is hcl HY _).mono ?_
  rintro e w1 ⟨rfl,hb⟩
  have hc1 := hcv w1
  go_wp2
  go_ret
  exact ⟨by rw [HX.out];rfl,nx hb (below1 _ _)⟩
set_option maxRecDepth 8000 in
set_option maxHeartbeats 1000000 in
theorem rmarked_is {v : Int} {c : UInt8} {s : ByteArray} {g : Int} (hl : Let v c) (hs : s.size ≤ maxLen) (hx : Hid (mkN s c = g)) (w : World) :
    Calls Tryz.prog 75 #[.string s,.int .u8 v] w fun e w' => e = .returned (.int .i64 g) ∧ w = w' := by
  by_cases h5 : s.size = 5
  · have h5' : ((s.size : Int) != 5) = false := by simp;omega
    have hlt : (0 : Int) < s.size := by omega
    have hlt0 : 0 < s.size := by omega
    have hd0 : s.data[0]? = some s[0] := by rw [Array.getElem?_eq_getElem (by exact hlt0)];rfl
    have hv : (v : Int) = c.toNat := by rcases hl with ⟨rfl,rfl⟩ | ⟨rfl,rfl⟩ <;> rfl
    by_cases hc : s[0] = c
    · have h6 : ((s[0].toNat : Int) != v) = false := by rw [hc,hv];simp
      have HT := lH (Rc.get_w (s := s) (b := 1) (k := 4) (by omega) (by decide))
      have HG : Hid (g = dec s 1 4) := lH (by rw [← hx.out,mkN,if_pos ⟨h5,by rw [hd0,hc]⟩])
      clear hd0 hv hc
      go_enter Tryz.func75,Tryz.ntmps75
      go_wp2_with fail
      refine (Cm.rGet_is hs HT _).mono ?_
      rintro e w' ⟨rfl,rfl⟩
      go_wp2
      go_ret
      exact ⟨by rw [HG.out];rfl,rfl⟩
    · have h6 : ((s[0].toNat : Int) != v) = true := by
        rw [hv];simp
        intro h;exact hc (UInt8.toNat_inj.1 (by omega))
      have HG : Hid (g = 0) := lH (by rw [← hx.out,mkN,if_neg (fun h => hc (Option.some.inj (hd0.symm.trans h.2)))])
      clear hd0 hv hc
      go_enter Tryz.func75,Tryz.ntmps75
      go_wp2
      go_ret
      exact ⟨by rw [HG.out];rfl,rfl⟩
  · have h5' : ((s.size : Int) != 5) = true := by simp;omega
    have HG : Hid (g = 0) := lH (by rw [← hx.out,mkN,if_neg (fun h => h5 h.1)])
    go_enter Tryz.func75,Tryz.ntmps75
    go_wp2
    go_ret
    exact ⟨by rw [HG.out];rfl,rfl⟩
theorem rmarked_b {v : Int} {c : UInt8} {s : ByteArray} {g : Int} (hl : Let v c) (hs : s.size ≤ maxLen) (hx : Hid (mkN s c = g)) (w : World) :
    Calls Tryz.prog 75 #[.string s,.int .u8 v] w fun e w' => e = .returned (.int .i64 g) ∧ Below w.heap.size w w' :=
  (rmarked_is hl hs hx w).mono fun e w' ⟨h1,h2⟩ => ⟨h1,h2 ▸ Below.refl _ _⟩
end Go.Proofs.YtnnbjhpkgndclaaGreatDoor.St
