/- the contracts once more, each part of a result by itself; awake, long. -/
import Derived.Test.YtodlibpibopnoaaDoorFxS
namespace Go.Proofs.YtodlibpibopnoaaDoor.Fx
open Go.RowKit
set_option linter.unusedVariables false
def putS (n x : Int) : ByteArray := if wB x && fB n x then enc n x.toNat else ByteArray.empty
def putE (n x : Int) : Int := if wB x && fB n x then 0 else 1
theorem putV_eq (n x : Int) : putV n x = .tuple #[.string (putS n x), .int .i64 (putE n x)] := by
  unfold putV putS putE; split <;> rfl
def putTextS (s : ByteArray) : ByteArray := if s.size ≤ 4000 then enc s.size 2 ++ s else ByteArray.empty
def putTextE (s : ByteArray) : Int := if s.size ≤ 4000 then 0 else 5
theorem putTextV_eq (s : ByteArray) : putTextV s = .tuple #[.string (putTextS s), .int .i64 (putTextE s)] := by
  unfold putTextV putTextS putTextE; split <;> rfl
def getN (s : ByteArray) (a x : Int) : Int := if oB s a && wB x then (if x ≤ s.size - a then dec s a.toNat x.toNat else 0) else 0
def getE (s : ByteArray) (a x : Int) : Int := if oB s a && wB x then (if x ≤ s.size - a then 0 else 2) else 1
theorem getV_eq (s : ByteArray) (a x : Int) : getV s a x = .tuple #[.int .i64 (getN s a x), .int .i64 (getE s a x)] := by
  unfold getV getN getE; split <;> (try split) <;> rfl
def getIntN (s : ByteArray) (a : Int) : Int := if oB s a then (if 8 ≤ s.size - a then wrap64 (dec s a.toNat 8) else 0) else 0
def getIntE (s : ByteArray) (a : Int) : Int := if oB s a then (if 8 ≤ s.size - a then 0 else 2) else 1
theorem getIntV_eq (s : ByteArray) (a : Int) : getIntV s a = .tuple #[.int .i64 (getIntN s a), .int .i64 (getIntE s a)] := by
  unfold getIntV getIntN getIntE; split <;> (try split) <;> rfl
def textOK (s : ByteArray) (a : Int) : Bool := oB s a && (decide (2 ≤ s.size - a) && (decide (dec s a.toNat 2 ≤ 4000) && decide (dec s a.toNat 2 ≤ s.size - (a + 2))))
def getTextS (s : ByteArray) (a : Int) : ByteArray := if textOK s a then cut s (a.toNat + 2) (dec s a.toNat 2) else ByteArray.empty
def getTextA (s : ByteArray) (a : Int) : Int := if textOK s a then a + 2 + dec s a.toNat 2 else 0
def getTextE (s : ByteArray) (a : Int) : Int := if oB s a then (if 2 ≤ s.size - a then (if dec s a.toNat 2 ≤ 4000 then (if dec s a.toNat 2 ≤ s.size - (a + 2) then 0 else 2) else 5) else 2) else 1
theorem getTextV_eq (s : ByteArray) (a : Int) : getTextV s a = .tuple #[.string (getTextS s a), .int .i64 (getTextA s a), .int .i64 (getTextE s a)] := by
  unfold getTextV getTextS getTextA getTextE textOK
  by_cases h1 : oB s a = true
  · by_cases h2 : 2 ≤ s.size - a
    · by_cases h3 : dec s a.toNat 2 ≤ 4000
      · by_cases h4 : dec s a.toNat 2 ≤ s.size - (a + 2)
        · simp [h1, h2, h3, h4]
        · simp [h1, h2, h3, h4]
      · simp [h1, h2, h3]
    · simp [h1, h2]
  · simp [h1]
section
variable (w : World)
theorem put_s (n x : Int) : Calls Tryd.prog 32 #[.int .i64 n, .int .i64 x] w fun e w' => e = .returned (.tuple #[.string (putS n x), .int .i64 (putE n x)]) ∧ Below w.heap.size w w' := by
  rw [← putV_eq]; exact put_any _ _ _
theorem rPut_s (n x : Int) : Calls Tryd.prog 34 #[.int .i64 n, .int .i64 x] w fun e w' => e = .returned (.tuple #[.string (putS n x), .int .i64 (putE n x)]) ∧ Below w.heap.size w w' := by
  rw [← putV_eq]; exact rPut_any _ _ _
theorem get_s (s : ByteArray) (a x : Int) (hs : s.size ≤ maxLen) : Calls Tryd.prog 25 #[.string s, .int .i64 a, .int .i64 x] w fun e w' => e = .returned (.tuple #[.int .i64 (getN s a x), .int .i64 (getE s a x)]) ∧ w = w' := by
  rw [← getV_eq]; exact get_any _ _ _ hs _
theorem rGet_s (s : ByteArray) (a x : Int) (hs : s.size ≤ maxLen) : Calls Tryd.prog 29 #[.string s, .int .i64 a, .int .i64 x] w fun e w' => e = .returned (.tuple #[.int .i64 (getN s a x), .int .i64 (getE s a x)]) ∧ w = w' := by
  rw [← getV_eq]; exact rGet_any _ _ _ hs _
/-! awake's numbers, by the kernel -/
theorem aw1 : putV 300 2 = .tuple #[.string ⟨#[1, 44]⟩, .int .i64 0] := by kernel_rfl
theorem aw2 : getV ⟨#[120, 1, 44]⟩ 1 2 = .tuple #[.int .i64 300, .int .i64 0] := by kernel_rfl
theorem aw3 : enc (IntKind.u64.wrap (-5)) 8 = ⟨#[255, 255, 255, 255, 255, 255, 255, 251]⟩ := by kernel_rfl
theorem aw4 : getIntV ⟨#[255, 255, 255, 255, 255, 255, 255, 251]⟩ 0 = .tuple #[.int .i64 (-5), .int .i64 0] := by kernel_rfl
theorem aw5 : getTextV ⟨#[0, 2, 97, 98, 99]⟩ 0 = .tuple #[.string ⟨#[97, 98]⟩, .int .i64 4, .int .i64 0] := by kernel_rfl
/-! the contracts at awake's numbers -/
theorem awc1 : Calls Tryd.prog 32 #[.int .i64 300, .int .i64 2] w fun e w' => e = .returned (.tuple #[.string ⟨#[1, 44]⟩, .int .i64 0]) ∧ Below w.heap.size w w' := by
  rw [← aw1]; exact put_any _ _ _
theorem awc2 : Calls Tryd.prog 25 #[.string ⟨#[120, 1, 44]⟩, .int .i64 1, .int .i64 2] w fun e w' => e = .returned (.tuple #[.int .i64 300, .int .i64 0]) ∧ w = w' := by
  rw [← aw2]; exact get_any _ _ _ (by decide) _
end
end Go.Proofs.YtodlibpibopnoaaDoor.Fx
