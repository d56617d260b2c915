/- Short names for what stands often. -/
import Derived.Lib.Hide
import Derived.Below
namespace Go.Proofs.YtnnbjhpkgndclaaGreatDoor
open Go.RowKit
theorem lH {p : Prop} (h : p) : Hid p := Lib.hid h
theorem sA {α : Type _} (l : List α) (i : Nat) (a : α) : l.toArray.setIfInBounds i a = (l.set i a).toArray := by simp
theorem sB {α : Type _} (x : α) (l : List α) (a : α) : (x :: l).set 0 a = a :: l := rfl
theorem sC {α : Type _} (x : α) (l : List α) (n : Nat) (a : α) : (x :: l).set (n + 1) a = x :: l.set n a := rfl
end Go.Proofs.YtnnbjhpkgndclaaGreatDoor
