/- Layer 14 (disk), plain mathematics: what a disk is, and what each call makes of it. -/
import Derived.Test.YtnnbjhpkgndclaaGreatDoorQsZZ
import Derived.WalkKit
set_option linter.unusedVariables false
namespace Go.Proofs.YtnnbjhpkgndclaaGreatDoor.Dk
abbrev Do := Bool × ByteArray × Bool
structure Ds where
  a : ByteArray
  b : ByteArray
  l : List Do
  c : Int
  f : Int
  n : Bool
def nul : ByteArray := ⟨#[]⟩
def zi (z : Bool) : Int := if z then 1 else 0
def zoneB (z : Int) : Bool := z == 0 || z == 1
def lim (n m : Int) : Int := min (max n 0) m
def done (s : ByteArray × ByteArray) (o : Do) : ByteArray × ByteArray :=
  match o with
  | (false,x,false) => (s.1 ++ x,s.2)
  | (true,x,false) => (s.1,s.2 ++ x)
  | (false,_,true) => (nul,s.2)
  | (true,_,true) => (s.1,nul)
def fin (s : ByteArray × ByteArray) (l : List Do) : ByteArray × ByteArray := l.foldl done s
def Ds.now (d : Ds) : ByteArray × ByteArray := fin (d.a,d.b) d.l
def cut (x : ByteArray) (n : Int) : ByteArray := x.extract 0 (lim n x.size).toNat
def reach (l : List Do) (keep torn : Int) : List Do :=
  match l.drop (lim keep l.length).toNat with
  | (z,x,false) :: _ => l.take (lim keep l.length).toNat ++ [(z,cut x torn,false)]
  | _ => l.take (lim keep l.length).toNat
def burnP (d : Ds) : Ds × Int := if d.f = 0 then ({ d with n := true },15) else ({ d with f := max d.f 0 - 1 },0)
def doP (d : Ds) (o : Do) : Ds × Int := if d.f = 0 then ({ d with n := true },15) else ({ d with f := max d.f 0 - 1,l := d.l ++ [o] },0)
def readE (d : Ds) (z : Int) : Int := if d.n then 15 else if zoneB z then 0 else 1
def at2 (s : ByteArray × ByteArray) (z : Int) : ByteArray := if z = 0 then s.1 else s.2
def readS (d : Ds) (z : Int) : ByteArray := if readE d z = 0 then at2 d.now z else nul
def appP (d : Ds) (z : Int) (x : ByteArray) : Ds × Int :=
  if readE d z ≠ 0 then (d,readE d z) else if x.size = 0 then (d,1) else if d.c < (at2 d.now z).size + x.size then (d,10) else doP d (z == 1,x,false)
def eraP (d : Ds) (z : Int) : Ds × Int := if readE d z ≠ 0 then (d,readE d z) else doP d (z == 1,nul,true)
def synP (d : Ds) : Ds × Int :=
  if d.n then (d,15) else if d.f = 0 then ({ d with n := true },15) else ({ a := d.now.1,b := d.now.2,l := [],c := d.c,f := max d.f 0 - 1,n := d.n },0)
def craP (d : Ds) (keep torn : Int) : Ds := { a := (fin (d.a,d.b) (reach d.l keep torn)).1,b := (fin (d.a,d.b) (reach d.l keep torn)).2,l := [],c := d.c,f := -1,n := true }
def staP (d : Ds) : Ds := { d with n := false }
def armP (d : Ds) (n : Int) : Ds := { d with f := max n (-1) }
def rooP (d : Ds) (n : Int) : Ds := { d with c := lim n 60000 }
def newP (n : Int) : Ds := { a := nul,b := nul,l := [],c := lim n 60000,f := -1,n := false }
abbrev Op5 := Int × Int × Int × Int × ByteArray
def wl (l : List Do) : Nat := (l.map fun o => o.2.1.size).sum
def Ds.wt (d : Ds) : Nat := d.a.size + d.b.size + wl d.l
theorem wl_append (l m : List Do) : wl (l ++ m) = wl l + wl m := by simp [wl,List.sum_append]
theorem nul_size : nul.size = 0 := rfl
theorem lim_bd (n m : Int) (h : 0 ≤ m) : 0 ≤ lim n m ∧ lim n m ≤ m := by unfold lim;omega
theorem done_wt (s : ByteArray × ByteArray) (o : Do) : (done s o).1.size + (done s o).2.size ≤ s.1.size + s.2.size + o.2.1.size := by
  obtain ⟨z,x,e⟩ := o
  cases z <;> cases e <;> simp [done,ByteArray.size_append,nul_size] <;> omega
theorem fin_wt (l : List Do) : ∀ s : ByteArray × ByteArray,(fin s l).1.size + (fin s l).2.size ≤ s.1.size + s.2.size + wl l := by
  induction l with
  | nil => intro s;simp [fin,wl]
  | cons o l ih =>
    intro s
    have h1 := ih (done s o)
    have h2 := done_wt s o
    have h3 : wl (o :: l) = o.2.1.size + wl l := by simp [wl]
    have h4 : fin s (o :: l) = fin (done s o) l := rfl
    rw [h4];omega
theorem wl_take (l : List Do) (k : Nat) : wl (l.take k) ≤ wl l := by
  have := wl_append (l.take k) (l.drop k)
  rw [List.take_append_drop] at this;omega
theorem cut_size (x : ByteArray) (n : Int) : (cut x n).size ≤ x.size := by
  have := lim_bd n x.size (by omega)
  unfold cut;rw [ByteArray.size_extract];omega
theorem reach_wt (l : List Do) (k t : Int) : wl (reach l k t) ≤ wl l := by
  have h0 := wl_append (l.take (lim k l.length).toNat) (l.drop (lim k l.length).toNat)
  rw [List.take_append_drop] at h0
  unfold reach
  split
  · rename_i z x r e
    rw [e] at h0
    rw [wl_append]
    have h1 : wl ((z,x,false) :: r) = x.size + wl r := by simp [wl]
    have h2 : wl [(z,cut x t,false)] = (cut x t).size := by simp [wl]
    have := cut_size x t
    omega
  · omega
theorem reach_len (l : List Do) (k t : Int) : (reach l k t).length ≤ l.length := by
  have hb := lim_bd k l.length (by omega)
  unfold reach
  split
  · rename_i z x r e
    have := congrArg List.length e
    simp at this ⊢
    omega
  · simp;omega
structure Ok (W L : Nat) (d : Ds) : Prop where
  wt : d.wt ≤ W
  len : d.l.length ≤ L
  f : -1 ≤ d.f ∧ d.f ≤ 9223372036854775807
  c : 0 ≤ d.c ∧ d.c ≤ 60000
theorem Ok.mono {W L W' L' : Nat} {d : Ds} (h : Ok W L d) (h1 : W ≤ W') (h2 : L ≤ L') : Ok W' L' d := ⟨by have := h.wt;omega,by have := h.len;omega,h.f,h.c⟩
theorem Ok.newP (n : Int) : Ok 0 0 (newP n) := ⟨by simp [Ds.wt,Dk.newP,wl,nul_size],by simp [Dk.newP],by simp [Dk.newP],lim_bd n 60000 (by omega)⟩
theorem Ok.down {W L : Nat} {d : Ds} (h : Ok W L d) (b : Bool) : Ok W L { d with n := b } := ⟨h.wt,h.len,h.f,h.c⟩
theorem Ok.doP {W L : Nat} {d : Ds} (h : Ok W L d) (o : Do) : Ok (W + o.2.1.size) (L + 1) (doP d o).1 := by
  unfold Dk.doP
  split
  · exact (h.down true).mono (by omega) (by omega)
  · have h1 := h.wt;have h2 := h.len;have h3 := h.f
    refine ⟨?_,by simp;omega,by simp;omega,h.c⟩
    simp only [Ds.wt,wl_append] at h1 ⊢
    have :  wl [o] = o.2.1.size := by simp [wl]
    omega
theorem Ok.appP {W L : Nat} {d : Ds} (h : Ok W L d) (z : Int) (x : ByteArray) : Ok (W + x.size) (L + 1) (appP d z x).1 := by
  unfold Dk.appP
  split
  · exact h.mono (by omega) (by omega)
  split
  · exact h.mono (by omega) (by omega)
  split
  · exact h.mono (by omega) (by omega)
  · exact h.doP (z == 1,x,false)
theorem Ok.eraP {W L : Nat} {d : Ds} (h : Ok W L d) (z : Int) : Ok W (L + 1) (eraP d z).1 := by
  unfold Dk.eraP
  split
  · exact h.mono (by omega) (by omega)
  · exact h.doP (z == 1,nul,true)
theorem now_wt (d : Ds) : d.now.1.size + d.now.2.size ≤ d.wt := by
  have := fin_wt d.l (d.a,d.b)
  unfold Ds.now Ds.wt;omega
theorem Ok.synP {W L : Nat} {d : Ds} (h : Ok W L d) : Ok W L (synP d).1 := by
  unfold Dk.synP
  split
  · exact h
  split
  · exact h.down true
  · have h1 := h.wt;have h3 := h.f;have h4 := now_wt d
    exact ⟨by simp only [Ds.wt];simp [wl];omega,by simp,by simp;omega,h.c⟩
theorem Ok.craP {W L : Nat} {d : Ds} (h : Ok W L d) (k t : Int) : Ok W L (craP d k t) := by
  have h1 := h.wt
  have h2 : (fin (d.a,d.b) (reach d.l k t)).1.size + (fin (d.a,d.b) (reach d.l k t)).2.size ≤ d.a.size + d.b.size + wl (reach d.l k t) := fin_wt (reach d.l k t) (d.a,d.b)
  have h3 := reach_wt d.l k t
  refine ⟨?_,by simp [Dk.craP],by simp [Dk.craP],h.c⟩
  simp only [Dk.craP,Ds.wt] at h1 ⊢
  have :  wl [] = 0 := rfl
  omega
end Go.Proofs.YtnnbjhpkgndclaaGreatDoor.Dk
