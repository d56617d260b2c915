/- Layer 17, plain mathematics: a zone that ends in a torn frame; a store that falls while it is opened. -/
import Derived.Test.YtnnbjhpkgndclaaGreatDoorQsZZ
import Derived.Test.YtnnbjhpkgndclaaGreatDoorQsBN
set_option linter.unusedVariables false
namespace Go.Proofs.YtnnbjhpkgndclaaGreatDoor.St
open Go.RowKit
open Go.Proofs.YtnnbjhpkgndclaaGreatDoor.Rc (Ins okI)
open Go.Proofs.YtnnbjhpkgndclaaGreatDoor.Wa (laid wl layN fitsN)
open Go.Proofs.YtnnbjhpkgndclaaGreatDoor.Dk hiding wl
theorem reach_all (z : Bool) (x : ByteArray) : reach [(z,x,false)] 1 0 = [(z,x,false)] := rfl
theorem torn_out {d : Ds} {t : List Ins} {z g : Int} (h : Top 3 d t z g true) (hf : Fine d) (h1 : d.f = -1) :
    ∃ w,Top 3 (back (appP d z torn).1 1 0) t z g w ∧ Fine (back (appP d z torn).1 1 0) ∧ (back (appP d z torn).1 1 0).c = d.c := by
  have hr : readE d z = 0 := readE_of h.up h.zok
  by_cases hs : d.c < ((at2 (d.a,d.b) z).size : Int) + ((4 : Nat) : Int)
  · have e : appP d z torn = (d,10) := by
      unfold appP;rw [hr,if_neg (by simp),if_neg (by decide),h.now,show torn.size = 4 from rfl,if_pos hs]
    rw [e];exact ⟨true,h.back 1 0,hf.back 1 0,rfl⟩
  · have e : appP d z torn = ({ d with f := max d.f 0 - 1,l := [(z == 1,torn,false)] },0) := by
      unfold appP;rw [hr,if_neg (by simp),if_neg (by decide),h.now,show torn.size = 4 from rfl,if_neg hs]
      unfold doP;rw [if_neg (by omega),h.l];rfl
    obtain ⟨k1,k2,k3,k4,k5⟩ := back_is (appP d z torn).1 1 0
    rw [e] at k1 k2 k3 k4 k5 ⊢
    simp only at k1
    rw [reach_all] at k1
    change _ = done (d.a,d.b) (z == 1,torn,false) at k1
    have hd := done_here (s := (d.a,d.b)) h.zok torn
    rw [← k1] at hd
    have hsm := done_small (s := (d.a,d.b)) (z := z == 1) (x := torn) hf.a hf.b (by rw [cond_at h.zok,show torn.size = 4 from rfl];have := hf.c;omega)
    rw [← k1] at hsm
    refine ⟨false,⟨k2,k3,h.zok,h.gok,?_,(fun h => by cases h),?_⟩,⟨hsm.1,hsm.2,by rw [k4];omega,by rw [k5];exact hf.c,fun _ => k2,by rw [k2];exact few_nil _ hsm.1⟩,k5⟩
    · rw [hd.1];exact good_more (h.good rfl) (by decide) (torn_stop _)
    · rw [hd.2];exact h.old
theorem fall_out {d : Ds} {t : List Ins} {z g : Int} {w : Bool} (h : Top 3 d t z g w) (hf : Fine d) (hg : g < 1073741824) (hc : wl (rwL t 1 3) ≤ d.c) (keep torn : Int) :
    ∃ z' g' w',g' ≤ g + 1 ∧ Top 3 (back (opnP d 3).d keep torn) t z' g' w' ∧ Fine (back (opnP d 3).d keep torn) ∧ (back (opnP d 3).d keep torn).c = d.c := by
  have hfo := (hf.opn 3).1.back keep torn
  rcases open_out h (by decide) hf.f.1 hf.c.2 with ⟨_,_,_,e | e⟩ | ⟨_,_,e,e2⟩ | ⟨_,_,e,_,_,e2,e3⟩
  · omega
  · omega
  · obtain ⟨z',g',w',h1,h2⟩ := e2 keep torn
    exact ⟨z',g',w',h1,h2,hfo,e⟩
  · exact ⟨_,_,_,e2,e3.back keep torn,hfo,e⟩
theorem full_open {d : Ds} {t : List Ins} {z g : Int} {w : Bool} (h : Top 3 d t z g w) (hf : Fine d) (h1 : d.f = -1) (hg : g < 1073741824) (hc : wl (rwL t 1 3) ≤ d.c) :
    (opnP d 3).e = 0 ∧ (opnP d 3).t = t ∧ Top 3 (opnP d 3).d t (opnP d 3).z (opnP d 3).g true ∧ Fine (opnP d 3).d := by
  have hfo := (hf.opn 3).1
  rcases open_out h (by decide) hf.f.1 hf.c.2 with ⟨_,_,_,e | e⟩ | ⟨_,e,_⟩ | ⟨e0,e1,_,_,_,_,e3⟩
  · omega
  · omega
  · exact absurd h1 e
  · exact ⟨e0,e1,e3,hfo⟩
end Go.Proofs.YtnnbjhpkgndclaaGreatDoor.St
