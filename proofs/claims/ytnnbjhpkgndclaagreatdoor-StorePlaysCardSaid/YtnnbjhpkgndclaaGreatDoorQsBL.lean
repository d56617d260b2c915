/- Package disk as it landed: slices.Grow of nothing, slices.Concat of two lists of operations; do. -/
import Derived.Test.YtnnbjhpkgndclaaGreatDoorQsZZ
import Derived.Test.YtnnbjhpkgndclaaGreatDoorQsBH
import Derived.Test.YtnnbjhpkgndclaaGreatDoorQsAU
import Derived.Test.YtnnbjhpkgndclaaGreatDoorQsBK
import Derived.RegionTactic
set_option linter.unusedVariables false
namespace Go.Proofs.YtnnbjhpkgndclaaGreatDoor.Dk
open Go.RowKit
open Go.Proofs.YtnnbjhpkgndclaaGreatDoor.Rw
open Go.Proofs.YtnnbjhpkgndclaaGreatDoor.Da
open Go.Proofs.YtnnbjhpkgndclaaGreatDoor.Ro
def Post (F : Value → World → Prop) (w : World) (e : Ending) (w' : World) : Prop := ∃ v,e = .returned v ∧ Below w.heap.size w w' ∧ F v w'
def OC (n : Nat) (l : List Do) (v : Value) (w : World) : Prop := OL n l v w ∧ capOk v
abbrev OwnO (n : Nat) (Bo : Nat) (l : List Do) (v : Value) (w : World) : Prop := Own eO 82 (Bs.of n) Bo l v w
def fO : Flat Do := ⟨3,cellsO,fun _ => rfl,fun o u hu => by simp [cellsO] at hu;rcases hu with rfl | rfl | rfl <;> rfl⟩
theorem elemFO : Elem Tryz.prog 25 82 fO.k 32 := elemO
theorem zero3 (w : World) : (zeroValue 82).run Tryz.prog w = .ok (.agg #[.int .i64 0,.string ⟨#[]⟩,.bool false]) w := by kernel_rfl
theorem own_room {n : Nat} {Bo g c : Nat} {hs : List Do} {w : World} (h : Row fO 82 g c hs w) (hB : Bo ≤ g) (hc : c ≤ maxLen) : OwnO n Bo [] (.slice (some ⟨g,0,none⟩) 0 c) w := by
  have := (h.take 0).owns hB hc
  rw [List.take_zero] at this
  exact ⟨[],rfl,by simp,this⟩
set_option maxRecDepth 8000 in
set_option maxHeartbeats 1000000 in
theorem grow_any (q : Nat) (n : Nat) (hn : n ≤ 4000000) (w : World) : Calls Tryz.prog 96 #[.slice none 0 0,.int .i64 n] w (Post (OwnO q w.heap.size []) w) := by
  by_cases h0 : n = 0
  · subst h0
    go_enter Tryz.func96,Tryz.ntmps96
    go_wp2
    go_ret
    exact ⟨_,rfl,Below.refl _ _,Own.nil _ _ _⟩
  · have h1 : (0 : Int) < n := by omega
    obtain ⟨c2,w2,hrun,hr2,hb2,hc2⟩ := growz_nil (e := fO) (u := 3) (ik := .i64) elemFO Tryz.underlying3 25 zero3 (x0 := ((false,⟨#[]⟩,false) : Do)) rfl (w := w) (m := n) (by omega) (by omega) (by decide)
    have HO := lH (own_room (n := q) hr2 (Nat.le_refl _) hc2)
    have k2 : (0 : Int) ≤ c2 := by omega
    clear hr2 hc2 h0
    go_enter Tryz.func96,Tryz.ntmps96
    go_wp2
    go_ret
    exact ⟨_,rfl,hb2,HO.out⟩
set_option maxRecDepth 8000 in
set_option maxHeartbeats 2000000 in
theorem concat_any (n : Nat) (l m : List Do) (x y : Value) (p : Nat) (w : World) (hx : OL n l x w) (hy : OL n m y w) (hp : p < w.heap.size) (c0 : w.cell? ⟨p,0,none⟩ = some x) (c1 : w.cell? ⟨p,1,none⟩ = some y) (hB : n ≤ w.heap.size) (h1 : l.length ≤ 1000000) (h2 : m.length ≤ 1000000) :
    Calls Tryz.prog 68 #[.slice (some ⟨p,0,none⟩) 2 2] w (Post (OC n (l ++ m)) w) := by
  obtain ⟨a1,k1,rfl⟩ := hx.len
  obtain ⟨a2,k2,rfl⟩ := hy.len
  obtain ⟨n1,hn1⟩ : ∃ n,l.length = n := ⟨_,rfl⟩
  obtain ⟨n2,hn2⟩ : ∃ n,m.length = n := ⟨_,rfl⟩
  rw [hn1] at hx c0 h1
  rw [hn2] at hy c1 h2
  have HX := lH hx
  have HY := lH hy
  have HB := lH (show (Bs.of n).le w.heap.size from ⟨hB,fun _ h => h.elim⟩)
  have HN1 := lH hn1
  have HN2 := lH hn2
  clear hx hy hn1 hn2 hB
  go_enter Tryz.func68,Tryz.ntmps68
  go_wp2
  go_loopw [3,11] (fun s i wr => w = wr ∧ ((i = .int .i64 0 ∧ s = .int .i64 0) ∨ (i = .int .i64 1 ∧ s = .int .i64 (n1 : Nat)) ∨ (i = .int .i64 2 ∧ s = .int .i64 ((n1 + n2 : Nat) : Int)))) (fun _ i _ => 2 - (intOf i).toNat)
  case atStart => exact ⟨rfl,.inl ⟨rfl,rfl⟩⟩
  case round =>
    obtain ⟨rfl,⟨rfl,rfl⟩ | ⟨rfl,rfl⟩ | ⟨rfl,rfl⟩⟩ := hrel
    · go_wp2
      go_roundw
      case rel => exact ⟨trivial,.inr (.inl ⟨rfl,by go_num⟩)⟩
      case measure => simp [intOf]
    · go_wp2
      go_roundw
      case rel => exact ⟨trivial,.inr (.inr ⟨rfl,by push_cast;go_num⟩)⟩
      case measure => simp [intOf]
    · go_wp2_with fail
      refine (grow_any n (n1 + n2) (by omega) _).mono ?_
      rintro e w1 ⟨v1,rfl,hb1,ho1⟩
      have HO1 := lH ho1
      obtain ⟨a9,c9,rfl⟩ := (HO1.out.is (by decide) HB.out).len
      clear ho1
      go_wp2
      go_loopw [6,27] (fun t i wr => ∃ zs,OwnO n w.heap.size zs t wr ∧ Below w.heap.size w wr ∧ ((i = .int .i64 0 ∧ [] = zs) ∨ (i = .int .i64 1 ∧ l = zs) ∨ (i = .int .i64 2 ∧ l ++ m = zs))) (fun _ i _ => 2 - (intOf i).toNat)
      case atStart => exact ⟨[],HO1.out,hb1,.inl ⟨rfl,rfl⟩⟩
      case round =>
        obtain ⟨zs,ho9,hb,hcs⟩ := hrel
        obtain ⟨a8,c8,rfl⟩ := (ho9.is (by decide) HB.out).len
        obtain ⟨nz,hnz⟩ : ∃ n,n = zs.length := ⟨_,rfl⟩
        rw [← hnz] at ho9 ⊢
        have HO9 := lH ho9
        have HNz := lH hnz
        clear ho9 hnz
        have hpw : p < wr.heap.size := Nat.lt_of_lt_of_le hp hb.size
        obtain ⟨rfl,rfl⟩ | ⟨rfl,rfl⟩ | ⟨rfl,rfl⟩ := hcs
        · obtain ⟨v',w',hrun,hown',_,hbl,_⟩ := Own.append elemO 25 typesO HB.out hb.size HO9.out (HX.out.stays hb) (by simp only [List.length_nil,HN1.out];omega) (by omega)
          have HR := lH (show OwnO n w.heap.size ([] ++ l) v' w' ∧ Below w.heap.size w w' from ⟨hown',hbl _ _ (Nat.le_refl _) hb⟩)
          obtain ⟨a7,c7,rfl⟩ := (hown'.is (by decide) HB.out).len
          have d0 := (hb.cell (p := ⟨p,0,none⟩) hp).trans c0
          clear hown' hbl
          go_wp2
          go_roundw
          case rel => exact ⟨_,HR.out.1,HR.out.2,.inr (.inl ⟨rfl,rfl⟩)⟩
          case measure => simp [intOf]
        · obtain ⟨v',w',hrun,hown',_,hbl,_⟩ := Own.append elemO 25 typesO HB.out hb.size HO9.out (HY.out.stays hb) (by rw [HN1.out,HN2.out];omega) (by omega)
          have HR := lH (show OwnO n w.heap.size (l ++ m) v' w' ∧ Below w.heap.size w w' from ⟨hown',hbl _ _ (Nat.le_refl _) hb⟩)
          obtain ⟨a7,c7,rfl⟩ := (hown'.is (by decide) HB.out).len
          have d0 := (hb.cell (p := ⟨p,1,none⟩) hp).trans c1
          clear hown' hbl
          go_wp2
          go_roundw
          case rel => exact ⟨l ++ m,by rw [← List.length_append];exact HR.out.1,HR.out.2,.inr (.inr ⟨rfl,rfl⟩)⟩
          case measure => simp [intOf]
        · have HF := lH (show OC n (l ++ m) (.slice a8 nz c8) wr from ⟨HO9.out.is (by decide) HB.out,HO9.out.cap⟩)
          go_wp2
          go_ret
          exact ⟨_,rfl,hb,HF.out⟩
end Go.Proofs.YtnnbjhpkgndclaaGreatDoor.Dk
namespace Go.Proofs.YtnnbjhpkgndclaaGreatDoor.Dk
open Go.RowKit
open Go.Proofs.YtnnbjhpkgndclaaGreatDoor.Rw
open Go.Proofs.YtnnbjhpkgndclaaGreatDoor.Da
theorem Post2.intro {n : Nat} {p q : Ds × Int} {v : Value} {w w' : World} (H : Hid (p = q)) (hb : Below w.heap.size w w') (h : DV n q.1 v w') : Post2 n p w (.returned (.tuple #[v,.int .i64 q.2])) w' := by
  rw [H.out];exact ⟨v,rfl,hb,h⟩
abbrev z6 : Array Value := #[.string ⟨#[]⟩,.string ⟨#[]⟩,.slice none 0 0,.int .i64 0,.int .i64 0,.bool false]
set_option maxRecDepth 8000 in
set_option maxHeartbeats 4000000 in
theorem do_any (n : Nat) (d : Ds) (z : Bool) (x : ByteArray) (er : Bool) (v : Value) (w : World) (h : DV n d v w) (hn : n ≤ w.heap.size) (hf : -1 ≤ d.f ∧ d.f ≤ 9223372036854775807) (hl : d.l.length ≤ 100000) :
    Calls Tryz.prog 50 #[v,.agg #[.int .i64 (zi z),.string x,.bool er]] w (Post2 n (doP d (z,x,er)) w) := by
  obtain ⟨o,rfl,hO,hc⟩ := h
  obtain ⟨a,b,l,c,f,dn⟩ := d
  simp only at hf hl hO ⊢
  obtain ⟨a1,c1,rfl⟩ := hO.len
  obtain ⟨n1,hn1⟩ : ∃ q,l.length = q := ⟨_,rfl⟩
  rw [hn1] at hO hc ⊢
  obtain ⟨zz,hzz⟩ : ∃ q,zi z = q := ⟨_,rfl⟩
  have HZZ := lH hzz
  rw [hzz]
  have HH := lH (show ∀ u,Below w.heap.size w u → OL n l (.slice a1 n1 c1) u from fun u hu => hO.stays hu)
  have HC := lH hc
  have HN := lH hn1
  obtain ⟨V,hV⟩ : ∃ V,((w.alloc (.cells #[.string a,.string b,.slice a1 n1 c1,.int .i64 c,.int .i64 f,.bool dn] 27)).alloc (.cells #[.int .i64 zz,.string x,.bool er] 82)).alloc (.cells z6 27) = V := ⟨_,rfl⟩
  have bV : Below w.heap.size w V := hV ▸ below3 w _ _ _
  obtain ⟨B0,B1,B2⟩ : Bx V w.heap.size #[.string a,.string b,.slice a1 n1 c1,.int .i64 c,.int .i64 f,.bool dn] 27 ∧ Bx V (w.heap.size + 1) #[.int .i64 zz,.string x,.bool er] 82 ∧ Bx V (w.heap.size + 2) z6 27 := hV ▸ bx3 w _ _ _ _ _ _
  have HB0 := lH B0
  have HB1 := lH B1
  have HB2 := lH B2
  have dV : DV n ⟨a,b,l,c,f,dn⟩ (.agg (cD a b (.slice a1 n1 c1) c f dn)) V := DV.mk (HH.out _ bV) HC.out
  have HD := lH dV
  clear hO hc hn1 hzz dV
  by_cases h0 : f = 0
  · subst h0
    have HP : Hid (doP ⟨a,b,l,c,0,dn⟩ (z,x,er) = (⟨a,b,l,c,0,true⟩,15)) := lH (by simp [doP])
    have HQ : Hid (burnP ⟨a,b,l,c,0,dn⟩ = (⟨a,b,l,c,0,true⟩,15)) := lH (by simp [burnP])
    obtain ⟨q1l,q1r,q1p,⟨q1c0,q1c1,q1c2,q1c3,q1c4,q1c5⟩,⟨q1f0,q1f1,q1f2,q1f3,q1f4,q1f5⟩⟩ := B0.d6
    go_enter Tryz.func50,Tryz.ntmps50
    go_wp2_with fail
    refine (burn_any n _ _ V HD.out hf).mono ?_
    rintro e w1 ⟨v1,rfl,hb1,h1⟩
    rw [HQ.out] at h1
    rw [HQ.out]
    simp only at h1
    obtain ⟨o1,rfl,hO1,hc1⟩ := h1
    simp only at hO1 ⊢
    obtain ⟨a2,c2,rfl⟩ := hO1.len
    rw [HN.out] at hO1 hc1 ⊢
    clear q1l q1r q1p q1c0 q1c1 q1c2 q1c3 q1c4 q1c5 q1f0 q1f1 q1f2 q1f3 q1f4 q1f5
    replace B0 := B0.stays hb1
    replace B1 := B1.stays hb1
    replace B2 := B2.stays hb1
    have bw1 := nx bV hb1
    obtain ⟨q2l,q2r,q2p,⟨q2c0,q2c1,q2c2,q2c3,q2c4,q2c5⟩,⟨q2f0,q2f1,q2f2,q2f3,q2f4,q2f5⟩⟩ := B0.d6
    obtain ⟨X,hX⟩ : ∃ Q_ : World,w1.setRow (w.heap.size) #[.string a,.string b,.slice a2 n1 c2,.int .i64 c,.int .i64 0,.bool true] = Q_ := ⟨_,rfl⟩
    have bX : Below w.heap.size w X := hX ▸ (bw1).trans (low_setRow _ (by omega))
    replace hO1 : OL n l (.slice a2 n1 c2) X := hX ▸ hO1.keep (keeps_setRow _ B0 (by decide) (by show n ≤ _;omega))
    replace B1 : Bx X (w.heap.size + 1) #[.int .i64 zz,.string x,.bool er] 82 := hX ▸ B1.put' (by omega) _
    replace B2 : Bx X (w.heap.size + 2) #[.string ⟨#[]⟩,.string ⟨#[]⟩,.slice none 0 0,.int .i64 0,.int .i64 0,.bool false] 27 := hX ▸ B2.put' (by omega) _
    replace B0 : Bx X (w.heap.size) #[.string a,.string b,.slice a2 n1 c2,.int .i64 c,.int .i64 0,.bool true] 27 := hX ▸ B0.put _
    obtain ⟨q3l,q3r,q3p,⟨q3c0,q3c1,q3c2,q3c3,q3c4,q3c5⟩,⟨q3f0,q3f1,q3f2,q3f3,q3f4,q3f5⟩⟩ := B0.d6
    obtain ⟨q4l,q4r,q4p,⟨q4c0,q4c1,q4c2,q4c3,q4c4,q4c5⟩,⟨q4f0,q4f1,q4f2,q4f3,q4f4,q4f5⟩⟩ := B2.d6
    obtain ⟨Y,hY⟩ : ∃ Q_ : World,X.setRow (w.heap.size + 2) #[.string a,.string b,.slice a2 n1 c2,.int .i64 c,.int .i64 0,.bool true] = Q_ := ⟨_,rfl⟩
    have bY : Below w.heap.size w Y := hY ▸ (bX).trans (low_setRow _ (by omega))
    replace hO1 : OL n l (.slice a2 n1 c2) Y := hY ▸ hO1.keep (keeps_setRow _ B2 (by decide) (by show n ≤ _;omega))
    replace B0 : Bx Y (w.heap.size) #[.string a,.string b,.slice a2 n1 c2,.int .i64 c,.int .i64 0,.bool true] 27 := hY ▸ B0.put' (by omega) _
    replace B1 : Bx Y (w.heap.size + 1) #[.int .i64 zz,.string x,.bool er] 82 := hY ▸ B1.put' (by omega) _
    replace B2 : Bx Y (w.heap.size + 2) #[.string a,.string b,.slice a2 n1 c2,.int .i64 c,.int .i64 0,.bool true] 27 := hY ▸ B2.put _
    obtain ⟨q5l,q5r,q5p,⟨q5c0,q5c1,q5c2,q5c3,q5c4,q5c5⟩,⟨q5f0,q5f1,q5f2,q5f3,q5f4,q5f5⟩⟩ := B2.d6
    go_wp2
    refine bodyPost_ret (v := .tuple #[.agg (cD a b (.slice a2 n1 c2) c 0 true),.int .i64 15]) (ret_D2 Tryz.results50 _ _ rfl ?c1) rfl (Post2.intro HP bY (DV.mk hO1 hc1))
    case c1 => simp [go_sem, *]
  · have h1 : (f == 0) = false := by simpa using h0
    obtain ⟨f2,hf2⟩ : ∃ q,max f 0 - 1 = q := ⟨_,rfl⟩
    have HP : Hid (doP ⟨a,b,l,c,f,dn⟩ (z,x,er) = (⟨a,b,l ++ [(z,x,er)],c,f2,dn⟩,0)) := lH (by simp only [doP];rw [if_neg h0,hf2])
    have HQ : Hid (burnP ⟨a,b,l,c,f,dn⟩ = (⟨a,b,l,c,f2,dn⟩,0)) := lH (by simp only [burnP];rw [if_neg h0,hf2])
    clear hf2 h0
    obtain ⟨q1l,q1r,q1p,⟨q1c0,q1c1,q1c2,q1c3,q1c4,q1c5⟩,⟨q1f0,q1f1,q1f2,q1f3,q1f4,q1f5⟩⟩ := B0.d6
    go_enter Tryz.func50,Tryz.ntmps50
    go_wp2_with fail
    refine (burn_any n _ _ V HD.out hf).mono ?_
    rintro e w1 ⟨v1,rfl,hb1,h1⟩
    rw [HQ.out] at h1
    rw [HQ.out]
    simp only at h1
    obtain ⟨o1,rfl,hO1,hc1⟩ := h1
    simp only at hO1 ⊢
    obtain ⟨a2,c2,rfl⟩ := hO1.len
    rw [HN.out] at hO1 hc1 ⊢
    clear q1l q1r q1p q1c0 q1c1 q1c2 q1c3 q1c4 q1c5 q1f0 q1f1 q1f2 q1f3 q1f4 q1f5
    replace B0 := B0.stays hb1
    replace B1 := B1.stays hb1
    replace B2 := B2.stays hb1
    have bw1 := nx bV hb1
    obtain ⟨q2l,q2r,q2p,⟨q2c0,q2c1,q2c2,q2c3,q2c4,q2c5⟩,⟨q2f0,q2f1,q2f2,q2f3,q2f4,q2f5⟩⟩ := B0.d6
    obtain ⟨X,hX⟩ : ∃ Q_ : World,w1.setRow (w.heap.size) #[.string a,.string b,.slice a2 n1 c2,.int .i64 c,.int .i64 f2,.bool dn] = Q_ := ⟨_,rfl⟩
    have bX : Below w.heap.size w X := hX ▸ (bw1).trans (low_setRow _ (by omega))
    replace hO1 : OL n l (.slice a2 n1 c2) X := hX ▸ hO1.keep (keeps_setRow _ B0 (by decide) (by show n ≤ _;omega))
    replace B1 : Bx X (w.heap.size + 1) #[.int .i64 zz,.string x,.bool er] 82 := hX ▸ B1.put' (by omega) _
    replace B2 : Bx X (w.heap.size + 2) #[.string ⟨#[]⟩,.string ⟨#[]⟩,.slice none 0 0,.int .i64 0,.int .i64 0,.bool false] 27 := hX ▸ B2.put' (by omega) _
    replace B0 : Bx X (w.heap.size) #[.string a,.string b,.slice a2 n1 c2,.int .i64 c,.int .i64 f2,.bool dn] 27 := hX ▸ B0.put _
    obtain ⟨q3l,q3r,q3p,⟨q3c0,q3c1,q3c2,q3c3,q3c4,q3c5⟩,⟨q3f0,q3f1,q3f2,q3f3,q3f4,q3f5⟩⟩ := B0.d6
    obtain ⟨q4l,q4r,q4p,⟨q4c0,q4c1,q4c2⟩,⟨q4f0,q4f1,q4f2⟩⟩ := B1.d3
    have hX1 : OL n [(z,x,er)] (.slice (some ⟨X.heap.size,0,none⟩) 1 1) (X.alloc (.cells #[.int .i64 zz,.string x,.bool er] 82)) := Is.one (e := eO) (T := 82) (B := Bs.of n) (cs := [.int .i64 zz,.string x,.bool er]) ⟨by show n ≤ _;have := bX.size;omega,fun _ h => h.elim⟩ (by show _ = cellsO _;rw [← HZZ.out];rfl)
    obtain ⟨Y,hY⟩ : ∃ Q_ : World,(X.alloc (.cells #[.int .i64 zz,.string x,.bool er] 82)).alloc (.cells #[.slice a2 n1 c2,.slice (some ⟨X.heap.size,0,none⟩) 1 1] 25) = Q_ := ⟨_,rfl⟩
    have aY : Below X.heap.size X Y := hY ▸ below2 _ _ _
    replace hX1 : OL n [(z,x,er)] (.slice (some ⟨X.heap.size,0,none⟩) 1 1) Y := hY ▸ hX1.stays (below1 _ _)
    have BY : Bx Y (X.heap.size + 1) #[.slice a2 n1 c2,.slice (some ⟨X.heap.size,0,none⟩) 1 1] 25 := hY ▸ Bx.at (by simp) _ _
    replace B0 := B0.stays aY
    replace B1 := B1.stays aY
    replace B2 := B2.stays aY
    replace hO1 := hO1.stays aY
    have bY := nx bX aY
    go_wp2_with fail
    refine (concat_any n l [(z,x,er)] _ _ (X.heap.size + 1) Y hO1 hX1 BY.lt (BY.cell 0) (BY.cell 1) (by have := bY.size;omega) (by omega) (by simp)).mono ?_
    rintro e w2 ⟨v2,rfl,hb2,hO2,hc2⟩
    obtain ⟨a3,c3,rfl⟩ := hO2.len
    obtain ⟨n3,hn3⟩ : ∃ q,(l ++ [(z,x,er)]).length = q := ⟨_,rfl⟩
    rw [hn3] at hO2 hc2 ⊢
    clear hn3
    clear q2l q2r q2p q2c0 q2c1 q2c2 q2c3 q2c4 q2c5 q2f0 q2f1 q2f2 q2f3 q2f4 q2f5
    clear q3l q3r q3p q3c0 q3c1 q3c2 q3c3 q3c4 q3c5 q3f0 q3f1 q3f2 q3f3 q3f4 q3f5
    clear q4l q4r q4p q4c0 q4c1 q4c2 q4f0 q4f1 q4f2
    replace B0 := B0.stays hb2
    replace B1 := B1.stays hb2
    replace B2 := B2.stays hb2
    replace hO1 := hO1.stays hb2
    have bw2 := nx bY hb2
    obtain ⟨q5l,q5r,q5p,⟨q5c0,q5c1,q5c2,q5c3,q5c4,q5c5⟩,⟨q5f0,q5f1,q5f2,q5f3,q5f4,q5f5⟩⟩ := B0.d6
    obtain ⟨Z,hZ⟩ : ∃ Q_ : World,w2.setCell ⟨w.heap.size,2,none⟩ (.slice a3 n3 c3) = Q_ := ⟨_,rfl⟩
    have bZ : Below w.heap.size w Z := hZ ▸ (bw2).trans (low_setCell _ _ (by omega))
    replace hO2 : OL n (l ++ [(z,x,er)]) (.slice a3 n3 c3) Z := hZ ▸ hO2.keep (keeps_setCell _ _ B0 (by decide) (by show n ≤ _;omega))
    replace B1 : Bx Z (w.heap.size + 1) #[.int .i64 zz,.string x,.bool er] 82 := hZ ▸ B1.set' (by omega) _ _
    replace B2 : Bx Z (w.heap.size + 2) #[.string ⟨#[]⟩,.string ⟨#[]⟩,.slice none 0 0,.int .i64 0,.int .i64 0,.bool false] 27 := hZ ▸ B2.set' (by omega) _ _
    replace B0 : Bx Z (w.heap.size) #[.string a,.string b,.slice a3 n3 c3,.int .i64 c,.int .i64 f2,.bool dn] 27 := hZ ▸ (show Bx (w2.setCell ⟨w.heap.size,2,none⟩ (.slice a3 n3 c3)) (w.heap.size) #[.string a,.string b,.slice a3 n3 c3,.int .i64 c,.int .i64 f2,.bool dn] 27 from B0.set 2 (.slice a3 n3 c3))
    obtain ⟨q6l,q6r,q6p,⟨q6c0,q6c1,q6c2,q6c3,q6c4,q6c5⟩,⟨q6f0,q6f1,q6f2,q6f3,q6f4,q6f5⟩⟩ := B0.d6
    obtain ⟨q7l,q7r,q7p,⟨q7c0,q7c1,q7c2,q7c3,q7c4,q7c5⟩,⟨q7f0,q7f1,q7f2,q7f3,q7f4,q7f5⟩⟩ := B2.d6
    obtain ⟨U,hU⟩ : ∃ Q_ : World,Z.setRow (w.heap.size + 2) #[.string a,.string b,.slice a3 n3 c3,.int .i64 c,.int .i64 f2,.bool dn] = Q_ := ⟨_,rfl⟩
    have bU : Below w.heap.size w U := hU ▸ (bZ).trans (low_setRow _ (by omega))
    replace hO2 : OL n (l ++ [(z,x,er)]) (.slice a3 n3 c3) U := hU ▸ hO2.keep (keeps_setRow _ B2 (by decide) (by show n ≤ _;omega))
    replace B0 : Bx U (w.heap.size) #[.string a,.string b,.slice a3 n3 c3,.int .i64 c,.int .i64 f2,.bool dn] 27 := hU ▸ B0.put' (by omega) _
    replace B1 : Bx U (w.heap.size + 1) #[.int .i64 zz,.string x,.bool er] 82 := hU ▸ B1.put' (by omega) _
    replace B2 : Bx U (w.heap.size + 2) #[.string a,.string b,.slice a3 n3 c3,.int .i64 c,.int .i64 f2,.bool dn] 27 := hU ▸ B2.put _
    obtain ⟨q8l,q8r,q8p,⟨q8c0,q8c1,q8c2,q8c3,q8c4,q8c5⟩,⟨q8f0,q8f1,q8f2,q8f3,q8f4,q8f5⟩⟩ := B2.d6
    go_wp2
    refine bodyPost_ret (v := .tuple #[.agg (cD a b (.slice a3 n3 c3) c f2 dn),.int .i64 0]) (ret_D2 Tryz.results50 _ _ rfl ?c1) rfl (Post2.intro HP bU (DV.mk hO2 hc2))
    case c1 => simp [go_sem, *]
end Go.Proofs.YtnnbjhpkgndclaaGreatDoor.Dk
namespace Go.Proofs.YtnnbjhpkgndclaaGreatDoor.Dk
open Go.RowKit
open Go.Proofs.YtnnbjhpkgndclaaGreatDoor.Rw
open Go.Proofs.YtnnbjhpkgndclaaGreatDoor.Da
open Go.Proofs.YtnnbjhpkgndclaaGreatDoor.By
abbrev BB (B : Nat) (v : Value) (s : ByteArray) (w : World) : Prop := OwnB 5 B v s w
theorem infoU : (Tryz.prog.info? 5).map (fun i => (i.zero,i.size,i.bytes)) = some (some (.int .u8 0),1,1) := by kernel_rfl
theorem apps_any {B : Nat} {v : Value} {s : ByteArray} {w : World} (h : BB B v s w) (ty : TypeId) (d : ByteArray) (hl : s.size + d.size ≤ 1000000000) (hB : B ≤ w.heap.size) :
    ∃ v' w',Ro.appzRun Tryz.prog 105 9 ty v (.string d) w = .ok v' w' ∧ BB B v' (s ++ d) w' ∧ w.grownBy w' v.ownBlock ∧ (v'.ownBlock = v.ownBlock ∨ v'.ownBlock = some w.heap.size) := by
  obtain ⟨i0,hi,hz0,hz1,hz2⟩ := info_parts infoU
  exact OwnB.append (P := Tryz.prog) w _ _ _ _ i0 Tryz.underlying105 Tryz.underlying9 hi hz0 hz1 hz2 h d hl hB
theorem bx_own {B b : Nat} {v : Value} {s : ByteArray} {w w' : World} {cs : Array Value} {t : TypeId} (hb : Bx w b cs t) (ht : t ≠ 5) (h : BB B v s w) (hg : w.grownBy w' v.ownBlock) : Bx w' b cs t := by
  refine (hg.block b hb.lt fun e => ?_).trans hb
  obtain ⟨_,_,cur,fz,h2⟩ := h.lt b e.symm
  have h3 : w.heap[b]? = some (.cells cs t (0,0)) := hb
  rw [h3] at h2
  simp at h2
  exact ht h2.2.1
theorem ol_own {n B : Nat} {l : List Do} {o v : Value} {s : ByteArray} {w w' : World} (ho : OL n l o w) (hn : n ≤ B) (h : BB B v s w) (hg : w.grownBy w' v.ownBlock) : OL n l o w' := by
  refine ho.keep ⟨hg.size,fun b ob hb hx => (hg.block b (Array.getElem?_eq_some_iff.1 hb).1 fun e => ?_).trans hb⟩
  obtain ⟨h1,_,cur,fz,h2⟩ := h.lt b e.symm
  rw [hb] at h2
  rcases hx with hx | ⟨_,t,_,rfl,ht,_⟩
  · have hx : b < n := hx
    omega
  · simp at h2 ht
    rw [ht] at h2
    exact absurd h2.2.1 (by decide)
def Hel (B b : Nat) (s : ByteArray × ByteArray) (w : World) : Prop :=
  ∃ va vb,Bx w b #[va,vb] 114 ∧ BB B va s.1 w ∧ BB B vb s.2 w ∧ ∀ g,va.ownBlock = some g → vb.ownBlock ≠ some g
theorem Hel.stays {B b : Nat} {s : ByteArray × ByteArray} {w w' : World} (h : Hel B b s w) (k : Below w.heap.size w w') : Hel B b s w' := by
  obtain ⟨va,vb,h1,h2,h3,h4⟩ := h
  exact ⟨va,vb,h1.stays k,h2.stays k,h3.stays k,h4⟩
@[go_sem] theorem index0 (x y : Value) (w : World) : (Instr.index 24 (.agg #[x,y]) (.int .i64 0)).run Tryz.prog w = .ok x w := by kernel_rfl
@[go_sem] theorem index1 (x y : Value) (w : World) : (Instr.index 24 (.agg #[x,y]) (.int .i64 1)).run Tryz.prog w = .ok y w := by kernel_rfl
abbrev zz2 : Array Value := #[.string ⟨#[]⟩,.string ⟨#[]⟩]
def sel (a b : ByteArray) (i : Nat) : ByteArray × ByteArray := (if 0 < i then a else nul,if 1 < i then b else nul)
structure Aft (n : Nat) (l : List Do) (o : Value) (w0 : World) (s : ByteArray × ByteArray) (wr : World) : Prop where
  r : Bx wr (w0.heap.size + 1) zz2 24
  h : Hel w0.heap.size (w0.heap.size + 2) s wr
  b : Below w0.heap.size w0 wr
  o : OL n l o wr
theorem Aft.stays {n : Nat} {l : List Do} {o : Value} {w0 : World} {s : ByteArray × ByteArray} {w w' : World} (h : Aft n l o w0 s w) (k : Below w.heap.size w w') : Aft n l o w0 s w' :=
  ⟨h.r.stays k,h.h.stays k,nx h.b k,h.o.stays k⟩
theorem Aft.set0 {n : Nat} {l : List Do} {o : Value} {w0 : World} {s : ByteArray × ByteArray} {w w1 : World} {va vb v' : Value} {x : ByteArray} (hn : n ≤ w0.heap.size) (h : Aft n l o w0 s w) (hx : Bx w (w0.heap.size + 2) #[va,vb] 114)
    (r1 : Bx w1 (w0.heap.size + 1) zz2 24) (hx1 : Bx w1 (w0.heap.size + 2) #[va,vb] 114) (b1 : Below w0.heap.size w0 w1) (o1 : OL n l o w1) (hv : BB w0.heap.size v' x w1) (hb : BB w0.heap.size vb s.2 w1) (hne : ∀ g,v'.ownBlock = some g → vb.ownBlock ≠ some g) :
    Aft n l o w0 (x,s.2) (w1.setCell ⟨w0.heap.size + 2,0,none⟩ v') := by
  have hk : ∀ {v : Value} {y : ByteArray},BB w0.heap.size v y w1 → BB w0.heap.size v y (w1.setCell ⟨w0.heap.size + 2,0,none⟩ v') := fun {v y} k => k.same fun g hg => Below.heap_setCell w1 _ _ g (by
    rintro rfl
    obtain ⟨_,_,cur,fz,h2⟩ := k.lt _ hg
    have h3 : w1.heap[w0.heap.size + 2]? = _ := hx1
    simp only at h2
    rw [h3] at h2;simp at h2)
  exact ⟨r1.set' (by omega) _ _,⟨v',vb,(show Bx _ _ #[v',vb] _ from hx1.set 0 v'),hk hv,hk hb,hne⟩,b1.trans (low_setCell _ _ (by omega)),o1.keep (keeps_setCell _ _ hx1 (by decide) (by show n ≤ _;omega))⟩
theorem Aft.set1 {n : Nat} {l : List Do} {o : Value} {w0 : World} {s : ByteArray × ByteArray} {w1 : World} {va vb v' : Value} {x : ByteArray} (hn : n ≤ w0.heap.size)
    (r1 : Bx w1 (w0.heap.size + 1) zz2 24) (hx1 : Bx w1 (w0.heap.size + 2) #[va,vb] 114) (b1 : Below w0.heap.size w0 w1) (o1 : OL n l o w1) (hv : BB w0.heap.size v' x w1) (ha : BB w0.heap.size va s.1 w1) (hne : ∀ g,va.ownBlock = some g → v'.ownBlock ≠ some g) :
    Aft n l o w0 (s.1,x) (w1.setCell ⟨w0.heap.size + 2,1,none⟩ v') := by
  have hk : ∀ {v : Value} {y : ByteArray},BB w0.heap.size v y w1 → BB w0.heap.size v y (w1.setCell ⟨w0.heap.size + 2,1,none⟩ v') := fun {v y} k => k.same fun g hg => Below.heap_setCell w1 _ _ g (by
    rintro rfl
    obtain ⟨_,_,cur,fz,h2⟩ := k.lt _ hg
    have h3 : w1.heap[w0.heap.size + 2]? = _ := hx1
    simp only at h2
    rw [h3] at h2;simp at h2)
  exact ⟨r1.set' (by omega) _ _,⟨va,v',(show Bx _ _ #[va,v'] _ from hx1.set 1 v'),hk ha,hk hv,hne⟩,b1.trans (low_setCell _ _ (by omega)),o1.keep (keeps_setCell _ _ hx1 (by decide) (by show n ≤ _;omega))⟩
theorem Hel.open {B b : Nat} {s : ByteArray × ByteArray} {w : World} (h : Hel B b s w) : ∃ a1 c1 a2 c2,Bx w b #[.slice a1 s.1.size c1,.slice a2 s.2.size c2] 114 ∧ BB B (.slice a1 s.1.size c1) s.1 w ∧ BB B (.slice a2 s.2.size c2) s.2 w ∧ ∀ g,(Value.slice a1 s.1.size c1).ownBlock = some g → (Value.slice a2 s.2.size c2).ownBlock ≠ some g := by
  obtain ⟨va,vb,h1,h2,h3,h4⟩ := h
  obtain ⟨a1,c1,rfl⟩ := h2.slice
  obtain ⟨a2,c2,rfl⟩ := h3.slice
  exact ⟨a1,c1,a2,c2,h1,h2,h3,h4⟩
theorem take_snoc' {l : List Do} {s : ByteArray × ByteArray} {k : Nat} (h : k < l.length) : fin s (l.take (k + 1)) = done (fin s (l.take k)) l[k] := by
  unfold fin;rw [Da.take_snoc h,List.foldl_append];rfl
theorem fin_take_le (l : List Do) (a b : ByteArray) (k : Nat) : (fin (a,b) (l.take k)).1.size + (fin (a,b) (l.take k)).2.size ≤ a.size + b.size + wl l := by
  have h1 : (fin (a,b) (l.take k)).1.size + (fin (a,b) (l.take k)).2.size ≤ a.size + b.size + wl (l.take k) := fin_wt (l.take k) (a,b)
  have h2 := wl_take l k
  omega
theorem wl_mem {l : List Do} {k : Nat} (h : k < l.length) : l[k].2.1.size ≤ wl l := by
  have h1 : wl l = wl (l.take k) + wl (l.drop k) := by rw [← wl_append,List.take_append_drop]
  have h2 : l.drop k = l[k] :: l.drop (k + 1) := (List.getElem_cons_drop h).symm
  have h3 : ∀ (x : Do) (m : List Do),wl (x :: m) = x.2.1.size + wl m := fun x m => by simp [wl]
  rw [h2,h3 l[k]] at h1;omega
def sel3 (a b : ByteArray) (i : Nat) : ByteArray × ByteArray := match i with | 0 => (nul,nul) | 1 => (a,nul) | _ => (a,b)
set_option maxRecDepth 8000 in
set_option maxHeartbeats 8000000 in
theorem after_any (n : Nat) (a b : ByteArray) (l : List Do) (o : Value) (w : World) (hO : OL n l o w) (hn : n ≤ w.heap.size) (hw : a.size + b.size + wl l ≤ 1000000) (hl : l.length ≤ 1000000) :
    Calls Tryz.prog 39 #[.agg #[.string a,.string b],o] w fun e w' => e = .returned (.agg #[.string (fin (a,b) l).1,.string (fin (a,b) l).2]) ∧ Below w.heap.size w w' := by
  obtain ⟨a1,c1,rfl⟩ := hO.len
  obtain ⟨n1,hn1⟩ : ∃ q,l.length = q := ⟨_,rfl⟩
  rw [hn1] at hO ⊢
  have HN := lH hn1
  obtain ⟨V,hV⟩ : ∃ Q_,((w.alloc (.cells #[.string a,.string b] 24)).alloc (.cells zz2 24)).alloc (.cells #[.slice none 0 0,.slice none 0 0] 114) = Q_ := ⟨_,rfl⟩
  have bV : Below w.heap.size w V := hV ▸ below3 w _ _ _
  obtain ⟨B0,B1,B2⟩ : Bx V w.heap.size #[.string a,.string b] 24 ∧ Bx V (w.heap.size + 1) zz2 24 ∧ Bx V (w.heap.size + 2) #[.slice none 0 0,.slice none 0 0] 114 := hV ▸ bx3 w _ _ _ _ _ _
  have HA : Hid (Aft n l (.slice a1 n1 c1) w (sel3 a b 0) V) := lH ⟨B1,⟨_,_,B2,OwnB.nil _ _ _,OwnB.nil _ _ _,fun g hg => by simp [Value.ownBlock] at hg⟩,bV,hO.stays bV⟩
  obtain ⟨_,r0,_⟩ := B0.d2
  clear hn1 B0 B1 B2 hO bV
  go_enter Tryz.func39,Tryz.ntmps39
  go_wp2
  go_loopw [11] (fun i wr => ∃ k : Nat,k ≤ 2 ∧ i = .int .i64 k ∧ Aft n l (.slice a1 n1 c1) w (sel3 a b k) wr) (fun i _ => 2 - (intOf i).toNat)
  case atStart => exact ⟨0,by omega,rfl,HA.out⟩
  case round =>
    obtain ⟨k,hk,rfl,hA⟩ := hrel
    obtain rfl | rfl | rfl : k = 0 ∨ k = 1 ∨ k = 2 := by omega
    · obtain ⟨va,vb,hx,ha,hb,hne⟩ := hA.h
      obtain ⟨v',w1,hcv,hv,hb1,how⟩ := OwnB.made (P := Tryz.prog) wr 9 105 5 a Tryz.underlying9 Tryz.underlying105 Tryz.underlying5 (by omega) (B := w.heap.size) hA.b.size
      have hA1 := hA.stays hb1
      obtain ⟨d1,e1,rfl⟩ := hv.slice
      have hX := Aft.set0 (s := sel3 a b 0) hn hA1 (hx.stays hb1) hA1.r (hx.stays hb1) hA1.b hA1.o hv (hb.stays hb1) (fun g hg h2 => by
        have h3 := (hb.lt g h2).2.1
        rw [how] at hg
        have := Option.some.inj hg
        omega)
      obtain ⟨_,_,_,_,f0,_⟩ := (hx.stays hb1).d2
      obtain ⟨_,_,_,⟨g0,_⟩,_⟩ := (hx.stays hb1).d2
      have HX := lH hX
      clear hA hx ha hb hne hv hb1 how hA1 hX
      go_wp2
      go_roundw
      case rel => exact ⟨1,by omega,by go_num,HX.out⟩
      case measure => simp [intOf]
    · obtain ⟨va,vb,hx,ha,hb,hne⟩ := hA.h
      obtain ⟨v',w1,hcv,hv,hb1,how⟩ := OwnB.made (P := Tryz.prog) wr 9 105 5 b Tryz.underlying9 Tryz.underlying105 Tryz.underlying5 (by omega) (B := w.heap.size) hA.b.size
      have hA1 := hA.stays hb1
      obtain ⟨d1,e1,rfl⟩ := hv.slice
      have hX := Aft.set1 (s := sel3 a b 1) hn hA1.r (hx.stays hb1) hA1.b hA1.o hv (ha.stays hb1) (fun g hg h2 => by
        have h3 := (ha.lt g hg).2.1
        rw [how] at h2
        have := Option.some.inj h2
        omega)
      obtain ⟨_,_,_,_,_,f0⟩ := (hx.stays hb1).d2
      obtain ⟨_,_,_,⟨_,g0⟩,_⟩ := (hx.stays hb1).d2
      have HX := lH hX
      clear hA hx ha hb hne hv hb1 how hA1 hX
      go_wp2
      go_roundw
      case rel => exact ⟨2,by omega,by go_num,HX.out⟩
      case measure => simp [intOf]
    · have HA2 : Hid (Aft n l (.slice a1 n1 c1) w (fin (a,b) (l.take 0)) wr) := lH (by rw [List.take_zero];exact hA)
      clear hA
      go_wp2
      go_loopw [22] (fun i wr => ∃ k : Nat,k ≤ n1 ∧ i = .int .i64 k ∧ Aft n l (.slice a1 n1 c1) w (fin (a,b) (l.take k)) wr) (fun i _ => n1 - (intOf i).toNat)
      case atStart => exact ⟨0,by omega,rfl,HA2.out⟩
      case round =>
        obtain ⟨k,hk,rfl,hA⟩ := hrel
        have hll : l.length = n1 := HN.out
        have hll : l.length = n1 := HN.out
        have hll : l.length = n1 := HN.out
        have hll : l.length = n1 := HN.out
        have hll : l.length = n1 := HN.out
        by_cases hlt : k < n1
        · have hk3 : k < l.length := by omega
          have hk1 : (k : Int) < n1 := by omega
          have hsn : fin (a,b) (l.take (k + 1)) = done (fin (a,b) (l.take k)) l[k] := take_snoc' hk3
          have hsz := fin_take_le l a b k
          have hxs := wl_mem hk3
          have hxs2 := fin_take_le l a b (k + 1)
          rcases hA.o.cases with ⟨e,_⟩ | ⟨_,bb,off,cc,e,hat⟩
          · rw [e] at hk3;cases hk3
          simp only [Value.slice.injEq] at e
          obtain ⟨rfl,-,rfl⟩ := e
          obtain ⟨y0,y1,y2⟩ := at3 hat k hk3
          obtain ⟨S,hS⟩ : ∃ q,fin (a,b) (l.take k) = q := ⟨_,rfl⟩
          obtain ⟨⟨z,x,er⟩,hz⟩ : ∃ q,l[k] = q := ⟨_,rfl⟩
          rw [hS] at hA hsn hsz
          rw [hz] at hsn y0 y1 y2 hxs
          simp only at y0 y1 y2 hxs
          obtain ⟨s1,s2⟩ := S
          simp only at hsz
          have HSN := lH hsn
          clear hS hz hat hsn hxs2
          have hz0 : zi false = 0 := rfl
          have hz1 : zi true = 1 := rfl
          cases z <;> cases er
          · rw [hz0] at y0
            clear hz0 hz1
            obtain ⟨W,hW⟩ : ∃ Q_,wr.alloc (.cells #[.int .i64 0,.string x,.bool false] 82) = Q_ := ⟨_,rfl⟩
            have aW : Below wr.heap.size wr W := hW ▸ below1 _ _
            have BW : Bx W wr.heap.size #[.int .i64 0,.string x,.bool false] 82 := hW ▸ Bx.new _ _ _
            have hAW := hA.stays aW
            obtain ⟨d1,e1,d2,e2,hx,ha,hb,hne⟩ := hAW.h.open
            simp only at hx ha hb hne
            obtain ⟨v',w2,hrun,hv,hg,how⟩ := apps_any (w := W.drew) (ha.same fun _ _ => rfl) 105 x (by omega) (by show w.heap.size ≤ W.heap.size;exact hAW.b.size)
            have r2 := bx_own (w := W.drew) hAW.r (by decide) (ha.same fun _ _ => rfl) hg
            have x2 := bx_own (w := W.drew) hx (by decide) (ha.same fun _ _ => rfl) hg
            have p2 := bx_own (w := W.drew) BW (by decide) (ha.same fun _ _ => rfl) hg
            have o2 := ol_own (w := W.drew) (hAW.o.stays ((Below.refl _ _).drew)) hn (ha.same fun _ _ => rfl) hg
            have b2 : Below w.heap.size w w2 := hAW.b.drew.grown hg (by show w.heap.size ≤ W.heap.size;exact hAW.b.size) (fun k_ hk_ => (ha.lt k_ hk_).1)
            have hoth : BB w.heap.size (.slice d2 s2.size e2) s2 w2 := hb.same fun g hg2 => hg.block g (hb.lt g hg2).2.1 fun e => hne g e.symm hg2
            have hX := Aft.set0 (s := (s1,s2)) hn hAW hx r2 x2 b2 o2 hv hoth (fun g h2 hg2 => by
              rcases how with e | e
              · rw [e] at h2;exact hne g h2 hg2
              · rw [e] at h2;have h3 := (hb.lt g hg2).2.1;have h4 := Option.some.inj h2;have h5 : W.drew.heap.size = W.heap.size := rfl;omega)
            obtain ⟨d3,e3,hv'⟩ := hv.slice
            obtain ⟨m3,hm3⟩ : ∃ q,(s1 ++ x).size = q := ⟨_,rfl⟩
            rw [hm3] at hv'
            subst hv'
            have HX := lH hX
            obtain ⟨ql,qr,qp,⟨qc0,qc1⟩,qf0,qf1⟩ := hx.d2
            obtain ⟨pl,pr,pp,⟨pc0,pc1,pc2⟩,_⟩ := BW.d3
            obtain ⟨_,_,_,⟨qd0,qd1⟩,qg0,qg1⟩ := x2.d2
            obtain ⟨_,_,_,⟨pd0,pd1,pd2⟩,_⟩ := p2.d3
            clear hA hAW hx ha hb hne hX aW BW hv hg how r2 x2 p2 o2 b2 hoth hm3
            clear hsz hxs hll hk3
            go_wp2_with fail
            refine (isZone_is (lH (show zoneB 0 = true from rfl)) _).mono ?_
            rintro e w1 ⟨rfl,rfl⟩
            go_wp2
            go_region
            clear hrun
            go_wp2
            go_roundw
            case rel => (repeat apply Exists.intro);exact ⟨⟨k + 1,by omega,by go_num,by rw [HSN.out];exact HX.out⟩,rfl⟩
            case measure => simp [intOf];omega
          · rw [hz0] at y0
            clear hz0 hz1
            obtain ⟨W,hW⟩ : ∃ Q_,wr.alloc (.cells #[.int .i64 0,.string x,.bool true] 82) = Q_ := ⟨_,rfl⟩
            have aW : Below wr.heap.size wr W := hW ▸ below1 _ _
            have BW : Bx W wr.heap.size #[.int .i64 0,.string x,.bool true] 82 := hW ▸ Bx.new _ _ _
            have hAW := hA.stays aW
            obtain ⟨d1,e1,d2,e2,hx,ha,hb,hne⟩ := hAW.h.open
            simp only at hx ha hb hne
            have hX := Aft.set0 (s := (s1,s2)) hn hAW hx hAW.r hx hAW.b hAW.o (OwnB.nil 5 w.heap.size W) hb (fun g hg h2 => by simp [Value.ownBlock] at hg)
            have HX := lH hX
            obtain ⟨ql,qr,qp,⟨qc0,qc1⟩,qf0,qf1⟩ := hx.d2
            obtain ⟨pl,pr,pp,⟨pc0,pc1,pc2⟩,_⟩ := BW.d3
            clear hA hAW hx ha hb hne hX aW BW
            clear hsz hxs hll hk3
            go_wp2_with fail
            refine (isZone_is (lH (show zoneB 0 = true from rfl)) _).mono ?_
            rintro e w1 ⟨rfl,rfl⟩
            go_wp2
            go_roundw
            case rel => (repeat apply Exists.intro);exact ⟨⟨k + 1,by omega,by go_num,by rw [HSN.out];exact HX.out⟩,rfl⟩
            case measure => simp [intOf];omega
          · rw [hz1] at y0
            clear hz0 hz1
            obtain ⟨W,hW⟩ : ∃ Q_,wr.alloc (.cells #[.int .i64 1,.string x,.bool false] 82) = Q_ := ⟨_,rfl⟩
            have aW : Below wr.heap.size wr W := hW ▸ below1 _ _
            have BW : Bx W wr.heap.size #[.int .i64 1,.string x,.bool false] 82 := hW ▸ Bx.new _ _ _
            have hAW := hA.stays aW
            obtain ⟨d1,e1,d2,e2,hx,ha,hb,hne⟩ := hAW.h.open
            simp only at hx ha hb hne
            obtain ⟨v',w2,hrun,hv,hg,how⟩ := apps_any (w := W.drew) (hb.same fun _ _ => rfl) 105 x (by omega) (by show w.heap.size ≤ W.heap.size;exact hAW.b.size)
            have r2 := bx_own (w := W.drew) hAW.r (by decide) (hb.same fun _ _ => rfl) hg
            have x2 := bx_own (w := W.drew) hx (by decide) (hb.same fun _ _ => rfl) hg
            have p2 := bx_own (w := W.drew) BW (by decide) (hb.same fun _ _ => rfl) hg
            have o2 := ol_own (w := W.drew) (hAW.o.stays ((Below.refl _ _).drew)) hn (hb.same fun _ _ => rfl) hg
            have b2 : Below w.heap.size w w2 := hAW.b.drew.grown hg (by show w.heap.size ≤ W.heap.size;exact hAW.b.size) (fun k_ hk_ => (hb.lt k_ hk_).1)
            have hoth : BB w.heap.size (.slice d1 s1.size e1) s1 w2 := ha.same fun g hg2 => hg.block g (ha.lt g hg2).2.1 fun e => hne g hg2 e.symm
            have hX := Aft.set1 (s := (s1,s2)) hn r2 x2 b2 o2 hv hoth (fun g hg2 h2 => by
              rcases how with e | e
              · rw [e] at h2;exact hne g hg2 h2
              · rw [e] at h2;have h3 := (ha.lt g hg2).2.1;have h4 := Option.some.inj h2;have h5 : W.drew.heap.size = W.heap.size := rfl;omega)
            obtain ⟨d3,e3,hv'⟩ := hv.slice
            obtain ⟨m3,hm3⟩ : ∃ q,(s2 ++ x).size = q := ⟨_,rfl⟩
            rw [hm3] at hv'
            subst hv'
            have HX := lH hX
            obtain ⟨ql,qr,qp,⟨qc0,qc1⟩,qf0,qf1⟩ := hx.d2
            obtain ⟨pl,pr,pp,⟨pc0,pc1,pc2⟩,_⟩ := BW.d3
            obtain ⟨_,_,_,⟨qd0,qd1⟩,qg0,qg1⟩ := x2.d2
            obtain ⟨_,_,_,⟨pd0,pd1,pd2⟩,_⟩ := p2.d3
            clear hA hAW hx ha hb hne hX aW BW hv hg how r2 x2 p2 o2 b2 hoth hm3
            clear hsz hxs hll hk3
            go_wp2_with fail
            refine (isZone_is (lH (show zoneB 1 = true from rfl)) _).mono ?_
            rintro e w1 ⟨rfl,rfl⟩
            go_wp2
            go_region
            clear hrun
            go_wp2
            go_roundw
            case rel => (repeat apply Exists.intro);exact ⟨⟨k + 1,by omega,by go_num,by rw [HSN.out];exact HX.out⟩,rfl⟩
            case measure => simp [intOf];omega
          · rw [hz1] at y0
            clear hz0 hz1
            obtain ⟨W,hW⟩ : ∃ Q_,wr.alloc (.cells #[.int .i64 1,.string x,.bool true] 82) = Q_ := ⟨_,rfl⟩
            have aW : Below wr.heap.size wr W := hW ▸ below1 _ _
            have BW : Bx W wr.heap.size #[.int .i64 1,.string x,.bool true] 82 := hW ▸ Bx.new _ _ _
            have hAW := hA.stays aW
            obtain ⟨d1,e1,d2,e2,hx,ha,hb,hne⟩ := hAW.h.open
            simp only at hx ha hb hne
            have hX := Aft.set1 (s := (s1,s2)) hn hAW.r hx hAW.b hAW.o (OwnB.nil 5 w.heap.size W) ha (fun g hg h2 => by simp [Value.ownBlock] at h2)
            have HX := lH hX
            obtain ⟨ql,qr,qp,⟨qc0,qc1⟩,qf0,qf1⟩ := hx.d2
            obtain ⟨pl,pr,pp,⟨pc0,pc1,pc2⟩,_⟩ := BW.d3
            clear hA hAW hx ha hb hne hX aW BW
            clear hsz hxs hll hk3
            go_wp2_with fail
            refine (isZone_is (lH (show zoneB 1 = true from rfl)) _).mono ?_
            rintro e w1 ⟨rfl,rfl⟩
            go_wp2
            go_roundw
            case rel => (repeat apply Exists.intro);exact ⟨⟨k + 1,by omega,by go_num,by rw [HSN.out];exact HX.out⟩,rfl⟩
            case measure => simp [intOf];omega
        · obtain rfl : k = n1 := by omega
          have HF : Hid (fin (a,b) (l.take k) = fin (a,b) l) := lH (by rw [← hll,List.take_length])
          obtain ⟨S,hS⟩ : ∃ q,fin (a,b) (l.take k) = q := ⟨_,rfl⟩
          rw [hS] at hA
          have HS := lH hS
          obtain ⟨s1,s2⟩ := S
          obtain ⟨d1,e1,d2,e2,hx,ha,hb,hne⟩ := hA.h.open
          simp only at hx ha hb hne
          have q1 := OwnB.told (P := Tryz.prog) wr 105 9 5 Tryz.underlying105 Tryz.underlying5 Tryz.underlying9 ha
          have q2 := OwnB.told (P := Tryz.prog) wr 105 9 5 Tryz.underlying105 Tryz.underlying5 Tryz.underlying9 hb
          obtain ⟨ql,qr,qp,⟨qc0,qc1⟩,_⟩ := hx.d2
          obtain ⟨pl,pr,pp,_⟩ := hA.r.d2
          obtain ⟨X,hX⟩ : ∃ Q_,wr.setRow (w.heap.size + 1) #[.string s1,.string s2] = Q_ := ⟨_,rfl⟩
          have BX : Bx X (w.heap.size + 1) #[.string s1,.string s2] 24 := hX ▸ hA.r.put _
          have bX : Below w.heap.size w X := hX ▸ hA.b.trans (low_setRow _ (by omega))
          obtain ⟨_,r1,_⟩ := BX.d2
          clear hA hx ha hb hne hS BX hll
          go_wp2
          refine bodyPost_ret (v := .agg #[.string s1,.string s2]) (ret_Z1 Tryz.results39 _ _ rfl ?c1) rfl ⟨by rw [← HF.out,HS.out],bX⟩
          case c1 => simp [go_sem, *]
end Go.Proofs.YtnnbjhpkgndclaaGreatDoor.Dk
namespace Go.Proofs.YtnnbjhpkgndclaaGreatDoor.Dk
open Go.RowKit
open Go.Proofs.YtnnbjhpkgndclaaGreatDoor.Rw
open Go.Proofs.YtnnbjhpkgndclaaGreatDoor.Da
def PostS (x : ByteArray) (k : Int) (w : World) (e : Ending) (w' : World) : Prop := e = .returned (.tuple #[.string x,.int .i64 k]) ∧ Below w.heap.size w w'
theorem readS_no {d : Ds} {z : Int} (h : readE d z ≠ 0) : readS d z = ⟨#[]⟩ := by unfold readS;rw [if_neg h];rfl
theorem readE_ok {d : Ds} {z : Int} (h : readE d z = 0) : d.n = false ∧ (z = 0 ∨ z = 1) := by
  unfold readE at h
  split at h
  · cases h
  · rename_i h1
    split at h
    · rename_i h2;exact ⟨by simpa using h1,by simpa [zoneB] using h2⟩
    · cases h
set_option maxHeartbeats 4000000 in
theorem read_any (n : Nat) (d : Ds) (v : Value) (z : Int) (w : World) (h : DV n d v w) (hn : n ≤ w.heap.size) (hw : d.wt ≤ 1000000) (hl : d.l.length ≤ 1000000) :
    Calls Tryz.prog 42 #[v,.int .i64 z] w (PostS (readS d z) (readE d z) w) := by
  obtain ⟨o,rfl,hO,hc⟩ := h
  obtain ⟨a,b,l,c,f,dn⟩ := d
  simp only at hO hw hl ⊢
  obtain ⟨a1,c1,rfl⟩ := hO.len
  obtain ⟨n1,hn1⟩ : ∃ q,l.length = q := ⟨_,rfl⟩
  rw [hn1] at hO hc ⊢
  have HN := lH hn1
  clear hn1
  obtain ⟨e0,he0⟩ : ∃ q,readE ⟨a,b,l,c,f,dn⟩ z = q := ⟨_,rfl⟩
  have HE := lH he0
  have HV := lH (show Bx (w.alloc (.cells #[.string a,.string b,.slice a1 n1 c1,.int .i64 c,.int .i64 f,.bool dn] 27)) w.heap.size #[.string a,.string b,.slice a1 n1 c1,.int .i64 c,.int .i64 f,.bool dn] 27 from Bx.new _ _ _)
  by_cases h0 : e0 = 0
  · subst h0
    obtain ⟨hdn,hz⟩ := readE_ok he0
    simp only at hdn
    subst hdn
    have hS : readS ⟨a,b,l,c,f,false⟩ z = at2 (fin (a,b) l) z := by unfold readS;rw [if_pos he0];rfl
    obtain ⟨⟨s1,s2⟩,hs⟩ : ∃ q,fin (a,b) l = q := ⟨_,rfl⟩
    rw [hs] at hS
    have HS := lH hS
    have HF := lH hs
    have hw2 : a.size + b.size + wl l ≤ 1000000 := hw
    clear hS hs he0
    rcases hz with rfl | rfl
    all_goals
      go_enter Tryz.func42,Tryz.ntmps42
      go_wp2_with fail
      refine (check_is (d := ⟨a,b,l,c,f,false⟩) HE _ _).mono ?_
      rintro e w1 ⟨rfl,hb1⟩
      have hb2 := nx (below1 _ _) hb1
      have B1 := HV.out.stays hb1
      have hO1 := hO.stays hb2
      obtain ⟨q1,q2,q3,⟨q4,q5,q6,q7,q8,q9⟩,_⟩ := B1.d6
      clear B1
      go_wp2_with fail
      refine (after_any n a b l _ w1 hO1 (by have := hb2.size;omega) hw2 hl).mono ?_
      rintro e w2 ⟨rfl,hb3⟩
      rw [HF.out]
      go_wp2
      go_ret2
      exact ⟨by rw [HS.out,HE.out];rfl,nx hb2 hb3⟩
  · have hne : (e0 != 0) = true := by simpa using h0
    have HS := lH (readS_no (d := ⟨a,b,l,c,f,dn⟩) (z := z) (by rw [he0];exact h0))
    clear he0 h0
    go_enter Tryz.func42,Tryz.ntmps42
    go_wp2_with fail
    refine (check_is (d := ⟨a,b,l,c,f,dn⟩) HE _ _).mono ?_
    rintro e w1 ⟨rfl,hb1⟩
    have hb2 := nx (below1 _ _) hb1
    go_wp2
    go_ret2
    exact ⟨by rw [HS.out,HE.out];rfl,hb2⟩
theorem read_is {d : Ds} {z k : Int} {x : ByteArray} (HS : Hid (readS d z = x)) (HE : Hid (readE d z = k)) {n : Nat} {v : Value} {w : World} (h : DV n d v w) (hn : n ≤ w.heap.size) (hw : d.wt ≤ 1000000) (hl : d.l.length ≤ 1000000) :
    Calls Tryz.prog 42 #[v,.int .i64 z] w (PostS x k w) := by
  rw [← HS.out,← HE.out];exact read_any n d v z w h hn hw hl
theorem do_is {n : Nat} {d : Ds} {z : Bool} {k : Int} {x : ByteArray} {er : Bool} {p : Ds × Int} (H : Hid (doP d (z,x,er) = p)) (hz : zi z = k) {v : Value} {w : World} (h : DV n d v w) (hn : n ≤ w.heap.size) (hf : -1 ≤ d.f ∧ d.f ≤ 9223372036854775807) (hl : d.l.length ≤ 100000) :
    Calls Tryz.prog 50 #[v,.agg #[.int .i64 k,.string x,.bool er]] w (Post2 n p w) := by
  rw [← H.out,← hz];exact do_any n d z x er v w h hn hf hl
theorem toList_some {x : ByteArray} (h : ¬ x.size = 0) : x.toList.isEmpty = false := by
  rw [List.isEmpty_eq_false_iff,ByteArray.toList_eq]
  intro e
  exact h (by have := congrArg List.length e;simpa using this)
theorem size_nul {x : ByteArray} (h : x.size = 0) : x = ⟨#[]⟩ := by
  obtain ⟨a⟩ := x
  have : a = #[] := Array.eq_empty_of_size_eq_zero h
  rw [this]
set_option maxRecDepth 8000 in
set_option maxHeartbeats 4000000 in
theorem append_any (n : Nat) (d : Ds) (v : Value) (z : Int) (x : ByteArray) (w : World) (h : DV n d v w) (hn : n ≤ w.heap.size) (hk : Ok 1000000 1000 d) (hx : x.size ≤ 1000000) :
    Calls Tryz.prog 27 #[v,.int .i64 z,.string x] w (Post2 n (appP d z x) w) := by
  obtain ⟨o,rfl,hO,hc⟩ := h
  obtain ⟨a,b,l,c,f,dn⟩ := d
  simp only at hO  ⊢
  obtain ⟨a1,c1,rfl⟩ := hO.len
  obtain ⟨n1,hn1⟩ : ∃ q,l.length = q := ⟨_,rfl⟩
  rw [hn1] at hO hc ⊢
  have HN := lH hn1
  obtain ⟨V,hV⟩ : ∃ Q_ : World,(w.alloc (.cells #[.string a,.string b,.slice a1 n1 c1,.int .i64 c,.int .i64 f,.bool dn] 27)).alloc (.cells #[.string ⟨#[]⟩,.string ⟨#[]⟩,.slice none 0 0,.int .i64 0,.int .i64 0,.bool false] 27) = Q_ := ⟨_,rfl⟩
  have bV : Below w.heap.size w V := hV ▸ below2 _ _ _
  obtain ⟨B0,B1⟩ : Bx V w.heap.size #[.string a,.string b,.slice a1 n1 c1,.int .i64 c,.int .i64 f,.bool dn] 27 ∧ Bx V (w.heap.size + 1) #[.string ⟨#[]⟩,.string ⟨#[]⟩,.slice none 0 0,.int .i64 0,.int .i64 0,.bool false] 27 := hV ▸ bx2 w _ _ _ _
  replace hO := hO.stays bV
  have HD : Hid (DV n ⟨a,b,l,c,f,dn⟩ (.agg (cD a b (.slice a1 n1 c1) c f dn)) V) := lH (DV.mk hO hc)
  have hnV : n ≤ V.heap.size := by have := bV.size;omega
  clear hn1
  obtain ⟨e0,he0⟩ : ∃ q,readE ⟨a,b,l,c,f,dn⟩ z = q := ⟨_,rfl⟩
  obtain ⟨s0,hs0⟩ : ∃ q,readS ⟨a,b,l,c,f,dn⟩ z = q := ⟨_,rfl⟩
  have HE := lH he0
  have HS := lH hs0
  have hw1 : (⟨a,b,l,c,f,dn⟩ : Ds).wt ≤ 1000000 := hk.wt
  have hl1 : l.length ≤ 1000 := hk.len
  have hl2 : (⟨a,b,l,c,f,dn⟩ : Ds).l.length ≤ 1000000 := by show l.length ≤ _;omega
  have hf1 : -1 ≤ f ∧ f ≤ 9223372036854775807 := hk.f
  have hc1 : 0 ≤ c ∧ c ≤ 60000 := hk.c
  clear hk
  by_cases h0 : e0 = 0
  · subst h0
    obtain ⟨hdn,hz⟩ := readE_ok he0
    have hS : s0 = at2 (fin (a,b) l) z := by rw [← hs0];unfold readS;rw [if_pos he0];rfl
    have hb0 : (at2 (Ds.now ⟨a,b,l,c,f,dn⟩) z) = s0 := hS.symm
    have hsz : s0.size ≤ 1000000 := by
      have h1 := now_wt ⟨a,b,l,c,f,dn⟩
      rw [hS];unfold at2
      split
      · exact Nat.le_trans (Nat.le_trans (Nat.le_add_right _ _) h1) hw1
      · exact Nat.le_trans (Nat.le_trans (Nat.le_add_left _ _) h1) hw1
    by_cases h1 : x.size = 0
    · have HP : Hid (appP ⟨a,b,l,c,f,dn⟩ z x = (⟨a,b,l,c,f,dn⟩,1)) := lH (by unfold appP;rw [if_neg (by rw [he0];simp),if_pos h1])
      obtain rfl := size_nul h1
      clear hS hb0 he0 hs0 hdn hz h1 hsz
      obtain ⟨q1l,q1r,q1p,⟨q1c0,q1c1,q1c2,q1c3,q1c4,q1c5⟩,⟨q1f0,q1f1,q1f2,q1f3,q1f4,q1f5⟩⟩ := B0.d6
      go_enter Tryz.func27,Tryz.ntmps27
      go_wp2_with fail
      refine (read_is HS HE HD.out hnV hw1 hl2).mono ?_
      rintro e w1 ⟨rfl,hb1⟩
      clear q1l q1r q1p q1c0 q1c1 q1c2 q1c3 q1c4 q1c5 q1f0 q1f1 q1f2 q1f3 q1f4 q1f5
      replace B0 := B0.stays hb1
      replace B1 := B1.stays hb1
      replace hO := hO.stays hb1
      have bw1 := nx bV hb1
      obtain ⟨q2l,q2r,q2p,⟨q2c0,q2c1,q2c2,q2c3,q2c4,q2c5⟩,⟨q2f0,q2f1,q2f2,q2f3,q2f4,q2f5⟩⟩ := B0.d6
      obtain ⟨q3l,q3r,q3p,⟨q3c0,q3c1,q3c2,q3c3,q3c4,q3c5⟩,⟨q3f0,q3f1,q3f2,q3f3,q3f4,q3f5⟩⟩ := B1.d6
      obtain ⟨X,hX⟩ : ∃ Q_ : World,w1.setRow (w.heap.size + 1) #[.string a,.string b,.slice a1 n1 c1,.int .i64 c,.int .i64 f,.bool dn] = Q_ := ⟨_,rfl⟩
      have bX : Below w.heap.size w X := hX ▸ (bw1).trans (low_setRow _ (by omega))
      replace hO : OL n l (.slice a1 n1 c1) X := hX ▸ hO.keep (keeps_setRow _ B1 (by decide) (by show n ≤ _;omega))
      replace B0 : Bx X (w.heap.size) #[.string a,.string b,.slice a1 n1 c1,.int .i64 c,.int .i64 f,.bool dn] 27 := hX ▸ B0.put' (by omega) _
      replace B1 : Bx X (w.heap.size + 1) #[.string a,.string b,.slice a1 n1 c1,.int .i64 c,.int .i64 f,.bool dn] 27 := hX ▸ B1.put _
      obtain ⟨q4l,q4r,q4p,⟨q4c0,q4c1,q4c2,q4c3,q4c4,q4c5⟩,⟨q4f0,q4f1,q4f2,q4f3,q4f4,q4f5⟩⟩ := B1.d6
      go_wp2
      refine bodyPost_ret (v := .tuple #[.agg (cD a b (.slice a1 n1 c1) c f dn),.int .i64 1]) (ret_D2 Tryz.results27 _ _ rfl ?_) rfl (Post2.intro HP bX (DV.mk hO hc))
      simp [go_sem, *]
    · have hne : x.toList.isEmpty = false := toList_some h1
      by_cases h2 : c < s0.size + x.size
      · have HP : Hid (appP ⟨a,b,l,c,f,dn⟩ z x = (⟨a,b,l,c,f,dn⟩,10)) := lH (by unfold appP;rw [if_neg (by rw [he0];simp),if_neg h1,hb0,if_pos h2])
        clear hS hb0 he0 hs0 hdn hz h1
        obtain ⟨q1l,q1r,q1p,⟨q1c0,q1c1,q1c2,q1c3,q1c4,q1c5⟩,⟨q1f0,q1f1,q1f2,q1f3,q1f4,q1f5⟩⟩ := B0.d6
        go_enter Tryz.func27,Tryz.ntmps27
        go_wp2_with fail
        refine (read_is HS HE HD.out hnV hw1 hl2).mono ?_
        rintro e w1 ⟨rfl,hb1⟩
        clear q1l q1r q1p q1c0 q1c1 q1c2 q1c3 q1c4 q1c5 q1f0 q1f1 q1f2 q1f3 q1f4 q1f5
        replace B0 := B0.stays hb1
        replace B1 := B1.stays hb1
        replace hO := hO.stays hb1
        have bw1 := nx bV hb1
        obtain ⟨q2l,q2r,q2p,⟨q2c0,q2c1,q2c2,q2c3,q2c4,q2c5⟩,⟨q2f0,q2f1,q2f2,q2f3,q2f4,q2f5⟩⟩ := B0.d6
        obtain ⟨q3l,q3r,q3p,⟨q3c0,q3c1,q3c2,q3c3,q3c4,q3c5⟩,⟨q3f0,q3f1,q3f2,q3f3,q3f4,q3f5⟩⟩ := B1.d6
        obtain ⟨X,hX⟩ : ∃ Q_ : World,w1.setRow (w.heap.size + 1) #[.string a,.string b,.slice a1 n1 c1,.int .i64 c,.int .i64 f,.bool dn] = Q_ := ⟨_,rfl⟩
        have bX : Below w.heap.size w X := hX ▸ (bw1).trans (low_setRow _ (by omega))
        replace hO : OL n l (.slice a1 n1 c1) X := hX ▸ hO.keep (keeps_setRow _ B1 (by decide) (by show n ≤ _;omega))
        replace B0 : Bx X (w.heap.size) #[.string a,.string b,.slice a1 n1 c1,.int .i64 c,.int .i64 f,.bool dn] 27 := hX ▸ B0.put' (by omega) _
        replace B1 : Bx X (w.heap.size + 1) #[.string a,.string b,.slice a1 n1 c1,.int .i64 c,.int .i64 f,.bool dn] 27 := hX ▸ B1.put _
        obtain ⟨q4l,q4r,q4p,⟨q4c0,q4c1,q4c2,q4c3,q4c4,q4c5⟩,⟨q4f0,q4f1,q4f2,q4f3,q4f4,q4f5⟩⟩ := B1.d6
        go_wp2
        refine bodyPost_ret (v := .tuple #[.agg (cD a b (.slice a1 n1 c1) c f dn),.int .i64 10]) (ret_D2 Tryz.results27 _ _ rfl ?_) rfl (Post2.intro HP bX (DV.mk hO hc))
        simp [go_sem, *]
      · obtain ⟨p,hp⟩ : ∃ q,doP ⟨a,b,l,c,f,dn⟩ (z == 1,x,false) = q := ⟨_,rfl⟩
        have HQ := lH hp
        have HP : Hid (appP ⟨a,b,l,c,f,dn⟩ z x = p) := lH (by unfold appP;rw [if_neg (by rw [he0];simp),if_neg h1,hb0,if_neg h2,hp])
        have hzz : zi (z == 1) = z := by rcases hz with rfl | rfl <;> rfl
        obtain ⟨⟨a3,b3,l3,c3,f3,dn3⟩,k3⟩ := p
        clear hS hb0 he0 hs0 hdn hz h1 hp
        obtain ⟨q1l,q1r,q1p,⟨q1c0,q1c1,q1c2,q1c3,q1c4,q1c5⟩,⟨q1f0,q1f1,q1f2,q1f3,q1f4,q1f5⟩⟩ := B0.d6
        go_enter Tryz.func27,Tryz.ntmps27
        go_wp2_with fail
        refine (read_is HS HE HD.out hnV hw1 hl2).mono ?_
        rintro e w1 ⟨rfl,hb1⟩
        clear q1l q1r q1p q1c0 q1c1 q1c2 q1c3 q1c4 q1c5 q1f0 q1f1 q1f2 q1f3 q1f4 q1f5
        replace B0 := B0.stays hb1
        replace B1 := B1.stays hb1
        replace hO := hO.stays hb1
        have bw1 := nx bV hb1
        obtain ⟨q2l,q2r,q2p,⟨q2c0,q2c1,q2c2,q2c3,q2c4,q2c5⟩,⟨q2f0,q2f1,q2f2,q2f3,q2f4,q2f5⟩⟩ := B0.d6
        go_wp2_with fail
        refine (do_is HQ hzz (DV.mk hO hc) (by have := bw1.size;omega) hf1 (by show l.length ≤ _;omega)).mono ?_
        rintro e w2 ⟨v2,rfl,hb2,o2,rfl,hO2,hc2⟩
        simp only at hO2 ⊢
        obtain ⟨a4,c4,rfl⟩ := hO2.len
        obtain ⟨n4,hn4⟩ : ∃ q,l3.length = q := ⟨_,rfl⟩
        rw [hn4] at hO2 hc2 ⊢
        clear hn4
        clear q2l q2r q2p q2c0 q2c1 q2c2 q2c3 q2c4 q2c5 q2f0 q2f1 q2f2 q2f3 q2f4 q2f5
        replace B0 := B0.stays hb2
        replace B1 := B1.stays hb2
        replace hO := hO.stays hb2
        have bw2 := nx bw1 hb2
        obtain ⟨q3l,q3r,q3p,⟨q3c0,q3c1,q3c2,q3c3,q3c4,q3c5⟩,⟨q3f0,q3f1,q3f2,q3f3,q3f4,q3f5⟩⟩ := B1.d6
        obtain ⟨X,hX⟩ : ∃ Q_ : World,w2.setRow (w.heap.size + 1) #[.string a3,.string b3,.slice a4 n4 c4,.int .i64 c3,.int .i64 f3,.bool dn3] = Q_ := ⟨_,rfl⟩
        have bX : Below w.heap.size w X := hX ▸ (bw2).trans (low_setRow _ (by omega))
        replace hO2 : OL n l3 (.slice a4 n4 c4) X := hX ▸ hO2.keep (keeps_setRow _ B1 (by decide) (by show n ≤ _;omega))
        replace B0 : Bx X (w.heap.size) #[.string a,.string b,.slice a1 n1 c1,.int .i64 c,.int .i64 f,.bool dn] 27 := hX ▸ B0.put' (by omega) _
        replace B1 : Bx X (w.heap.size + 1) #[.string a3,.string b3,.slice a4 n4 c4,.int .i64 c3,.int .i64 f3,.bool dn3] 27 := hX ▸ B1.put _
        obtain ⟨q4l,q4r,q4p,⟨q4c0,q4c1,q4c2,q4c3,q4c4,q4c5⟩,⟨q4f0,q4f1,q4f2,q4f3,q4f4,q4f5⟩⟩ := B1.d6
        go_wp2
        refine bodyPost_ret (v := .tuple #[.agg (cD a3 b3 (.slice a4 n4 c4) c3 f3 dn3),.int .i64 k3]) (ret_D2 Tryz.results27 _ _ rfl ?_) rfl (Post2.intro HP bX (DV.mk hO2 hc2))
        simp [go_sem, *]
  · have HP : Hid (appP ⟨a,b,l,c,f,dn⟩ z x = (⟨a,b,l,c,f,dn⟩,e0)) := lH (by unfold appP;rw [if_pos (by rw [he0];exact h0),he0])
    have hne : (e0 != 0) = true := by simpa using h0
    clear he0 hs0 h0
    obtain ⟨q1l,q1r,q1p,⟨q1c0,q1c1,q1c2,q1c3,q1c4,q1c5⟩,⟨q1f0,q1f1,q1f2,q1f3,q1f4,q1f5⟩⟩ := B0.d6
    go_enter Tryz.func27,Tryz.ntmps27
    go_wp2_with fail
    refine (read_is HS HE HD.out hnV hw1 hl2).mono ?_
    rintro e w1 ⟨rfl,hb1⟩
    clear q1l q1r q1p q1c0 q1c1 q1c2 q1c3 q1c4 q1c5 q1f0 q1f1 q1f2 q1f3 q1f4 q1f5
    replace B0 := B0.stays hb1
    replace B1 := B1.stays hb1
    replace hO := hO.stays hb1
    have bw1 := nx bV hb1
    obtain ⟨q2l,q2r,q2p,⟨q2c0,q2c1,q2c2,q2c3,q2c4,q2c5⟩,⟨q2f0,q2f1,q2f2,q2f3,q2f4,q2f5⟩⟩ := B0.d6
    obtain ⟨q3l,q3r,q3p,⟨q3c0,q3c1,q3c2,q3c3,q3c4,q3c5⟩,⟨q3f0,q3f1,q3f2,q3f3,q3f4,q3f5⟩⟩ := B1.d6
    obtain ⟨X,hX⟩ : ∃ Q_ : World,w1.setRow (w.heap.size + 1) #[.string a,.string b,.slice a1 n1 c1,.int .i64 c,.int .i64 f,.bool dn] = Q_ := ⟨_,rfl⟩
    have bX : Below w.heap.size w X := hX ▸ (bw1).trans (low_setRow _ (by omega))
    replace hO : OL n l (.slice a1 n1 c1) X := hX ▸ hO.keep (keeps_setRow _ B1 (by decide) (by show n ≤ _;omega))
    replace B0 : Bx X (w.heap.size) #[.string a,.string b,.slice a1 n1 c1,.int .i64 c,.int .i64 f,.bool dn] 27 := hX ▸ B0.put' (by omega) _
    replace B1 : Bx X (w.heap.size + 1) #[.string a,.string b,.slice a1 n1 c1,.int .i64 c,.int .i64 f,.bool dn] 27 := hX ▸ B1.put _
    obtain ⟨q4l,q4r,q4p,⟨q4c0,q4c1,q4c2,q4c3,q4c4,q4c5⟩,⟨q4f0,q4f1,q4f2,q4f3,q4f4,q4f5⟩⟩ := B1.d6
    go_wp2
    refine bodyPost_ret (v := .tuple #[.agg (cD a b (.slice a1 n1 c1) c f dn),.int .i64 e0]) (ret_D2 Tryz.results27 _ _ rfl ?_) rfl (Post2.intro HP bX (DV.mk hO hc))
    simp [go_sem, *]
set_option maxRecDepth 8000 in
set_option maxHeartbeats 4000000 in
theorem erase_any (n : Nat) (d : Ds) (v : Value) (z : Int) (w : World) (h : DV n d v w) (hn : n ≤ w.heap.size) (hk : Ok 1000000 1000 d) :
    Calls Tryz.prog 55 #[v,.int .i64 z] w (Post2 n (eraP d z) w) := by
  obtain ⟨o,rfl,hO,hc⟩ := h
  obtain ⟨a,b,l,c,f,dn⟩ := d
  simp only at hO ⊢
  obtain ⟨a1,c1,rfl⟩ := hO.len
  obtain ⟨n1,hn1⟩ : ∃ q,l.length = q := ⟨_,rfl⟩
  rw [hn1] at hO hc ⊢
  have HN := lH hn1
  obtain ⟨V,hV⟩ : ∃ Q_ : World,(w.alloc (.cells #[.string a,.string b,.slice a1 n1 c1,.int .i64 c,.int .i64 f,.bool dn] 27)).alloc (.cells #[.string ⟨#[]⟩,.string ⟨#[]⟩,.slice none 0 0,.int .i64 0,.int .i64 0,.bool false] 27) = Q_ := ⟨_,rfl⟩
  have bV : Below w.heap.size w V := hV ▸ below2 _ _ _
  obtain ⟨B0,B1⟩ : Bx V w.heap.size #[.string a,.string b,.slice a1 n1 c1,.int .i64 c,.int .i64 f,.bool dn] 27 ∧ Bx V (w.heap.size + 1) #[.string ⟨#[]⟩,.string ⟨#[]⟩,.slice none 0 0,.int .i64 0,.int .i64 0,.bool false] 27 := hV ▸ bx2 w _ _ _ _
  replace hO := hO.stays bV
  have HD : Hid (DV n ⟨a,b,l,c,f,dn⟩ (.agg (cD a b (.slice a1 n1 c1) c f dn)) V) := lH (DV.mk hO hc)
  have hnV : n ≤ V.heap.size := by have := bV.size;omega
  clear hn1
  obtain ⟨e0,he0⟩ : ∃ q,readE ⟨a,b,l,c,f,dn⟩ z = q := ⟨_,rfl⟩
  have HE := lH he0
  have hl1 : l.length ≤ 1000 := hk.len
  have hf1 : -1 ≤ f ∧ f ≤ 9223372036854775807 := hk.f
  clear hk
  by_cases h0 : e0 = 0
  · subst h0
    obtain ⟨-,hz⟩ := readE_ok he0
    obtain ⟨p,hp⟩ : ∃ q,doP ⟨a,b,l,c,f,dn⟩ (z == 1,⟨#[]⟩,true) = q := ⟨_,rfl⟩
    have HQ := lH hp
    have HP : Hid (eraP ⟨a,b,l,c,f,dn⟩ z = p) := lH (by unfold eraP;rw [if_neg (by rw [he0];simp)];exact hp)
    have hzz : zi (z == 1) = z := by rcases hz with rfl | rfl <;> rfl
    obtain ⟨⟨a3,b3,l3,c3,f3,dn3⟩,k3⟩ := p
    clear he0 hz hp
    obtain ⟨q1l,q1r,q1p,⟨q1c0,q1c1,q1c2,q1c3,q1c4,q1c5⟩,⟨q1f0,q1f1,q1f2,q1f3,q1f4,q1f5⟩⟩ := B0.d6
    go_enter Tryz.func55,Tryz.ntmps55
    go_wp2_with fail
    with_reducible refine (check_is (d := ⟨a,b,l,c,f,dn⟩) HE _ _).mono ?_
    rintro e w1 ⟨rfl,hb1⟩
    clear q1l q1r q1p q1c0 q1c1 q1c2 q1c3 q1c4 q1c5 q1f0 q1f1 q1f2 q1f3 q1f4 q1f5
    replace B0 := B0.stays hb1
    replace B1 := B1.stays hb1
    replace hO := hO.stays hb1
    have bw1 := nx bV hb1
    obtain ⟨q2l,q2r,q2p,⟨q2c0,q2c1,q2c2,q2c3,q2c4,q2c5⟩,⟨q2f0,q2f1,q2f2,q2f3,q2f4,q2f5⟩⟩ := B0.d6
    go_wp2_with fail
    with_reducible refine (do_is HQ hzz (DV.mk hO hc) (by have := bw1.size;omega) hf1 (by show l.length ≤ _;omega)).mono ?_
    rintro e w2 ⟨v2,rfl,hb2,o2,rfl,hO2,hc2⟩
    simp only at hO2 ⊢
    obtain ⟨a4,c4,rfl⟩ := hO2.len
    obtain ⟨n4,hn4⟩ : ∃ q,l3.length = q := ⟨_,rfl⟩
    rw [hn4] at hO2 hc2 ⊢
    clear hn4
    clear q2l q2r q2p q2c0 q2c1 q2c2 q2c3 q2c4 q2c5 q2f0 q2f1 q2f2 q2f3 q2f4 q2f5
    replace B0 := B0.stays hb2
    replace B1 := B1.stays hb2
    replace hO := hO.stays hb2
    have bw2 := nx bw1 hb2
    obtain ⟨q3l,q3r,q3p,⟨q3c0,q3c1,q3c2,q3c3,q3c4,q3c5⟩,⟨q3f0,q3f1,q3f2,q3f3,q3f4,q3f5⟩⟩ := B1.d6
    obtain ⟨X,hX⟩ : ∃ Q_ : World,w2.setRow (w.heap.size + 1) #[.string a3,.string b3,.slice a4 n4 c4,.int .i64 c3,.int .i64 f3,.bool dn3] = Q_ := ⟨_,rfl⟩
    have bX : Below w.heap.size w X := hX ▸ (bw2).trans (low_setRow _ (by omega))
    replace hO2 : OL n l3 (.slice a4 n4 c4) X := hX ▸ hO2.keep (keeps_setRow _ B1 (by decide) (by show n ≤ _;omega))
    replace B0 : Bx X (w.heap.size) #[.string a,.string b,.slice a1 n1 c1,.int .i64 c,.int .i64 f,.bool dn] 27 := hX ▸ B0.put' (by omega) _
    replace B1 : Bx X (w.heap.size + 1) #[.string a3,.string b3,.slice a4 n4 c4,.int .i64 c3,.int .i64 f3,.bool dn3] 27 := hX ▸ B1.put _
    obtain ⟨q4l,q4r,q4p,⟨q4c0,q4c1,q4c2,q4c3,q4c4,q4c5⟩,⟨q4f0,q4f1,q4f2,q4f3,q4f4,q4f5⟩⟩ := B1.d6
    go_wp2
    refine bodyPost_ret (v := .tuple #[.agg (cD a3 b3 (.slice a4 n4 c4) c3 f3 dn3),.int .i64 k3]) (ret_D2 Tryz.results55 _ _ rfl ?_) rfl (Post2.intro HP bX (DV.mk hO2 hc2))
    simp [go_sem, *]
  · have HP : Hid (eraP ⟨a,b,l,c,f,dn⟩ z = (⟨a,b,l,c,f,dn⟩,e0)) := lH (by unfold eraP;rw [if_pos (by rw [he0];exact h0),he0])
    have hne : (e0 != 0) = true := by simpa using h0
    clear he0 h0
    obtain ⟨q1l,q1r,q1p,⟨q1c0,q1c1,q1c2,q1c3,q1c4,q1c5⟩,⟨q1f0,q1f1,q1f2,q1f3,q1f4,q1f5⟩⟩ := B0.d6
    go_enter Tryz.func55,Tryz.ntmps55
    go_wp2_with fail
    with_reducible refine (check_is (d := ⟨a,b,l,c,f,dn⟩) HE _ _).mono ?_
    rintro e w1 ⟨rfl,hb1⟩
    clear q1l q1r q1p q1c0 q1c1 q1c2 q1c3 q1c4 q1c5 q1f0 q1f1 q1f2 q1f3 q1f4 q1f5
    replace B0 := B0.stays hb1
    replace B1 := B1.stays hb1
    replace hO := hO.stays hb1
    have bw1 := nx bV hb1
    obtain ⟨q2l,q2r,q2p,⟨q2c0,q2c1,q2c2,q2c3,q2c4,q2c5⟩,⟨q2f0,q2f1,q2f2,q2f3,q2f4,q2f5⟩⟩ := B0.d6
    obtain ⟨q3l,q3r,q3p,⟨q3c0,q3c1,q3c2,q3c3,q3c4,q3c5⟩,⟨q3f0,q3f1,q3f2,q3f3,q3f4,q3f5⟩⟩ := B1.d6
    obtain ⟨X,hX⟩ : ∃ Q_ : World,w1.setRow (w.heap.size + 1) #[.string a,.string b,.slice a1 n1 c1,.int .i64 c,.int .i64 f,.bool dn] = Q_ := ⟨_,rfl⟩
    have bX : Below w.heap.size w X := hX ▸ (bw1).trans (low_setRow _ (by omega))
    replace hO : OL n l (.slice a1 n1 c1) X := hX ▸ hO.keep (keeps_setRow _ B1 (by decide) (by show n ≤ _;omega))
    replace B0 : Bx X (w.heap.size) #[.string a,.string b,.slice a1 n1 c1,.int .i64 c,.int .i64 f,.bool dn] 27 := hX ▸ B0.put' (by omega) _
    replace B1 : Bx X (w.heap.size + 1) #[.string a,.string b,.slice a1 n1 c1,.int .i64 c,.int .i64 f,.bool dn] 27 := hX ▸ B1.put _
    obtain ⟨q4l,q4r,q4p,⟨q4c0,q4c1,q4c2,q4c3,q4c4,q4c5⟩,⟨q4f0,q4f1,q4f2,q4f3,q4f4,q4f5⟩⟩ := B1.d6
    go_wp2
    refine bodyPost_ret (v := .tuple #[.agg (cD a b (.slice a1 n1 c1) c f dn),.int .i64 e0]) (ret_D2 Tryz.results55 _ _ rfl ?_) rfl (Post2.intro HP bX (DV.mk hO hc))
    simp [go_sem, *]
theorem burn_is {n : Nat} {d : Ds} {p : Ds × Int} (H : Hid (burnP d = p)) {v : Value} {w : World} (h : DV n d v w) (hf : -1 ≤ d.f ∧ d.f ≤ 9223372036854775807) : Calls Tryz.prog 84 #[v] w (Post2 n p w) := by
  rw [← H.out];exact burn_any n d v w h hf
theorem after_is {a b : ByteArray} {l : List Do} {s : ByteArray × ByteArray} (H : Hid (fin (a,b) l = s)) {n : Nat} {o : Value} {w : World} (hO : OL n l o w) (hn : n ≤ w.heap.size) (hw : a.size + b.size + wl l ≤ 1000000) (hl : l.length ≤ 1000000) :
    Calls Tryz.prog 39 #[.agg #[.string a,.string b],o] w fun e w' => e = .returned (.agg #[.string s.1,.string s.2]) ∧ Below w.heap.size w w' := by
  rw [← H.out];exact after_any n a b l o w hO hn hw hl
set_option maxRecDepth 8000 in
set_option maxHeartbeats 4000000 in
theorem sync_any (n : Nat) (d : Ds) (v : Value) (w : World) (h : DV n d v w) (hn : n ≤ w.heap.size) (hk : Ok 1000000 1000 d) :
    Calls Tryz.prog 53 #[v] w (Post2 n (synP d) w) := by
  obtain ⟨o,rfl,hO,hc⟩ := h
  obtain ⟨a,b,l,c,f,dn⟩ := d
  simp only at hO ⊢
  obtain ⟨a1,c1,rfl⟩ := hO.len
  obtain ⟨n1,hn1⟩ : ∃ q,l.length = q := ⟨_,rfl⟩
  rw [hn1] at hO hc ⊢
  have HN := lH hn1
  obtain ⟨V,hV⟩ : ∃ Q_ : World,(w.alloc (.cells #[.string a,.string b,.slice a1 n1 c1,.int .i64 c,.int .i64 f,.bool dn] 27)).alloc (.cells #[.string ⟨#[]⟩,.string ⟨#[]⟩,.slice none 0 0,.int .i64 0,.int .i64 0,.bool false] 27) = Q_ := ⟨_,rfl⟩
  have bV : Below w.heap.size w V := hV ▸ below2 _ _ _
  obtain ⟨B0,B1⟩ : Bx V w.heap.size #[.string a,.string b,.slice a1 n1 c1,.int .i64 c,.int .i64 f,.bool dn] 27 ∧ Bx V (w.heap.size + 1) #[.string ⟨#[]⟩,.string ⟨#[]⟩,.slice none 0 0,.int .i64 0,.int .i64 0,.bool false] 27 := hV ▸ bx2 w _ _ _ _
  replace hO := hO.stays bV
  have HD : Hid (DV n ⟨a,b,l,c,f,dn⟩ (.agg (cD a b (.slice a1 n1 c1) c f dn)) V) := lH (DV.mk hO hc)
  have hnV : n ≤ V.heap.size := by have := bV.size;omega
  clear hn1
  have hl1 : l.length ≤ 1000 := hk.len
  have hf1 : -1 ≤ f ∧ f ≤ 9223372036854775807 := hk.f
  have hw1 : a.size + b.size + wl l ≤ 1000000 := hk.wt
  clear hk
  cases dn
  · by_cases h0 : f = 0
    · subst h0
      have HP : Hid (synP ⟨a,b,l,c,0,false⟩ = (⟨a,b,l,c,0,true⟩,15)) := lH (by simp [synP])
      have HQ : Hid (burnP ⟨a,b,l,c,0,false⟩ = (⟨a,b,l,c,0,true⟩,15)) := lH (by simp [burnP])
      obtain ⟨q1l,q1r,q1p,⟨q1c0,q1c1,q1c2,q1c3,q1c4,q1c5⟩,⟨q1f0,q1f1,q1f2,q1f3,q1f4,q1f5⟩⟩ := B0.d6
      go_enter Tryz.func53,Tryz.ntmps53
      go_wp2_with fail
      with_reducible refine (burn_is HQ HD.out hf1).mono ?_
      rintro e w1 ⟨v1,rfl,hb1,o1,rfl,hO1,hc1⟩
      simp only at hO1 ⊢
      obtain ⟨a2,c2,rfl⟩ := hO1.len
      rw [HN.out] at hO1 hc1 ⊢
      clear q1l q1r q1p q1c0 q1c1 q1c2 q1c3 q1c4 q1c5 q1f0 q1f1 q1f2 q1f3 q1f4 q1f5
      replace B0 := B0.stays hb1
      replace B1 := B1.stays hb1
      replace hO := hO.stays hb1
      have bw1 := nx bV hb1
      obtain ⟨q2l,q2r,q2p,⟨q2c0,q2c1,q2c2,q2c3,q2c4,q2c5⟩,⟨q2f0,q2f1,q2f2,q2f3,q2f4,q2f5⟩⟩ := B0.d6
      obtain ⟨X,hX⟩ : ∃ Q_ : World,w1.setRow (w.heap.size) #[.string a,.string b,.slice a2 n1 c2,.int .i64 c,.int .i64 0,.bool true] = Q_ := ⟨_,rfl⟩
      have bX : Below w.heap.size w X := hX ▸ (bw1).trans (low_setRow _ (by omega))
      replace hO1 : OL n l (.slice a2 n1 c2) X := hX ▸ hO1.keep (keeps_setRow _ B0 (by decide) (by show n ≤ _;omega))
      replace B1 : Bx X (w.heap.size + 1) #[.string ⟨#[]⟩,.string ⟨#[]⟩,.slice none 0 0,.int .i64 0,.int .i64 0,.bool false] 27 := hX ▸ B1.put' (by omega) _
      replace B0 : Bx X (w.heap.size) #[.string a,.string b,.slice a2 n1 c2,.int .i64 c,.int .i64 0,.bool true] 27 := hX ▸ B0.put _
      obtain ⟨q3l,q3r,q3p,⟨q3c0,q3c1,q3c2,q3c3,q3c4,q3c5⟩,⟨q3f0,q3f1,q3f2,q3f3,q3f4,q3f5⟩⟩ := B0.d6
      obtain ⟨q4l,q4r,q4p,⟨q4c0,q4c1,q4c2,q4c3,q4c4,q4c5⟩,⟨q4f0,q4f1,q4f2,q4f3,q4f4,q4f5⟩⟩ := B1.d6
      obtain ⟨Y,hY⟩ : ∃ Q_ : World,X.setRow (w.heap.size + 1) #[.string a,.string b,.slice a2 n1 c2,.int .i64 c,.int .i64 0,.bool true] = Q_ := ⟨_,rfl⟩
      have bY : Below w.heap.size w Y := hY ▸ (bX).trans (low_setRow _ (by omega))
      replace hO1 : OL n l (.slice a2 n1 c2) Y := hY ▸ hO1.keep (keeps_setRow _ B1 (by decide) (by show n ≤ _;omega))
      replace B0 : Bx Y (w.heap.size) #[.string a,.string b,.slice a2 n1 c2,.int .i64 c,.int .i64 0,.bool true] 27 := hY ▸ B0.put' (by omega) _
      replace B1 : Bx Y (w.heap.size + 1) #[.string a,.string b,.slice a2 n1 c2,.int .i64 c,.int .i64 0,.bool true] 27 := hY ▸ B1.put _
      obtain ⟨q5l,q5r,q5p,⟨q5c0,q5c1,q5c2,q5c3,q5c4,q5c5⟩,⟨q5f0,q5f1,q5f2,q5f3,q5f4,q5f5⟩⟩ := B1.d6
      go_wp2
      refine bodyPost_ret (v := .tuple #[.agg (cD a b (.slice a2 n1 c2) c 0 true),.int .i64 15]) (ret_D2 Tryz.results53 _ _ rfl ?_) rfl (Post2.intro HP bY (DV.mk hO1 hc1))
      simp [go_sem, *]
    · have h1 : (f == 0) = false := by simpa using h0
      obtain ⟨f2,hf2⟩ : ∃ q,max f 0 - 1 = q := ⟨_,rfl⟩
      obtain ⟨⟨s1,s2⟩,hs⟩ : ∃ q,fin (a,b) l = q := ⟨_,rfl⟩
      have HF := lH hs
      have HP : Hid (synP ⟨a,b,l,c,f,false⟩ = (⟨s1,s2,[],c,f2,false⟩,0)) := lH (by simp only [synP,Ds.now];rw [if_neg (by simp),if_neg h0,hf2,hs])
      have HQ : Hid (burnP ⟨a,b,l,c,f,false⟩ = (⟨a,b,l,c,f2,false⟩,0)) := lH (by simp only [burnP];rw [if_neg h0,hf2])
      clear hf2 hs h0
      obtain ⟨q1l,q1r,q1p,⟨q1c0,q1c1,q1c2,q1c3,q1c4,q1c5⟩,⟨q1f0,q1f1,q1f2,q1f3,q1f4,q1f5⟩⟩ := B0.d6
      go_enter Tryz.func53,Tryz.ntmps53
      go_wp2_with fail
      with_reducible refine (burn_is HQ HD.out hf1).mono ?_
      rintro e w1 ⟨v1,rfl,hb1,o1,rfl,hO1,hc1⟩
      simp only at hO1 ⊢
      obtain ⟨a2,c2,rfl⟩ := hO1.len
      rw [HN.out] at hO1 hc1 ⊢
      clear q1l q1r q1p q1c0 q1c1 q1c2 q1c3 q1c4 q1c5 q1f0 q1f1 q1f2 q1f3 q1f4 q1f5
      replace B0 := B0.stays hb1
      replace B1 := B1.stays hb1
      replace hO := hO.stays hb1
      have bw1 := nx bV hb1
      obtain ⟨q2l,q2r,q2p,⟨q2c0,q2c1,q2c2,q2c3,q2c4,q2c5⟩,⟨q2f0,q2f1,q2f2,q2f3,q2f4,q2f5⟩⟩ := B0.d6
      obtain ⟨X,hX⟩ : ∃ Q_ : World,w1.setRow (w.heap.size) #[.string a,.string b,.slice a2 n1 c2,.int .i64 c,.int .i64 f2,.bool false] = Q_ := ⟨_,rfl⟩
      have bX : Below w.heap.size w X := hX ▸ (bw1).trans (low_setRow _ (by omega))
      replace hO1 : OL n l (.slice a2 n1 c2) X := hX ▸ hO1.keep (keeps_setRow _ B0 (by decide) (by show n ≤ _;omega))
      replace B1 : Bx X (w.heap.size + 1) #[.string ⟨#[]⟩,.string ⟨#[]⟩,.slice none 0 0,.int .i64 0,.int .i64 0,.bool false] 27 := hX ▸ B1.put' (by omega) _
      replace B0 : Bx X (w.heap.size) #[.string a,.string b,.slice a2 n1 c2,.int .i64 c,.int .i64 f2,.bool false] 27 := hX ▸ B0.put _
      obtain ⟨q3l,q3r,q3p,⟨q3c0,q3c1,q3c2,q3c3,q3c4,q3c5⟩,⟨q3f0,q3f1,q3f2,q3f3,q3f4,q3f5⟩⟩ := B0.d6
      go_wp2_with fail
      with_reducible refine (after_is HF hO1 (by have := bX.size;omega) hw1 (by omega)).mono ?_
      rintro e w2 ⟨rfl,hb2⟩
      simp only
      clear q2l q2r q2p q2c0 q2c1 q2c2 q2c3 q2c4 q2c5 q2f0 q2f1 q2f2 q2f3 q2f4 q2f5
      clear q3l q3r q3p q3c0 q3c1 q3c2 q3c3 q3c4 q3c5 q3f0 q3f1 q3f2 q3f3 q3f4 q3f5
      replace B0 := B0.stays hb2
      replace B1 := B1.stays hb2
      replace hO1 := hO1.stays hb2
      have bw2 := nx bX hb2
      obtain ⟨q4l,q4r,q4p,⟨q4c0,q4c1,q4c2,q4c3,q4c4,q4c5⟩,⟨q4f0,q4f1,q4f2,q4f3,q4f4,q4f5⟩⟩ := B0.d6
      obtain ⟨Y1,hY1⟩ : ∃ Q_ : World,w2.setCell ⟨w.heap.size,0,none⟩ (.string s1) = Q_ := ⟨_,rfl⟩
      have bY1 : Below w.heap.size w Y1 := hY1 ▸ (bw2).trans (low_setCell _ _ (by omega))
      replace hO1 : OL n l (.slice a2 n1 c2) Y1 := hY1 ▸ hO1.keep (keeps_setCell _ _ B0 (by decide) (by show n ≤ _;omega))
      replace B1 : Bx Y1 (w.heap.size + 1) #[.string ⟨#[]⟩,.string ⟨#[]⟩,.slice none 0 0,.int .i64 0,.int .i64 0,.bool false] 27 := hY1 ▸ B1.set' (by omega) _ _
      replace B0 : Bx Y1 (w.heap.size) #[.string s1,.string b,.slice a2 n1 c2,.int .i64 c,.int .i64 f2,.bool false] 27 := hY1 ▸ (show Bx (w2.setCell ⟨w.heap.size,0,none⟩ (.string s1)) (w.heap.size) #[.string s1,.string b,.slice a2 n1 c2,.int .i64 c,.int .i64 f2,.bool false] 27 from B0.set 0 (.string s1))
      obtain ⟨q5l,q5r,q5p,⟨q5c0,q5c1,q5c2,q5c3,q5c4,q5c5⟩,⟨q5f0,q5f1,q5f2,q5f3,q5f4,q5f5⟩⟩ := B0.d6
      obtain ⟨Y2,hY2⟩ : ∃ Q_ : World,Y1.setCell ⟨w.heap.size,1,none⟩ (.string s2) = Q_ := ⟨_,rfl⟩
      have bY2 : Below w.heap.size w Y2 := hY2 ▸ (bY1).trans (low_setCell _ _ (by omega))
      replace hO1 : OL n l (.slice a2 n1 c2) Y2 := hY2 ▸ hO1.keep (keeps_setCell _ _ B0 (by decide) (by show n ≤ _;omega))
      replace B1 : Bx Y2 (w.heap.size + 1) #[.string ⟨#[]⟩,.string ⟨#[]⟩,.slice none 0 0,.int .i64 0,.int .i64 0,.bool false] 27 := hY2 ▸ B1.set' (by omega) _ _
      replace B0 : Bx Y2 (w.heap.size) #[.string s1,.string s2,.slice a2 n1 c2,.int .i64 c,.int .i64 f2,.bool false] 27 := hY2 ▸ (show Bx (Y1.setCell ⟨w.heap.size,1,none⟩ (.string s2)) (w.heap.size) #[.string s1,.string s2,.slice a2 n1 c2,.int .i64 c,.int .i64 f2,.bool false] 27 from B0.set 1 (.string s2))
      obtain ⟨q6l,q6r,q6p,⟨q6c0,q6c1,q6c2,q6c3,q6c4,q6c5⟩,⟨q6f0,q6f1,q6f2,q6f3,q6f4,q6f5⟩⟩ := B0.d6
      obtain ⟨Y3,hY3⟩ : ∃ Q_ : World,Y2.setCell ⟨w.heap.size,2,none⟩ (.slice none 0 0) = Q_ := ⟨_,rfl⟩
      have bY3 : Below w.heap.size w Y3 := hY3 ▸ (bY2).trans (low_setCell _ _ (by omega))
      replace hO1 : OL n l (.slice a2 n1 c2) Y3 := hY3 ▸ hO1.keep (keeps_setCell _ _ B0 (by decide) (by show n ≤ _;omega))
      replace B1 : Bx Y3 (w.heap.size + 1) #[.string ⟨#[]⟩,.string ⟨#[]⟩,.slice none 0 0,.int .i64 0,.int .i64 0,.bool false] 27 := hY3 ▸ B1.set' (by omega) _ _
      replace B0 : Bx Y3 (w.heap.size) #[.string s1,.string s2,.slice none 0 0,.int .i64 c,.int .i64 f2,.bool false] 27 := hY3 ▸ (show Bx (Y2.setCell ⟨w.heap.size,2,none⟩ (.slice none 0 0)) (w.heap.size) #[.string s1,.string s2,.slice none 0 0,.int .i64 c,.int .i64 f2,.bool false] 27 from B0.set 2 (.slice none 0 0))
      obtain ⟨q7l,q7r,q7p,⟨q7c0,q7c1,q7c2,q7c3,q7c4,q7c5⟩,⟨q7f0,q7f1,q7f2,q7f3,q7f4,q7f5⟩⟩ := B0.d6
      obtain ⟨q8l,q8r,q8p,⟨q8c0,q8c1,q8c2,q8c3,q8c4,q8c5⟩,⟨q8f0,q8f1,q8f2,q8f3,q8f4,q8f5⟩⟩ := B1.d6
      obtain ⟨Y4,hY4⟩ : ∃ Q_ : World,Y3.setRow (w.heap.size + 1) #[.string s1,.string s2,.slice none 0 0,.int .i64 c,.int .i64 f2,.bool false] = Q_ := ⟨_,rfl⟩
      have bY4 : Below w.heap.size w Y4 := hY4 ▸ (bY3).trans (low_setRow _ (by omega))
      replace hO1 : OL n l (.slice a2 n1 c2) Y4 := hY4 ▸ hO1.keep (keeps_setRow _ B1 (by decide) (by show n ≤ _;omega))
      replace B0 : Bx Y4 (w.heap.size) #[.string s1,.string s2,.slice none 0 0,.int .i64 c,.int .i64 f2,.bool false] 27 := hY4 ▸ B0.put' (by omega) _
      replace B1 : Bx Y4 (w.heap.size + 1) #[.string s1,.string s2,.slice none 0 0,.int .i64 c,.int .i64 f2,.bool false] 27 := hY4 ▸ B1.put _
      obtain ⟨q9l,q9r,q9p,⟨q9c0,q9c1,q9c2,q9c3,q9c4,q9c5⟩,⟨q9f0,q9f1,q9f2,q9f3,q9f4,q9f5⟩⟩ := B1.d6
      go_wp2
      refine bodyPost_ret (v := .tuple #[.agg (cD s1 s2 (.slice none 0 0) c f2 false),.int .i64 0]) (ret_D2 Tryz.results53 _ _ rfl ?_) rfl (Post2.intro HP bY4 (DV.mk (Is.nil _ _ _ _) (Nat.le_refl 0)))
      simp [go_sem, *]
  · have HP : Hid (synP ⟨a,b,l,c,f,true⟩ = (⟨a,b,l,c,f,true⟩,15)) := lH rfl
    obtain ⟨q1l,q1r,q1p,⟨q1c0,q1c1,q1c2,q1c3,q1c4,q1c5⟩,⟨q1f0,q1f1,q1f2,q1f3,q1f4,q1f5⟩⟩ := B0.d6
    obtain ⟨q2l,q2r,q2p,⟨q2c0,q2c1,q2c2,q2c3,q2c4,q2c5⟩,⟨q2f0,q2f1,q2f2,q2f3,q2f4,q2f5⟩⟩ := B1.d6
    obtain ⟨X,hX⟩ : ∃ Q_ : World,V.setRow (w.heap.size + 1) #[.string a,.string b,.slice a1 n1 c1,.int .i64 c,.int .i64 f,.bool true] = Q_ := ⟨_,rfl⟩
    have bX : Below w.heap.size w X := hX ▸ (bV).trans (low_setRow _ (by omega))
    replace hO : OL n l (.slice a1 n1 c1) X := hX ▸ hO.keep (keeps_setRow _ B1 (by decide) (by show n ≤ _;omega))
    replace B0 : Bx X (w.heap.size) #[.string a,.string b,.slice a1 n1 c1,.int .i64 c,.int .i64 f,.bool true] 27 := hX ▸ B0.put' (by omega) _
    replace B1 : Bx X (w.heap.size + 1) #[.string a,.string b,.slice a1 n1 c1,.int .i64 c,.int .i64 f,.bool true] 27 := hX ▸ B1.put _
    obtain ⟨q3l,q3r,q3p,⟨q3c0,q3c1,q3c2,q3c3,q3c4,q3c5⟩,⟨q3f0,q3f1,q3f2,q3f3,q3f4,q3f5⟩⟩ := B1.d6
    go_enter Tryz.func53,Tryz.ntmps53
    go_wp2
    refine bodyPost_ret (v := .tuple #[.agg (cD a b (.slice a1 n1 c1) c f true),.int .i64 15]) (ret_D2 Tryz.results53 _ _ rfl ?_) rfl (Post2.intro HP bX (DV.mk hO hc))
    simp [go_sem, *]
section
variable (ρ : Operand → Value) (dst : Option Tmp) (ty : TypeId) (pos : String) (after : Array Edge) (guard : Option (Nat × Bool)) (w : World)
theorem hiO (x y : Operand) (h : hiOk (ρ x) (ρ y) = true) : (execOp ρ { dst,op := .slice 25 x none (some y) none,type := ty,pos,after,guard }).run Tryz.prog w = .ok (.value (cutHi 3 (natOf (ρ y)) (ρ x))) w :=
  exec_hi ρ dst ty pos after guard w elemO x y h
end
attribute [go_sem ↓] hiO
theorem limit_is {n m q : Int} (H : Hid (lim n m = q)) (w : World) : Calls Tryz.prog 41 #[.int .i64 n,.int .i64 m] w fun e w' => e = .returned (.int .i64 q) ∧ w = w' := by
  rw [← H.out];exact limit_any n m w
theorem reach_at {l : List Do} {keep torn : Int} {k : Nat} (h : lim keep l.length = k) (hk : k < l.length) : reach l keep torn = if l[k].2.2 then l.take k else l.take k ++ [(l[k].1,cut l[k].2.1 torn,false)] := by
  unfold reach
  rw [h,Int.toNat_natCast,List.drop_eq_getElem_cons hk]
  generalize l[k] = x
  obtain ⟨z,y,e⟩ := x
  cases e <;> rfl
theorem reach_end {l : List Do} {keep torn : Int} {k : Nat} (h : lim keep l.length = k) (hk : ¬ k < l.length) : reach l keep torn = l.take k := by
  unfold reach
  rw [h,Int.toNat_natCast,List.drop_of_length_le (by omega)]
set_option maxRecDepth 8000 in
set_option maxHeartbeats 4000000 in
theorem reached_any (n : Nat) (l : List Do) (o : Value) (keep torn : Int) (w : World) (hO : OL n l o w) (hc : capOk o) (hn : n ≤ w.heap.size) (hl : l.length ≤ 100000) :
    Calls Tryz.prog 40 #[o,.int .i64 keep,.int .i64 torn] w (Post (OL n (reach l keep torn)) w) := by
  have hlb := lim_bd keep l.length (by omega)
  obtain ⟨k,hk⟩ : ∃ k : Nat,lim keep l.length = k := ⟨(lim keep l.length).toNat,by omega⟩
  have hkl : k ≤ l.length := by omega
  have hcut := Is.cutHi (e := eO) (T := 82) hO hkl
  obtain ⟨a1,c1,rfl,hcap⟩ := capOk_len hO hc
  obtain ⟨n1,hn1⟩ : ∃ q,l.length = q := ⟨_,rfl⟩
  have hre := fun h => reach_at (torn := torn) hk h
  have hre2 := fun h => reach_end (torn := torn) hk h
  rw [hn1] at hO hcut hk hkl hlb hcap ⊢
  obtain ⟨a2,c2,hq⟩ : ∃ a c,cutHi 3 k (.slice a1 n1 c1) = .slice a c.1 c.2 := ⟨_,(_,_),rfl⟩
  obtain ⟨m2,c2⟩ := c2
  simp only at hq
  have hq' : cutHi eO.k k (.slice a1 n1 c1) = .slice a2 m2 c2 := hq
  rw [hq'] at hcut
  have HN := lH hn1
  have HK := lH hk
  have HCUT := lH hcut
  have hki : (k : Int) ≤ n1 := by omega
  have HRE := lH hre
  have HRE2 := lH hre2
  have k0 : (0 : Int) ≤ k := by omega
  have hkc : k ≤ c1 := by omega
  clear hcut hq' hn1 hk hlb hre hre2 hc
  by_cases hlt : k < n1
  · have hlt2 : (k : Int) < n1 := by omega
    have hne : ((k : Int) == (n1 : Int)) = false := by simp;omega
    have hkl2 : k < l.length := by rw [HN.out];exact hlt
    rcases hO.cases with ⟨e,_⟩ | ⟨_,bb,off,cc,e,hat⟩
    · rw [e] at hkl2;cases hkl2
    simp only [Value.slice.injEq] at e
    obtain ⟨rfl,-,rfl⟩ := e
    obtain ⟨y0,y1,y2⟩ := at3 hat k hkl2
    have hr := HRE.out hkl2
    obtain ⟨⟨z,x,er⟩,hz⟩ : ∃ q,l[k] = q := ⟨_,rfl⟩
    rw [hz] at y0 y1 y2 hr
    simp only at y0 y1 y2 hr
    clear hz hat hkl2
    cases er
    · have HR : Hid (reach l keep torn = l.take k ++ [(z,cut x torn,false)]) := lH hr
      have hlb2 := lim_bd torn x.size (by omega)
      obtain ⟨m,hm⟩ : ∃ m : Nat,lim torn x.size = m := ⟨(lim torn x.size).toNat,by omega⟩
      have hmx : m ≤ x.size := by omega
      have HM := lH hm
      have HX := lH (show cut x torn = x.extract 0 m by unfold cut;rw [hm,Int.toNat_natCast])
      have m0 : (0 : Int) ≤ m := by omega
      have m1 : (m : Int) ≤ x.size := by omega
      obtain ⟨zz,hzz⟩ : ∃ q,zi z = q := ⟨_,rfl⟩
      rw [hzz] at y0
      have HZ := lH hzz
      obtain ⟨W,hW⟩ : ∃ Q_,w.alloc (.cells #[.int .i64 zz,.string x,.bool false] 82) = Q_ := ⟨_,rfl⟩
      have BW : Bx W w.heap.size #[.int .i64 zz,.string x,.bool false] 82 := hW ▸ Bx.new _ _ _
      have bW : Below w.heap.size w W := hW ▸ below1 _ _
      obtain ⟨q1,q2,q3,⟨q4,q5,q6⟩,q7,q8,q9⟩ := BW.d3
      clear hr hlb2 hm hzz
      go_enter Tryz.func40,Tryz.ntmps40
      go_wp2_with fail
      with_reducible refine (limit_is HK _).mono ?_
      rintro e w1 ⟨rfl,rfl⟩
      go_wp2
      go_still_tail 9,(by kernel_rfl)
      still_call ((limit_is HM _).mono fun _ _ h => ⟨h.1,h.2.symm⟩)
      repeat still_step
      refine wpStill_nil ?_
      change wpList _ _ _ _ _ (World.drew _)
      obtain ⟨y,hy⟩ : ∃ q,x.extract 0 m = q := ⟨_,rfl⟩
      have HY := lH hy
      obtain ⟨X,hX⟩ : ∃ Q_,(W.setCell ⟨w.heap.size,1,none⟩ (.string y)).drew = Q_ := ⟨_,rfl⟩
      have BX : Bx X w.heap.size #[.int .i64 zz,.string y,.bool false] 82 := hX ▸ (show Bx (W.setCell ⟨w.heap.size,1,none⟩ (.string y)) w.heap.size #[.int .i64 zz,.string y,.bool false] 82 from BW.set 1 _)
      have bX : Below w.heap.size w X := hX ▸ (bW.trans (low_setCell _ _ (by omega))).drew
      have HF := lH (show ∀ u,Below X.heap.size X u → Rw.row u w.heap.size = #[.int .i64 zz,.string y,.bool false] ∧ u.cell? ⟨w.heap.size,0,none⟩ = some (.int .i64 zz) ∧ u.cell? ⟨w.heap.size,1,none⟩ = some (.string y) ∧ u.cell? ⟨w.heap.size,2,none⟩ = some (.bool false) from fun u hu => ⟨(BX.stays hu).row,(BX.stays hu).cell 0,(BX.stays hu).cell 1,(BX.stays hu).cell 2⟩)
      have HO := lH (show ∀ u,Below X.heap.size X u → OL n (l.take k) (.slice a2 m2 c2) u from fun u hu => (OL.stays HCUT.out bX).stays hu)
      clear q1 q2 q3 BX hW
      go_wp2
      refine Rh.rb [0,1,2,3,4,5,6,7] ?_
      repeat (first | (refine Rh.Steps.sk ?_;simp only [Act.put,sA,sB,sC]) | (refine Rh.Steps.pu (v := ?_) ?_ ?_;rotate_left;(intro w_ hS_;have hk_ := HF.out w_ hS_;go_simp <;> with_reducible rfl);simp only [Act.put,sA,sB,sC]))
      refine Rh.Steps.forced (i := 4) (by kernel_rfl) ?_
      refine Rh.One.val (fun v u => OL n [(z,y,false)] v u) (fun v _ _ h k => h.stays k) (by rfl) (by rfl) ?_ ?_
      · intro w_ hS_ hG_
        refine ⟨_,_,?_,below1 w_ (.cells #[.int .i64 zz,.string y,.bool false] 82),Is.one (e := eO) (x := ((z,y,false) : Do)) (cs := [.int .i64 zz,.string y,.bool false]) ⟨by show n ≤ _;have := bX.size;have := hS_.size;omega,fun _ h => h.elim⟩ (by show _ = cellsO _;rw [← HZ.out];rfl)⟩
        go_simp
      intro v1 u1 hv1
      simp only [Act.put,sA,sB,sC]
      obtain ⟨a3,c3,rfl⟩ : ∃ a c,v1 = .slice a 1 c := hv1.len
      refine Rh.Steps.forced (i := 5) (by kernel_rfl) ?_
      refine Rh.One.val (fun v u => ∃ p,v = .slice (some ⟨p,0,none⟩) 2 2 ∧ Bx u p #[.slice a2 m2 c2,.slice a3 1 c3] 25 ∧ OL n [(z,y,false)] (.slice a3 1 c3) u) (fun v _ _ ⟨p,h1,h2,h3⟩ k => ⟨p,h1,h2.stays k,h3.stays k⟩) (by rfl) (by rfl) ?_ ?_
      · intro w_ hS_ hG_
        refine ⟨_,_,?_,below1 w_ (.cells #[.slice a2 m2 c2,.slice a3 1 c3] 25),w_.heap.size,rfl,Bx.new _ _ _,hG_.2.stays (below1 _ _)⟩
        go_simp
      intro v2 u2 hv2
      simp only [Act.put,sA,sB,sC]
      obtain ⟨p,rfl⟩ : ∃ p,v2 = .slice (some ⟨p,0,none⟩) 2 2 := by obtain ⟨p,h,_⟩ := hv2;exact ⟨p,h⟩
      refine Rh.Steps.forced (i := 6) (by kernel_rfl) ?_
      have hkl3 : (l.take k).length ≤ 1000000 := by rw [List.length_take];omega
      refine Rh.One.call (fun v u => OL n (l.take k ++ [(z,y,false)]) v u) (fun v _ _ h k => h.stays k) (f := ?_) (args := ?_) (by rfl) (by rfl) ?_ ?_ ?_
      rotate_left 2
      · intro w_ hS_ hG_;go_simp <;> first | with_reducible rfl | (constructor <;> with_reducible rfl)
      · intro w_ hS_ hG_;(go_at_call 68;obtain ⟨p',hp',hB',hO'⟩ := hG_.2;cases hp';refine (concat_any n (l.take k) [(z,y,false)] _ _ p w_ (HO.out w_ hS_) hO' hB'.lt (hB'.cell 0) (hB'.cell 1) (by have := bX.size;have := hS_.size;omega) hkl3 (by simp)).mono ?_;rintro e w' ⟨v,rfl,hb9,ho,_⟩;exact ⟨v,rfl,hb9,ho⟩)
      intro v3 u_ hv3
      simp only [Act.put,sA,sB,sC]
      repeat (first | (refine Rh.Steps.sk ?_;simp only [Act.put,sA,sB,sC]) | (refine Rh.Steps.pu (v := ?_) ?_ ?_;rotate_left;(intro w_ hS_;have hk_ := HF.out w_ hS_;go_simp <;> with_reducible rfl);simp only [Act.put,sA,sB,sC]))
      refine Rh.Steps.nil (by kernel_rfl) ?_
      intro w4 hS4 hG4
      have HG := lH hG4.2
      clear hG4
      go_wp2
      go_ret
      exact ⟨_,rfl,nx bX hS4,by rw [HR.out,HX.out,HY.out];exact HG.out⟩
    · have HR : Hid (reach l keep torn = l.take k) := lH hr
      clear hr
      go_enter Tryz.func40,Tryz.ntmps40
      go_wp2_with fail
      with_reducible refine (limit_is HK _).mono ?_
      rintro e w1 ⟨rfl,rfl⟩
      go_wp2
      go_ret
      exact ⟨_,rfl,Below.refl _ _,by rw [HR.out];exact HCUT.out⟩
  · obtain rfl : k = n1 := by omega
    have HR : Hid (reach l keep torn = l.take k) := lH (HRE2.out (by rw [HN.out];omega))
    go_enter Tryz.func40,Tryz.ntmps40
    go_wp2_with fail
    with_reducible refine (limit_is HK _).mono ?_
    rintro e w1 ⟨rfl,rfl⟩
    go_wp2
    go_ret
    exact ⟨_,rfl,Below.refl _ _,by rw [HR.out];exact HCUT.out⟩
theorem steps_two {P : Program} {ops : Array Oper} {Q : Exit → Act → World → Prop} {md : Region.Mode} {S G : World → Prop} {i j : Nat} {ord ord' : List Nat} {listed : Array Bool} {a : Act}
    (hr : Region.ready md ops listed = [i,j]) (hl : ord'.length = ord.length) (h : Rh.One P md ops Q S i ord listed a G) (k : Rh.One P md ops Q S j ord' listed a G) : Rh.Steps P md ops Q S (i :: ord) listed a G := fun hs hQ sS st =>
  ⟨fun e => absurd hr (by rw [e];exact fun x => by cases x),fun x hx => by
    rw [hr] at hx
    simp at hx
    rcases hx with rfl | rfl
    · exact h hs hQ sS st
    · have := k hs hQ sS st
      rw [hl] at this
      exact this⟩
theorem PostD.intro {n : Nat} {p q : Ds} {v : Value} {w w' : World} (H : Hid (p = q)) (hb : Below w.heap.size w w') (h : DV n q v w') : PostD n p w (.returned v) w' := by
  rw [H.out];exact ⟨v,rfl,hb,h⟩
set_option maxRecDepth 8000 in
set_option maxHeartbeats 8000000 in
theorem crash_any (n : Nat) (d : Ds) (v : Value) (keep torn : Int) (w : World) (h : DV n d v w) (hn : n ≤ w.heap.size) (hk : Ok 1000000 1000 d) :
    Calls Tryz.prog 16 #[v,.int .i64 keep,.int .i64 torn] w (PostD n (craP d keep torn) w) := by
  obtain ⟨o,rfl,hO,hc⟩ := h
  obtain ⟨a,b,l,c,f,dn⟩ := d
  simp only at hO ⊢
  obtain ⟨a1,c1,rfl⟩ := hO.len
  obtain ⟨n1,hn1⟩ : ∃ q,l.length = q := ⟨_,rfl⟩
  rw [hn1] at hO hc ⊢
  have HN := lH hn1
  obtain ⟨V,hV⟩ : ∃ Q_ : World,(w.alloc (.cells #[.string a,.string b,.slice a1 n1 c1,.int .i64 c,.int .i64 f,.bool dn] 27)).alloc (.cells #[.string ⟨#[]⟩,.string ⟨#[]⟩,.slice none 0 0,.int .i64 0,.int .i64 0,.bool false] 27) = Q_ := ⟨_,rfl⟩
  have bV : Below w.heap.size w V := hV ▸ below2 _ _ _
  obtain ⟨B0,B1⟩ : Bx V w.heap.size #[.string a,.string b,.slice a1 n1 c1,.int .i64 c,.int .i64 f,.bool dn] 27 ∧ Bx V (w.heap.size + 1) #[.string ⟨#[]⟩,.string ⟨#[]⟩,.slice none 0 0,.int .i64 0,.int .i64 0,.bool false] 27 := hV ▸ bx2 w _ _ _ _
  replace hO := hO.stays bV
  have HD : Hid (DV n ⟨a,b,l,c,f,dn⟩ (.agg (cD a b (.slice a1 n1 c1) c f dn)) V) := lH (DV.mk hO hc)
  have hnV : n ≤ V.heap.size := by have := bV.size;omega
  clear hn1
  have hl1 : l.length ≤ 1000 := hk.len
  have hw1 : a.size + b.size + wl l ≤ 1000000 := hk.wt
  obtain ⟨r,hr⟩ : ∃ q,reach l keep torn = q := ⟨_,rfl⟩
  have hrw : wl r ≤ wl l := hr ▸ reach_wt l keep torn
  have hrl : r.length ≤ l.length := hr ▸ reach_len l keep torn
  obtain ⟨⟨s1,s2⟩,hs⟩ : ∃ q,fin (a,b) r = q := ⟨_,rfl⟩
  have HR := lH hr
  have HSS := lH hs
  have HP : Hid (craP ⟨a,b,l,c,f,dn⟩ keep torn = ⟨s1,s2,[],c,-1,true⟩) := lH (by simp only [craP];rw [hr,hs])
  have HB0 := lH B0
  have HB1 := lH B1
  have HO := lH hO
  have HC := lH hc
  clear hk hr hs hO HD hc
  go_enter Tryz.func16,Tryz.ntmps16
  go_wp2
  refine Rh.rg (fun u => Below w.heap.size w u) (fun u => Below V.heap.size V u) (fun _ _ h k => nx h k) (fun _ _ h k => nx h k) (bV.drew) ((Below.refl _ _).drew) [0,2,4,5,1,3,6,7,8,9,10,11] ?_
  repeat (first | (refine Rh.Steps.sk ?_;simp only [Act.put,sA,sB,sC]) | (refine Rh.Steps.pu (v := ?_) ?_ ?_;rotate_left;(intro w_ hS_;skip;go_simp <;> with_reducible rfl);simp only [Act.put,sA,sB,sC]))
  refine steps_two (i := 1) (j := 3) (ord' := [1,6,7,8,9,10,11]) (by kernel_rfl) rfl ?_ ?_
  · refine Rh.One.val (fun v _ => v = .agg #[.string a,.string b]) (fun _ _ _ h _ => h) (by rfl) (by rfl) ?_ ?_
    · intro w_ hS_ hG_
      obtain ⟨_,_,_,⟨q0,q1,q2,_⟩,_⟩ := (HB0.out.stays hG_).d6
      refine ⟨_,_,?_,Below.refl _ _,rfl⟩
      go_simp
    intro v8 u8 hv8
    simp only [Act.put,sA,sB,sC]
    obtain rfl : v8 = .agg #[.string a,.string b] := hv8
    refine Rh.Steps.forced (i := 3) (by kernel_rfl) ?_
    refine Rh.One.val (fun v _ => v = .slice a1 n1 c1) (fun _ _ _ h _ => h) (by rfl) (by rfl) ?_ ?_
    · intro w_ hS_ hG_
      obtain ⟨_,_,_,⟨q0,q1,q2,_⟩,_⟩ := (HB0.out.stays hG_.1).d6
      refine ⟨_,_,?_,Below.refl _ _,rfl⟩
      go_simp
    intro v10 u10 hv10
    simp only [Act.put,sA,sB,sC]
    obtain rfl : v10 = .slice a1 n1 c1 := hv10
    refine Rh.Steps.forced (i := 6) (by kernel_rfl) ?_
    refine Rh.One.call (fun v u => OL n r v u) (fun v _ _ h k => h.stays k) (f := ?_) (args := ?_) (by rfl) (by rfl) ?_ ?_ ?_
    rotate_left 2
    · intro w_ hS_ hG_;go_simp <;> first | with_reducible rfl | (constructor <;> with_reducible rfl)
    · intro w_ hS_ hG_;(go_at_call 40;refine (reached_any n l _ keep torn w_ (HO.out.stays hG_.1.1) HC.out (by have := hS_.size;omega) (by omega)).mono ?_;rintro e w' ⟨v,rfl,hb9,ho⟩;rw [HR.out] at ho;exact ⟨v,rfl,hb9,ho⟩)
    intro v13 u_ hv13
    simp only [Act.put,sA,sB,sC]
    refine Rh.Steps.forced (i := 7) (by kernel_rfl) ?_
    refine Rh.One.call (fun v _ => v = .agg #[.string s1,.string s2]) (fun _ _ _ h _ => h) (f := ?_) (args := ?_) (by rfl) (by rfl) ?_ ?_ ?_
    rotate_left 2
    · intro w_ hS_ hG_;go_simp <;> first | with_reducible rfl | (constructor <;> with_reducible rfl)
    · intro w_ hS_ hG_;(go_at_call 39;refine (after_any n a b r _ w_ hG_.2 (by have := hS_.size;omega) (by omega) (by omega)).mono ?_;rintro e w' ⟨rfl,hb9⟩;rw [HSS.out];exact ⟨_,rfl,hb9,rfl⟩)
    intro v14 u_ hv14
    simp only [Act.put,sA,sB,sC]
    obtain rfl : v14 = .agg #[.string s1,.string s2] := hv14
    repeat (first | (refine Rh.Steps.sk ?_;simp only [Act.put,sA,sB,sC]) | (refine Rh.Steps.pu (v := ?_) ?_ ?_;rotate_left;(intro w_ hS_;skip;go_simp <;> with_reducible rfl);simp only [Act.put,sA,sB,sC]))
    refine Rh.Steps.forced (i := 9) (by kernel_rfl) ?_
    refine Rh.One.store (fun u => Below w.heap.size w u ∧ Bx u w.heap.size #[.string s1,.string s2,.slice a1 n1 c1,.int .i64 c,.int .i64 f,.bool dn] 27 ∧ Bx u (w.heap.size + 1) #[.string ⟨#[]⟩,.string ⟨#[]⟩,.slice none 0 0,.int .i64 0,.int .i64 0,.bool false] 27) (fun _ _ h k => ⟨nx h.1 k,h.2.1.stays k,h.2.2.stays k⟩) (by rfl) (by rfl) ?_ ?_
    · intro w_ hS_ hG_
      have C0 := HB0.out.stays hG_.1.1.1.1
      have C1 := HB1.out.stays hG_.1.1.1.1
      have D0 : Bx (w_.setCell ⟨w.heap.size,0,none⟩ (.string s1)) w.heap.size #[.string s1,.string b,.slice a1 n1 c1,.int .i64 c,.int .i64 f,.bool dn] 27 := C0.set 0 _
      have D1 := C1.set' (b' := w.heap.size) (by omega) 0 (.string s1)
      obtain ⟨_,_,_,⟨q0,q1,_⟩,f0,f1,_⟩ := C0.d6
      obtain ⟨_,_,_,⟨p0,p1,_⟩,g0,g1,_⟩ := D0.d6
      have hlow := (hS_.trans (low_setCell 0 (.string s1) (Nat.le_refl w.heap.size))).trans (low_setCell 1 (.string s2) (Nat.le_refl w.heap.size))
      refine ⟨_,?_,hlow,hlow,D0.set 1 _,D1.set' (by omega) 1 _⟩
      go_simp
    repeat (first | (refine Rh.Steps.sk ?_;simp only [Act.put,sA,sB,sC]) | (refine Rh.Steps.pu (v := ?_) ?_ ?_;rotate_left;(intro w_ hS_;skip;go_simp <;> with_reducible rfl);simp only [Act.put,sA,sB,sC]))
    refine Rh.Steps.forced (i := 11) (by kernel_rfl) ?_
    refine Rh.One.store (fun u => Below w.heap.size w u ∧ Bx u w.heap.size #[.string s1,.string s2,.slice none 0 0,.int .i64 c,.int .i64 f,.bool dn] 27 ∧ Bx u (w.heap.size + 1) #[.string ⟨#[]⟩,.string ⟨#[]⟩,.slice none 0 0,.int .i64 0,.int .i64 0,.bool false] 27) (fun _ _ h k => ⟨nx h.1 k,h.2.1.stays k,h.2.2.stays k⟩) (by rfl) (by rfl) ?_ ?_
    · intro w_ hS_ hG_
      obtain ⟨_,_,_,⟨_,_,q2,_⟩,_,_,f2,_⟩ := hG_.2.1.d6
      have hlow := hG_.1.trans (low_setCell 2 (.slice none 0 0) (Nat.le_refl w.heap.size))
      refine ⟨_,?_,hlow,hlow,hG_.2.1.set 2 _,hG_.2.2.set' (by omega) 2 _⟩
      go_simp
    refine Rh.Steps.nil (by kernel_rfl) ?_
    intro u hS hG
    obtain ⟨bu,E0,E1⟩ := hG
    obtain ⟨q1l,q1r,q1p,⟨q1c0,q1c1,q1c2,q1c3,q1c4,q1c5⟩,⟨q1f0,q1f1,q1f2,q1f3,q1f4,q1f5⟩⟩ := E0.d6
    obtain ⟨X1,hX1⟩ : ∃ Q_ : World,u.setCell ⟨w.heap.size,4,none⟩ (.int .i64 (-1)) = Q_ := ⟨_,rfl⟩
    have bX1 : Below w.heap.size w X1 := hX1 ▸ (bu).trans (low_setCell _ _ (by omega))
    replace E1 : Bx X1 (w.heap.size + 1) #[.string ⟨#[]⟩,.string ⟨#[]⟩,.slice none 0 0,.int .i64 0,.int .i64 0,.bool false] 27 := hX1 ▸ E1.set' (by omega) _ _
    replace E0 : Bx X1 (w.heap.size) #[.string s1,.string s2,.slice none 0 0,.int .i64 c,.int .i64 (-1),.bool dn] 27 := hX1 ▸ (show Bx (u.setCell ⟨w.heap.size,4,none⟩ (.int .i64 (-1))) (w.heap.size) #[.string s1,.string s2,.slice none 0 0,.int .i64 c,.int .i64 (-1),.bool dn] 27 from E0.set 4 (.int .i64 (-1)))
    obtain ⟨q2l,q2r,q2p,⟨q2c0,q2c1,q2c2,q2c3,q2c4,q2c5⟩,⟨q2f0,q2f1,q2f2,q2f3,q2f4,q2f5⟩⟩ := E0.d6
    obtain ⟨X2,hX2⟩ : ∃ Q_ : World,X1.setCell ⟨w.heap.size,5,none⟩ (.bool true) = Q_ := ⟨_,rfl⟩
    have bX2 : Below w.heap.size w X2 := hX2 ▸ (bX1).trans (low_setCell _ _ (by omega))
    replace E1 : Bx X2 (w.heap.size + 1) #[.string ⟨#[]⟩,.string ⟨#[]⟩,.slice none 0 0,.int .i64 0,.int .i64 0,.bool false] 27 := hX2 ▸ E1.set' (by omega) _ _
    replace E0 : Bx X2 (w.heap.size) #[.string s1,.string s2,.slice none 0 0,.int .i64 c,.int .i64 (-1),.bool true] 27 := hX2 ▸ (show Bx (X1.setCell ⟨w.heap.size,5,none⟩ (.bool true)) (w.heap.size) #[.string s1,.string s2,.slice none 0 0,.int .i64 c,.int .i64 (-1),.bool true] 27 from E0.set 5 (.bool true))
    obtain ⟨q3l,q3r,q3p,⟨q3c0,q3c1,q3c2,q3c3,q3c4,q3c5⟩,⟨q3f0,q3f1,q3f2,q3f3,q3f4,q3f5⟩⟩ := E0.d6
    obtain ⟨q4l,q4r,q4p,⟨q4c0,q4c1,q4c2,q4c3,q4c4,q4c5⟩,⟨q4f0,q4f1,q4f2,q4f3,q4f4,q4f5⟩⟩ := E1.d6
    obtain ⟨X3,hX3⟩ : ∃ Q_ : World,X2.setRow (w.heap.size + 1) #[.string s1,.string s2,.slice none 0 0,.int .i64 c,.int .i64 (-1),.bool true] = Q_ := ⟨_,rfl⟩
    have bX3 : Below w.heap.size w X3 := hX3 ▸ (bX2).trans (low_setRow _ (by omega))
    replace E0 : Bx X3 (w.heap.size) #[.string s1,.string s2,.slice none 0 0,.int .i64 c,.int .i64 (-1),.bool true] 27 := hX3 ▸ E0.put' (by omega) _
    replace E1 : Bx X3 (w.heap.size + 1) #[.string s1,.string s2,.slice none 0 0,.int .i64 c,.int .i64 (-1),.bool true] 27 := hX3 ▸ E1.put _
    obtain ⟨q5l,q5r,q5p,⟨q5c0,q5c1,q5c2,q5c3,q5c4,q5c5⟩,⟨q5f0,q5f1,q5f2,q5f3,q5f4,q5f5⟩⟩ := E1.d6
    go_wp2
    refine bodyPost_ret (v := .agg (cD s1 s2 (.slice none 0 0) c (-1) true)) (ret_D1 Tryz.results16 _ _ rfl ?_) rfl (PostD.intro HP bX3 (DV.mk (Is.nil _ _ _ _) (Nat.le_refl 0)))
    simp [go_sem, *]
  · refine Rh.One.val (fun v _ => v = .slice a1 n1 c1) (fun _ _ _ h _ => h) (by rfl) (by rfl) ?_ ?_
    · intro w_ hS_ hG_
      obtain ⟨_,_,_,⟨q0,q1,q2,_⟩,_⟩ := (HB0.out.stays hG_).d6
      refine ⟨_,_,?_,Below.refl _ _,rfl⟩
      go_simp
    intro v10 u10 hv10
    simp only [Act.put,sA,sB,sC]
    obtain rfl : v10 = .slice a1 n1 c1 := hv10
    refine steps_two (i := 1) (j := 6) (ord' := [1,7,8,9,10,11]) (by kernel_rfl) rfl ?_ ?_
    · refine Rh.One.val (fun v _ => v = .agg #[.string a,.string b]) (fun _ _ _ h _ => h) (by rfl) (by rfl) ?_ ?_
      · intro w_ hS_ hG_
        obtain ⟨_,_,_,⟨q0,q1,q2,_⟩,_⟩ := (HB0.out.stays hG_.1).d6
        refine ⟨_,_,?_,Below.refl _ _,rfl⟩
        go_simp
      intro v8 u8 hv8
      simp only [Act.put,sA,sB,sC]
      obtain rfl : v8 = .agg #[.string a,.string b] := hv8
      refine Rh.Steps.forced (i := 6) (by kernel_rfl) ?_
      refine Rh.One.call (fun v u => OL n r v u) (fun v _ _ h k => h.stays k) (f := ?_) (args := ?_) (by rfl) (by rfl) ?_ ?_ ?_
      rotate_left 2
      · intro w_ hS_ hG_;go_simp <;> first | with_reducible rfl | (constructor <;> with_reducible rfl)
      · intro w_ hS_ hG_;(go_at_call 40;refine (reached_any n l _ keep torn w_ (HO.out.stays hG_.1.1) HC.out (by have := hS_.size;omega) (by omega)).mono ?_;rintro e w' ⟨v,rfl,hb9,ho⟩;rw [HR.out] at ho;exact ⟨v,rfl,hb9,ho⟩)
      intro v13 u_ hv13
      simp only [Act.put,sA,sB,sC]
      refine Rh.Steps.forced (i := 7) (by kernel_rfl) ?_
      refine Rh.One.call (fun v _ => v = .agg #[.string s1,.string s2]) (fun _ _ _ h _ => h) (f := ?_) (args := ?_) (by rfl) (by rfl) ?_ ?_ ?_
      rotate_left 2
      · intro w_ hS_ hG_;go_simp <;> first | with_reducible rfl | (constructor <;> with_reducible rfl)
      · intro w_ hS_ hG_;(go_at_call 39;refine (after_any n a b r _ w_ hG_.2 (by have := hS_.size;omega) (by omega) (by omega)).mono ?_;rintro e w' ⟨rfl,hb9⟩;rw [HSS.out];exact ⟨_,rfl,hb9,rfl⟩)
      intro v14 u_ hv14
      simp only [Act.put,sA,sB,sC]
      obtain rfl : v14 = .agg #[.string s1,.string s2] := hv14
      repeat (first | (refine Rh.Steps.sk ?_;simp only [Act.put,sA,sB,sC]) | (refine Rh.Steps.pu (v := ?_) ?_ ?_;rotate_left;(intro w_ hS_;skip;go_simp <;> with_reducible rfl);simp only [Act.put,sA,sB,sC]))
      refine Rh.Steps.forced (i := 9) (by kernel_rfl) ?_
      refine Rh.One.store (fun u => Below w.heap.size w u ∧ Bx u w.heap.size #[.string s1,.string s2,.slice a1 n1 c1,.int .i64 c,.int .i64 f,.bool dn] 27 ∧ Bx u (w.heap.size + 1) #[.string ⟨#[]⟩,.string ⟨#[]⟩,.slice none 0 0,.int .i64 0,.int .i64 0,.bool false] 27) (fun _ _ h k => ⟨nx h.1 k,h.2.1.stays k,h.2.2.stays k⟩) (by rfl) (by rfl) ?_ ?_
      · intro w_ hS_ hG_
        have C0 := HB0.out.stays hG_.1.1.1.1
        have C1 := HB1.out.stays hG_.1.1.1.1
        have D0 : Bx (w_.setCell ⟨w.heap.size,0,none⟩ (.string s1)) w.heap.size #[.string s1,.string b,.slice a1 n1 c1,.int .i64 c,.int .i64 f,.bool dn] 27 := C0.set 0 _
        have D1 := C1.set' (b' := w.heap.size) (by omega) 0 (.string s1)
        obtain ⟨_,_,_,⟨q0,q1,_⟩,f0,f1,_⟩ := C0.d6
        obtain ⟨_,_,_,⟨p0,p1,_⟩,g0,g1,_⟩ := D0.d6
        have hlow := (hS_.trans (low_setCell 0 (.string s1) (Nat.le_refl w.heap.size))).trans (low_setCell 1 (.string s2) (Nat.le_refl w.heap.size))
        refine ⟨_,?_,hlow,hlow,D0.set 1 _,D1.set' (by omega) 1 _⟩
        go_simp
      repeat (first | (refine Rh.Steps.sk ?_;simp only [Act.put,sA,sB,sC]) | (refine Rh.Steps.pu (v := ?_) ?_ ?_;rotate_left;(intro w_ hS_;skip;go_simp <;> with_reducible rfl);simp only [Act.put,sA,sB,sC]))
      refine Rh.Steps.forced (i := 11) (by kernel_rfl) ?_
      refine Rh.One.store (fun u => Below w.heap.size w u ∧ Bx u w.heap.size #[.string s1,.string s2,.slice none 0 0,.int .i64 c,.int .i64 f,.bool dn] 27 ∧ Bx u (w.heap.size + 1) #[.string ⟨#[]⟩,.string ⟨#[]⟩,.slice none 0 0,.int .i64 0,.int .i64 0,.bool false] 27) (fun _ _ h k => ⟨nx h.1 k,h.2.1.stays k,h.2.2.stays k⟩) (by rfl) (by rfl) ?_ ?_
      · intro w_ hS_ hG_
        obtain ⟨_,_,_,⟨_,_,q2,_⟩,_,_,f2,_⟩ := hG_.2.1.d6
        have hlow := hG_.1.trans (low_setCell 2 (.slice none 0 0) (Nat.le_refl w.heap.size))
        refine ⟨_,?_,hlow,hlow,hG_.2.1.set 2 _,hG_.2.2.set' (by omega) 2 _⟩
        go_simp
      refine Rh.Steps.nil (by kernel_rfl) ?_
      intro u hS hG
      obtain ⟨bu,E0,E1⟩ := hG
      obtain ⟨q1l,q1r,q1p,⟨q1c0,q1c1,q1c2,q1c3,q1c4,q1c5⟩,⟨q1f0,q1f1,q1f2,q1f3,q1f4,q1f5⟩⟩ := E0.d6
      obtain ⟨X1,hX1⟩ : ∃ Q_ : World,u.setCell ⟨w.heap.size,4,none⟩ (.int .i64 (-1)) = Q_ := ⟨_,rfl⟩
      have bX1 : Below w.heap.size w X1 := hX1 ▸ (bu).trans (low_setCell _ _ (by omega))
      replace E1 : Bx X1 (w.heap.size + 1) #[.string ⟨#[]⟩,.string ⟨#[]⟩,.slice none 0 0,.int .i64 0,.int .i64 0,.bool false] 27 := hX1 ▸ E1.set' (by omega) _ _
      replace E0 : Bx X1 (w.heap.size) #[.string s1,.string s2,.slice none 0 0,.int .i64 c,.int .i64 (-1),.bool dn] 27 := hX1 ▸ (show Bx (u.setCell ⟨w.heap.size,4,none⟩ (.int .i64 (-1))) (w.heap.size) #[.string s1,.string s2,.slice none 0 0,.int .i64 c,.int .i64 (-1),.bool dn] 27 from E0.set 4 (.int .i64 (-1)))
      obtain ⟨q2l,q2r,q2p,⟨q2c0,q2c1,q2c2,q2c3,q2c4,q2c5⟩,⟨q2f0,q2f1,q2f2,q2f3,q2f4,q2f5⟩⟩ := E0.d6
      obtain ⟨X2,hX2⟩ : ∃ Q_ : World,X1.setCell ⟨w.heap.size,5,none⟩ (.bool true) = Q_ := ⟨_,rfl⟩
      have bX2 : Below w.heap.size w X2 := hX2 ▸ (bX1).trans (low_setCell _ _ (by omega))
      replace E1 : Bx X2 (w.heap.size + 1) #[.string ⟨#[]⟩,.string ⟨#[]⟩,.slice none 0 0,.int .i64 0,.int .i64 0,.bool false] 27 := hX2 ▸ E1.set' (by omega) _ _
      replace E0 : Bx X2 (w.heap.size) #[.string s1,.string s2,.slice none 0 0,.int .i64 c,.int .i64 (-1),.bool true] 27 := hX2 ▸ (show Bx (X1.setCell ⟨w.heap.size,5,none⟩ (.bool true)) (w.heap.size) #[.string s1,.string s2,.slice none 0 0,.int .i64 c,.int .i64 (-1),.bool true] 27 from E0.set 5 (.bool true))
      obtain ⟨q3l,q3r,q3p,⟨q3c0,q3c1,q3c2,q3c3,q3c4,q3c5⟩,⟨q3f0,q3f1,q3f2,q3f3,q3f4,q3f5⟩⟩ := E0.d6
      obtain ⟨q4l,q4r,q4p,⟨q4c0,q4c1,q4c2,q4c3,q4c4,q4c5⟩,⟨q4f0,q4f1,q4f2,q4f3,q4f4,q4f5⟩⟩ := E1.d6
      obtain ⟨X3,hX3⟩ : ∃ Q_ : World,X2.setRow (w.heap.size + 1) #[.string s1,.string s2,.slice none 0 0,.int .i64 c,.int .i64 (-1),.bool true] = Q_ := ⟨_,rfl⟩
      have bX3 : Below w.heap.size w X3 := hX3 ▸ (bX2).trans (low_setRow _ (by omega))
      replace E0 : Bx X3 (w.heap.size) #[.string s1,.string s2,.slice none 0 0,.int .i64 c,.int .i64 (-1),.bool true] 27 := hX3 ▸ E0.put' (by omega) _
      replace E1 : Bx X3 (w.heap.size + 1) #[.string s1,.string s2,.slice none 0 0,.int .i64 c,.int .i64 (-1),.bool true] 27 := hX3 ▸ E1.put _
      obtain ⟨q5l,q5r,q5p,⟨q5c0,q5c1,q5c2,q5c3,q5c4,q5c5⟩,⟨q5f0,q5f1,q5f2,q5f3,q5f4,q5f5⟩⟩ := E1.d6
      go_wp2
      refine bodyPost_ret (v := .agg (cD s1 s2 (.slice none 0 0) c (-1) true)) (ret_D1 Tryz.results16 _ _ rfl ?_) rfl (PostD.intro HP bX3 (DV.mk (Is.nil _ _ _ _) (Nat.le_refl 0)))
      simp [go_sem, *]
    · refine Rh.One.call (fun v u => OL n r v u) (fun v _ _ h k => h.stays k) (f := ?_) (args := ?_) (by rfl) (by rfl) ?_ ?_ ?_
      rotate_left 2
      · intro w_ hS_ hG_;go_simp <;> first | with_reducible rfl | (constructor <;> with_reducible rfl)
      · intro w_ hS_ hG_;(go_at_call 40;refine (reached_any n l _ keep torn w_ (HO.out.stays hG_.1) HC.out (by have := hS_.size;omega) (by omega)).mono ?_;rintro e w' ⟨v,rfl,hb9,ho⟩;rw [HR.out] at ho;exact ⟨v,rfl,hb9,ho⟩)
      intro v13 u_ hv13
      simp only [Act.put,sA,sB,sC]
      refine Rh.Steps.forced (i := 1) (by kernel_rfl) ?_
      refine Rh.One.val (fun v _ => v = .agg #[.string a,.string b]) (fun _ _ _ h _ => h) (by rfl) (by rfl) ?_ ?_
      · intro w_ hS_ hG_
        obtain ⟨_,_,_,⟨q0,q1,q2,_⟩,_⟩ := (HB0.out.stays hG_.1.1).d6
        refine ⟨_,_,?_,Below.refl _ _,rfl⟩
        go_simp
      intro v8 u8 hv8
      simp only [Act.put,sA,sB,sC]
      obtain rfl : v8 = .agg #[.string a,.string b] := hv8
      refine Rh.Steps.forced (i := 7) (by kernel_rfl) ?_
      refine Rh.One.call (fun v _ => v = .agg #[.string s1,.string s2]) (fun _ _ _ h _ => h) (f := ?_) (args := ?_) (by rfl) (by rfl) ?_ ?_ ?_
      rotate_left 2
      · intro w_ hS_ hG_;go_simp <;> first | with_reducible rfl | (constructor <;> with_reducible rfl)
      · intro w_ hS_ hG_;(go_at_call 39;refine (after_any n a b r _ w_ hG_.1.2 (by have := hS_.size;omega) (by omega) (by omega)).mono ?_;rintro e w' ⟨rfl,hb9⟩;rw [HSS.out];exact ⟨_,rfl,hb9,rfl⟩)
      intro v14 u_ hv14
      simp only [Act.put,sA,sB,sC]
      obtain rfl : v14 = .agg #[.string s1,.string s2] := hv14
      repeat (first | (refine Rh.Steps.sk ?_;simp only [Act.put,sA,sB,sC]) | (refine Rh.Steps.pu (v := ?_) ?_ ?_;rotate_left;(intro w_ hS_;skip;go_simp <;> with_reducible rfl);simp only [Act.put,sA,sB,sC]))
      refine Rh.Steps.forced (i := 9) (by kernel_rfl) ?_
      refine Rh.One.store (fun u => Below w.heap.size w u ∧ Bx u w.heap.size #[.string s1,.string s2,.slice a1 n1 c1,.int .i64 c,.int .i64 f,.bool dn] 27 ∧ Bx u (w.heap.size + 1) #[.string ⟨#[]⟩,.string ⟨#[]⟩,.slice none 0 0,.int .i64 0,.int .i64 0,.bool false] 27) (fun _ _ h k => ⟨nx h.1 k,h.2.1.stays k,h.2.2.stays k⟩) (by rfl) (by rfl) ?_ ?_
      · intro w_ hS_ hG_
        have C0 := HB0.out.stays hG_.1.1.1.1
        have C1 := HB1.out.stays hG_.1.1.1.1
        have D0 : Bx (w_.setCell ⟨w.heap.size,0,none⟩ (.string s1)) w.heap.size #[.string s1,.string b,.slice a1 n1 c1,.int .i64 c,.int .i64 f,.bool dn] 27 := C0.set 0 _
        have D1 := C1.set' (b' := w.heap.size) (by omega) 0 (.string s1)
        obtain ⟨_,_,_,⟨q0,q1,_⟩,f0,f1,_⟩ := C0.d6
        obtain ⟨_,_,_,⟨p0,p1,_⟩,g0,g1,_⟩ := D0.d6
        have hlow := (hS_.trans (low_setCell 0 (.string s1) (Nat.le_refl w.heap.size))).trans (low_setCell 1 (.string s2) (Nat.le_refl w.heap.size))
        refine ⟨_,?_,hlow,hlow,D0.set 1 _,D1.set' (by omega) 1 _⟩
        go_simp
      repeat (first | (refine Rh.Steps.sk ?_;simp only [Act.put,sA,sB,sC]) | (refine Rh.Steps.pu (v := ?_) ?_ ?_;rotate_left;(intro w_ hS_;skip;go_simp <;> with_reducible rfl);simp only [Act.put,sA,sB,sC]))
      refine Rh.Steps.forced (i := 11) (by kernel_rfl) ?_
      refine Rh.One.store (fun u => Below w.heap.size w u ∧ Bx u w.heap.size #[.string s1,.string s2,.slice none 0 0,.int .i64 c,.int .i64 f,.bool dn] 27 ∧ Bx u (w.heap.size + 1) #[.string ⟨#[]⟩,.string ⟨#[]⟩,.slice none 0 0,.int .i64 0,.int .i64 0,.bool false] 27) (fun _ _ h k => ⟨nx h.1 k,h.2.1.stays k,h.2.2.stays k⟩) (by rfl) (by rfl) ?_ ?_
      · intro w_ hS_ hG_
        obtain ⟨_,_,_,⟨_,_,q2,_⟩,_,_,f2,_⟩ := hG_.2.1.d6
        have hlow := hG_.1.trans (low_setCell 2 (.slice none 0 0) (Nat.le_refl w.heap.size))
        refine ⟨_,?_,hlow,hlow,hG_.2.1.set 2 _,hG_.2.2.set' (by omega) 2 _⟩
        go_simp
      refine Rh.Steps.nil (by kernel_rfl) ?_
      intro u hS hG
      obtain ⟨bu,E0,E1⟩ := hG
      obtain ⟨q1l,q1r,q1p,⟨q1c0,q1c1,q1c2,q1c3,q1c4,q1c5⟩,⟨q1f0,q1f1,q1f2,q1f3,q1f4,q1f5⟩⟩ := E0.d6
      obtain ⟨X1,hX1⟩ : ∃ Q_ : World,u.setCell ⟨w.heap.size,4,none⟩ (.int .i64 (-1)) = Q_ := ⟨_,rfl⟩
      have bX1 : Below w.heap.size w X1 := hX1 ▸ (bu).trans (low_setCell _ _ (by omega))
      replace E1 : Bx X1 (w.heap.size + 1) #[.string ⟨#[]⟩,.string ⟨#[]⟩,.slice none 0 0,.int .i64 0,.int .i64 0,.bool false] 27 := hX1 ▸ E1.set' (by omega) _ _
      replace E0 : Bx X1 (w.heap.size) #[.string s1,.string s2,.slice none 0 0,.int .i64 c,.int .i64 (-1),.bool dn] 27 := hX1 ▸ (show Bx (u.setCell ⟨w.heap.size,4,none⟩ (.int .i64 (-1))) (w.heap.size) #[.string s1,.string s2,.slice none 0 0,.int .i64 c,.int .i64 (-1),.bool dn] 27 from E0.set 4 (.int .i64 (-1)))
      obtain ⟨q2l,q2r,q2p,⟨q2c0,q2c1,q2c2,q2c3,q2c4,q2c5⟩,⟨q2f0,q2f1,q2f2,q2f3,q2f4,q2f5⟩⟩ := E0.d6
      obtain ⟨X2,hX2⟩ : ∃ Q_ : World,X1.setCell ⟨w.heap.size,5,none⟩ (.bool true) = Q_ := ⟨_,rfl⟩
      have bX2 : Below w.heap.size w X2 := hX2 ▸ (bX1).trans (low_setCell _ _ (by omega))
      replace E1 : Bx X2 (w.heap.size + 1) #[.string ⟨#[]⟩,.string ⟨#[]⟩,.slice none 0 0,.int .i64 0,.int .i64 0,.bool false] 27 := hX2 ▸ E1.set' (by omega) _ _
      replace E0 : Bx X2 (w.heap.size) #[.string s1,.string s2,.slice none 0 0,.int .i64 c,.int .i64 (-1),.bool true] 27 := hX2 ▸ (show Bx (X1.setCell ⟨w.heap.size,5,none⟩ (.bool true)) (w.heap.size) #[.string s1,.string s2,.slice none 0 0,.int .i64 c,.int .i64 (-1),.bool true] 27 from E0.set 5 (.bool true))
      obtain ⟨q3l,q3r,q3p,⟨q3c0,q3c1,q3c2,q3c3,q3c4,q3c5⟩,⟨q3f0,q3f1,q3f2,q3f3,q3f4,q3f5⟩⟩ := E0.d6
      obtain ⟨q4l,q4r,q4p,⟨q4c0,q4c1,q4c2,q4c3,q4c4,q4c5⟩,⟨q4f0,q4f1,q4f2,q4f3,q4f4,q4f5⟩⟩ := E1.d6
      obtain ⟨X3,hX3⟩ : ∃ Q_ : World,X2.setRow (w.heap.size + 1) #[.string s1,.string s2,.slice none 0 0,.int .i64 c,.int .i64 (-1),.bool true] = Q_ := ⟨_,rfl⟩
      have bX3 : Below w.heap.size w X3 := hX3 ▸ (bX2).trans (low_setRow _ (by omega))
      replace E0 : Bx X3 (w.heap.size) #[.string s1,.string s2,.slice none 0 0,.int .i64 c,.int .i64 (-1),.bool true] 27 := hX3 ▸ E0.put' (by omega) _
      replace E1 : Bx X3 (w.heap.size + 1) #[.string s1,.string s2,.slice none 0 0,.int .i64 c,.int .i64 (-1),.bool true] 27 := hX3 ▸ E1.put _
      obtain ⟨q5l,q5r,q5p,⟨q5c0,q5c1,q5c2,q5c3,q5c4,q5c5⟩,⟨q5f0,q5f1,q5f2,q5f3,q5f4,q5f5⟩⟩ := E1.d6
      go_wp2
      refine bodyPost_ret (v := .agg (cD s1 s2 (.slice none 0 0) c (-1) true)) (ret_D1 Tryz.results16 _ _ rfl ?_) rfl (PostD.intro HP bX3 (DV.mk (Is.nil _ _ _ _) (Nat.le_refl 0)))
      simp [go_sem, *]
end Go.Proofs.YtnnbjhpkgndclaaGreatDoor.Dk
