/- Lists of texts in memory. -/
import Derived.Test.YtnnbjhpkgndclaaGreatDoorQsZZ
import Derived.Test.YtnnbjhpkgndclaaGreatDoorRows
import Derived.Test.YtnnbjhpkgndclaaGreatDoorQsAF
import Derived.Test.YtnnbjhpkgndclaaGreatDoorQsAT
import Derived.Test.YtnnbjhpkgndclaaGreatDoorQsAG
import Derived.Lib.Hide
import Derived.Deep.QuietTactic
import Derived.StillTailTactics
import Derived.Laws.EntriesVeiled
import Derived.Test.YtnnbjhpkgndclaaGreatDoorQsBB
set_option linter.unusedVariables false
namespace Go.Proofs.YtnnbjhpkgndclaaGreatDoor.Wa
open Go.RowKit
open Go.Proofs.YtnnbjhpkgndclaaGreatDoor.Rw
open Go.Proofs.YtnnbjhpkgndclaaGreatDoor.Da
open Go.Proofs.YtnnbjhpkgndclaaGreatDoor.Cr
def cellsT (s : ByteArray) : List Value := [.string s]
def eT : Enc ByteArray := Enc.flat 1 cellsT (fun _ => rfl) (fun s u hu => by simp [cellsT] at hu;subst hu;rfl)
abbrev TL (n : Nat) (l : List ByteArray) (v : Value) (w : World) : Prop := Is eT 9 (Bs.of n) l v w
abbrev OwnT (n Bo : Nat) (l : List ByteArray) (v : Value) (w : World) : Prop := Own eT 9 (Bs.of n) Bo l v w
theorem typesT : 9 ∉ eT.ts := by decide
theorem infoT : (Tryz.prog.info? 9).map (fun i => (i.zero,i.size,i.bytes)) = some (some (.string ⟨#[]⟩),1,16) := by kernel_rfl
theorem elemT : Elem Tryz.prog 75 9 eT.k 16 := elem_of Tryz.underlying75 infoT rfl (by decide)
theorem at1 {n : Nat} {l : List ByteArray} {b off : Nat} {w : World} (h : Lies eT 9 (Bs.of n) l b off w) (i : Nat) (hi : i < l.length) :
    w.cell? ⟨b,off + i,none⟩ = some (.string l[i]) := by
  obtain ⟨cs,rfl,hu⟩ := h.at i hi
  have := hu 0 _ rfl
  rwa [show eT.k = 1 from rfl,Nat.mul_one,Nat.add_zero] at this
theorem TL.stays {n : Nat} {l : List ByteArray} {v : Value} {w w' : World} (h : TL n l v w) (k : Below w.heap.size w w') : TL n l v w' := Is.stays eT 9 h k
theorem OwnT.tl {n Bo : Nat} {l : List ByteArray} {v : Value} {w : World} (h : OwnT n Bo l v w) (hn : n ≤ Bo) : TL n l v w := h.is (by decide) ⟨hn,fun _ h => h.elim⟩
theorem app_one {n Bo : Nat} {l : List ByteArray} {v : Value} {w : World} (h : OwnT n Bo l v w) (hn : n ≤ Bo) (hB : Bo ≤ w.heap.size) (x : ByteArray) (hl : l.length ≤ 100000000) :
    ∃ v' w',appRun Tryz.prog 75 75 v (.slice (some ⟨w.heap.size,0,none⟩) 1 1) (w.alloc (.cells #[.string x] 9)) = .ok v' w' ∧ OwnT n Bo (l ++ [x]) v' w' ∧ ∀ m w0,m ≤ Bo → Below m w0 w → Below m w0 w' := by
  have hb := below1 w (.cells #[.string x] 9)
  obtain ⟨v',w',h1,h2,_,h3,_⟩ := Own.append elemT 75 typesT (B := Bs.of n) ⟨hn,fun _ h => h.elim⟩ (Nat.le_trans hB hb.size) (Own.stays h hb) (Is.one (e := eT) (T := 9) (B := Bs.of n) (x := x) (cs := [.string x]) (w := w) ⟨Nat.le_trans hn hB,fun _ h => h.elim⟩ rfl) (by simp only [List.length_singleton];omega) (by decide)
  exact ⟨v',w',h1,h2,fun m w0 hm hk => h3 m w0 hm (hk.trans (hb.mono (Nat.le_trans hm hB)))⟩
theorem rOpen_is {s : ByteArray} {a : Int} {x : ByteArray} {y z : Int} (H : Hid (openS s a = x ∧ openA s a = y ∧ openE s a = z)) (hs : Hid (s.size ≤ 1000000)) (w : World) :
    Calls Tryz.prog 102 #[.string s,.int .i64 a] w fun e w' => e = .returned (.tuple #[.string x,.int .i64 y,.int .i64 z]) ∧ Below w.heap.size w w' := by
  obtain ⟨rfl,rfl,rfl⟩ := H.out
  exact rOpen_any s a (Nat.le_trans hs.out (by decide)) w
theorem open_no {s : ByteArray} {a : Int} {z : Int} (h : openE s a = z) (hz : z ≠ 0) : openS s a = ByteArray.empty ∧ openA s a = 0 ∧ openE s a = z := by
  unfold openS openA;rw [h,if_neg hz,if_neg hz];exact ⟨rfl,rfl,rfl⟩
def ScP (q : Nat) (r : List ByteArray × Nat) (w : World) (e : Ending) (w' : World) : Prop :=
  ∃ v,e = .returned (.tuple #[v,.int .i64 (r.2 : Nat)]) ∧ Below w.heap.size w w' ∧ OwnT q w.heap.size r.1 v w'
set_option maxRecDepth 8000 in
set_option maxHeartbeats 2000000 in
theorem rScan_any (q : Nat) (s : ByteArray) (hs : s.size ≤ 1000000) (w : World) (hq : q ≤ w.heap.size) :
    Calls Tryz.prog 74 #[.string s] w (ScP q (scan s) w) := by
  have HS := lH hs
  have HF : Hid (∀ l a,Sc s 0 l a → Stop s a → scan s = (l,a)) := lH fun l a h k => scan_is ⟨h,k⟩
  go_enter Tryz.func74,Tryz.ntmps74
  go_wp2
  go_loopw [4,5] (fun t i wr => ∃ (a : Nat) (l : List ByteArray),i = .int .i64 a ∧ a ≤ s.size ∧ Sc s 0 l a ∧ OwnT q w.heap.size l t wr ∧ Below w.heap.size w wr) (fun _ i _ => s.size - (intOf i).toNat)
  case atStart => exact ⟨0,[],rfl,Nat.zero_le _,.nil _,Own.nil _ _ _,Below.refl _ _⟩
  case round =>
    obtain ⟨a,l,rfl,ha,hsc,hown,hb⟩ := hrel
    have HSc := lH hsc
    have HOw := lH hown
    have hll : l.length ≤ 100000000 := by have := hsc.many (Nat.zero_le _);omega
    clear hsc hown
    by_cases h1 : a < s.size
    · have h1' : (a : Int) < s.size := by omega
      by_cases h0 : openE s a = 0
      · obtain ⟨b,hA,hb6,hbs,-,-⟩ := next h0
        obtain ⟨x,hx⟩ : ∃ x,openS s a = x := ⟨_,rfl⟩
        have HO := lH (⟨hx,hA,h0⟩ : openS s a = x ∧ openA s a = (b : Nat) ∧ openE s a = 0)
        have HN : Hid (Sc s 0 (l ++ [x]) b) := lH (by rw [← hx];exact HSc.out.snoc h1 h0 hA)
        clear h0 hA hx
        go_wp2_with fail
        refine (rOpen_is HO HS _).mono ?_
        rintro e w1 ⟨rfl,hb1⟩
        have bw1 := nx hb hb1
        obtain ⟨v2,w2,hrun,hown2,hbl⟩ := app_one (HOw.out.stays hb1) hq bw1.size x hll
        have HOw2 := lH hown2
        have bw2 := hbl _ w (Nat.le_refl _) bw1
        clear hown2 hbl
        go_wp2
        go_roundw
        case rel => exact ⟨b,l ++ [x],rfl,hbs,HN.out,HOw2.out,bw2⟩
        case measure => simp [intOf];omega
      · obtain ⟨z,hz⟩ : ∃ z,openE s a = z := ⟨_,rfl⟩
        rw [hz] at h0
        have HO := lH (open_no hz h0)
        have z1 : (z != 0) = true := by simpa using h0
        have z2 : (z == 0) = false := by simpa using h0
        have HE : Hid (scan s = (l,a)) := lH (HF.out _ _ HSc.out fun h => h0 (hz.symm.trans h.2))
        clear h0 hz
        go_wp2_with fail
        refine (rOpen_is HO HS _).mono ?_
        rintro e w1 ⟨rfl,hb1⟩
        go_wp2
        go_ret2
        exact ⟨_,by rw [HE.out];rfl,nx hb hb1,by rw [HE.out];exact HOw.out.stays hb1⟩
    · obtain rfl : a = s.size := by omega
      have HE : Hid (scan s = (l,s.size)) := lH (HF.out _ _ HSc.out (stop_end s))
      go_wp2
      go_ret2
      exact ⟨_,by rw [HE.out];rfl,hb,by rw [HE.out];exact HOw.out⟩
theorem rFrame_yes {s x : ByteArray} (H : Hid (frm s = x)) (hs : s.size ≤ 2000) (w : World) :
    Calls Tryz.prog 61 #[.string s] w fun e w' => e = .returned (.tuple #[.string x,.int .i64 0]) ∧ Below w.heap.size w w' := by
  have h := rFrame_any s (Nat.le_trans hs (by decide)) w
  have e : frameV s = .tuple #[.string x,.int .i64 0] := by unfold frameV frameS frameE;rw [if_pos hs,if_pos hs,H.out]
  first | (rw [e] at h;exact h) | (rw [← e];exact h)
theorem rFrame_no {s : ByteArray} (h1 : 2000 < s.size) (hs : s.size ≤ maxLen) (w : World) :
    Calls Tryz.prog 61 #[.string s] w fun e w' => e = .returned (.tuple #[.string ByteArray.empty,.int .i64 5]) ∧ Below w.heap.size w w' := by
  have h := rFrame_any s hs w
  have e : frameV s = .tuple #[.string ByteArray.empty,.int .i64 5] := by unfold frameV frameS frameE;rw [if_neg (by omega),if_neg (by omega)]
  first | (rw [e] at h;exact h) | (rw [← e];exact h)
theorem drop_cons {l : List ByteArray} {k : Nat} (h : k < l.length) : l.drop k = l[k] :: l.drop (k + 1) := List.drop_eq_getElem_cons h
theorem lay_go {s x : ByteArray} {l : List ByteArray} (h1 : x.size ≤ 2000) (h2 : s.size + (x.size + 6) ≤ 60000) : layN s (x :: l) = layN (s ++ frm x) l := by rw [layN,if_pos h1,if_pos h2]
theorem lay_full {s x : ByteArray} {l : List ByteArray} (h1 : x.size ≤ 2000) (h2 : ¬ s.size + (x.size + 6) ≤ 60000) : layN s (x :: l) = (ByteArray.empty,10) := by rw [layN,if_pos h1,if_neg h2]
theorem lay_big {s x : ByteArray} {l : List ByteArray} (h1 : ¬ x.size ≤ 2000) : layN s (x :: l) = (ByteArray.empty,5) := by rw [layN,if_neg h1]
theorem TL.get {n : Nat} {l : List ByteArray} {v : Value} {w wr : World} (h : TL n l v w) (hb : Below w.heap.size w wr) {k : Nat} (hk : k < l.length) : ∃ b off c,v = .slice (some ⟨b,off,none⟩) l.length c ∧ wr.cell? ⟨b,off + k,none⟩ = some (.string l[k]) ∧ b < wr.heap.size := by
  rcases Is.cases eT 9 (h.stays hb) with ⟨e,_⟩ | ⟨_,b,off,c,e,hat⟩
  · subst e;cases hk
  · exact ⟨b,off,c,e,at1 hat k hk,hat.1⟩
set_option maxRecDepth 8000 in
set_option maxHeartbeats 2000000 in
theorem rLay_any (n : Nat) (l : List ByteArray) (v : Value) (w : World) (h : TL n l v w) (hl : l.length ≤ 1000000) (hz : ∀ x ∈ l,x.size ≤ maxLen) :
    Calls Tryz.prog 35 #[v] w fun e w' => e = .returned (.tuple #[.string (layN ByteArray.empty l).1,.int .i64 (layN ByteArray.empty l).2]) ∧ Below w.heap.size w w' := by
  obtain ⟨a1,c1,rfl⟩ := h.len
  obtain ⟨⟨r1,r2⟩,hr⟩ : ∃ q,layN ByteArray.empty l = q := ⟨_,rfl⟩
  have H0 := lH (show layN ByteArray.empty (l.drop 0) = (r1,r2) from hr)
  rw [hr]
  obtain ⟨m,hm⟩ : ∃ m,l.length = m := ⟨_,rfl⟩
  have HL := lH h
  have HZ := lH hz
  have HM := lH hm
  rw [hm] at hl ⊢
  clear h hz hr hm
  go_enter Tryz.func35,Tryz.ntmps35
  go_wp2
  go_loopw [4,11] (fun t i wr => ∃ (k : Nat) (s : ByteArray),k ≤ m ∧ i = .int .i64 k ∧ t = .string s ∧ s.size ≤ 60000 ∧ layN s (l.drop k) = (r1,r2) ∧ Below w.heap.size w wr) (fun _ i _ => m - (intOf i).toNat)
  case atStart => exact ⟨0,ByteArray.empty,Nat.zero_le _,rfl,rfl,Nat.zero_le _,H0.out,Below.refl _ _⟩
  case round =>
    obtain ⟨k,s,hk,rfl,rfl,hs,hlay,hb⟩ := hrel
    by_cases hlt : k < m
    · have hlt2 : (k : Int) < m := by omega
      have hkl : k < l.length := by rw [HM.out];exact hlt
      obtain ⟨bb,off,cc,e,hc,hbb⟩ := HL.out.get hb hkl
      rw [HM.out] at e
      simp only [Value.slice.injEq] at e
      obtain ⟨rfl,-,rfl⟩ := e
      rw [drop_cons hkl] at hlay
      have hx := HZ.out _ (List.getElem_mem hkl)
      obtain ⟨x,hxx⟩ : ∃ x,l[k] = x := ⟨_,rfl⟩
      rw [hxx] at hlay hc hx
      clear hxx
      unfold maxLen at hx
      by_cases h1 : x.size ≤ 2000
      · obtain ⟨f,hf⟩ : ∃ f,frm x = f := ⟨_,rfl⟩
        have hfs : f.size = x.size + 6 := by rw [← hf,frm_size]
        have HFr := lH hf
        by_cases h2 : s.size + (x.size + 6) ≤ 60000
        · rw [lay_go h1 h2,hf] at hlay
          have HLay := lH hlay
          have h3 : decide ((f.size : Int) > 60000 - s.size) = false := decide_eq_false (by omega)
          have hs2 : (s ++ f).size ≤ 60000 := by rw [ByteArray.size_append];omega
          clear hlay hf
          go_wp2_with fail
          refine (rFrame_yes HFr h1 _).mono ?_
          rintro e w1 ⟨rfl,hb1⟩
          go_wp2
          go_roundw
          case rel => exact ⟨k + 1,s ++ f,by omega,by go_num,rfl,hs2,HLay.out,nx hb hb1⟩
          case measure => simp [intOf];omega
        · rw [lay_full h1 h2] at hlay
          have HLay := lH hlay
          have h3 : decide ((f.size : Int) > 60000 - s.size) = true := decide_eq_true (by omega)
          clear hlay hf
          go_wp2_with fail
          refine (rFrame_yes HFr h1 _).mono ?_
          rintro e w1 ⟨rfl,hb1⟩
          go_wp2
          go_ret2
          obtain ⟨rfl,rfl⟩ := Prod.mk.inj HLay.out
          exact ⟨rfl,nx hb hb1⟩
      · rw [lay_big h1] at hlay
        have HLay := lH hlay
        clear hlay
        go_wp2_with fail
        refine (rFrame_no (by omega) (by show x.size ≤ 2 ^ 63 - 1;omega) _).mono ?_
        rintro e w1 ⟨rfl,hb1⟩
        go_wp2
        go_ret2
        obtain ⟨rfl,rfl⟩ := Prod.mk.inj HLay.out
        exact ⟨rfl,nx hb hb1⟩
    · obtain rfl : k = m := by omega
      rw [List.drop_of_length_le (by rw [HM.out];exact Nat.le_refl _)] at hlay
      have HLay := lH hlay
      clear hlay
      go_wp2
      go_ret2
      obtain ⟨rfl,rfl⟩ := Prod.mk.inj HLay.out
      exact ⟨rfl,hb⟩
theorem fits_go {r : Int} {x : ByteArray} {l : List ByteArray} (h1 : x.size ≤ 2000) (h2 : (x.size : Int) + 6 ≤ r) : fitsN r (x :: l) = fitsN (r - ((x.size : Int) + 6)) l := by rw [fitsN,if_pos ⟨h1,h2⟩]
theorem fits_no {r : Int} {x : ByteArray} {l : List ByteArray} (h : ¬ (x.size ≤ 2000 ∧ (x.size : Int) + 6 ≤ r)) : fitsN r (x :: l) = false := by rw [fitsN,if_neg h]
theorem ret_bool {a b : Bool} (h : a = b) : Ending.returned (.bool a) = .returned (.bool b) := by rw [h]
set_option maxRecDepth 8000 in
set_option maxHeartbeats 2000000 in
theorem rFits_any (n : Nat) (l : List ByteArray) (v : Value) (r : Int) (w : World) (h : TL n l v w) (hl : l.length ≤ 1000000) (hz : ∀ x ∈ l,x.size ≤ 1000000000) (hr : -9223372036854775808 ≤ r ∧ r ≤ 9223372036854775807) :
    Calls Tryz.prog 65 #[v,.int .i64 r] w fun e w' => e = .returned (.bool (fitsN r l)) ∧ Below w.heap.size w w' := by
  obtain ⟨a1,c1,rfl⟩ := h.len
  obtain ⟨b,hb⟩ : ∃ q,fitsN r l = q := ⟨_,rfl⟩
  have H0 := lH (show fitsN r (l.drop 0) = b from hb)
  rw [hb]
  obtain ⟨m,hm⟩ : ∃ m,l.length = m := ⟨_,rfl⟩
  have HL := lH h
  have HZ := lH hz
  have HM := lH hm
  rw [hm] at hl ⊢
  clear h hz hb hm
  go_enter Tryz.func65,Tryz.ntmps65
  go_wp2
  go_loopw [1,9] (fun t i wr => ∃ (k : Nat) (r : Int),k ≤ m ∧ i = .int .i64 k ∧ t = .int .i64 r ∧ (-9223372036854775808 ≤ r ∧ r ≤ 9223372036854775807) ∧ fitsN r (l.drop k) = b ∧ w = wr) (fun _ i _ => m - (intOf i).toNat)
  case atStart => exact ⟨0,r,Nat.zero_le _,rfl,rfl,hr,H0.out,rfl⟩
  case round =>
    clear hr H0
    obtain ⟨k,r,hk,rfl,rfl,hr,hft,rfl⟩ := hrel
    by_cases hlt : k < m
    · have hlt2 : (k : Int) < m := by omega
      have hkl : k < l.length := by rw [HM.out];exact hlt
      obtain ⟨bb,off,cc,e,hc,hbb⟩ := HL.out.get (Below.refl _ _) hkl
      rw [HM.out] at e
      simp only [Value.slice.injEq] at e
      obtain ⟨rfl,-,rfl⟩ := e
      rw [drop_cons hkl] at hft
      have hx := HZ.out _ (List.getElem_mem hkl)
      obtain ⟨x,hxx⟩ : ∃ x,l[k] = x := ⟨_,rfl⟩
      rw [hxx] at hft hc hx
      clear hxx
      by_cases h1 : x.size ≤ 2000
      · have d1 : decide ((x.size : Int) > 2000) = false := decide_eq_false (by omega)
        by_cases h2 : (x.size : Int) + 6 ≤ r
        · have d2 : decide ((x.size : Int) + 6 > r) = false := decide_eq_false (by omega)
          rw [fits_go h1 h2] at hft
          have HFt := lH hft
          clear hft
          go_wp2
          go_roundw
          case rel => exact ⟨k + 1,r - ((x.size : Int) + 6),by omega,by go_num,by go_num,by omega,HFt.out,trivial⟩
          case measure => simp [intOf];omega
        · have d2 : decide ((x.size : Int) + 6 > r) = true := decide_eq_true (by omega)
          rw [fits_no (fun h => h2 h.2)] at hft
          have HFt := lH hft
          clear hft
          go_wp2
          go_ret
          exact ⟨ret_bool HFt.out,Below.refl _ _⟩
      · have d1 : decide ((x.size : Int) > 2000) = true := decide_eq_true (by omega)
        rw [fits_no (fun h => h1 h.1)] at hft
        have HFt := lH hft
        clear hft
        go_wp2
        go_ret
        exact ⟨ret_bool HFt.out,Below.refl _ _⟩
    · obtain rfl : k = m := by omega
      rw [List.drop_of_length_le (by rw [HM.out];exact Nat.le_refl _)] at hft
      have HFt := lH hft
      clear hft
      go_wp2
      go_ret
      exact ⟨ret_bool (by rw [← HFt.out];rfl),Below.refl _ _⟩
theorem rScan_is {s : ByteArray} {l : List ByteArray} {a : Nat} (H : Hid (scan s = (l,a))) (q : Nat) (hs : s.size ≤ 1000000) (w : World) (hq : q ≤ w.heap.size) :
    Calls Tryz.prog 74 #[.string s] w (ScP q (l,a) w) := by
  rw [← H.out];exact rScan_any q s hs w hq
theorem scan_few {s : ByteArray} {l : List ByteArray} {a : Nat} (h : scan s = (l,a)) : l.length * 6 ≤ s.size ∧ a ≤ s.size := by
  have h1 := (scan_spec s).1
  rw [h] at h1
  have h2 := h1.many (Nat.zero_le _)
  have h3 := (sc_back h1 (Nat.zero_le _)).2.2.1
  simp only at h2 h3
  exact ⟨by omega,h3⟩
theorem str_eq {x y : ByteArray} (h : x = y) : (x.toList == y.toList) = true := by rw [h];exact beq_self_eq_true _
theorem str_ne {x y : ByteArray} (h : x ≠ y) : (x.toList == y.toList) = false := by
  rw [beq_eq_false_iff_ne]
  exact fun e => h (ba_ext (by rw [← toL,← toL];exact e))
end Go.Proofs.YtnnbjhpkgndclaaGreatDoor.Wa
namespace Go.Proofs.YtnnbjhpkgndclaaGreatDoor.Wa
open Go.RowKit
open Go.Proofs.YtnnbjhpkgndclaaGreatDoor.Rw
open Go.Proofs.YtnnbjhpkgndclaaGreatDoor.Da
open Go.Proofs.YtnnbjhpkgndclaaGreatDoor.Cr
open Go.Proofs.YtnnbjhpkgndclaaGreatDoor.Bd
theorem open_is {s : ByteArray} {a : Int} {x : ByteArray} {y z : Int} (H : Hid (openS s a = x ∧ openA s a = y ∧ openE s a = z)) (hs : Hid (s.size ≤ 1000000)) (w : World) (ht : Tab w) :
    Calls Tryz.prog 97 #[.string s,.int .i64 a] w fun e w' => e = .returned (.tuple #[.string x,.int .i64 y,.int .i64 z]) ∧ Below w.heap.size w w' := by
  obtain ⟨rfl,rfl,rfl⟩ := H.out
  exact open_any s a (Nat.le_trans hs.out (by decide)) w ht
set_option maxRecDepth 8000 in
set_option maxHeartbeats 2000000 in
theorem scan_any (q : Nat) (s : ByteArray) (hs : s.size ≤ 1000000) (w : World) (hq : q ≤ w.heap.size) (ht : Tab w) :
    Calls Tryz.prog 70 #[.string s] w (ScP q (scan s) w) := by
  have HS := lH hs
  have HT := lH ht
  have HF : Hid (∀ l a,Sc s 0 l a → Stop s a → scan s = (l,a)) := lH fun l a h k => scan_is ⟨h,k⟩
  clear ht
  go_enter Tryz.func70,Tryz.ntmps70
  go_wp2
  go_step3
  go_wp2
  go_step3
  go_wp2
  go_loopw [4,5] (fun t i wr => ∃ (a : Nat) (l : List ByteArray),i = .int .i64 a ∧ a ≤ s.size ∧ Sc s 0 l a ∧ OwnT q w.heap.size l t wr ∧ Below w.heap.size w wr) (fun _ i _ => s.size - (intOf i).toNat)
  case atStart => exact ⟨0,[],rfl,Nat.zero_le _,.nil _,Own.nil _ _ _,Below.refl _ _⟩
  case round =>
    obtain ⟨a,l,rfl,ha,hsc,hown,hb⟩ := hrel
    have HSc := lH hsc
    have HOw := lH hown
    have hll : l.length ≤ 100000000 := by have := hsc.many (Nat.zero_le _);omega
    clear hsc hown
    by_cases h1 : a < s.size
    · have h1' : (a : Int) < s.size := by omega
      by_cases h0 : openE s a = 0
      · obtain ⟨b,hA,hb6,hbs,-,-⟩ := next h0
        obtain ⟨x,hx⟩ : ∃ x,openS s a = x := ⟨_,rfl⟩
        have HO := lH (⟨hx,hA,h0⟩ : openS s a = x ∧ openA s a = (b : Nat) ∧ openE s a = 0)
        have HN : Hid (Sc s 0 (l ++ [x]) b) := lH (by rw [← hx];exact HSc.out.snoc h1 h0 hA)
        clear h0 hA hx
        go_wp2_with fail
        refine (open_is HO HS _ (HT.out.below hb)).mono ?_
        rintro e w1 ⟨rfl,hb1⟩
        have bw1 := nx hb hb1
        obtain ⟨v2,w2,hrun,hown2,hbl⟩ := app_one (HOw.out.stays hb1) hq bw1.size x hll
        have HOw2 := lH hown2
        have bw2 := hbl _ w (Nat.le_refl _) bw1
        clear hown2 hbl
        go_wp2
        go_roundw
        case rel => exact ⟨b,l ++ [x],rfl,hbs,HN.out,HOw2.out,bw2⟩
        case measure => simp [intOf];omega
      · obtain ⟨z,hz⟩ : ∃ z,openE s a = z := ⟨_,rfl⟩
        rw [hz] at h0
        have HO := lH (open_no hz h0)
        have z1 : (z != 0) = true := by simpa using h0
        have z2 : (z == 0) = false := by simpa using h0
        have HE : Hid (scan s = (l,a)) := lH (HF.out _ _ HSc.out fun h => h0 (hz.symm.trans h.2))
        clear h0 hz
        go_wp2_with fail
        refine (open_is HO HS _ (HT.out.below hb)).mono ?_
        rintro e w1 ⟨rfl,hb1⟩
        go_wp2
        go_ret2
        exact ⟨_,by rw [HE.out];rfl,nx hb hb1,by rw [HE.out];exact HOw.out.stays hb1⟩
    · obtain rfl : a = s.size := by omega
      have HE : Hid (scan s = (l,s.size)) := lH (HF.out _ _ HSc.out (stop_end s))
      go_wp2
      go_ret2
      exact ⟨_,by rw [HE.out];rfl,hb,by rw [HE.out];exact HOw.out⟩
theorem frame_yes {s x : ByteArray} (H : Hid (frm s = x)) (hs : s.size ≤ 2000) (w : World) (ht : Tab w) :
    Calls Tryz.prog 79 #[.string s] w fun e w' => e = .returned (.tuple #[.string x,.int .i64 0]) ∧ Below w.heap.size w w' := by
  have h := frame_any s (Nat.le_trans hs (by decide)) w ht
  have e : frameV s = .tuple #[.string x,.int .i64 0] := by unfold frameV frameS frameE;rw [if_pos hs,if_pos hs,H.out]
  first | (rw [e] at h;exact h) | (rw [← e];exact h)
theorem frame_no {s : ByteArray} (h1 : 2000 < s.size) (hs : s.size ≤ maxLen) (w : World) (ht : Tab w) :
    Calls Tryz.prog 79 #[.string s] w fun e w' => e = .returned (.tuple #[.string ByteArray.empty,.int .i64 5]) ∧ Below w.heap.size w w' := by
  have h := frame_any s hs w ht
  have e : frameV s = .tuple #[.string ByteArray.empty,.int .i64 5] := by unfold frameV frameS frameE;rw [if_neg (by omega),if_neg (by omega)]
  first | (rw [e] at h;exact h) | (rw [← e];exact h)
theorem cells_app (s f : ByteArray) : Lib.byteCells (s ++ f).data.toList = Lib.byteCells s.data.toList ++ Lib.strCells f := by
  rw [ByteArray.data_append,Array.toList_append];exact List.map_append
set_option maxRecDepth 200000 in
set_option maxHeartbeats 2000000 in
theorem lay_any (n : Nat) (l : List ByteArray) (v : Value) (w : World) (h : TL n l v w) (hl : l.length ≤ 1000000) (hz : ∀ x ∈ l,x.size ≤ maxLen) (ht : Tab w) :
    Calls Tryz.prog 48 #[v] w fun e w' => e = .returned (.tuple #[.string (layN ByteArray.empty l).1,.int .i64 (layN ByteArray.empty l).2]) ∧ Below w.heap.size w w' := by
  obtain ⟨a1,c1,rfl⟩ := h.len
  obtain ⟨⟨r1,r2⟩,hr⟩ : ∃ q,layN ByteArray.empty l = q := ⟨_,rfl⟩
  have H0 := lH (show layN ByteArray.empty (l.drop 0) = (r1,r2) from hr)
  rw [hr]
  obtain ⟨m,hm⟩ : ∃ m,l.length = m := ⟨_,rfl⟩
  have HL := lH h
  have HZ := lH hz
  have HM := lH hm
  rw [hm] at hl ⊢
  have HT := lH ht
  clear h hz hr hm ht
  go_enter Tryz.func48,Tryz.ntmps48
  go_wp2_with fail
  obtain ⟨V,hV⟩ : ∃ V,V = w.alloc (.cells #[.pointer none,.slice none 0 0] 130) := ⟨_,rfl⟩
  rw [← hV]
  have hB0 : Bld w.heap.size w.heap.size (Lib.byteCells ByteArray.empty.data.toList) V := hV ▸ Lib.fresh_isBuilder _ _ w
  have hbV : Below w.heap.size w V := hV ▸ below1 w _
  clear hV
  go_wp2
  go_loopw [11] (fun i wr => ∃ (k : Nat) (s : ByteArray),k ≤ m ∧ i = .int .i64 k ∧ s.size ≤ 60000 ∧ layN s (l.drop k) = (r1,r2) ∧ Below w.heap.size w wr ∧ Bld w.heap.size w.heap.size (Lib.byteCells s.data.toList) wr) (fun i _ => m - (intOf i).toNat)
  case atStart => exact ⟨0,ByteArray.empty,Nat.zero_le _,rfl,Nat.zero_le _,H0.out,hbV,hB0⟩
  case round =>
    obtain ⟨k,s,hk,rfl,hs,hlay,hb,hB⟩ := hrel
    have HB := lH hB
    have hsl : (Lib.byteCells s.data.toList).length = s.size := by rw [Lib.byteCells_length,Array.length_toList];rfl
    clear hB hB0 hbV
    by_cases hlt : k < m
    · have hlt2 : (k : Int) < m := by omega
      have hkl : k < l.length := by rw [HM.out];exact hlt
      obtain ⟨bb,off,cc,e,hc,hbb⟩ := HL.out.get hb hkl
      rw [HM.out] at e
      simp only [Value.slice.injEq] at e
      obtain ⟨rfl,-,rfl⟩ := e
      rw [drop_cons hkl] at hlay
      have hx := HZ.out _ (List.getElem_mem hkl)
      obtain ⟨x,hxx⟩ : ∃ x,l[k] = x := ⟨_,rfl⟩
      rw [hxx] at hlay hc hx
      clear hxx
      unfold maxLen at hx
      by_cases h1 : x.size ≤ 2000
      · obtain ⟨f,hf⟩ : ∃ f,frm x = f := ⟨_,rfl⟩
        have hfs : f.size = x.size + 6 := by rw [← hf,frm_size]
        have HFr := lH hf
        by_cases h2 : s.size + (x.size + 6) ≤ 60000
        · rw [lay_go h1 h2,hf] at hlay
          have HLay := lH hlay
          obtain ⟨t,ht⟩ : ∃ t : Nat,(s.size : Int) + (f.size : Int) = t := ⟨s.size + f.size,by omega⟩
          have h3 : decide ((60000 : Int) < t) = false := decide_eq_false (by omega)
          have ht1 : t ≤ 1000000 := by omega
          have hs2 : (s ++ f).size ≤ 60000 := by rw [ByteArray.size_append];omega
          clear hlay hf hfs h2
          go_wp2_with fail
          refine (frame_yes HFr h1 _ (HT.out.below hb)).mono ?_
          rintro e w1 ⟨rfl,hb1⟩
          have HB1 := lH (HB.out.below hb1)
          have hb2 := nx hb hb1
          have hs3 := hb2.size
          clear HB
          go_wp2_with fail
          refine (blen_any _ _ _ _ HB1.out (by omega)).mono ?_
          rintro e w2 ⟨rfl,rfl⟩
          rw [hsl]
          go_wp2_with fail
          refine (writeString_any _ _ _ _ _ HB1.out (by omega) (by omega)).mono ?_
          rintro e w4 ⟨rfl,hB4,hb6⟩
          have HB4 : Hid (Bld w.heap.size w.heap.size (Lib.byteCells (s ++ f).data.toList) w4) := lH (by rw [cells_app];exact hB4)
          have hb7 : Below w.heap.size w w4 := hb2.trans hb6
          clear HB1 hB4 hb2 hb6 hb hb1
          go_wp2
          go_roundw
          case rel => exact ⟨k + 1,s ++ f,by omega,by go_num,hs2,HLay.out,hb7,HB4.out⟩
          case measure => simp [intOf];omega
        · rw [lay_full h1 h2] at hlay
          have HLay := lH hlay
          obtain ⟨t,ht⟩ : ∃ t : Nat,(s.size : Int) + (f.size : Int) = t := ⟨s.size + f.size,by omega⟩
          have h3 : decide ((60000 : Int) < t) = true := decide_eq_true (by omega)
          have ht1 : t ≤ 1000000 := by omega
          clear hlay hf hfs h2
          go_wp2_with fail
          refine (frame_yes HFr h1 _ (HT.out.below hb)).mono ?_
          rintro e w1 ⟨rfl,hb1⟩
          have HB1 := lH (HB.out.below hb1)
          clear HB
          go_wp2_with fail
          refine (blen_any _ _ _ _ HB1.out (by omega)).mono ?_
          rintro e w2 ⟨rfl,rfl⟩
          rw [hsl]
          go_wp2
          go_ret2
          obtain ⟨rfl,rfl⟩ := Prod.mk.inj HLay.out
          exact ⟨rfl,nx hb hb1⟩
      · rw [lay_big h1] at hlay
        have HLay := lH hlay
        clear hlay
        go_wp2_with fail
        refine (frame_no (by omega) (by show x.size ≤ 2 ^ 63 - 1;omega) _ (HT.out.below hb)).mono ?_
        rintro e w1 ⟨rfl,hb1⟩
        go_wp2
        go_ret2
        obtain ⟨rfl,rfl⟩ := Prod.mk.inj HLay.out
        exact ⟨rfl,nx hb hb1⟩
    · obtain rfl : k = m := by omega
      rw [List.drop_of_length_le (by rw [HM.out];exact Nat.le_refl _)] at hlay
      have HLay := lH hlay
      clear hlay
      have hs3 := hb.size
      go_wp2_with fail
      refine (string_any _ _ _ _ HB.out (by omega)).mono ?_
      rintro e w4 ⟨rfl,hb6⟩
      go_wp2
      go_ret2
      obtain ⟨rfl,rfl⟩ := Prod.mk.inj HLay.out
      exact ⟨rfl,hb.trans hb6⟩
theorem fits_neg {r : Int} (h : r < 0) (l : List ByteArray) : fitsN r l = false := by
  cases l with
  | nil => rw [fitsN];exact decide_eq_false (by omega)
  | cons x l => rw [fitsN,if_neg (by omega)]
theorem fits_on {r : Int} {x : ByteArray} {l : List ByteArray} (h : x.size ≤ 2000) : fitsN r (x :: l) = fitsN (r - ((x.size : Int) + 6)) l := by
  by_cases k : (x.size : Int) + 6 ≤ r
  · rw [fitsN,if_pos ⟨h,k⟩]
  · rw [fitsN,if_neg (fun q => k q.2),fits_neg (by omega)]
set_option maxRecDepth 8000 in
set_option maxHeartbeats 2000000 in
theorem fits_any (n : Nat) (l : List ByteArray) (v : Value) (r : Int) (w : World) (h : TL n l v w) (hl : l.length ≤ 1000000) (hz : ∀ x ∈ l,x.size ≤ 1000000000) (hr : -9223372036854775808 ≤ r ∧ r ≤ 9223372036854775807) :
    Calls Tryz.prog 54 #[v,.int .i64 r] w fun e w' => e = .returned (.bool (fitsN r l)) ∧ Below w.heap.size w w' := by
  obtain ⟨a1,c1,rfl⟩ := h.len
  obtain ⟨b,hb⟩ : ∃ q,fitsN r l = q := ⟨_,rfl⟩
  have H0 := lH (show fitsN r (l.drop 0) = b from hb)
  rw [hb]
  obtain ⟨m,hm⟩ : ∃ m,l.length = m := ⟨_,rfl⟩
  have HL := lH h
  have HZ := lH hz
  have HM := lH hm
  rw [hm] at hl ⊢
  clear h hz hb hm
  go_enter Tryz.func54,Tryz.ntmps54
  go_wp2
  go_loopw [5,10] (fun t i wr => ∃ (k t0 : Nat),k ≤ m ∧ i = .int .i64 k ∧ t = .int .i64 t0 ∧ t0 ≤ 2006 * k ∧ fitsN (r - t0) (l.drop k) = b ∧ w = wr) (fun _ i _ => m - (intOf i).toNat)
  case atStart => exact ⟨0,0,Nat.zero_le _,rfl,rfl,Nat.zero_le _,by simpa using H0.out,rfl⟩
  case round =>
    clear H0
    obtain ⟨k,t0,hk,rfl,rfl,ht,hft,rfl⟩ := hrel
    by_cases hlt : k < m
    · have hlt2 : (k : Int) < m := by omega
      have hkl : k < l.length := by rw [HM.out];exact hlt
      obtain ⟨bb,off,cc,e,hc,hbb⟩ := HL.out.get (Below.refl _ _) hkl
      rw [HM.out] at e
      simp only [Value.slice.injEq] at e
      obtain ⟨rfl,-,rfl⟩ := e
      rw [drop_cons hkl] at hft
      have hx := HZ.out _ (List.getElem_mem hkl)
      obtain ⟨x,hxx⟩ : ∃ x,l[k] = x := ⟨_,rfl⟩
      rw [hxx] at hft hc hx
      clear hxx
      by_cases h1 : x.size ≤ 2000
      · have d1 : decide ((x.size : Int) > 2000) = false := decide_eq_false (by omega)
        rw [fits_on h1,show r - (t0 : Int) - ((x.size : Int) + 6) = r - ((t0 + (x.size + 6) : Nat) : Int) by omega] at hft
        have HFt := lH hft
        clear hft
        go_wp2
        go_roundw
        case rel => exact ⟨k + 1,t0 + (x.size + 6),by omega,by go_num,by go_num,by omega,HFt.out,trivial⟩
        case measure => simp [intOf];omega
      · have d1 : decide ((x.size : Int) > 2000) = true := decide_eq_true (by omega)
        rw [fits_no (fun h => h1 h.1)] at hft
        have HFt := lH hft
        clear hft
        go_wp2
        go_ret
        exact ⟨ret_bool HFt.out,Below.refl _ _⟩
    · obtain rfl : k = m := by omega
      rw [List.drop_of_length_le (by rw [HM.out];exact Nat.le_refl _)] at hft
      have HFt := lH (hft.symm.trans (show fitsN (r - (t0 : Int)) [] = decide ((t0 : Int) ≤ r) by rw [fitsN,decide_eq_decide];omega))
      clear hft
      go_wp2
      go_ret
      exact ⟨ret_bool HFt.out.symm,Below.refl _ _⟩
theorem scan_is2 {s : ByteArray} {l : List ByteArray} {a : Nat} (H : Hid (scan s = (l,a))) (q : Nat) (hs : s.size ≤ 1000000) (w : World) (hq : q ≤ w.heap.size) (ht : Tab w) :
    Calls Tryz.prog 70 #[.string s] w (ScP q (l,a) w) := by
  rw [← H.out];exact scan_any q s hs w hq ht
end Go.Proofs.YtnnbjhpkgndclaaGreatDoor.Wa
