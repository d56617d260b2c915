/- Layer 17: instances in lists in memory. -/
import Derived.Test.YtnnbjhpkgndclaaGreatDoorQsZZ
import Derived.Test.YtnnbjhpkgndclaaGreatDoorQsAX
import Derived.Test.YtnnbjhpkgndclaaGreatDoorQsBA
import Derived.Test.YtnnbjhpkgndclaaGreatDoorQsAV
import Derived.Test.YtnnbjhpkgndclaaGreatDoorQsBC
import Derived.Great.BuildSlice
import Derived.Test.YtnnbjhpkgndclaaGreatDoorQsBD
import Derived.Test.YtnnbjhpkgndclaaGreatDoorQsBE
import Derived.Test.YtnnbjhpkgndclaaGreatDoorQsAN
import Derived.Deep.LoopGhost
set_option linter.unusedVariables false
namespace Go.Proofs.YtnnbjhpkgndclaaGreatDoor.St
open Go.RowKit
open Go.Proofs.YtnnbjhpkgndclaaGreatDoor.Rw
open Go.Proofs.YtnnbjhpkgndclaaGreatDoor.Da
open Go.Proofs.YtnnbjhpkgndclaaGreatDoor.Ro
open Go.Proofs.YtnnbjhpkgndclaaGreatDoor.Bv
open Go.Proofs.YtnnbjhpkgndclaaGreatDoor.Rc (Ins ci zeroI)
def cI (i : Ins) : List Value := (ci i).toList
theorem cI_one (i : Ins) : ∀ u ∈ cI i,u.oneCell' = true := by
  intro u hu
  simp only [cI,ci,List.mem_cons,List.not_mem_nil,or_false] at hu
  rcases hu with rfl | rfl | rfl | rfl | rfl | rfl | rfl | rfl | rfl | rfl | rfl | rfl | rfl | rfl | rfl | rfl | rfl | rfl | rfl | rfl | rfl | rfl | rfl | rfl | rfl <;> rfl
def fI : Flat Ins := ⟨25,cI,fun _ => rfl,cI_one⟩
def eI : Enc Ins := fI.enc
abbrev TI (n : Nat) (l : List Ins) (v : Value) (w : World) : Prop := Is eI 44 (Bs.of n) l v w
abbrev OwnI (n Bo : Nat) (l : List Ins) (v : Value) (w : World) : Prop := Own eI 44 (Bs.of n) Bo l v w
abbrev RowI (g cap : Nat) (l : List Ins) (w : World) : Prop := Row fI 44 g cap l w
theorem typesI : 44 ∉ eI.ts := by decide
theorem infoI : (Tryz.prog.info? 44).map (fun i => (i.zero,i.size,i.bytes)) = some (some (.agg (ci zeroI)),25,200) := by kernel_rfl
theorem elemI : Elem Tryz.prog 29 44 fI.k 200 := elem_of Tryz.underlying29 infoI rfl (by decide)
theorem elemI' : Elem Tryz.prog 29 44 eI.k 200 := elemI
theorem TI.stays {n : Nat} {l : List Ins} {v : Value} {w w' : World} (h : TI n l v w) (k : Below w.heap.size w w') : TI n l v w' := Is.stays eI 44 h k
theorem OwnI.ti {n Bo : Nat} {l : List Ins} {v : Value} {w : World} (h : OwnI n Bo l v w) (hn : n ≤ Bo) : TI n l v w := h.is (by decide) ⟨hn,fun _ h => False.elim h⟩
theorem part_of {w : World} {b o : Nat} {cs : Array Value} (h0 : 0 < cs.size) (h : ∀ (j : Nat) u,cs.toList[j]? = some u → w.cell? ⟨b,o + j,none⟩ = some u) : (row w b).extract o (o + cs.size) = cs := by
  have h1 := h 0 cs[0] (by rw [Array.getElem?_toList,Array.getElem?_eq_getElem h0])
  unfold World.cell? at h1
  unfold row
  cases e : w.heap[b]? with
  | none => simp [e] at h1
  | some ob =>
    cases ob with
    | cells cur t fr =>
      simp only
      apply Array.ext_getElem?
      intro j
      rw [Array.getElem?_extract]
      by_cases hj : j < cs.size
      · have h2 := h j cs[j] (by rw [Array.getElem?_toList,Array.getElem?_eq_getElem hj])
        unfold World.cell? at h2
        simp only [e] at h2
        have hlt : o + j < cur.size := by
          rcases Nat.lt_or_ge (o + j) cur.size with h | h
          · exact h
          · rw [Array.getElem?_eq_none h] at h2;simp at h2
        rw [if_pos (by omega),show cur[o + j]? = some cs[j] by simpa using h2,Array.getElem?_eq_getElem hj]
      · rw [if_neg (by omega),Array.getElem?_eq_none (by omega)]
    | _ => simp [e] at h1
theorem TI.get {n : Nat} {l : List Ins} {v : Value} {w wr : World} (h : TI n l v w) (hb : Below w.heap.size w wr) {k : Nat} (hk : k < l.length) :
    ∃ b off c,v = .slice (some ⟨b,off,none⟩) l.length c ∧ (row wr b).extract (off + k * 25) (off + k * 25 + 25) = ci l[k] ∧ (wr.cell? ⟨b,off + k * 25,none⟩ = some (.int .i64 l[k].pr) ∧ wr.cell? ⟨b,off + k * 25 + 1,none⟩ = some (.int .i64 l[k].ps)) ∧ b < wr.heap.size := by
  rcases (h.stays hb).cases with ⟨e,_⟩ | ⟨e,b,off,c,hv,hl⟩
  · rw [e] at hk;exact absurd hk (by simp)
  · obtain ⟨cs,rfl,hu⟩ := hl.at k hk
    exact ⟨b,off,c,hv,part_of (cs := ci l[k]) (show 0 < 25 by decide) hu,⟨hu 0 _ rfl,hu 1 _ rfl⟩,hl.1⟩
theorem app_list {n Bo : Nat} {l m : List Ins} {v x : Value} {w : World} (h : OwnI n Bo l v w) (hx : TI n m x w) (hn : n ≤ Bo) (hB : Bo ≤ w.heap.size) (hl : l.length + m.length ≤ 100000000) :
    ∃ v' w',appRun Tryz.prog 29 29 v x w = .ok v' w' ∧ OwnI n Bo (l ++ m) v' w' ∧ (∀ k w0,k ≤ Bo → Below k w0 w → Below k w0 w') := by
  obtain ⟨v',w',h1,h2,_,h3,_⟩ := Own.append elemI' 29 typesI ⟨hn,fun _ h => False.elim h⟩ hB h hx (by omega) (by decide)
  exact ⟨v',w',h1,h2,h3⟩
theorem TI.one {n : Nat} (i : Ins) {w : World} (hn : n ≤ w.heap.size) : TI n [i] (.slice (some ⟨w.heap.size,0,none⟩) 1 1) (w.alloc (.cells (ci i) 44)) :=
  Is.one (e := eI) (T := 44) (cs := cI i) ⟨hn,fun _ h => False.elim h⟩ rfl
theorem app_oneK {n Bo : Nat} {l : List Ins} {v : Value} {w : World} (h : OwnI n Bo l v w) (hn : n ≤ Bo) (hB : Bo ≤ w.heap.size) (i : Ins) (hl : l.length ≤ 10000000) :
    ∃ v' w',appRun Tryz.prog 29 29 v (.slice (some ⟨w.heap.size,0,none⟩) 1 1) (w.alloc (.cells (ci i) 44)) = .ok v' w' ∧ OwnI n Bo (l ++ [i]) v' w' ∧ (∀ k w0,k ≤ Bo → Below k w0 w → Below k w0 w') ∧ ∀ b cs T,Bx w b cs T → v.ownBlock ≠ some b → Bx w' b cs T := by
  obtain ⟨v',w',h1,h2,h4,h3,_⟩ := Own.append elemI' 29 typesI ⟨hn,fun _ h => False.elim h⟩ (by simp;omega) (h.stays (below1 w _)) (TI.one i (Nat.le_trans hn hB)) (m := [i]) (by simp;omega) (by decide)
  exact ⟨v',w',h1,h2,fun k w0 hk hb => h3 k w0 hk (hb.trans ((below1 w _).mono (Nat.le_trans hk hB))),fun b cs T hb hne => by
    have hb1 := hb.alloc (.cells (ci i) 44)
    exact (h4.block b hb1.lt (fun e => hne e.symm)).trans hb1⟩
theorem own_lt {n Bo : Nat} {l : List Ins} {v : Value} {w : World} (h : OwnI n Bo l v w) {b : Nat} (e : v.ownBlock = some b) : b < w.heap.size := by
  obtain ⟨css,_,_,hr⟩ := h
  exact (hr.lt b e).2
theorem own_less {α : Type} {e : Enc α} {T : TypeId} {B : Bs} {n m : Nat} {l : List α} {v : Value} {w : World} (h : n ≤ m) (k : Own e T B m l v w) : Own e T B n l v w := by
  obtain ⟨css,k1,k2,k3⟩ := k
  exact ⟨css,k1,k2,k3.1,k3.2.imp id fun ⟨g,cap,cur,j1,j2,j3⟩ => ⟨g,cap,cur,j1,Nat.le_trans h j2,j3⟩⟩
theorem row_sets {g cap : Nat} {l : List Ins} {w : World} (h : RowI g cap l w) {i : Nat} (hi : i < l.length) (y : Ins) : RowI g cap (l.set i y) (w.setCells g (i * 25) (cI y)) := Row.sets (e := fI) h hi y
section
variable (ρ : Operand → Value) (dst : Option Tmp) (ty : TypeId) (pos : String) (after : Array Edge) (guard : Option (Nat × Bool)) (w : World)
theorem fill1 (i : Ins) (w : World) : (Instr.buildSlice 29 1 #[(0,.agg (ci i))]).run Tryz.prog w = .ok (.slice (some ⟨w.heap.size,0,none⟩) 1 1) (w.alloc (.cells (ci i) 44)) := by
  obtain ⟨k,h1,h2,h3,h4⟩ := info_parts infoI
  exact run_buildSlice w 29 44 1 _ (ci i) k _ Tryz.underlying29 h1 h2 (by rw [h3];decide) (by rw [h3];decide) (by rw [h3];kernel_rfl)
theorem fill2 (i j : Ins) (w : World) : (Instr.buildSlice 29 2 #[(0,.agg (ci i)),(1,.agg (ci j))]).run Tryz.prog w = .ok (.slice (some ⟨w.heap.size,0,none⟩) 2 2) (w.alloc (.cells (ci i ++ ci j) 44)) := by
  obtain ⟨k,h1,h2,h3,h4⟩ := info_parts infoI
  exact run_buildSlice w 29 44 2 _ (ci i ++ ci j) k _ Tryz.underlying29 h1 h2 (by rw [h3];decide) (by rw [h3];decide) (by rw [h3];kernel_rfl)
def isIns (v : Value) : Prop := ∃ i : Ins,v = .agg (ci i)
theorem isIns_ci (i : Ins) : isIns (.agg (ci i)) := ⟨i,rfl⟩
theorem exI1 (x : Operand) (h0 : isIns (ρ x)) :
    (execOp ρ { dst,op := .buildSlice 29 1 #[(0,x)],type := ty,pos,after,guard }).run Tryz.prog w = .ok (.value (.slice (some ⟨w.heap.size,0,none⟩) 1 1)) (w.alloc (.cells (ρ x).cells 44)) := by
  obtain ⟨c,hc⟩ := h0
  simp [execOp,hc,fill1,Value.cells]
theorem exI2 (x y : Operand) (h0 : isIns (ρ x)) (h1 : isIns (ρ y)) :
    (execOp ρ { dst,op := .buildSlice 29 2 #[(0,x),(1,y)],type := ty,pos,after,guard }).run Tryz.prog w = .ok (.value (.slice (some ⟨w.heap.size,0,none⟩) 2 2)) (w.alloc (.cells ((ρ x).cells ++ (ρ y).cells) 44)) := by
  obtain ⟨c,hc⟩ := h0
  obtain ⟨d,hd⟩ := h1
  simp [execOp,hc,hd,fill2,Value.cells]
theorem storeMidI (p x : Operand) (h : thereOf w (ρ p) 25) (hs : (ρ x).cells.size = 25) (h1 : oneAll (ρ x) = true) (ha : ρ x = .agg (ρ x).cells) : (execOp ρ { dst,op := .store 44 p x,type := ty,pos,after,guard }).run Tryz.prog w = .ok .skip (putMid w (ρ p) (ρ x).cells) :=
  storeMid (by kernel_rfl) ρ dst ty pos after guard w p x h hs h1 ha
end
attribute [go_sem ↓] exI1 exI2
attribute [go_sem] isIns_ci
end Go.Proofs.YtnnbjhpkgndclaaGreatDoor.St
namespace Go.Proofs.YtnnbjhpkgndclaaGreatDoor.St
open Go.RowKit
open Go.Proofs.YtnnbjhpkgndclaaGreatDoor.Rw
open Go.Proofs.YtnnbjhpkgndclaaGreatDoor.Da
open Go.Proofs.YtnnbjhpkgndclaaGreatDoor.Bv
open Go.Proofs.YtnnbjhpkgndclaaGreatDoor.Fx (enc enc_size dec dec_lt putV getV)
open Go.Proofs.YtnnbjhpkgndclaaGreatDoor.Rc (Ins ci zeroI rdE rdI insAt)
open Go.Proofs.YtnnbjhpkgndclaaGreatDoor.Cm (Tab get_is)
open Go.Proofs.YtnnbjhpkgndclaaGreatDoor.Wa (TL OwnT)
theorem put4_is {g : Int} {x : ByteArray} (h : 0 ≤ g ∧ g < 4294967296) (hx : Hid (enc g 4 = x)) (w : World) :
    Calls Tryz.prog 99 #[.int .i64 g,.int .i64 4] w fun e w' => e = .returned (.tuple #[.string x,.int .i64 0]) ∧ Below w.heap.size w w' := by
  have h1 := Rc.put_ok (x := g) (k := 4) ⟨g.toNat,by show g = _;omega,by show g.toNat < 256 ^ 4;omega⟩ (by decide)
  have h2 := Fx.put_any g 4 w
  rw [show (4 : Int) = ((4 : Nat) : Int) from rfl,h1,hx.out] at h2
  exact h2
theorem mark_is {c : UInt8} {g : Int} {x : ByteArray} (h : 0 ≤ g ∧ g < 4294967296) (hx : Hid (mark c g = x)) (w : World) :
    Calls Tryz.prog 72 #[.string ⟨#[c]⟩,.int .i64 g] w fun e w' => e = .returned (.string x) ∧ Below w.heap.size w w' := by
  obtain ⟨y,hy⟩ : ∃ y,enc g 4 = y := ⟨_,rfl⟩
  have HX : Hid (x = ⟨#[c]⟩ ++ y) := lH (by rw [← hx.out,← hy];rfl)
  have HY := lH hy
  have hys : 1 + y.size ≤ 9223372036854775807 := by rw [← hy,enc_size];decide
  clear hy
  go_enter Tryz.func72,Tryz.ntmps72
  go_wp2_with fail
  refine (put4_is h HY _).mono ?_
  rintro e w1 ⟨rfl,hb⟩
  go_wp2
  go_ret
  exact ⟨by rw [HX.out];rfl,hb⟩
theorem head_of {x : ByteArray} {c : UInt8} (h : x.data[0]? = some c) : 1 ≤ x.size ∧ x.extract 0 1 = ⟨#[c]⟩ := by
  have h1 : 0 < x.data.size := by
    rcases Nat.lt_or_ge 0 x.data.size with h1 | h1
    · exact h1
    · rw [Array.getElem?_eq_none h1] at h;cases h
  refine ⟨h1,?_⟩
  apply ByteArray.ext;apply Array.ext'
  rw [Lib.extract_data]
  rw [← Array.getElem?_toList] at h
  cases e : x.data.toList with
  | nil => rw [e] at h;simp at h
  | cons a r => rw [e] at h;simp at h;subst h;rfl
theorem head_no {x : ByteArray} {c : UInt8} (h : x.data[0]? ≠ some c) : x.extract 0 1 ≠ ⟨#[c]⟩ := by
  intro e
  have h1 := congrArg (fun y : ByteArray => y.data.toList[0]?) e
  simp only [Lib.extract_data,List.drop_zero,Nat.sub_zero] at h1
  rw [List.getElem?_take,if_pos (by decide),Array.getElem?_toList] at h1
  exact h h1
set_option maxHeartbeats 400000 in
theorem has_yes {x : ByteArray} (h : x.data[0]? = some 82) (hs : x.size ≤ maxLen) (w : World) :
    Calls Tryz.prog 144 #[.string x,.string ⟨#[82]⟩] w fun e w' => e = .returned (.bool true) ∧ w = w' := by
  obtain ⟨h1,h2⟩ := head_of h
  have h3 : ((1 : Int) ≤ (x.size : Int)) := by omega
  have h4 := Wa.str_eq h2
  have H4 := lH h4
  clear h
  go_enter Tryz.func144,Tryz.ntmps144
  go_wp2
  go_ret
  simp_all
set_option maxHeartbeats 400000 in
theorem has_no {x : ByteArray} (h : x.data[0]? ≠ some 82) (hs : x.size ≤ maxLen) (w : World) :
    Calls Tryz.prog 144 #[.string x,.string ⟨#[82]⟩] w fun e w' => e = .returned (.bool false) ∧ w = w' := by
  have h2 := head_no h
  have h4 := Wa.str_ne h2
  by_cases h3 : 1 ≤ x.size
  · have h5 : ((1 : Int) ≤ (x.size : Int)) := by omega
    have h6 : decide ((x.size : Int) ≥ 1) = true := decide_eq_true (by omega)
    clear h h2
    go_enter Tryz.func144,Tryz.ntmps144
    go_wp2
    go_ret
    simp_all
  · have h6 : decide ((x.size : Int) ≥ 1) = false := decide_eq_false (by omega)
    clear h h2 h4
    go_enter Tryz.func144,Tryz.ntmps144
    go_wp2
    go_ret
    simp_all
theorem cutL_yes {x : ByteArray} (h : x.data[0]? = some 82) (hs : x.size ≤ maxLen) (w : World) :
    Calls Tryz.prog 127 #[.string x,.string ⟨#[82]⟩] w fun e w' => e = .returned (.tuple #[.string (rest x),.bool true]) ∧ w = w' := by
  have h1 := (head_of h).1
  have h3 : ((1 : Int) ≤ (x.size : Int)) := by omega
  go_enter Tryz.func127,Tryz.ntmps127
  go_wp2_with fail
  refine (has_yes h hs _).mono ?_
  rintro e w' ⟨rfl,rfl⟩
  go_wp2
  go_ret2
  exact ⟨rfl,rfl⟩
theorem cutL_no {x : ByteArray} (h : x.data[0]? ≠ some 82) (hs : x.size ≤ maxLen) (w : World) :
    Calls Tryz.prog 127 #[.string x,.string ⟨#[82]⟩] w fun e w' => e = .returned (.tuple #[.string x,.bool false]) ∧ w = w' := by
  go_enter Tryz.func127,Tryz.ntmps127
  go_wp2_with fail
  refine (has_no h hs _).mono ?_
  rintro e w' ⟨rfl,rfl⟩
  go_wp2
  go_ret2
  exact ⟨rfl,rfl⟩
theorem cut_yes {x : ByteArray} (h : x.data[0]? = some 82) (hs : x.size ≤ maxLen) (w : World) :
    Calls Tryz.prog 100 #[.string x,.string ⟨#[82]⟩] w fun e w' => e = .returned (.tuple #[.string (rest x),.bool true]) ∧ w = w' := by
  go_enter Tryz.func100,Tryz.ntmps100
  go_wp2_with fail
  refine (cutL_yes h hs _).mono ?_
  rintro e w' ⟨rfl,rfl⟩
  go_wp2
  go_ret2
  exact ⟨rfl,rfl⟩
theorem cut_no {x : ByteArray} (h : x.data[0]? ≠ some 82) (hs : x.size ≤ maxLen) (w : World) :
    Calls Tryz.prog 100 #[.string x,.string ⟨#[82]⟩] w fun e w' => e = .returned (.tuple #[.string x,.bool false]) ∧ w = w' := by
  go_enter Tryz.func100,Tryz.ntmps100
  go_wp2_with fail
  refine (cutL_no h hs _).mono ?_
  rintro e w' ⟨rfl,rfl⟩
  go_wp2
  go_ret2
  exact ⟨rfl,rfl⟩
theorem readI_is {s : ByteArray} {n y : Int} {i : Ins} (H : Hid (rdI s n = i ∧ rdE s n = y)) (hs : s.size ≤ 1000000) (w : World) (ht : Tab w) (hb : Rc.Tb w) :
    Calls Tryz.prog 101 #[.string s,.int .i64 n] w fun e w' => e = .returned (.tuple #[.agg (ci i),.int .i64 y]) ∧ Below w.heap.size w w' := by
  obtain ⟨rfl,rfl⟩ := H.out
  exact Rc.read_any s n hs w ht hb
theorem rReadI_is {s : ByteArray} {n y : Int} {i : Ins} (H : Hid (rdI s n = i ∧ rdE s n = y)) (hs : s.size ≤ 1000000) (w : World) :
    Calls Tryz.prog 76 #[.string s,.int .i64 n] w fun e w' => e = .returned (.tuple #[.agg (ci i),.int .i64 y]) ∧ Below w.heap.size w w' := by
  obtain ⟨rfl,rfl⟩ := H.out
  exact Rc.rRead_any s n hs w
def enI (x : ByteArray) (n : Int) : Ins := if isE x n then inI x n else zeroI
theorem ret_I4 {fn : Func} {p q : Tmp} (h : fn.results = #[.cell p 44,.tmp q]) (tmps : Array Value) (w : World) (i : Ins) (hr : rowOf w (tmps.getD p undef) = ci i) : (results fn tmps).run Tryz.prog w = .ok (.tuple #[.agg (ci i),tmps.getD q undef]) w := Rc.ret_I2 h tmps w i hr
set_option maxRecDepth 8000 in
set_option maxHeartbeats 2000000 in
theorem entered_any (x : ByteArray) (n : Int) (hs : x.size ≤ 1000000) (w : World) (ht : Tab w) (htb : Rc.Tb w) :
    Calls Tryz.prog 73 #[.string x,.int .i64 n] w fun e w' => e = .returned (.tuple #[.agg (ci (enI x n)),.bool (isE x n)]) ∧ Below w.heap.size w w' := by
  have hm : x.size ≤ maxLen := Nat.le_trans hs (by decide)
  obtain ⟨U,hU⟩ : ∃ Q_ : World,w.alloc (.cells (ci zeroI) 44) = Q_ := ⟨_,rfl⟩
  have bU : Below w.heap.size w U := hU ▸ below1 _ _
  have xU : Bx U w.heap.size (ci zeroI) 44 := hU ▸ Bx.new _ _ _
  by_cases h : x.data[0]? = some 82
  · have hrs : (rest x).size ≤ 1000000 := by unfold rest;rw [ByteArray.size_extract];omega
    obtain ⟨i,hi⟩ : ∃ i,rdI (rest x) n = i := ⟨_,rfl⟩
    obtain ⟨y,hy⟩ : ∃ y,rdE (rest x) n = y := ⟨_,rfl⟩
    have HR := lH (⟨hi,hy⟩ : rdI (rest x) n = i ∧ rdE (rest x) n = y)
    have HE : Hid (isE x n = (y == 0)) := lH (by
      unfold isE;rw [hy,Bool.eq_iff_iff,decide_eq_true_eq]
      exact ⟨fun k => by rw [k.2];rfl,fun k => ⟨h,by simpa using k⟩⟩)
    have HI : Hid (ci (enI x n) = ci i) := lH (by
      unfold enI;rw [HE.out,← hi]
      unfold rdI
      by_cases h0 : y = 0
      · rw [if_pos (by simpa using h0),if_pos (hy.trans h0)];exact Rc.ci_congr (cn_same _)
      · rw [if_neg (by simpa using h0),if_neg (fun k => h0 (hy.symm.trans k))])
    rw [HI.out,HE.out]
    clear hi hy
    go_enter Tryz.func73,Tryz.ntmps73
    go_wp2_with fail
    refine (cut_yes h hm _).mono ?_
    rintro e w' ⟨rfl,rfl⟩
    go_wp2_with fail
    refine (readI_is HR hrs _ (ht.below bU) (htb.below bU)).mono ?_
    rintro e w1 ⟨rfl,hb1⟩
    have b1 := nx bU hb1
    have x1 := xU.stays hb1
    obtain ⟨V,hV⟩ : ∃ Q_ : World,(w1.alloc (.cells (ci zeroI) 44)).setRow w1.heap.size (ci i) = Q_ := ⟨_,rfl⟩
    have xV : Bx V w1.heap.size (ci i) 44 := hV ▸ Bx.put (Bx.new _ _ _) _
    have bV : Below w1.heap.size w1 V := hV ▸ below_setRow (below1 _ _) (Nat.le_refl _) _
    have yV := x1.stays bV
    have r1 := xV.row
    have p1 := yV.plain (n := 25) rfl
    clear xU x1 hU
    go_wp2_with fail
    exact bodyPost_ret (v := .tuple #[.agg (ci i),.bool (y == 0)]) (ret_I4 Tryz.results73 _ _ i (yV.put (ci i)).row) rfl ⟨rfl,below_setRow (nx b1 bV) (Nat.le_refl _) _⟩
  · have HE : Hid (isE x n = false) := lH (decide_eq_false fun k => h k.1)
    have HI : Hid (enI x n = zeroI) := lH (by unfold enI;rw [HE.out];rfl)
    rw [HI.out,HE.out]
    go_enter Tryz.func73,Tryz.ntmps73
    go_wp2_with fail
    refine (cut_no h hm _).mono ?_
    rintro e w' ⟨rfl,rfl⟩
    have r1 := xU.row
    have p1 := xU.plain (n := 25) rfl
    go_wp2
    exact bodyPost_ret (v := .tuple #[.agg (ci zeroI),.bool false]) (ret_I4 Tryz.results73 _ _ zeroI (xU.put (ci zeroI)).row) rfl ⟨rfl,below_setRow bU (Nat.le_refl _) _⟩
def genN : List ByteArray → Int
  | [] => 0
  | x :: _ => mkN x 72
theorem mark_iff {x : ByteArray} {c : UInt8} (h : 5 ≤ x.size) : x = mark c (dec x 1 4) ↔ x.size = 5 ∧ x.data[0]? = some c := by
  constructor
  · intro e
    rw [e]
    exact ⟨mark_size _ _,mark_head _ _⟩
  · intro ⟨h1,h2⟩
    apply ByteArray.ext;apply Array.ext'
    have h3 := Fx.bl_dec x 1 4 (by omega)
    have hl := Fx.size_len x
    rw [mark_data,h3]
    rw [← Array.getElem?_toList] at h2
    cases e : x.data.toList with
    | nil => rw [e] at h2;simp at h2
    | cons a r =>
      rw [e] at h2 hl;simp at h2;subst h2
      rw [List.drop_one,List.tail_cons,List.take_of_length_le (by rw [List.length_cons] at hl;omega)]
theorem gen_rep (s : ByteArray) : 0 ≤ (dec s 1 4 : Int) ∧ (dec s 1 4 : Int) < 4294967296 := by
  have := dec_lt s 1 4;omega
set_option maxRecDepth 8000 in
set_option maxHeartbeats 2000000 in
theorem gen_any (q : Nat) (L : List ByteArray) (v : Value) (w : World) (h : TL q L v w) (hl : L.length ≤ 1000000) (hz : ∀ x ∈ L,x.size ≤ 1000000) :
    Calls Tryz.prog 71 #[v] w fun e w' => e = .returned (.int .i64 (genN L)) ∧ Below w.heap.size w w' := by
  obtain ⟨a1,c1,rfl⟩ := h.len
  cases L with
  | nil =>
    have HG : Hid (genN [] = 0) := lH rfl
    rw [HG.out]
    go_enter Tryz.func71,Tryz.ntmps71
    go_wp2
    go_ret
    exact ⟨rfl,Below.refl _ _⟩
  | cons x r =>
    have hx := hz x List.mem_cons_self
    obtain ⟨b,off,cc,e,hc,hbb⟩ := Wa.TL.get h (Below.refl _ _) (k := 0) (by simp)
    have hK := fun u (hu : Below w.heap.size w u) => (Wa.TL.get h hu (k := 0) (by simp))
    simp only [Value.slice.injEq] at e
    obtain ⟨rfl,-,rfl⟩ := e
    simp only [List.getElem_cons_zero,Nat.add_zero] at hc
    have hlen : (((x :: r).length : Nat) : Int) = (r.length : Int) + 1 := by simp
    have hz0 : ((r.length : Int) + 1 == 0) = false := by simp;omega
    have hpos : (0 : Int) < (r.length : Int) + 1 := by omega
    have HG : Hid (genN (x :: r) = mkN x 72) := lH rfl
    obtain ⟨g,hg⟩ : ∃ g,mkN x 72 = g := ⟨_,rfl⟩
    rw [HG.out,hg]
    have hK2 : ∀ u,Below w.heap.size w u → u.cell? ⟨b,off,none⟩ = some (.string x) := fun u hu => by
      obtain ⟨b',off',cc',e',hc',_⟩ := hK u hu
      simp only [Value.slice.injEq,Option.some.injEq,Addr.mk.injEq] at e'
      obtain ⟨⟨rfl,rfl,_⟩,_,rfl⟩ := e'
      simpa using hc'
    have HL := lH hl
    clear hK hz h
    have hm : x.size ≤ maxLen := Nat.le_trans hx (by decide)
    by_cases h5 : 5 ≤ x.size
    · have HT := lH (Rc.get_w (s := x) (b := 1) (k := 4) (by omega) (by decide))
      obtain ⟨d,hd⟩ : ∃ d : Int,(dec x 1 4 : Int) = d := ⟨_,rfl⟩
      have hdb : 0 ≤ d ∧ d < 4294967296 := hd ▸ gen_rep x
      have HT : Hid (Fx.getV x 1 4 = .tuple #[.int .i64 d,.int .i64 0]) := lH (by rw [← hd];exact HT.out)
      obtain ⟨y,hy⟩ : ∃ y,mark 72 d = y := ⟨_,rfl⟩
      have HY := lH hy
      by_cases hxy : x = y
      · have HG2 : Hid (g = d) := lH (by
          have h6 := (mark_iff (c := 72) h5).1 (by rw [hd,hy];exact hxy)
          rw [← hg,mkN,if_pos h6,hd])
        have hne : (!x.toList == y.toList) = false := by rw [Wa.str_eq hxy];rfl
        clear hd hy hg hxy
        go_enter Tryz.func71,Tryz.ntmps71
        go_wp2_with fail
        refine (get_is hm HT _).mono ?_
        rintro e w' ⟨rfl,rfl⟩
        go_wp2
        refine Rg.region (by kernel_rfl) (by kernel_rfl) (by kernel_rfl) (fun _ _ d _ _ h => by cases d <;> exact h) _ rfl ?_
        repeat (first | (refine Rg.Seq.skip (by rfl) ?_;simp only [Act.put,sA,sB,sC]) | (refine Rg.Seq.pure (v := ?_) (by rfl) ?_ ?_;rotate_left;(intro w_ hS_;have hk_ := hK2 w_ hS_;go_simp <;> with_reducible rfl);simp only [Act.put,sA,sB,sC]) | (refine Rg.Seq.call (v := ?_) (f := ?_) (args := ?_) (by rfl) ?_ ?_ ?_;rotate_left 3;(intro w_ hS_;have hk_ := hK2 w_ hS_;go_simp <;> first | with_reducible rfl | (constructor <;> with_reducible rfl));(intro w_ hS_;first | (go_at_call 72;refine (mark_is hdb HY _).mono ?_;rintro e w_ ⟨rfl,hb_⟩;refine ⟨?_,nx hS_ hb_⟩;with_reducible rfl));simp only [Act.put,sA,sB,sC]))
        intro w1 hb1
        go_wp2
        go_ret
        exact ⟨by rw [HG2.out];rfl,hb1⟩
      · have HG2 : Hid (g = 0) := lH (by
          rw [← hg,mkN,if_neg (fun k => hxy (by rw [← hy,← hd];exact (mark_iff h5).2 k))])
        have hne : (!x.toList == y.toList) = true := by rw [Wa.str_ne hxy];rfl
        clear hd hy hg hxy
        go_enter Tryz.func71,Tryz.ntmps71
        go_wp2_with fail
        refine (get_is hm HT _).mono ?_
        rintro e w' ⟨rfl,rfl⟩
        go_wp2
        refine Rg.region (by kernel_rfl) (by kernel_rfl) (by kernel_rfl) (fun _ _ d _ _ h => by cases d <;> exact h) _ rfl ?_
        repeat (first | (refine Rg.Seq.skip (by rfl) ?_;simp only [Act.put,sA,sB,sC]) | (refine Rg.Seq.pure (v := ?_) (by rfl) ?_ ?_;rotate_left;(intro w_ hS_;have hk_ := hK2 w_ hS_;go_simp <;> with_reducible rfl);simp only [Act.put,sA,sB,sC]) | (refine Rg.Seq.call (v := ?_) (f := ?_) (args := ?_) (by rfl) ?_ ?_ ?_;rotate_left 3;(intro w_ hS_;have hk_ := hK2 w_ hS_;go_simp <;> first | with_reducible rfl | (constructor <;> with_reducible rfl));(intro w_ hS_;first | (go_at_call 72;refine (mark_is hdb HY _).mono ?_;rintro e w_ ⟨rfl,hb_⟩;refine ⟨?_,nx hS_ hb_⟩;with_reducible rfl));simp only [Act.put,sA,sB,sC]))
        intro w1 hb1
        go_wp2
        go_ret
        exact ⟨by rw [HG2.out];rfl,hb1⟩
    · have HG2 : Hid (g = 0) := lH (by rw [← hg,mkN,if_neg (fun k => h5 (by omega))])
      obtain ⟨k,hk,HT⟩ : ∃ k : Int,k ≠ 0 ∧ Hid (Fx.getV x 1 4 = .tuple #[.int .i64 0,.int .i64 k]) := by
        by_cases h1 : 1 ≤ x.size
        · exact ⟨2,by decide,lH (Rc.get_no (s := x) (b := 1) (k := 4) h1 (by omega) (by decide))⟩
        · exact ⟨1,by decide,lH (Cm.getV_arg (by unfold Fx.oB;simp;omega) 4)⟩
      have hk1 : (k != 0) = true := by simpa using hk
      clear hg hk
      go_enter Tryz.func71,Tryz.ntmps71
      go_wp2_with fail
      refine (get_is hm HT _).mono ?_
      rintro e w' ⟨rfl,rfl⟩
      go_wp2
      refine Rg.region (by kernel_rfl) (by kernel_rfl) (by kernel_rfl) (fun _ _ d _ _ h => by cases d <;> exact h) _ rfl ?_
      repeat (first | (refine Rg.Seq.skip (by rfl) ?_;simp only [Act.put,sA,sB,sC]) | (refine Rg.Seq.pure (v := ?_) (by rfl) ?_ ?_;rotate_left;(intro w_ hS_;have hk_ := hK2 w_ hS_;go_simp <;> with_reducible rfl);simp only [Act.put,sA,sB,sC]))
      intro w1 hb1
      go_wp2
      go_ret
      exact ⟨by rw [HG2.out];rfl,hb1⟩
end Go.Proofs.YtnnbjhpkgndclaaGreatDoor.St
namespace Go.Proofs.YtnnbjhpkgndclaaGreatDoor.St
open Go.RowKit
open Go.Proofs.YtnnbjhpkgndclaaGreatDoor.Rw
open Go.Proofs.YtnnbjhpkgndclaaGreatDoor.Da
open Go.Proofs.YtnnbjhpkgndclaaGreatDoor.Bv
open Go.Proofs.YtnnbjhpkgndclaaGreatDoor.Re (Ext)
open Go.Proofs.YtnnbjhpkgndclaaGreatDoor.Rc (Ins ci zeroI)
theorem ret_int {k : IntKind} {a b : Int} (h : a = b) : Ending.returned (.int k a) = .returned (.int k b) := by rw [h]
def cmpI (a b : Int) : Int := if a < b then -1 else if b < a then 1 else 0
def orI (a b : Int) : Int := if a = 0 then b else a
def cmpP (i : Ins) (p s : Int) : Int := orI (cmpI i.pr p) (cmpI i.ps s)
theorem cmpP_lt {i j : Ins} : cmpP i j.pr j.ps < 0 ↔ lessI i j = true := by
  rw [lessI_iff]
  unfold cmpP orI cmpI
  split <;> (split at * <;> (try split at *) <;> (try split) <;> omega)
theorem cmpP_eq {i j : Ins} : cmpP i j.pr j.ps = 0 ↔ atI i j = true := by
  rw [atI_iff]
  unfold cmpP orI cmpI
  split <;> (split at * <;> (try split at *) <;> (try split) <;> omega)
set_option maxHeartbeats 400000 in
theorem nan_any (a : Int) (w : World) : Calls Tryz.prog 139 #[.int .i64 a] w fun e w' => e = .returned (.bool false) ∧ w = w' := by
  go_enter Tryz.func139,Tryz.ntmps139
  go_wp2
  go_ret
  exact ⟨by simp,rfl⟩
set_option maxHeartbeats 400000 in
theorem cmp_any (a b : Int) (w : World) : Calls Tryz.prog 114 #[.int .i64 a,.int .i64 b] w fun e w' => e = .returned (.int .i64 (cmpI a b)) ∧ w = w' := by
  by_cases h1 : a < b
  · have H : Hid (cmpI a b = -1) := lH (if_pos h1)
    go_enter Tryz.func114,Tryz.ntmps114
    go_wp2_with fail
    refine (nan_any _ _).mono ?_
    rintro e w' ⟨rfl,rfl⟩
    go_wp2_with fail
    refine (nan_any _ _).mono ?_
    rintro e w' ⟨rfl,rfl⟩
    go_wp2
    go_ret
    exact ⟨ret_int H.out.symm,rfl⟩
  · by_cases h2 : b < a
    · have H : Hid (cmpI a b = 1) := lH (by unfold cmpI;rw [if_neg h1,if_pos h2])
      go_enter Tryz.func114,Tryz.ntmps114
      go_wp2_with fail
      refine (nan_any _ _).mono ?_
      rintro e w' ⟨rfl,rfl⟩
      go_wp2_with fail
      refine (nan_any _ _).mono ?_
      rintro e w' ⟨rfl,rfl⟩
      go_wp2
      go_ret
      exact ⟨ret_int H.out.symm,rfl⟩
    · have H : Hid (cmpI a b = 0) := lH (by unfold cmpI;rw [if_neg h1,if_neg h2])
      go_enter Tryz.func114,Tryz.ntmps114
      go_wp2_with fail
      refine (nan_any _ _).mono ?_
      rintro e w' ⟨rfl,rfl⟩
      go_wp2_with fail
      refine (nan_any _ _).mono ?_
      rintro e w' ⟨rfl,rfl⟩
      go_wp2
      go_ret
      exact ⟨ret_int H.out.symm,rfl⟩
set_option maxHeartbeats 400000 in
theorem or_any (x y : Int) (b c : Nat) (w : World) (k0 : w.cell? ⟨b,0,none⟩ = some (.int .i64 x)) (k1 : w.cell? ⟨b,1,none⟩ = some (.int .i64 y)) :
    Calls Tryz.prog 113 #[.slice (some ⟨b,0,none⟩) 2 c] w fun e w' => e = .returned (.int .i64 (orI x y)) ∧ w = w' := by
  obtain ⟨r,hr⟩ : ∃ r,orI x y = r := ⟨_,rfl⟩
  rw [hr]
  have HR := lH hr
  clear hr
  go_enter Tryz.func113,Tryz.ntmps113
  go_wp2
  go_loop [8] (fun i => ∃ k : Nat,k ≤ 2 ∧ i = .int .i64 k ∧ (1 ≤ k → x = 0) ∧ (k = 2 → y = 0)) (fun i => 2 - (intOf i).toNat)
  case atStart => exact ⟨0,by omega,rfl,by omega,by omega⟩
  case round =>
    obtain ⟨k,hk,rfl,hx,hy⟩ := hrel
    have HX := lH hx
    have HY := lH hy
    clear hx hy
    match k,hk,HX,HY with
    | 0,_,HX,HY =>
      by_cases e : x = 0
      · have hd : (x != 0) = false := by simpa using e
        have HE := lH e
        clear e
        go_wp2
        go_round
        case rel => exact ⟨1,by omega,by go_num,fun _ => HE.out,by omega⟩
        case measure => simp [intOf]
      · have hd : (x != 0) = true := by simpa using e
        have HE : Hid (r = x) := lH (by rw [← HR.out];unfold orI;rw [if_neg e])
        clear e
        go_wp2
        go_ret
        exact ⟨ret_int HE.out.symm,rfl⟩
    | 1,_,HX,HY =>
      have HE : Hid (r = y) := lH (by rw [← HR.out];unfold orI;rw [if_pos (HX.out (by omega))])
      by_cases e : y = 0
      · have hd : (y != 0) = false := by simpa using e
        have HZ := lH e
        clear e
        go_wp2
        go_round
        case rel => exact ⟨2,by omega,by go_num,fun _ => HX.out (by omega),fun _ => HZ.out⟩
        case measure => simp [intOf]
      · have hd : (y != 0) = true := by simpa using e
        clear e
        go_wp2
        go_ret
        exact ⟨ret_int HE.out.symm,rfl⟩
    | 2,_,HX,HY =>
      have HE : Hid (r = 0) := lH (by rw [← HR.out];unfold orI;rw [if_pos (HX.out (by omega)),HY.out rfl])
      go_wp2
      go_ret
      exact ⟨ret_int HE.out.symm,rfl⟩
def Two (x y : Int) (v : Value) (w : World) : Prop := ∃ b c,v = .slice (some ⟨b,0,none⟩) 2 c ∧ b < w.heap.size ∧ w.cell? ⟨b,0,none⟩ = some (.int .i64 x) ∧ w.cell? ⟨b,1,none⟩ = some (.int .i64 y)
theorem Two.stays (x y : Int) (v : Value) (w w' : World) (h : Two x y v w) (he : Ext w w') : Two x y v w' := by
  obtain ⟨b,c,hv,hb,h0,h1⟩ := h
  have k := he.below
  exact ⟨b,c,hv,Nat.lt_of_lt_of_le hb k.size,by rw [k.cell (p := ⟨b,0,none⟩) hb];exact h0,by rw [k.cell (p := ⟨b,1,none⟩) hb];exact h1⟩
theorem Two.made (x y : Int) (w : World) (t : TypeId) : Two x y (.slice (some ⟨w.heap.size,0,none⟩) 2 2) (w.alloc (.cells #[.int .i64 x,.int .i64 y] t)) :=
  ⟨_,2,rfl,by simp,by simp [go_sem],by simp [go_sem]⟩
theorem orTwo_any (x y : Int) (v : Value) (w : World) (h : Two x y v w) : Calls Tryz.prog 113 #[v] w fun e w' => ∃ u,e = .returned u ∧ Ext w w' ∧ u = .int .i64 (orI x y) := by
  obtain ⟨b,c,rfl,_,h0,h1⟩ := h
  exact (or_any x y b c w h0 h1).mono fun e w' ⟨he,hw⟩ => ⟨_,he,hw ▸ Ext.refl _,rfl⟩
set_option maxRecDepth 8000 in
set_option maxHeartbeats 1600000 in
theorem compare_any (i : Ins) (c d : Int) (w : World) :
    Calls Tryz.prog 86 #[.agg (ci i),.agg #[.int .i64 c,.int .i64 d]] w fun e w' => e = .returned (.int .i64 (cmpP i c d)) ∧ Below w.heap.size w w' := by
  obtain ⟨r,hr⟩ : ∃ r,cmpP i c d = r := ⟨_,rfl⟩
  rw [hr]
  have HR := lH hr
  obtain ⟨x,hx⟩ : ∃ x,cmpI i.pr c = x := ⟨_,rfl⟩
  obtain ⟨y,hy⟩ : ∃ y,cmpI i.ps d = y := ⟨_,rfl⟩
  have HX : ∀ w,Calls Tryz.prog 114 #[.int .i64 i.pr,.int .i64 c] w fun e w' => e = .returned (.int .i64 x) ∧ w = w' := fun w => by rw [← hx];exact cmp_any i.pr c w
  have HY : ∀ w,Calls Tryz.prog 114 #[.int .i64 i.ps,.int .i64 d] w fun e w' => e = .returned (.int .i64 y) ∧ w = w' := fun w => by rw [← hy];exact cmp_any i.ps d w
  have HX := lH HX
  have HY := lH HY
  have HO : Hid (orI x y = r) := lH (by rw [← hr,← hx,← hy];rfl)
  clear hr hx hy
  obtain ⟨V,hV⟩ : ∃ Q_ : World,(w.alloc (.cells (ci i) 44)).alloc (.cells #[.int .i64 c,.int .i64 d] 34) = Q_ := ⟨_,rfl⟩
  have hbV : Ext w V := hV ▸ (Ext.alloc w _).trans (Ext.alloc _ _)
  have hzV : w.heap.size + 1 < V.heap.size := by rw [← hV];simp
  have hzU : w.heap.size < V.heap.size := by omega
  have xA : Bx V w.heap.size (ci i) 44 := hV ▸ (Bx.new _ _ _).alloc _
  have xB : Bx V (w.heap.size + 1) #[.int .i64 c,.int .i64 d] 34 := hV ▸ Bx.at (by simp) _ _
  have hF : ∀ u,Ext V u → u.cell? ⟨w.heap.size,0,none⟩ = some (.int .i64 i.pr) ∧ u.cell? ⟨w.heap.size,1,none⟩ = some (.int .i64 i.ps) ∧ u.cell? ⟨w.heap.size + 1,0,none⟩ = some (.int .i64 c) ∧ u.cell? ⟨w.heap.size + 1,1,none⟩ = some (.int .i64 d) := fun u hu =>
    ⟨(xA.stays hu.below).cell 0,(xA.stays hu.below).cell 1,(xB.stays hu.below).cell 0,(xB.stays hu.below).cell 1⟩
  clear xA xB
  go_enter Tryz.func86,Tryz.ntmps86
  go_wp2
  refine Re.rg [0,1,2,3,4,5,6,7,8,9,10,11,12,13,14] ?_
  repeat (first | (refine Re.Steps.sk ?_;simp only [Act.put,sA,sB,sC]) | (refine Re.Steps.pu (v := ?_) ?_ ?_;rotate_left;(intro w_ hS_;have hk_ := hF w_ hS_;go_simp <;> with_reducible rfl);simp only [Act.put,sA,sB,sC]) | (refine Re.Steps.ca (v := ?_) (f := ?_) (args := ?_) ?_ ?_ ?_;rotate_left 3;(intro w_ hS_;have hk_ := hF w_ hS_;go_simp <;> first | with_reducible rfl | (constructor <;> with_reducible rfl));(intro w_ hS_;have hk_ := hF w_ hS_;first | (go_at_call 114;(first | with_reducible refine (HX.out _).mono ?_ | with_reducible refine (HY.out _).mono ?_);first | (rintro e w_ ⟨rfl,rfl⟩;refine ⟨?_,Re.Ext.refl _⟩;with_reducible rfl) | (rintro e w_ ⟨rfl,hb_⟩;refine ⟨?_,hb_⟩;with_reducible rfl)));simp only [Act.put,sA,sB,sC]))
  refine Re.Steps.forced (by kernel_rfl) ?_
  refine Re.One.val (Two x y) (Two.stays x y) (by rfl) (by rfl) ?_ ?_
  · intro w_ hS_
    refine ⟨_,_,?_,Ext.alloc w_ (.cells #[.int .i64 x,.int .i64 y] 3),Two.made x y w_ 3⟩
    go_simp
  intro v u_ hv
  simp only [Act.put,sA,sB,sC]
  refine Re.Steps.forced (by kernel_rfl) ?_
  refine Re.One.call (fun v _ => v = .int .i64 (orI x y)) (fun v w w' h _ => h) (f := ?_) (args := ?_) (by rfl) (by rfl) ?_ ?_ ?_
  rotate_left 2
  · intro w_ hS_;have hk_ := (fun u (hu : Ext V u ∧ Two x y v u) => hu.2) w_ hS_;go_simp <;> first | with_reducible rfl | (constructor <;> with_reducible rfl)
  · intro w_ hS_;have hk_ := (fun u (hu : Ext V u ∧ Two x y v u) => hu.2) w_ hS_;exact orTwo_any x y v _ hk_
  intro z u_ hz
  simp only [Act.put,sA,sB,sC]
  rw [HO.out] at hz
  subst hz
  repeat (first | (refine Re.Steps.sk ?_;simp only [Act.put,sA,sB,sC]) | (refine Re.Steps.pu (v := ?_) ?_ ?_;rotate_left;(intro w_ hS_;have hk_ := (fun u (hu : _ ∧ _) => True.intro) w_ hS_;go_simp <;> with_reducible rfl);simp only [Act.put,sA,sB,sC]))
  refine Re.Steps.nil (by kernel_rfl) ?_
  intro w4 hb6
  go_wp2
  go_ret
  exact ⟨ret_int HO.out,(hbV.trans hb6.1.1).below⟩
theorem compare_is {i : Ins} {c d q : Int} (H : Hid (cmpP i c d = q)) (w : World) : Calls Tryz.prog 86 #[.agg (ci i),.agg #[.int .i64 c,.int .i64 d]] w fun e w' => e = .returned (.int .i64 q) ∧ Below w.heap.size w w' := by
  rw [← H.out];exact compare_any i c d w
def cntI (i : Ins) (l : List Ins) : Nat := (l.takeWhile (fun x => lessI x i)).length
def hitI (i : Ins) (l : List Ins) : Bool := match l[cntI i l]? with | some x => atI x i | none => false
theorem cntI_of {i : Ins} : ∀ {l : List Ins} {k : Nat},k ≤ l.length → (∀ t (h : t < l.length),t < k → lessI l[t] i = true) → (∀ t (h : t < l.length),k ≤ t → ¬ lessI l[t] i = true) → cntI i l = k
  | [],k,hk,_,_ => by simp at hk;subst hk;rfl
  | v :: r,0,_,_,h2 => by
    have := h2 0 (by simp) (Nat.le_refl _)
    simp only [List.getElem_cons_zero,Bool.not_eq_true] at this
    unfold cntI
    rw [List.takeWhile_cons,this];rfl
  | v :: r,k + 1,hk,h1,h2 => by
    have h0 := h1 0 (by simp) (by omega)
    simp only [List.getElem_cons_zero] at h0
    have := cntI_of (i := i) (l := r) (k := k) (by simpa using hk) (fun t h ht => by have := h1 (t + 1) (by simpa using h) (by omega);simpa using this) (fun t h ht => by have := h2 (t + 1) (by simpa using h) (by omega);simpa using this)
    unfold cntI at this ⊢
    rw [List.takeWhile_cons,h0]
    simp [this]
theorem cntI_le (i : Ins) (l : List Ins) : cntI i l ≤ l.length := by
  unfold cntI
  exact (List.takeWhile_sublist (l := l) (fun x => lessI x i)).length_le
structure SrI (c : Ins) (l : List Ins) (lo hi : Nat) : Prop where
  a : ∀ t (h : t < l.length),t < lo → lessI l[t] c = true
  b : ∀ t (h : t < l.length),hi ≤ t → ¬ lessI l[t] c = true
theorem srt_lt {l : List Ins} (hr : Srt l) {i j : Nat} (hij : i < j) (hj : j < l.length) : lessI (l[i]'(by omega)) l[j] = true := List.pairwise_iff_getElem.1 hr i j (by omega) hj hij
theorem SrI.lo {c : Ins} {l : List Ins} {lo hi m : Nat} (hr : Srt l) (h : SrI c l lo hi) (hm : m < l.length) (ha : lessI l[m] c = true) : SrI c l (m + 1) hi :=
  ⟨fun t ht htm => by
    by_cases e : t = m
    · subst e;exact ha
    · exact less_trans (srt_lt hr (show t < m by omega) hm) ha,h.b⟩
theorem SrI.hi {c : Ins} {l : List Ins} {lo hi m : Nat} (hr : Srt l) (h : SrI c l lo hi) (hm : m < l.length) (ha : ¬ lessI l[m] c = true) : SrI c l lo m :=
  ⟨h.a,fun t ht htm hlt => ha (by
    by_cases e : m = t
    · subst e;exact hlt
    · exact less_trans (srt_lt hr (show m < t by omega) ht) hlt)⟩
theorem put_search (i : Ins) : ∀ {l : List Ins},Srt l → put i l = l.take (cntI i l) ++ ([i] ++ l.drop (cntI i l + if hitI i l = true then 1 else 0))
  | [],_ => rfl
  | x :: r,h => by
    by_cases c1 : lessI x i = true
    · have e : cntI i (x :: r) = cntI i r + 1 := by unfold cntI;rw [List.takeWhile_cons,c1];rfl
      have f : hitI i (x :: r) = hitI i r := by unfold hitI;rw [e];rfl
      rw [put,if_pos c1,e,f,put_search i (List.pairwise_cons.1 h).2,Nat.add_right_comm]
      rfl
    · have c1' : lessI x i = false := by simpa using c1
      have e : cntI i (x :: r) = 0 := by unfold cntI;rw [List.takeWhile_cons,c1'];rfl
      have f : hitI i (x :: r) = atI x i := by unfold hitI;rw [e];rfl
      rw [put,if_neg c1,e,f]
      by_cases c2 : atI x i = true
      · rw [if_pos c2,if_pos c2];rfl
      · rw [if_neg c2,if_neg c2];rfl
theorem hit_set (i : Ins) {l : List Ins} (h : hitI i l = true) : cntI i l < l.length := by
  unfold hitI at h
  rcases Nat.lt_or_ge (cntI i l) l.length with k | k
  · exact k
  · rw [List.getElem?_eq_none k] at h;cases h
theorem put_hit (i : Ins) {l : List Ins} (hs : Srt l) (h : hitI i l = true) : put i l = l.set (cntI i l) i := by
  rw [put_search i hs,if_pos h,List.set_eq_take_append_cons_drop,if_pos (hit_set i h)];rfl
theorem put_miss (i : Ins) {l : List Ins} (hs : Srt l) (h : hitI i l = false) : put i l = l.take (cntI i l) ++ [i] ++ l.drop (cntI i l) := by
  rw [put_search i hs,if_neg (by rw [h];decide),List.append_assoc];rfl
theorem two_ext (a b : Value) : (#[a,b] : Array Value).extract 0 2 = #[a,b] := rfl
attribute [go_sem] two_ext
set_option maxRecDepth 8000 in
set_option maxHeartbeats 4000000 in
theorem search_any (q : Nat) (l : List Ins) (v : Value) (i : Ins) (w : World) (h : TI q l v w) (hm : l.length ≤ 1000000) (hr : Srt l) :
    Calls Tryz.prog 85 #[v,.agg #[.int .i64 i.pr,.int .i64 i.ps],.func (.func 86) #[] #[]] w fun e w' => e = .returned (.tuple #[.int .i64 (cntI i l : Nat),.bool (hitI i l)]) ∧ Below w.heap.size w w' := by
  obtain ⟨a,cp,rfl⟩ := h.len
  obtain ⟨n,hn⟩ : ∃ n,n = l.length := ⟨_,rfl⟩
  obtain ⟨r,hrr⟩ : ∃ r,hitI i l = r := ⟨_,rfl⟩
  obtain ⟨cnt,hcn⟩ : ∃ r,cntI i l = r := ⟨_,rfl⟩
  rw [hrr,hcn]
  have HE := lH h
  rw [← hn] at hm ⊢
  have HN := lH hn
  have HR := lH hrr
  have HC := lH hcn
  have HO := lH hr
  have hG : ∀ u,Below w.heap.size w u → ∀ k (hk : k < l.length),∃ b off,a = some ⟨b,off,none⟩ ∧ (row u b).extract (off + k * 25) (off + k * 25 + 25) = ci l[k] := fun u hu k hk => by
    obtain ⟨b,off,c,e,h1,_⟩ := TI.get h hu hk
    simp only [Value.slice.injEq] at e
    exact ⟨b,off,e.1,h1⟩
  have HG := lH hG
  clear hn hr h hrr hcn hG
  obtain ⟨W,hW⟩ : ∃ Q_ : World,w.alloc (.cells #[.int .i64 i.pr,.int .i64 i.ps] 34) = Q_ := ⟨_,rfl⟩
  have hbW : Below w.heap.size w W := hW ▸ below1 w _
  have xW : Bx W w.heap.size #[.int .i64 i.pr,.int .i64 i.ps] 34 := hW ▸ Bx.new _ _ _
  have HW := lH xW
  clear xW
  go_enter Tryz.func85,Tryz.ntmps85
  go_wp2
  go_loopg [9,10] n (fun kx s9 s10 wr => ∃ (lo hi : Nat),s9 = .int .i64 lo ∧ s10 = .int .i64 hi ∧ lo ≤ hi ∧ hi ≤ n ∧ hi - lo ≤ kx ∧ Below W.heap.size W wr ∧ SrI i l lo hi)
  case atStart => exact ⟨0,n,rfl,rfl,Nat.zero_le _,Nat.le_refl _,by omega,Below.refl _ _,⟨fun t _ ht => absurd ht (Nat.not_lt_zero _),fun t h1 h2 => by have := HN.out;omega⟩⟩
  case round =>
    obtain ⟨lo,hi,rfl,rfl,hlh,hin,hg,hb,hI⟩ := hrel
    have I := lH hI
    clear hI
    by_cases hlt : lo < hi
    · have hmid : (lo + hi) / 2 < l.length := by rw [← HN.out];omega
      obtain ⟨b,off,hab,_⟩ := HG.out W hbW _ hmid
      subst hab
      obtain ⟨x,hx⟩ : ∃ x,l[(lo + hi) / 2]'hmid = x := ⟨_,rfl⟩
      have HK := lH hx
      obtain ⟨md,hmd⟩ : ∃ md,(lo + hi) / 2 = md := ⟨_,rfl⟩
      have hK : ∀ u,Below W.heap.size W u → row u w.heap.size = #[.int .i64 i.pr,.int .i64 i.ps] ∧ (row u b).extract (off + md * 25) (off + md * 25 + 25) = ci x := by
        intro u hu
        refine ⟨(HW.out.stays hu).row,?_⟩
        obtain ⟨b',off',e',h'⟩ := HG.out u (nx hbW hu) _ hmid
        simp only [Option.some.injEq,Addr.mk.injEq] at e'
        obtain ⟨rfl,rfl,_⟩ := e'
        rw [hx,hmd] at h'
        exact h'
      replace hK := fun u h => hK u (nx hb h)
      clear hx
      have hm2 : (((lo : Int) + (hi : Int)) / 2) = (md : Int) := by omega
      have hml : (md : Int) < n := by omega
      by_cases hp : lessI x i = true
      · have I2 := lH (I.out.lo HO.out hmid (by rw [HK.out];exact hp))
        obtain ⟨q,hq⟩ : ∃ q,cmpP x i.pr i.ps = q := ⟨_,rfl⟩
        have hq0 : q < 0 := by rw [← hq];exact cmpP_lt.2 hp
        have HQ := lH hq
        clear hq hp
        go_wp2
        refine Rg.region (by kernel_rfl) (by kernel_rfl) (by kernel_rfl) (fun _ _ d _ _ h => by cases d <;> exact h) _ rfl ?_
        repeat (first | (refine Rg.Seq.skip (by rfl) ?_;simp only [Act.put,sA,sB,sC]) | (refine Rg.Seq.pure (v := ?_) (by rfl) ?_ ?_;rotate_left;(intro w_ hS_;have hk_ := hK w_ hS_;go_simp <;> with_reducible rfl);simp only [Act.put,sA,sB,sC]) | (refine Rg.Seq.call (v := ?_) (f := ?_) (args := ?_) (by rfl) ?_ ?_ ?_;rotate_left 3;(intro w_ hS_;have hk_ := hK w_ hS_;go_simp <;> first | with_reducible rfl | (constructor <;> with_reducible rfl));(intro w_ hS_;first | (go_at_call 86;refine (compare_is HQ _).mono ?_;rintro e w_ ⟨rfl,hb_⟩;refine ⟨?_,nx hS_ hb_⟩;with_reducible rfl));simp only [Act.put,sA,sB,sC]))
        intro w1 hb1
        go_wp2
        go_roundg (hi - ((lo + hi) / 2 + 1))
        case measure => omega
        case rel => exact ⟨(lo + hi) / 2 + 1,hi,by go_num,rfl,by omega,hin,Nat.le_refl _,nx hb hb1,I2.out⟩
      · have I2 := lH (I.out.hi HO.out hmid (by rw [HK.out];exact hp))
        obtain ⟨q,hq⟩ : ∃ q,cmpP x i.pr i.ps = q := ⟨_,rfl⟩
        have hq0 : ¬ (q < 0) := by rw [← hq,cmpP_lt];exact hp
        have HQ := lH hq
        clear hq hp
        go_wp2
        refine Rg.region (by kernel_rfl) (by kernel_rfl) (by kernel_rfl) (fun _ _ d _ _ h => by cases d <;> exact h) _ rfl ?_
        repeat (first | (refine Rg.Seq.skip (by rfl) ?_;simp only [Act.put,sA,sB,sC]) | (refine Rg.Seq.pure (v := ?_) (by rfl) ?_ ?_;rotate_left;(intro w_ hS_;have hk_ := hK w_ hS_;go_simp <;> with_reducible rfl);simp only [Act.put,sA,sB,sC]) | (refine Rg.Seq.call (v := ?_) (f := ?_) (args := ?_) (by rfl) ?_ ?_ ?_;rotate_left 3;(intro w_ hS_;have hk_ := hK w_ hS_;go_simp <;> first | with_reducible rfl | (constructor <;> with_reducible rfl));(intro w_ hS_;first | (go_at_call 86;refine (compare_is HQ _).mono ?_;rintro e w_ ⟨rfl,hb_⟩;refine ⟨?_,nx hS_ hb_⟩;with_reducible rfl));simp only [Act.put,sA,sB,sC]))
        intro w1 hb1
        go_wp2
        go_roundg ((lo + hi) / 2 - lo)
        case measure => omega
        case rel => exact ⟨lo,(lo + hi) / 2,rfl,by rw [hmd],by omega,by omega,Nat.le_refl _,nx hb hb1,I2.out⟩
    · obtain rfl : hi = lo := by omega
      have hz9 : cnt = hi := by rw [← HC.out];exact cntI_of (by rw [← HN.out];exact hin) I.out.a I.out.b
      have HZ := lH hz9
      by_cases hh : hi < n
      · have hhn : (hi : Int) < n := by omega
        have hmid : hi < l.length := by rw [← HN.out];exact hh
        obtain ⟨b,off,hab,_⟩ := HG.out W hbW _ hmid
        subst hab
        obtain ⟨x,hx⟩ : ∃ x,l[hi]'hmid = x := ⟨_,rfl⟩
        have hK : ∀ u,Below W.heap.size W u → row u w.heap.size = #[.int .i64 i.pr,.int .i64 i.ps] ∧ (row u b).extract (off + hi * 25) (off + hi * 25 + 25) = ci x := by
          intro u hu
          refine ⟨(HW.out.stays hu).row,?_⟩
          obtain ⟨b',off',e',h'⟩ := HG.out u (nx hbW hu) _ hmid
          simp only [Option.some.injEq,Addr.mk.injEq] at e'
          obtain ⟨rfl,rfl,_⟩ := e'
          rw [hx] at h'
          exact h'
        replace hK := fun u h => hK u (nx hb h)
        obtain ⟨q,hq⟩ : ∃ q,cmpP x i.pr i.ps = q := ⟨_,rfl⟩
        obtain ⟨f,hf⟩ : ∃ f,(q == 0) = f := ⟨_,rfl⟩
        have HF : Hid (r = f) := lH (by
          rw [← HR.out,← hf]
          unfold hitI
          rw [HC.out,hz9,List.getElem?_eq_getElem hmid,hx]
          have := @cmpP_eq x i
          rw [hq] at this
          rw [Bool.eq_iff_iff];simp [this])
        have HQ := lH hq
        clear hq hx hz9
        go_wp2
        refine Rg.region (by kernel_rfl) (by kernel_rfl) (by kernel_rfl) (fun _ _ d _ _ h => by cases d <;> exact h) _ rfl ?_
        repeat (first | (refine Rg.Seq.skip (by rfl) ?_;simp only [Act.put,sA,sB,sC]) | (refine Rg.Seq.pure (v := ?_) (by rfl) ?_ ?_;rotate_left;(intro w_ hS_;have hk_ := hK w_ hS_;go_simp <;> with_reducible rfl);simp only [Act.put,sA,sB,sC]) | (refine Rg.Seq.call (v := ?_) (f := ?_) (args := ?_) (by rfl) ?_ ?_ ?_;rotate_left 3;(intro w_ hS_;have hk_ := hK w_ hS_;go_simp <;> first | with_reducible rfl | (constructor <;> with_reducible rfl));(intro w_ hS_;first | (go_at_call 86;refine (compare_is HQ _).mono ?_;rintro e w_ ⟨rfl,hb_⟩;refine ⟨?_,nx hS_ hb_⟩;with_reducible rfl));simp only [Act.put,sA,sB,sC]))
        intro w1 hb1
        go_wp2
        go_ret2
        exact ⟨by (rw [HZ.out,HF.out]) <;> rfl,nx hbW (nx hb hb1)⟩
      · have hhn : ¬ ((hi : Int) < n) := by omega
        have HF : Hid (r = false) := lH (by
          rw [← HR.out];unfold hitI;rw [HC.out,hz9,List.getElem?_eq_none (by rw [← HN.out];omega)])
        clear hz9
        go_wp2
        refine Rg.region (by kernel_rfl) (by kernel_rfl) (by kernel_rfl) (fun _ _ d _ _ h => by cases d <;> exact h) _ rfl ?_
        repeat (first | (refine Rg.Seq.skip (by rfl) ?_;simp only [Act.put,sA,sB,sC]) | (refine Rg.Seq.pure (v := ?_) (by rfl) ?_ ?_;rotate_left;(intro w_ hS_;obtain ⟨hc_,hf_⟩ := bcell hS_;go_simp <;> with_reducible rfl);simp only [Act.put,sA,sB,sC]))
        intro w1 hb1
        go_wp2
        go_ret2
        exact ⟨by (rw [HZ.out,HF.out]) <;> rfl,nx hbW (nx hb hb1)⟩
end Go.Proofs.YtnnbjhpkgndclaaGreatDoor.St
