/- Of the statements of layer 17: lists of what happens that the law makes itself; two instances, or the first of them. -/
import Derived.Test.YtnnbjhpkgndclaaGreatDoorQsZZ
import Derived.Test.YtnnbjhpkgndclaaGreatDoorQsBY
import Derived.Test.YtnnbjhpkgndclaaGreatDoorQsAT
set_option linter.unusedVariables false
namespace Go.Proofs.YtnnbjhpkgndclaaGreatDoor.St
open Go.RowKit
open Go.ChangeShapes Go.WideShapes Go.Deep
open Go.Proofs.YtnnbjhpkgndclaaGreatDoor.Rw
open Go.Proofs.YtnnbjhpkgndclaaGreatDoor.Da
open Go.Proofs.YtnnbjhpkgndclaaGreatDoor.Ro
open Go.Proofs.YtnnbjhpkgndclaaGreatDoor.Bv
open Go.Proofs.YtnnbjhpkgndclaaGreatDoor.Dk (Ds DV Ok at2 lim nul)
open Go.Proofs.YtnnbjhpkgndclaaGreatDoor.Rc (Ins ci zeroI okI)
theorem own_one {α : Type} {e : Enc α} {T : TypeId} {B : Bs} {Bo : Nat} {x : α} {cs : List Value} {w : World} (hB : Bo ≤ w.heap.size) (h : e.R B x cs w) : Own e T B Bo [x] (.slice (some ⟨w.heap.size,0,none⟩) 1 1) (w.alloc (.cells cs.toArray T)) := by
  have hl : cs.length = e.k := e.len h
  refine ⟨[cs],rfl,fun i y c hy hc => ?_,?_,.inr ⟨w.heap.size,1,cs.toArray,rfl,hB,heap_alloc_new w _,Nat.le_refl _,by unfold maxLen;omega,by simpa using hl,?_⟩⟩
  · cases i with
    | zero =>
      simp at hy hc
      subst hy hc
      exact e.stays h (below1 _ _)
    | succ i => simp at hy
  · simp [hl]
  · have : cs.take e.k = cs := List.take_of_length_le (by omega)
    simpa using this
theorem infoO3 : (Tryz.prog.info? 31).map (fun i => (i.zero,i.size,i.bytes)) = some (some (.agg zO),3,24) := by kernel_rfl
theorem elemO3 : Elem Tryz.prog 22 31 eO3.k 24 := elem_of Tryz.underlying22 infoO3 rfl (by decide)
theorem app_listO {n Bo : Nat} {l m : List O3} {v x : Value} {w : World} (h : Own eO3 31 (Bs.of n) Bo l v w) (hx : PL (Bs.of n) m x w) (hn : n ≤ Bo) (hB : Bo ≤ w.heap.size) (hl : l.length + m.length ≤ 100000000) :
    ∃ v' w',appRun Tryz.prog 22 22 v x w = .ok v' w' ∧ PL (Bs.of n) (l ++ m) v' w' ∧ (∀ k w0,k ≤ Bo → Below k w0 w → Below k w0 w') := by
  obtain ⟨v',w',h1,h2,_,h3,_⟩ := Own.append elemO3 22 (by decide) ⟨hn,fun _ h => False.elim h⟩ hB h hx (by omega) (by decide)
  exact ⟨v',w',h1,h2.is (by decide) ⟨hn,fun _ h => False.elim h⟩,h3⟩
theorem pl_row {B : Bs} {b : Nat} {l : List O3} {v : Value} {w : World} {cur : Array Value} {t : TypeId} (c : Array Value) (h : PL B l v w) (hx : Bx w b cur t) (ht : t ≠ 31) (hq : B.lo ≤ b) (hB : B = Bs.of B.lo) : PL B l v (w.setRow b c) := by
  rw [hB] at h ⊢
  exact Is.keep eO3 31 h (Dk.keeps_setRow c hx (fun hm => ht (by simpa [eO3,Ro.Flat.enc,Enc.flat] using hm)) hq)
theorem buildO2 (w : World) : (Instr.build 31 #[(0,.int .i64 2)]).run Tryz.prog w = .ok (.agg #[.int .i64 2,.int .i64 0,.int .i64 0]) w := by kernel_rfl
theorem fillO (x y z : Int) (w : World) : (Instr.buildSlice 22 1 #[(0,.agg #[.int .i64 x,.int .i64 y,.int .i64 z])]).run Tryz.prog w = .ok (.slice (some ⟨w.heap.size,0,none⟩) 1 1) (w.alloc (.cells #[.int .i64 x,.int .i64 y,.int .i64 z] 31)) := by
  obtain ⟨k,h1,h2,h3,h4⟩ := info_parts infoO3
  exact run_buildSlice w 22 31 1 _ #[.int .i64 x,.int .i64 y,.int .i64 z] k _ Tryz.underlying22 h1 h2 (by rw [h3];decide) (by rw [h3];decide) (by rw [h3];kernel_rfl)
attribute [go_sem] buildO2 fillO
theorem TI.two {n : Nat} (i j : Ins) {w : World} (hn : n ≤ w.heap.size) : TI n [i,j] (.slice (some ⟨w.heap.size,0,none⟩) 2 2) (w.alloc (.cells (ci i ++ ci j) 44)) := by
  have h1 : (w.alloc (.cells (ci i ++ ci j) 44)).heap[w.heap.size]? = some (.cells (ci i ++ ci j) 44 (0,0)) := heap_alloc_new w _
  refine ⟨_,2,rfl,.inr ⟨w.heap.size,0,rfl,by simp,.inr ⟨⟨_,h1⟩,fun hb => False.elim hb⟩,fun k y hy => ?_⟩⟩
  have key : ∀ o,World.cell? (w.alloc (.cells (ci i ++ ci j) 44)) ⟨w.heap.size,o,none⟩ = (ci i ++ ci j)[o]? := fun o => by simp only [World.cell?];rw [h1];rfl
  match k,hy with
  | 0,hy =>
    obtain rfl : i = y := by simpa using hy
    refine ⟨cI i,rfl,fun o u hu => ?_⟩
    have ho : o < 25 := by
      rcases Nat.lt_or_ge o 25 with h | h
      · exact h
      · rw [List.getElem?_eq_none (by show 25 ≤ o;exact h)] at hu;cases hu
    rw [key,Nat.zero_mul,Nat.add_zero,Nat.zero_add,Array.getElem?_append_left (by show o < 25;exact ho)]
    simpa [cI] using hu
  | 1,hy =>
    obtain rfl : j = y := by simpa using hy
    refine ⟨cI j,rfl,fun o u hu => ?_⟩
    show World.cell? _ ⟨w.heap.size,0 + 1 * 25 + o,none⟩ = some u
    rw [key,Array.getElem?_append_right (by show 25 ≤ 0 + 1 * 25 + o;omega)]
    show (ci j)[0 + 1 * 25 + o - 25]? = some u
    rw [show 0 + 1 * 25 + o - 25 = o by omega]
    simpa [cI] using hu
  | k + 2,hy => simp at hy
theorem exIhi (ρ : Operand → Value) (dst : Option Tmp) (ty : TypeId) (pos : String) (after : Array Edge) (guard : Option (Nat × Bool)) (w : World) (x y : Operand) (h : hiOk (ρ x) (ρ y) = true) :
    (execOp ρ { dst,op := .slice 29 x none (some y) none,type := ty,pos,after,guard }).run Tryz.prog w = .ok (.value (Da.cutHi fI.k (natOf (ρ y)) (ρ x))) w :=
  exec_hi ρ dst ty pos after guard w elemI x y h
attribute [go_sem ↓] exIhi
theorem hi_one (a : Option Addr) : hiOk (.slice a 2 2) (.int .i64 1) = true := by simp [hiOk]
theorem hi_two (a : Option Addr) : hiOk (.slice a 2 2) (.int .i64 2) = true := by simp [hiOk]
theorem nat_one : natOf (.int .i64 1) = 1 := rfl
theorem nat_two : natOf (.int .i64 2) = 2 := rfl
theorem cutS_at (b n m k : Nat) : Da.cutHi k m (.slice (some ⟨b,0,none⟩) n 2) = .slice (some ⟨b,0,none⟩) m 2 := by
  show Value.slice (some ((⟨b,0,none⟩ : Addr).add (0 * k))) (m - 0) (2 - 0) = _
  rw [Dk.add_eq,Nat.zero_mul]
  rfl
theorem cut_one (b k : Nat) : Da.cutHi k 1 (.slice (some ⟨b,0,none⟩) 2 2) = .slice (some ⟨b,0,none⟩) 1 2 := cutS_at b 2 1 k
theorem cut_two (b k : Nat) : Da.cutHi k 2 (.slice (some ⟨b,0,none⟩) 2 2) = .slice (some ⟨b,0,none⟩) 2 2 := cutS_at b 2 2 k
theorem TI.first {n b : Nat} {i j : Ins} {w : World} (h : TI n [i,j] (.slice (some ⟨b,0,none⟩) 2 2) w) : TI n [i] (.slice (some ⟨b,0,none⟩) 1 2) w := by
  have := Is.cutHi h (k := 1) (by simp)
  rwa [cut_one] at this
attribute [go_sem] hi_one hi_two nat_one nat_two cut_one cut_two
end Go.Proofs.YtnnbjhpkgndclaaGreatDoor.St
