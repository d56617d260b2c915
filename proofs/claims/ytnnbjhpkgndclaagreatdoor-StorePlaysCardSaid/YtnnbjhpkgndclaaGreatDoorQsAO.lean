/- Seven cells, read, written and compared as a whole. -/
import Derived.Test.YtnnbjhpkgndclaaGreatDoorQsZZ
import Derived.Test.YtnnbjhpkgndclaaGreatDoorRows
import Derived.WalkKit
import Derived.ProofKit
import Derived.Below
import Derived.BigQuiet
import Derived.WalkLawsBesides
import Derived.WalkSpells
import Derived.IntWalk
import Derived.Laws.Rows
import Derived.Laws.StructEq
import Derived.Deep.WholeRow
import Derived.Test.YtnnbjhpkgndclaaGreatDoorQsAC
import Derived.Test.YtnnbjhpkgndclaaGreatDoorQsAJ
import Derived.Test.YtnnbjhpkgndclaaGreatDoorQsAN
set_option linter.unusedVariables false
namespace Go.Proofs.YtnnbjhpkgndclaaGreatDoor.Ve
open Go.RowKit
open Go.Proofs.YtnnbjhpkgndclaaGreatDoor.Fx (nx nd)
def fc (f : Nat → Int) : Array Value := ((List.range 7).map fun i => Value.int .i64 (f i)).toArray
theorem fc_size (f : Nat → Int) : (fc f).size = 7 := by simp [fc]
theorem fc_at (f : Nat → Int) (k : Nat) (h : k < 7) : (fc f)[k]? = some (.int .i64 (f k)) := by simp [fc,h]
theorem fc_get (f : Nat → Int) (k : Nat) (h : k < (fc f).size) : (fc f)[k] = .int .i64 (f k) := by simp [fc]
theorem fc_set (f : Nat → Int) (k : Nat) (x : Int) : (fc f).setIfInBounds k (.int .i64 x) = fc (upd f k x) := by
  apply Array.ext'
  unfold fc
  rw [Array.toList_setIfInBounds]
  apply List.ext_getElem
  · simp
  · intro i h1 h2
    simp at h1 h2
    rw [List.getElem_set]
    by_cases h : k = i
    · subst h;simp [upd]
    · have h3 : ¬ i = k := fun e => h e.symm
      simp [h,upd,h3]
theorem fc_congr {f g : Nat → Int} (h : ∀ i,i < 7 → f i = g i) : fc f = fc g := by
  apply Array.ext'
  unfold fc
  simp only
  apply List.map_congr_left
  intro i hi
  rw [h i (by simpa using hi)]
theorem fc_list (f : Nat → Int) : (fc f).toList = [.int .i64 (f 0),.int .i64 (f 1),.int .i64 (f 2),.int .i64 (f 3),.int .i64 (f 4),.int .i64 (f 5),.int .i64 (f 6)] := rfl
theorem fc_one (f : Nat → Int) : (fc f).all (·.oneCell') = true := by
  rw [← Array.all_toList,fc_list];rfl
def oneAll (v : Value) : Bool := v.cells.all (·.oneCell')
theorem oneAll_fc (f : Nat → Int) : oneAll (.agg (fc f)) = true := fc_one f
def row (w : World) (b : Nat) : Array Value := match w.heap[b]? with | some (.cells cs _ _) => cs | _ => #[]
def plain (w : World) (b : Nat) : Bool := match w.heap[b]? with | some (.cells cs _ fr) => cs.size == 7 && fr == (0,0) | _ => false
def rowOf (w : World) : Value → Array Value
  | .pointer (some ⟨b,0,none⟩) => row w b
  | _ => #[]
def plainAt (w : World) : Value → Bool
  | .pointer (some ⟨b,0,none⟩) => plain w b
  | _ => false
def putRow (w : World) : Value → Array Value → World
  | .pointer (some ⟨b,0,none⟩),cs => w.setRow b cs
  | _,_ => w
theorem rowOf_at (w : World) (b : Nat) : rowOf w (.pointer (some ⟨b,0,none⟩)) = row w b := rfl
theorem plainAt_at (w : World) (b : Nat) : plainAt w (.pointer (some ⟨b,0,none⟩)) = plain w b := rfl
theorem putRow_at (w : World) (b : Nat) (cs : Array Value) : putRow w (.pointer (some ⟨b,0,none⟩)) cs = w.setRow b cs := rfl
theorem row_new (w : World) (c : Array Value) (t : TypeId) (n : Nat) (h : n = w.heap.size) : row (w.alloc (.cells c t)) n = c := by
  subst h;unfold row;rw [heap_alloc_new]
theorem row_past (w : World) (o : Obj) (n : Nat) (h : n < w.heap.size) : row (w.alloc o) n = row w n := by
  unfold row;rw [Below.heap_alloc w o n h]
theorem row_drew (w : World) (n : Nat) : row w.drew n = row w n := rfl
theorem plain_new (w : World) (c : Array Value) (t : TypeId) (n : Nat) (h : n = w.heap.size) : plain (w.alloc (.cells c t)) n = (c.size == 7) := by
  subst h;unfold plain;rw [heap_alloc_new];simp
theorem plain_past (w : World) (o : Obj) (n : Nat) (h : n < w.heap.size) : plain (w.alloc o) n = plain w n := by
  unfold plain;rw [Below.heap_alloc w o n h]
theorem plain_drew (w : World) (n : Nat) : plain w.drew n = plain w n := rfl
theorem setRow_new (w : World) (c c' : Array Value) (t : TypeId) (n : Nat) (h : n = w.heap.size) : (w.alloc (.cells c t)).setRow n c' = w.alloc (.cells c' t) := by
  subst h;exact World.setRow_alloc_new w c c' t
theorem setRow_drew (w : World) (n : Nat) (c : Array Value) : w.drew.setRow n c = (w.setRow n c).drew := rfl
theorem setRow_past (w : World) (o : Obj) (n : Nat) (c : Array Value) (h : n < w.heap.size) : (w.alloc o).setRow n c = (w.setRow n c).alloc o := by
  simp only [World.setRow,World.alloc]
  congr 1
  apply Array.ext_getElem?
  intro k
  simp only [Array.getElem?_modify,Array.getElem?_push,Array.size_modify]
  by_cases hk : k = w.heap.size
  · subst hk
    simp [Nat.ne_of_lt h]
  · simp [hk]
theorem plain_of {w : World} {b : Nat} (h : plain w b = true) : ∃ cs t,w.heap[b]? = some (.cells cs t (0,0)) ∧ cs.size = 7 := by
  unfold plain at h
  split at h
  · rename_i cs t fr e
    simp only [Bool.and_eq_true,beq_iff_eq] at h
    obtain ⟨h1,rfl⟩ := h
    exact ⟨cs,t,e,h1⟩
  · cases h
theorem row_set {w : World} {b : Nat} (c : Array Value) (h : plain w b = true) : row (w.setRow b c) b = c := by
  obtain ⟨cs,t,e,_⟩ := plain_of h
  unfold row;rw [setRow_heap w b cs c t _ e]
theorem row_of {w : World} {b : Nat} {cs : Array Value} (h : row w b = cs) (hs : cs.size = 7) : ∃ t fr,w.heap[b]? = some (.cells cs t fr) := by
  unfold row at h
  split at h
  · rename_i cs' t fr e
    subst h;exact ⟨t,fr,e⟩
  · subst h;cases hs
theorem info : (Tryz.prog.info? 40).map (·.size) = some 7 := by kernel_rfl
theorem run_load_fc {w : World} {v : Value} (h : (rowOf w v).size = 7) : (Instr.loadAt 40 v).run Tryz.prog w = .ok (.agg (rowOf w v)) w := by
  unfold rowOf at h
  split at h
  · rename_i b
    obtain ⟨t,fr,e⟩ := row_of rfl h
    simp only [Instr.loadAt,Instr.sureAddr,Sem.run_bind,Sem.run_pure,Result.andThen]
    rw [rowOf_at]
    exact run_loadVar_row w b t _ _ fr _ e Tryz.underlying40 rfl (by rw [h];exact info)
  · cases h
theorem run_store_fc {w : World} {p : Value} {cs : Array Value} (h : plainAt w p = true) (hs : cs.size = 7) (h1 : cs.all (·.oneCell') = true) : (Instr.storeAt 40 p (.agg cs)).run Tryz.prog w = .ok () (putRow w p cs) := by
  unfold plainAt at h
  split at h
  · rename_i b
    obtain ⟨old,t,e,ho⟩ := plain_of h
    simp only [Instr.storeAt,Instr.sureAddr,Sem.run_bind,Sem.run_pure,Result.andThen]
    exact run_storeVar_row w b t _ old cs e (by rw [hs];exact info) (by rw [ho,hs]) h1
  · cases h
theorem ret_fc {fn : Func} {p : Tmp} (h : fn.results = #[.cell p 40]) (tmps : Array Value) (w : World) (f : Nat → Int) (hr : rowOf w (tmps.getD p undef) = fc f) : (results fn tmps).run Tryz.prog w = .ok (.agg (fc f)) w := by
  have h7 : (rowOf w (tmps.getD p undef)).size = 7 := by rw [hr];exact fc_size f
  unfold rowOf at h7 hr
  split at h7
  · rename_i b e
    rw [e] at hr
    obtain ⟨t,fr,e2⟩ := row_of hr (fc_size f)
    exact results_cell_row h tmps w b t (fc f) fr _ e e2 Tryz.underlying40 rfl (by rw [fc_size];exact info)
  · cases h7
section
variable (ρ : Operand → Value) (dst : Option Tmp) (ty : TypeId) (pos : String) (after : Array Edge) (guard : Option (Nat × Bool)) (w : World)
theorem exec_load (x : Operand) (h : (rowOf w (ρ x)).size = 7) :
    (execOp ρ { dst,op := .load 40 x,type := ty,pos,after,guard }).run Tryz.prog w = .ok (.value (.agg (rowOf w (ρ x)))) w := by
  simp [execOp,run_load_fc h]
theorem exec_store (p x : Operand) (h : plainAt w (ρ p) = true) (hs : (ρ x).cells.size = 7) (h1 : oneAll (ρ x) = true) (ha : ρ x = .agg (ρ x).cells) :
    (execOp ρ { dst,op := .store 40 p x,type := ty,pos,after,guard }).run Tryz.prog w = .ok .skip (putRow w (ρ p) (ρ x).cells) := by
  have := run_store_fc (cs := (ρ x).cells) h hs h1
  rw [← ha] at this
  simp [execOp,this]
theorem zero : ∀ w,(zeroValue 40).run Tryz.prog w = .ok (.agg (fc zeroV)) w := (zero_of_info (n := 7) (by kernel_rfl)).1
theorem exec_alloc : (execOp ρ { dst,op := .alloc 40,type := ty,pos,after,guard }).run Tryz.prog w = .ok (.value (.pointer (some ⟨w.heap.size,0,none⟩))) (w.alloc (.cells (fc zeroV) 40)) := by
  have hz := zero w
  have hn : (newVar 40 (.agg (fc zeroV))).run Tryz.prog w = .ok ⟨w.heap.size,0,none⟩ (w.alloc (.cells (fc zeroV) 40)) := rfl
  simp only [execOp,Instr.alloc,Sem.run_bind,hz,hn,Result.andThen,Sem.run_pure]
theorem exec_build : (execOp ρ { dst,op := .build 40 #[],type := ty,pos,after,guard }).run Tryz.prog w = .ok (.value (.agg (fc zeroV))) w := by
  have := run_build (P := Tryz.prog) w 40 #[] (fc zeroV) (by kernel_rfl)
  simp [execOp,this]
end
attribute [go_sem ↓] exec_load exec_store exec_alloc exec_build
attribute [go_sem] rowOf_at plainAt_at putRow_at row_new row_past row_drew plain_new plain_past plain_drew setRow_new setRow_past setRow_drew fc_size fc_at fc_get fc_set oneAll_fc
@[go_sem] theorem lt2 (n : Nat) : n < n + 1 + 1 := by omega
@[go_sem] theorem lt3 (n : Nat) : n < n + 1 + 1 + 1 := by omega
@[go_sem] theorem lt4 (n : Nat) : n < n + 1 + 1 + 1 + 1 := by omega
theorem part_fc (f : Nat → Int) (k : Nat) (h : k < 7) (w : World) : (part 3 (fc f) k).run Tryz.prog w = .ok (.int .i64 (f k)) w := by
  simp [part,Tryz.isAgg3,fc_at f k h]
theorem eqInt (a b : Int) (w : World) : (Op.equalIn 9999 3 (.int .i64 a) (.int .i64 b)).run Tryz.prog w = .ok (a == b) w := by
  rw [show (9999 : Nat) = 9998 + 1 from rfl,Op.equalIn]
  simp [run_underlying Tryz.underlying3]
theorem eqAll (f g : Nat → Int) (w : World) : ∀ (n s : Nat),s + n ≤ 7 →
    Sem.run Tryz.prog (forIn (List.range' s n) ((none : Option Bool),()) fun i _ => (do
      if !(← Op.equalIn 9999 3 (← part 3 (fc f) (i * 1)) (← part 3 (fc g) (i * 1))) then pure (ForInStep.done (some false,())) else pure (ForInStep.yield (none,())) : Sem (ForInStep (Option Bool × Unit)))) w =
    .ok (if (List.range' s n).all (fun i => decide (f i = g i)) then (none,()) else (some false,())) w
  | 0,s,_ => by simp
  | n + 1,s,h => by
    rw [List.range'_succ,List.forIn_cons]
    have h1 := part_fc f (s * 1) (by omega) w
    have h2 := part_fc g (s * 1) (by omega) w
    have h3 := eqInt (f (s * 1)) (g (s * 1)) w
    simp only [Sem.run_bind,h1,h2,h3,Result.andThen]
    rw [Nat.mul_one]
    by_cases e : f s = g s
    · have := eqAll f g w n (s + 1) (by omega)
      rw [List.all_cons,decide_eq_true e,Bool.true_and]
      simpa [e] using this
    · rw [List.all_cons,decide_eq_false e,Bool.false_and]
      simp [e]
@[go_sem] theorem eqV_run (f g : Nat → Int) (w : World) : (Op.equalIn 10000 40 (.agg (fc f)) (.agg (fc g))).run Tryz.prog w = .ok (eqV f g) w := by
  rw [show (10000 : Nat) = 9999 + 1 from rfl,Op.equalIn]
  simp only [Sem.run_bind,run_underlying Tryz.underlying40,Result.andThen_ok,Tryz.sizeOf3]
  have h := eqAll f g w 7 0 (by omega)
  simp only [Std.Legacy.Range.forIn_eq_forIn_range',Std.Legacy.Range.size,Nat.sub_zero,Nat.add_sub_cancel,Nat.div_one]
  rw [h]
  by_cases e : (List.range' 0 7).all (fun i => decide (f i = g i)) = true
  · rw [if_pos e]
    have : eqV f g = true := e
    rw [this];rfl
  · rw [if_neg e]
    have : eqV f g = false := Bool.eq_false_iff.2 e
    rw [this];rfl
@[go_sem] theorem index_fc (f : Nat → Int) (i : Int) (h0 : 0 ≤ i) (h7 : i < 7) (w : World) : (Instr.index 40 (.agg (fc f)) (.int .i64 i)).run Tryz.prog w = .ok (.int .i64 (f i.toNat)) w := by
  have h := part_fc f i.toNat (by omega) w
  simp only [Instr.index,asIntOf,Sem.run_bind,Sem.run_pure,Result.andThen,run_underlying Tryz.underlying40]
  rw [if_pos ⟨h0,h7⟩]
  simp only [Sem.run_bind,Result.andThen,Tryz.sizeOf3,Nat.mul_one,h]
theorem bcell {W w1 : World} (hb : Below W.heap.size W w1) : (∀ b o,b < W.heap.size → w1.cell? ⟨b,o,none⟩ = W.cell? ⟨b,o,none⟩) ∧ (∀ b o,b < W.heap.size → w1.frozen? ⟨b,o,none⟩ = W.frozen? ⟨b,o,none⟩) ∧
    (∀ b,b < W.heap.size → row w1 b = row W b) ∧ (∀ b,b < W.heap.size → plain w1 b = plain W b) :=
  ⟨fun b o h => hb.cell (p := ⟨b,o,none⟩) h,fun b o h => hb.frozen (p := ⟨b,o,none⟩) h,fun b h => by unfold row;rw [hb.block b h],fun b h => by unfold plain;rw [hb.block b h]⟩
theorem below1 (w : World) (o : Obj) : Below w.heap.size w (w.alloc o) := (Below.refl _ _).alloc (Nat.le_refl _) _
theorem below2 (w : World) (o p : Obj) : Below w.heap.size w ((w.alloc o).alloc p) := nx (below1 _ _) (below1 _ _)
theorem below3 (w : World) (o p q : Obj) : Below w.heap.size w (((w.alloc o).alloc p).alloc q) := nx (below2 _ _ _) (below1 _ _)
set_option maxHeartbeats 400000 in
theorem max_any (a b : Nat → Int) (w : World) :
    Calls Tryz.prog 159 #[.agg (fc a),.agg (fc b)] w fun e w' => e = .returned (.agg (fc (maxV a b))) ∧ Below w.heap.size w w' := by
  go_enter Tryz.func159,Tryz.ntmps159
  go_wp2
  go_loopw [8] (fun i wr => ∃ k : Nat,k ≤ 7 ∧ i = .int .i64 k ∧ wr = ((w.alloc (.cells (fc (mixV a b k)) 40)).alloc (.cells (fc b) 40)).alloc (.cells (fc zeroV) 40)) (fun i _ => 7 - (intOf i).toNat)
  case atStart => exact ⟨0,Nat.zero_le _,rfl,by rw [mix_zero]⟩
  case round =>
    obtain ⟨k,hk,rfl,rfl⟩ := hrel
    by_cases hlt : k < 7
    · have hm := mix_at a b k
      have hs := mix_succ a b k
      have hlt2 : (k : Int) < 7 := by omega
      go_wp2
      go_roundw
      case rel => exact ⟨k + 1,by omega,by go_num,rfl⟩
      case measure => simp [intOf];omega
    · obtain rfl : k = 7 := by omega
      have he : fc (mixV a b 7) = fc (maxV a b) := fc_congr (mix_all a b)
      go_wp2
      exact bodyPost_ret (v := .agg (fc (maxV a b))) (ret_fc Tryz.results159 _ _ _ (by simp [go_sem])) rfl ⟨rfl,below3 _ _ _ _⟩
set_option maxHeartbeats 400000 in
theorem full_any (n : Int) (h1 : 1 ≤ n) (h7 : n ≤ 7) (w : World) :
    Calls Tryz.prog 157 #[.int .i64 n] w fun e w' => e = .returned (.agg (fc (fullTo n.toNat))) ∧ Below w.heap.size w w' := by
  obtain ⟨m,rfl⟩ : ∃ m : Nat,n = m := ⟨n.toNat,by omega⟩
  have hm7 : m ≤ 7 := by omega
  rw [Int.toNat_natCast]
  clear h1 h7
  go_enter Tryz.func157,Tryz.ntmps157
  go_wp2
  go_loopw [7] (fun i wr => ∃ k : Nat,k ≤ m ∧ i = .int .i64 k ∧ wr = (w.alloc (.cells (fc zeroV) 40)).alloc (.cells (fc (fullTo k)) 40)) (fun i _ => m - (intOf i).toNat)
  case atStart => exact ⟨0,Nat.zero_le _,rfl,by rw [full_zero]⟩
  case round =>
    obtain ⟨k,hk,rfl,rfl⟩ := hrel
    by_cases hlt : k < m
    · have hs := full_succ k
      have hlt7 : (k : Int) < 7 := by omega
      have hlt8 : k < 7 := by omega
      have hlt2 : (k : Int) < m := by omega
      go_wp2
      go_roundw
      case rel => exact ⟨k + 1,by omega,by go_num,rfl⟩
      case measure => simp [intOf];omega
    · obtain rfl : k = m := by omega
      go_wp2
      exact bodyPost_ret (v := .agg (fc (fullTo k))) (ret_fc Tryz.results157 _ _ _ (by simp [go_sem])) rfl ⟨rfl,below2 _ _ _⟩
set_option maxHeartbeats 400000 in
theorem under_any (a b : Nat → Int) (w : World) :
    Calls Tryz.prog 156 #[.agg (fc a),.agg (fc b)] w fun e w' => e = .returned (.bool (undB a b)) ∧ Below w.heap.size w w' := by
  have hu := max_under a b
  go_enter Tryz.func156,Tryz.ntmps156
  go_wp2_with fail
  refine Rg.region (by kernel_rfl) (by kernel_rfl) (by kernel_rfl) (fun _ _ d _ _ h => by cases d <;> exact h) _ rfl ?_
  repeat (first | (refine Rg.Seq.skip (by rfl) ?_;simp only [Act.put,sA,sB,sC]) | (refine Rg.Seq.pure (v := ?_) (by rfl) ?_ ?_;rotate_left;(intro w_ hS_;obtain ⟨hc_,hf_⟩ := bcell hS_;go_simp <;> with_reducible rfl);simp only [Act.put,sA,sB,sC]) | (refine Rg.Seq.call (v := ?_) (f := ?_) (args := ?_) (by rfl) ?_ ?_ ?_;rotate_left 3;(intro w_ hS_;obtain ⟨hc_,hf_⟩ := bcell hS_;go_simp <;> first | with_reducible rfl | (constructor <;> with_reducible rfl));(intro w_ hS_;first | (go_at_call 159;refine (max_any a b _).mono ?_;rintro e w_ ⟨rfl,hb_⟩;refine ⟨?_,nx hS_ hb_⟩;with_reducible rfl));simp only [Act.put,sA,sB,sC]))
  intro w1 hb1
  go_wp2
  go_ret
  exact ⟨rfl,nx (below2 _ _ _) hb1⟩
theorem under_is (a b : Nat → Int) (x : Bool) (h : undB a b = x) (w : World) :
    Calls Tryz.prog 156 #[.agg (fc a),.agg (fc b)] w fun e w' => e = .returned (.bool x) ∧ Below w.heap.size w w' := by
  rw [← h];exact under_any a b w
set_option maxHeartbeats 400000 in
theorem right_any (v : Nat → Int) (n : Int) (w : World) :
    Calls Tryz.prog 149 #[.agg (fc v),.int .i64 n] w fun e w' => e = .returned (.bool (rightB v n)) ∧ Below w.heap.size w w' := by
  by_cases h1 : n < 1
  · have H := lH (right_no (v := v) (n := n) (by omega))
    go_enter Tryz.func149,Tryz.ntmps149
    go_wp2
    go_ret
    exact ⟨by rw [H.out];rfl,below1 _ _⟩
  · have hd1 : decide (n < 1) = false := by simpa using h1
    by_cases h7 : 7 < n
    · have H := lH (right_no (v := v) (n := n) (by omega))
      go_enter Tryz.func149,Tryz.ntmps149
      go_wp2
      go_ret
      exact ⟨by rw [H.out];rfl,below1 _ _⟩
    · have hd7 : decide (7 < n) = false := by simpa using h7
      have hr := right_under (v := v) (n := n) (by omega)
      have hl : 1 ≤ n ∧ n ≤ 7 := by omega
      rw [← hr]
      clear hr h1 h7
      by_cases hz : undB zeroV v = true
      · have HZ := lH hz
        have HL := lH hl
        rw [hz,Bool.true_and]
        clear hz hl
        go_enter Tryz.func149,Tryz.ntmps149
        go_wp2_with fail
        refine Rg.region (by kernel_rfl) (by kernel_rfl) (by kernel_rfl) (fun _ _ d _ _ h => by cases d <;> exact h) _ rfl ?_
        repeat (first | (refine Rg.Seq.skip (by rfl) ?_;simp only [Act.put,sA,sB,sC]) | (refine Rg.Seq.pure (v := ?_) (by rfl) ?_ ?_;rotate_left;(intro w_ hS_;obtain ⟨hc_,hf_⟩ := bcell hS_;go_simp <;> with_reducible rfl);simp only [Act.put,sA,sB,sC]) | (refine Rg.Seq.call (v := ?_) (f := ?_) (args := ?_) (by rfl) ?_ ?_ ?_;rotate_left 3;(intro w_ hS_;obtain ⟨hc_,hf_⟩ := bcell hS_;go_simp <;> first | with_reducible rfl | (constructor <;> with_reducible rfl));(intro w_ hS_;first | (go_at_call 156;(first | with_reducible refine (under_is zeroV v true HZ.out _).mono ?_ | with_reducible refine (under_any v (fullTo n.toNat) _).mono ?_);rintro e w_ ⟨rfl,hb_⟩;refine ⟨?_,nx hS_ hb_⟩;with_reducible rfl) | (go_at_call 157;refine (full_any n HL.out.1 HL.out.2 _).mono ?_;rintro e w_ ⟨rfl,hb_⟩;refine ⟨?_,nx hS_ hb_⟩;with_reducible rfl));simp only [Act.put,sA,sB,sC]))
        intro w1 hb1
        go_wp2
        go_ret
        exact ⟨rfl,nx (below1 _ _) hb1⟩
      · have HZ : Hid (undB zeroV v = false) := lH (Bool.eq_false_iff.2 hz)
        rw [HZ.out,Bool.false_and]
        clear hz hl
        go_enter Tryz.func149,Tryz.ntmps149
        go_wp2_with fail
        refine Rg.region (by kernel_rfl) (by kernel_rfl) (by kernel_rfl) (fun _ _ d _ _ h => by cases d <;> exact h) _ rfl ?_
        repeat (first | (refine Rg.Seq.skip (by rfl) ?_;simp only [Act.put,sA,sB,sC]) | (refine Rg.Seq.pure (v := ?_) (by rfl) ?_ ?_;rotate_left;(intro w_ hS_;obtain ⟨hc_,hf_⟩ := bcell hS_;go_simp <;> with_reducible rfl);simp only [Act.put,sA,sB,sC]) | (refine Rg.Seq.call (v := ?_) (f := ?_) (args := ?_) (by rfl) ?_ ?_ ?_;rotate_left 3;(intro w_ hS_;obtain ⟨hc_,hf_⟩ := bcell hS_;go_simp <;> first | with_reducible rfl | (constructor <;> with_reducible rfl));(intro w_ hS_;first | (go_at_call 156;refine (under_is zeroV v false HZ.out _).mono ?_;rintro e w_ ⟨rfl,hb_⟩;refine ⟨?_,nx hS_ hb_⟩;with_reducible rfl));simp only [Act.put,sA,sB,sC]))
        intro w1 hb1
        go_wp2
        go_ret
        exact ⟨rfl,nx (below1 _ _) hb1⟩
set_option maxHeartbeats 1600000 in
theorem rRight_any (v : Nat → Int) (n : Int) (w : World) :
    Calls Tryz.prog 118 #[.agg (fc v),.int .i64 n] w fun e w' => e = .returned (.bool (rightB v n)) ∧ Below w.heap.size w w' := by
  by_cases h1 : n < 1
  · have H := lH (right_no (v := v) (n := n) (by omega))
    go_enter Tryz.func118,Tryz.ntmps118
    go_wp2
    go_ret
    exact ⟨by rw [H.out];rfl,below1 _ _⟩
  · have hd1 : decide (n < 1) = false := by simpa using h1
    by_cases h7 : 7 < n
    · have H := lH (right_no (v := v) (n := n) (by omega))
      go_enter Tryz.func118,Tryz.ntmps118
      go_wp2
      go_ret
      exact ⟨by rw [H.out];rfl,below1 _ _⟩
    · have hd7 : decide (7 < n) = false := by simpa using h7
      have HL : Hid (1 ≤ n ∧ n ≤ 7) := lH (by omega)
      clear h1 h7
      go_enter Tryz.func118,Tryz.ntmps118
      go_wp2
      go_loop [14] (fun i => ∃ k : Nat,k ≤ 7 ∧ i = .int .i64 k ∧ Hid (∀ j,j < k → okAt v n j = true)) (fun i => 7 - (intOf i).toNat)
      case atStart => exact ⟨0,Nat.zero_le _,rfl,lH fun _ h => absurd h (by omega)⟩
      case round =>
        obtain ⟨k,hk,rfl,HA⟩ := hrel
        by_cases hlt : k < 7
        · have hlt2 : (k : Int) < 7 := by omega
          by_cases c1 : v k < 0
          · have H := lH (right_bad (v := v) (n := n) hlt (okAt_no (by omega)))
            go_wp2
            go_ret
            exact ⟨by rw [H.out];rfl,below1 _ _⟩
          · have d1 : decide (v k < 0) = false := by simpa using c1
            by_cases c2 : 400 < v k
            · have H := lH (right_bad (v := v) (n := n) hlt (okAt_no (by omega)))
              clear c1
              go_wp2
              go_ret
              exact ⟨by rw [H.out];rfl,below1 _ _⟩
            · have d2 : decide (400 < v k) = false := by simpa using c2
              by_cases c3 : n ≤ (k : Int)
              · by_cases c4 : v k = 0
                · have HO : Hid (okAt v n k = true) := lH (okAt_iff.2 (by omega))
                  clear c1 c2 d1 d2
                  go_wp2
                  go_round
                  case rel => exact ⟨k + 1,by omega,by go_num,lH fun j hj => by
                    by_cases e : j = k
                    · rw [e];exact HO.out
                    · exact HA.out j (by omega)⟩
                  case measure => simp [intOf];omega
                · have H := lH (right_bad (v := v) (n := n) hlt (okAt_no (by omega)))
                  have d4 : (v k == 0) = false := by simpa using c4
                  clear c1 c2 c4
                  go_wp2
                  go_ret
                  exact ⟨by rw [H.out];rfl,below1 _ _⟩
              · have HO : Hid (okAt v n k = true) := lH (okAt_iff.2 (by omega))
                have d3 : decide (n ≤ (k : Int)) = false := by simpa using c3
                clear c1 c2 c3
                go_wp2
                go_round
                case rel => exact ⟨k + 1,by omega,by go_num,lH fun j hj => by
                  by_cases e : j = k
                  · rw [e];exact HO.out
                  · exact HA.out j (by omega)⟩
                case measure => simp [intOf];omega
        · obtain rfl : k = 7 := by omega
          have H : Hid (rightB v n = true) := lH (rightB_iff.2 ⟨HL.out,HA.out⟩)
          go_wp2
          go_ret
          exact ⟨by rw [H.out];rfl,below1 _ _⟩
theorem right_is (v : Nat → Int) (n : Int) (x : Bool) (h : rightB v n = x) (w : World) :
    Calls Tryz.prog 149 #[.agg (fc v),.int .i64 n] w fun e w' => e = .returned (.bool x) ∧ Below w.heap.size w w' := by
  rw [← h];exact right_any v n w
theorem lay (w : World) (v : Nat → Int) (t : TypeId) : ∃ W,W = w.alloc (.cells (fc v) t) ∧ Below w.heap.size w W ∧ row W w.heap.size = fc v ∧ w.heap.size < W.heap.size :=
  ⟨_,rfl,below1 _ _,row_new _ _ _ _ rfl,by simp⟩
end Go.Proofs.YtnnbjhpkgndclaaGreatDoor.Ve
