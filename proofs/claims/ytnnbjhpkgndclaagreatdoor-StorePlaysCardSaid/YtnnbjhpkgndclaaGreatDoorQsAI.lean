/- Plain mathematics of layer 6: a command as nine numbers, in the order of its fields: client, number, kind, lane, asset, order, side, price, quantity. -/
import Derived.Test.YtnnbjhpkgndclaaGreatDoorQsZZ
import Derived.WalkKit
import Derived.Test.YtnnbjhpkgndclaaGreatDoorRows
import Derived.Test.YtnnbjhpkgndclaaGreatDoorQsAH
import Derived.Test.YtnnbjhpkgndclaaGreatDoorQsAC
import Derived.Test.YtnnbjhpkgndclaaGreatDoorQsAD
import Derived.Laws.AppendOwn
set_option linter.unusedVariables false
namespace Go.Proofs.YtnnbjhpkgndclaaGreatDoor.Cm
def zeroF : Nat → Int := fun _ => 0
def upd (f : Nat → Int) (k : Nat) (x : Int) : Nat → Int := fun i => if i = k then x else f i
def eqF (f g : Nat → Int) : Bool := (List.range' 0 9).all fun i => decide (f i = g i)
theorem eqF_iff {f g : Nat → Int} : eqF f g = true ↔ ∀ i,i < 9 → f i = g i := by
  unfold eqF
  rw [List.all_eq_true]
  constructor
  · intro h i hi
    simpa using h i (by rw [List.mem_range'_1];omega)
  · intro h i hi
    simpa using h i (by rw [List.mem_range'_1] at hi;omega)
def wi (n lo hi : Int) : Bool := decide (lo ≤ n) && decide (n ≤ hi)
theorem wi_iff {n lo hi : Int} : wi n lo hi = true ↔ lo ≤ n ∧ n ≤ hi := by simp [wi]
def tst (c : Nat → Int) : Nat → Bool
  | 0 => wi (c 2) 1 8
  | 1 => wi (c 0) 0 63
  | 2 => wi (c 1) 1 1125899906842624
  | 3 => wi (c 3) 0 5
  | 4 => wi (c 4) 0 7
  | 5 => wi (c 5) 0 1073741824
  | 6 => wi (c 6) 0 2
  | 7 => wi (c 7) 0 1125899906842624
  | _ => wi (c 8) 0 1125899906842624
def limB (c : Nat → Int) : Bool := (List.range' 0 9).all (tst c)
theorem limB_iff {c : Nat → Int} : limB c = true ↔ ∀ i,i < 9 → tst c i = true := by
  unfold limB
  rw [List.all_eq_true]
  constructor
  · intro h i hi
    exact h i (by rw [List.mem_range'_1];omega)
  · intro h i hi
    exact h i (by rw [List.mem_range'_1] at hi;omega)
theorem limB_no {c : Nat → Int} (i : Nat) (hi : i < 9) (h : tst c i = false) : limB c = false := by
  cases e : limB c
  · rfl
  · rw [limB_iff.1 e i hi] at h;cases h
theorem first_no {c : Nat → Int} : limB c = true ∨ ∃ i,i < 9 ∧ tst c i = false ∧ ∀ j,j < i → tst c j = true := by
  have key : ∀ n,n ≤ 9 → (∀ j,j < n → tst c j = true) ∨ ∃ i,i < 9 ∧ tst c i = false ∧ ∀ j,j < i → tst c j = true := by
    intro n
    induction n with
    | zero => intro _;exact .inl fun j hj => by omega
    | succ n ih =>
      intro hn
      rcases ih (by omega) with h | h
      · cases e : tst c n
        · exact .inr ⟨n,by omega,e,h⟩
        · exact .inl fun j hj => by
            by_cases k : j = n
            · subst k;exact e
            · exact h j (by omega)
      · exact .inr h
  rcases key 9 (Nat.le_refl _) with h | h
  · exact .inl (limB_iff.2 h)
  · exact .inr h
def zeroB (c : Nat → Int) : Bool := eqF c zeroF
def chkB (c : Nat → Int) : Bool := zeroB c || limB c
def chkE (c : Nat → Int) : Int := if chkB c then 0 else 1
theorem lim_eq (c : Nat → Int) : limB c = true ↔ (1 ≤ c 2 ∧ c 2 ≤ 8) ∧ (0 ≤ c 0 ∧ c 0 ≤ 63) ∧ (1 ≤ c 1 ∧ c 1 ≤ 1125899906842624) ∧ (0 ≤ c 3 ∧ c 3 ≤ 5) ∧ (0 ≤ c 4 ∧ c 4 ≤ 7) ∧ (0 ≤ c 5 ∧ c 5 ≤ 1073741824) ∧ (0 ≤ c 6 ∧ c 6 ≤ 2) ∧ (0 ≤ c 7 ∧ c 7 ≤ 1125899906842624) ∧ (0 ≤ c 8 ∧ c 8 ≤ 1125899906842624) := by
  rw [limB_iff]
  constructor
  · intro h
    exact ⟨wi_iff.1 (h 0 (by omega)),wi_iff.1 (h 1 (by omega)),wi_iff.1 (h 2 (by omega)),wi_iff.1 (h 3 (by omega)),wi_iff.1 (h 4 (by omega)),wi_iff.1 (h 5 (by omega)),wi_iff.1 (h 6 (by omega)),wi_iff.1 (h 7 (by omega)),wi_iff.1 (h 8 (by omega))⟩
  · rintro ⟨h0,h1,h2,h3,h4,h5,h6,h7,h8⟩ i hi
    match i,hi with
    | 0,_ => exact wi_iff.2 h0
    | 1,_ => exact wi_iff.2 h1
    | 2,_ => exact wi_iff.2 h2
    | 3,_ => exact wi_iff.2 h3
    | 4,_ => exact wi_iff.2 h4
    | 5,_ => exact wi_iff.2 h5
    | 6,_ => exact wi_iff.2 h6
    | 7,_ => exact wi_iff.2 h7
    | 8,_ => exact wi_iff.2 h8
def fld : Nat → Nat
  | 0 => 2 | 1 => 0 | 2 => 3 | 3 => 4 | 4 => 6 | 5 => 1 | 6 => 7 | 7 => 8 | _ => 5
def plc : Nat → Nat
  | 0 => 1 | 1 => 5 | 2 => 0 | 3 => 2 | 4 => 3 | 5 => 8 | 6 => 4 | 7 => 6 | _ => 7
def wd : Nat → Nat
  | 0 => 1 | 1 => 1 | 2 => 1 | 3 => 1 | 4 => 1 | 5 => 7 | 6 => 7 | 7 => 7 | _ => 4
def pre : Nat → Nat
  | 0 => 0
  | k + 1 => pre k + wd k
theorem pre9 : pre 9 = 30 := rfl
theorem wd_bd (k : Nat) : 1 ≤ wd k ∧ wd k ≤ 7 := by unfold wd;split <;> omega
theorem pre_mono (k j : Nat) (h : k ≤ j) : pre k ≤ pre j := by
  induction j with
  | zero => rw [Nat.le_zero.1 h];exact Nat.le_refl _
  | succ j ih =>
    by_cases e : k = j + 1
    · rw [e];exact Nat.le_refl _
    · have := ih (by omega);rw [pre];omega
def numF (c : Nat → Int) : Nat → Int := fun i => c (fld i)
def ofF (l : Nat → Int) : Nat → Int := fun i => l (plc i)
theorem fld_plc (i : Nat) (h : i < 9) : fld (plc i) = i := by
  match i,h with
  | 0,_ => rfl | 1,_ => rfl | 2,_ => rfl | 3,_ => rfl | 4,_ => rfl | 5,_ => rfl | 6,_ => rfl | 7,_ => rfl | 8,_ => rfl
theorem plc_fld (i : Nat) (h : i < 9) : plc (fld i) = i := by
  match i,h with
  | 0,_ => rfl | 1,_ => rfl | 2,_ => rfl | 3,_ => rfl | 4,_ => rfl | 5,_ => rfl | 6,_ => rfl | 7,_ => rfl | 8,_ => rfl
theorem plc_lt (i : Nat) : plc i < 9 := by unfold plc;split <;> omega
theorem fld_lt (i : Nat) : fld i < 9 := by unfold fld;split <;> omega
def mix (f : Nat → Int) (k : Nat) : Nat → Int := fun i => if i < k then f i else 0
theorem mix_at (f : Nat → Int) (k : Nat) : mix f k k = 0 := by simp [mix]
theorem mix_succ (f : Nat → Int) (k : Nat) : upd (mix f k) k (f k) = mix f (k + 1) := by
  funext i;unfold upd mix
  by_cases h : i = k
  · subst h;simp
  · by_cases h2 : i < k
    · simp [h,h2,show i < k + 1 by omega]
    · simp [h,h2,show ¬ i < k + 1 by omega]
theorem mix_zero (f : Nat → Int) : mix f 0 = zeroF := by funext i;simp [mix,zeroF]
end Go.Proofs.YtnnbjhpkgndclaaGreatDoor.Cm
namespace Go.Proofs.YtnnbjhpkgndclaaGreatDoor.Cm
open Go.RowKit
open Go.Proofs.YtnnbjhpkgndclaaGreatDoor.Rw
def fc (f : Nat → Int) : Array Value := ((List.range 9).map fun i => Value.int .i64 (f i)).toArray
theorem fc_size (f : Nat → Int) : (fc f).size = 9 := by simp [fc]
theorem fc_at (f : Nat → Int) (k : Nat) (h : k < 9) : (fc f)[k]? = some (.int .i64 (f k)) := by simp [fc,h]
theorem fc_get (f : Nat → Int) (k : Nat) (h : k < (fc f).size) : (fc f)[k] = .int .i64 (f k) := by simp [fc]
theorem fc_set (f : Nat → Int) (k : Nat) (x : Int) : (fc f).setIfInBounds k (.int .i64 x) = fc (upd f k x) := by
  apply Array.ext'
  unfold fc
  rw [Array.toList_setIfInBounds]
  apply List.ext_getElem
  · simp
  · intro i h1 h2
    simp at h1 h2
    rw [List.getElem_set]
    by_cases h : k = i
    · subst h;simp [upd]
    · have h3 : ¬ i = k := fun e => h e.symm
      simp [h,upd,h3]
theorem fc_congr {f g : Nat → Int} (h : ∀ i,i < 9 → f i = g i) : fc f = fc g := by
  apply Array.ext'
  unfold fc
  simp only
  apply List.map_congr_left
  intro i hi
  rw [h i (by simpa using hi)]
theorem fc_list (f : Nat → Int) : (fc f).toList = [.int .i64 (f 0),.int .i64 (f 1),.int .i64 (f 2),.int .i64 (f 3),.int .i64 (f 4),.int .i64 (f 5),.int .i64 (f 6),.int .i64 (f 7),.int .i64 (f 8)] := rfl
theorem fc_one (f : Nat → Int) : oneAll (.agg (fc f)) = true := by
  show (fc f).all (·.oneCell') = true
  rw [← Array.all_toList,fc_list];rfl
theorem cells_agg (c : Array Value) : (Value.agg c).cells = c := rfl
theorem zeroC : ∀ w,(zeroValue 38).run Tryz.prog w = .ok (.agg (fc zeroF)) w := (zero_of_info (n := 9) (by kernel_rfl)).1
theorem zeroA : ∀ w,(zeroValue 185).run Tryz.prog w = .ok (.agg (fc zeroF)) w := (zero_of_info (n := 9) (by kernel_rfl)).1
section
variable (ρ : Operand → Value) (dst : Option Tmp) (ty : TypeId) (pos : String) (after : Array Edge) (guard : Option (Nat × Bool)) (w : World)
theorem loadC (x : Operand) (h : (rowOf w (ρ x)).size = 9) : (execOp ρ { dst,op := .load 38 x,type := ty,pos,after,guard }).run Tryz.prog w = .ok (.value (.agg (rowOf w (ρ x)))) w :=
  exec_load (n := 8) ρ dst ty pos after guard w Tryz.underlying38 rfl (by kernel_rfl) x h
theorem loadA (x : Operand) (h : (rowOf w (ρ x)).size = 9) : (execOp ρ { dst,op := .load 185 x,type := ty,pos,after,guard }).run Tryz.prog w = .ok (.value (.agg (rowOf w (ρ x)))) w :=
  exec_load (n := 8) ρ dst ty pos after guard w Tryz.underlying185 rfl (by kernel_rfl) x h
theorem storeC (p x : Operand) (h : plainAt 9 w (ρ p) = true) (hs : (ρ x).cells.size = 9) (h1 : oneAll (ρ x) = true) (ha : ρ x = .agg (ρ x).cells) : (execOp ρ { dst,op := .store 38 p x,type := ty,pos,after,guard }).run Tryz.prog w = .ok .skip (putRow w (ρ p) (ρ x).cells) :=
  exec_store (n := 8) ρ dst ty pos after guard w (by kernel_rfl) p x h hs h1 ha
theorem storeA (p x : Operand) (h : plainAt 9 w (ρ p) = true) (hs : (ρ x).cells.size = 9) (h1 : oneAll (ρ x) = true) (ha : ρ x = .agg (ρ x).cells) : (execOp ρ { dst,op := .store 185 p x,type := ty,pos,after,guard }).run Tryz.prog w = .ok .skip (putRow w (ρ p) (ρ x).cells) :=
  exec_store (n := 8) ρ dst ty pos after guard w (by kernel_rfl) p x h hs h1 ha
theorem allocC : (execOp ρ { dst,op := .alloc 38,type := ty,pos,after,guard }).run Tryz.prog w = .ok (.value (.pointer (some ⟨w.heap.size,0,none⟩))) (w.alloc (.cells (fc zeroF) 38)) :=
  exec_alloc ρ dst ty pos after guard w zeroC
theorem allocA : (execOp ρ { dst,op := .alloc 185,type := ty,pos,after,guard }).run Tryz.prog w = .ok (.value (.pointer (some ⟨w.heap.size,0,none⟩))) (w.alloc (.cells (fc zeroF) 185)) :=
  exec_alloc ρ dst ty pos after guard w zeroA
theorem buildC : (execOp ρ { dst,op := .build 38 #[],type := ty,pos,after,guard }).run Tryz.prog w = .ok (.value (.agg (fc zeroF))) w := by
  have := run_build (P := Tryz.prog) w 38 #[] (fc zeroF) (by kernel_rfl)
  simp [execOp,this]
theorem buildA : (execOp ρ { dst,op := .build 185 #[],type := ty,pos,after,guard }).run Tryz.prog w = .ok (.value (.agg (fc zeroF))) w := by
  have := run_build (P := Tryz.prog) w 185 #[] (fc zeroF) (by kernel_rfl)
  simp [execOp,this]
end
attribute [go_sem ↓] loadC loadA storeC storeA allocC allocA buildC buildA
attribute [go_sem] fc_size fc_at fc_get fc_set fc_one cells_agg
def v9 (a b c d e f g h i : Int) : Nat → Int
  | 0 => a | 1 => b | 2 => c | 3 => d | 4 => e | 5 => f | 6 => g | 7 => h | 8 => i | _ => 0
theorem agg9 (a b c d e f g h i : Int) : Value.agg #[.int .i64 a,.int .i64 b,.int .i64 c,.int .i64 d,.int .i64 e,.int .i64 f,.int .i64 g,.int .i64 h,.int .i64 i] = .agg (fc (v9 a b c d e f g h i)) := rfl
section
variable (a b c d e f g h i : Int)
theorem v9_0 : v9 a b c d e f g h i 0 = a := rfl
theorem v9_1 : v9 a b c d e f g h i 1 = b := rfl
theorem v9_2 : v9 a b c d e f g h i 2 = c := rfl
theorem v9_3 : v9 a b c d e f g h i 3 = d := rfl
theorem v9_4 : v9 a b c d e f g h i 4 = e := rfl
theorem v9_5 : v9 a b c d e f g h i 5 = f := rfl
theorem v9_6 : v9 a b c d e f g h i 6 = g := rfl
theorem v9_7 : v9 a b c d e f g h i 7 = h := rfl
theorem v9_8 : v9 a b c d e f g h i 8 = i := rfl
theorem upd_0 (x : Int) : upd (v9 a b c d e f g h i) 0 x = v9 x b c d e f g h i := by funext j;unfold upd;match j with | 0 => rfl | 1 => rfl | 2 => rfl | 3 => rfl | 4 => rfl | 5 => rfl | 6 => rfl | 7 => rfl | 8 => rfl | (_ + 9) => exact if_neg (by omega)
theorem upd_1 (x : Int) : upd (v9 a b c d e f g h i) 1 x = v9 a x c d e f g h i := by funext j;unfold upd;match j with | 0 => rfl | 1 => rfl | 2 => rfl | 3 => rfl | 4 => rfl | 5 => rfl | 6 => rfl | 7 => rfl | 8 => rfl | (_ + 9) => exact if_neg (by omega)
theorem upd_2 (x : Int) : upd (v9 a b c d e f g h i) 2 x = v9 a b x d e f g h i := by funext j;unfold upd;match j with | 0 => rfl | 1 => rfl | 2 => rfl | 3 => rfl | 4 => rfl | 5 => rfl | 6 => rfl | 7 => rfl | 8 => rfl | (_ + 9) => exact if_neg (by omega)
theorem upd_3 (x : Int) : upd (v9 a b c d e f g h i) 3 x = v9 a b c x e f g h i := by funext j;unfold upd;match j with | 0 => rfl | 1 => rfl | 2 => rfl | 3 => rfl | 4 => rfl | 5 => rfl | 6 => rfl | 7 => rfl | 8 => rfl | (_ + 9) => exact if_neg (by omega)
theorem upd_4 (x : Int) : upd (v9 a b c d e f g h i) 4 x = v9 a b c d x f g h i := by funext j;unfold upd;match j with | 0 => rfl | 1 => rfl | 2 => rfl | 3 => rfl | 4 => rfl | 5 => rfl | 6 => rfl | 7 => rfl | 8 => rfl | (_ + 9) => exact if_neg (by omega)
theorem upd_5 (x : Int) : upd (v9 a b c d e f g h i) 5 x = v9 a b c d e x g h i := by funext j;unfold upd;match j with | 0 => rfl | 1 => rfl | 2 => rfl | 3 => rfl | 4 => rfl | 5 => rfl | 6 => rfl | 7 => rfl | 8 => rfl | (_ + 9) => exact if_neg (by omega)
theorem upd_6 (x : Int) : upd (v9 a b c d e f g h i) 6 x = v9 a b c d e f x h i := by funext j;unfold upd;match j with | 0 => rfl | 1 => rfl | 2 => rfl | 3 => rfl | 4 => rfl | 5 => rfl | 6 => rfl | 7 => rfl | 8 => rfl | (_ + 9) => exact if_neg (by omega)
theorem upd_7 (x : Int) : upd (v9 a b c d e f g h i) 7 x = v9 a b c d e f g x i := by funext j;unfold upd;match j with | 0 => rfl | 1 => rfl | 2 => rfl | 3 => rfl | 4 => rfl | 5 => rfl | 6 => rfl | 7 => rfl | 8 => rfl | (_ + 9) => exact if_neg (by omega)
theorem upd_8 (x : Int) : upd (v9 a b c d e f g h i) 8 x = v9 a b c d e f g h x := by funext j;unfold upd;match j with | 0 => rfl | 1 => rfl | 2 => rfl | 3 => rfl | 4 => rfl | 5 => rfl | 6 => rfl | 7 => rfl | 8 => rfl | (_ + 9) => exact if_neg (by omega)
end
theorem fc_ne (f : Nat → Int) : (fc f = #[]) = False := by
  apply propext;constructor
  · intro h;have := fc_size f;rw [h] at this;cases this
  · exact False.elim
attribute [go_sem] fc_ne upd_0 upd_1 upd_2 upd_3 upd_4 upd_5 upd_6 upd_7 upd_8 agg9 v9_0 v9_1 v9_2 v9_3 v9_4 v9_5 v9_6 v9_7 v9_8
theorem fc_ext {f g : Nat → Int} (h0 : f 0 = g 0) (h1 : f 1 = g 1) (h2 : f 2 = g 2) (h3 : f 3 = g 3) (h4 : f 4 = g 4) (h5 : f 5 = g 5) (h6 : f 6 = g 6) (h7 : f 7 = g 7) (h8 : f 8 = g 8) : fc f = fc g := fc_congr fun i hi => by
  match i,hi with
  | 0,_ => exact h0
  | 1,_ => exact h1
  | 2,_ => exact h2
  | 3,_ => exact h3
  | 4,_ => exact h4
  | 5,_ => exact h5
  | 6,_ => exact h6
  | 7,_ => exact h7
  | 8,_ => exact h8
theorem ret_C {fn : Func} {p : Tmp} (h : fn.results = #[.cell p 38]) (tmps : Array Value) (w : World) (f : Nat → Int) (hr : rowOf w (tmps.getD p undef) = fc f) : (results fn tmps).run Tryz.prog w = .ok (.agg (fc f)) w :=
  ret1 (n := 8) h Tryz.underlying38 rfl (by kernel_rfl) tmps w (fc_size f) hr
theorem ret_C3 {fn : Func} {p q r : Tmp} (h : fn.results = #[.cell p 38,.tmp q,.tmp r]) (tmps : Array Value) (w : World) (f : Nat → Int) (hr : rowOf w (tmps.getD p undef) = fc f) : (results fn tmps).run Tryz.prog w = .ok (.tuple #[.agg (fc f),tmps.getD q undef,tmps.getD r undef]) w :=
  ret3 (n := 8) h Tryz.underlying38 rfl (by kernel_rfl) tmps w (fc_size f) hr
theorem ret_A {fn : Func} {p : Tmp} (h : fn.results = #[.cell p 185]) (tmps : Array Value) (w : World) (f : Nat → Int) (hr : rowOf w (tmps.getD p undef) = fc f) : (results fn tmps).run Tryz.prog w = .ok (.agg (fc f)) w :=
  ret1 (n := 8) h Tryz.underlying185 rfl (by kernel_rfl) tmps w (fc_size f) hr
theorem fieldsC : Tryz.prog.underlying 38 = some (.struct (Tryz.prog.fieldsOf 38)) := by kernel_rfl
theorem part_fc (f : Nat → Int) (k : Nat) (h : k < 9) (w : World) : (part 3 (fc f) k).run Tryz.prog w = .ok (.int .i64 (f k)) w := by
  simp [part,Tryz.isAgg3,fc_at f k h]
theorem eqInt (a b : Int) (w : World) : (Op.equalIn 9999 3 (.int .i64 a) (.int .i64 b)).run Tryz.prog w = .ok (a == b) w := by
  rw [show (9999 : Nat) = 9998 + 1 from rfl,Op.equalIn]
  simp [run_underlying Tryz.underlying3]
theorem eqOne (f g : Nat → Int) (k : Nat) (hk : k < 9) (nm : String) (hn : nm ≠ "_") (fl : Field) (hf : fl.name = nm) (ho : fl.offset = k) (ht : fl.type = 3) (fs : List Field) (w : World) :
    (Op.eqFields 9999 (fc f) (fc g) (fl :: fs)).run Tryz.prog w = if f k = g k then (Op.eqFields 9999 (fc f) (fc g) fs).run Tryz.prog w else .ok false w := by
  simp only [Op.eqFields,hf,ho,ht,hn,ne_eq,not_false_eq_true,if_true,Sem.run_bind,part_fc f k hk,part_fc g k hk,eqInt,Result.andThen_ok]
  by_cases h : f k = g k
  · simp [h]
  · simp [h]
theorem eqC (f g : Nat → Int) (w : World) : (Op.equalIn 10000 38 (.agg (fc f)) (.agg (fc g))).run Tryz.prog w = .ok (eqF f g) w := by
  rw [run_equalIn_agg w 9999 _ _ _ fieldsC (by kernel_rfl)]
  simp only [Program.fieldsOf,Tryz.underlying38]
  rw [eqOne f g 0 (by omega) "Client" (by decide) _ rfl rfl rfl,eqOne f g 1 (by omega) "Seq" (by decide) _ rfl rfl rfl,eqOne f g 2 (by omega) "Kind" (by decide) _ rfl rfl rfl,eqOne f g 3 (by omega) "Lane" (by decide) _ rfl rfl rfl,
    eqOne f g 4 (by omega) "Asset" (by decide) _ rfl rfl rfl,eqOne f g 5 (by omega) "Order" (by decide) _ rfl rfl rfl,eqOne f g 6 (by omega) "Side" (by decide) _ rfl rfl rfl,eqOne f g 7 (by omega) "Price" (by decide) _ rfl rfl rfl,eqOne f g 8 (by omega) "Qty" (by decide) _ rfl rfl rfl]
  cases e : eqF f g
  · by_cases h : f 0 = g 0 ∧ f 1 = g 1 ∧ f 2 = g 2 ∧ f 3 = g 3 ∧ f 4 = g 4 ∧ f 5 = g 5 ∧ f 6 = g 6 ∧ f 7 = g 7 ∧ f 8 = g 8
    · obtain ⟨h0,h1,h2,h3,h4,h5,h6,h7,h8⟩ := h
      have : eqF f g = true := eqF_iff.2 fun i hi => by
        match i,hi with
        | 0,_ => exact h0
        | 1,_ => exact h1
        | 2,_ => exact h2
        | 3,_ => exact h3
        | 4,_ => exact h4
        | 5,_ => exact h5
        | 6,_ => exact h6
        | 7,_ => exact h7
        | 8,_ => exact h8
      rw [this] at e;cases e
    · by_cases h0 : f 0 = g 0 <;> by_cases h1 : f 1 = g 1 <;> try (simp only [h0,h1,if_false,if_true];done)
      by_cases h2 : f 2 = g 2 <;> by_cases h3 : f 3 = g 3 <;> try (simp only [h0,h1,h2,h3,if_false,if_true];done)
      by_cases h4 : f 4 = g 4 <;> by_cases h5 : f 5 = g 5 <;> try (simp only [h0,h1,h2,h3,h4,h5,if_false,if_true];done)
      by_cases h6 : f 6 = g 6 <;> by_cases h7 : f 7 = g 7 <;> try (simp only [h0,h1,h2,h3,h4,h5,h6,h7,if_false,if_true];done)
      by_cases h8 : f 8 = g 8
      · exact absurd ⟨h0,h1,h2,h3,h4,h5,h6,h7,h8⟩ h
      · simp only [h0,h1,h2,h3,h4,h5,h6,h7,h8,if_false,if_true]
  · have h := eqF_iff.1 e
    rw [if_pos (h 0 (by omega)),if_pos (h 1 (by omega)),if_pos (h 2 (by omega)),if_pos (h 3 (by omega)),if_pos (h 4 (by omega)),if_pos (h 5 (by omega)),if_pos (h 6 (by omega)),if_pos (h 7 (by omega)),if_pos (h 8 (by omega))]
    simp [Op.eqFields]
theorem eqlC (f g : Nat → Int) (w : World) : (binOp .eql 38 (.agg (fc f)) (.agg (fc g))).run Tryz.prog w = .ok (.bool (eqF f g)) w := by
  rw [run_eql_struct,eqC];rfl
theorem neqC (f g : Nat → Int) (w : World) : (binOp .neq 38 (.agg (fc f)) (.agg (fc g))).run Tryz.prog w = .ok (.bool (!eqF f g)) w := by
  rw [run_neq_struct,eqC];rfl
theorem guardC (op : BinOp) (x y : Operand) (f g : Nat → Int) (w : World) : (eqGuard op 38 x y (.agg (fc f)) (.agg (fc g))).run Tryz.prog w = .ok () w :=
  run_eqGuard_agg w op _ x y _ _ (by kernel_rfl)
@[go_sem] theorem index_fc (f : Nat → Int) (i : Int) (h0 : 0 ≤ i) (h7 : i < 9) (w : World) : (Instr.index 185 (.agg (fc f)) (.int .i64 i)).run Tryz.prog w = .ok (.int .i64 (f i.toNat)) w := by
  have h := part_fc f i.toNat (by omega) w
  simp only [Instr.index,asIntOf,Sem.run_bind,Sem.run_pure,Result.andThen,run_underlying Tryz.underlying185]
  rw [if_pos ⟨h0,h7⟩]
  simp only [Sem.run_bind,Result.andThen,Tryz.sizeOf3,Nat.mul_one,h]
attribute [go_sem ↓] eqC eqlC neqC guardC
end Go.Proofs.YtnnbjhpkgndclaaGreatDoor.Cm
namespace Go.Proofs.YtnnbjhpkgndclaaGreatDoor.Cm
open Go.RowKit
open Go.Proofs.YtnnbjhpkgndclaaGreatDoor.Rw
open Go.Proofs.YtnnbjhpkgndclaaGreatDoor.Fx (ret_v ret_bool ret_int)
set_option maxHeartbeats 400000 in
theorem within_any (n lo hi : Int) (w : World) :
    Calls Tryz.prog 158 #[.int .i64 n,.int .i64 lo,.int .i64 hi] w fun e w' => e = .returned (.bool (wi n lo hi)) ∧ w = w' := by
  have H : Hid (wi n lo hi = (decide (lo ≤ n) && decide (n ≤ hi))) := lH rfl
  by_cases h1 : lo ≤ n <;> by_cases h2 : n ≤ hi
  all_goals
    go_enter Tryz.func158,Tryz.ntmps158
    go_wp2
    go_ret
    exact ⟨by rw [H.out];simp [h1,h2],rfl⟩
theorem within_is {n lo hi : Int} {r : Bool} (h : Hid (wi n lo hi = r)) (w : World) :
    Calls Tryz.prog 158 #[.int .i64 n,.int .i64 lo,.int .i64 hi] w fun e w' => e = .returned (.bool r) ∧ w = w' := by
  rw [← h.out];exact within_any n lo hi w
set_option maxHeartbeats 400000 in
theorem account_any (n : Int) (w : World) :
    Calls Tryz.prog 141 #[.int .i64 n] w fun e w' => e = .returned (.bool (wi n 0 63)) ∧ w = w' := by
  have H : Hid (wi n 0 63 = (decide (0 ≤ n) && decide (n < 64))) := lH (by unfold wi;rw [show decide (n ≤ 63) = decide (n < 64) by rw [decide_eq_decide];omega])
  by_cases h1 : 0 ≤ n <;> by_cases h2 : n < 64
  all_goals
    go_enter Tryz.func141,Tryz.ntmps141
    go_wp2
    go_ret
    exact ⟨by rw [H.out];simp [h1,h2],rfl⟩
set_option maxHeartbeats 400000 in
theorem amount_any (n : Int) (w : World) :
    Calls Tryz.prog 142 #[.int .i64 n] w fun e w' => e = .returned (.bool (wi n 0 1125899906842624)) ∧ w = w' := by
  have H : Hid (wi n 0 1125899906842624 = (decide (0 ≤ n) && decide (n ≤ 1125899906842624))) := lH rfl
  by_cases h1 : 0 ≤ n <;> by_cases h2 : n ≤ 1125899906842624
  all_goals
    go_enter Tryz.func142,Tryz.ntmps142
    go_wp2
    go_ret
    exact ⟨by rw [H.out];simp [h1,h2],rfl⟩
set_option maxHeartbeats 400000 in
theorem isZero_any (c : Nat → Int) (w : World) :
    Calls Tryz.prog 154 #[.agg (fc c)] w fun e w' => e = .returned (.bool (zeroB c)) ∧ Below w.heap.size w w' := by
  go_enter Tryz.func154,Tryz.ntmps154
  go_wp2
  go_ret
  exact ⟨rfl,below1 _ _⟩
theorem num_v9 (c : Nat → Int) : fc (v9 (c 2) (c 0) (c 3) (c 4) (c 6) (c 1) (c 7) (c 8) (c 5)) = fc (numF c) := fc_ext rfl rfl rfl rfl rfl rfl rfl rfl rfl
set_option maxHeartbeats 800000 in
theorem numbers_any (c : Nat → Int) (w : World) :
    Calls Tryz.prog 150 #[.agg (fc c)] w fun e w' => e = .returned (.agg (fc (numF c))) ∧ Below w.heap.size w w' := by
  have H := lH (num_v9 c)
  go_enter Tryz.func150,Tryz.ntmps150
  go_wp2
  rw [H.out]
  exact bodyPost_ret (v := .agg (fc (numF c))) (ret_A Tryz.results150 _ _ _ (by simp [go_sem])) rfl ⟨rfl,below2 _ _ _⟩
theorem of_v9 (l : Nat → Int) : fc (v9 (l 1) (l 5) (l 0) (l 2) (l 3) (l 8) (l 4) (l 6) (l 7)) = fc (ofF l) := fc_ext rfl rfl rfl rfl rfl rfl rfl rfl rfl
set_option maxHeartbeats 800000 in
theorem ofNumbers_any (l : Nat → Int) (w : World) :
    Calls Tryz.prog 152 #[.agg (fc l)] w fun e w' => e = .returned (.agg (fc (ofF l))) ∧ Below w.heap.size w w' := by
  have H := lH (of_v9 l)
  go_enter Tryz.func152,Tryz.ntmps152
  go_wp2
  rw [H.out]
  exact bodyPost_ret (v := .agg (fc (ofF l))) (ret_C Tryz.results152 _ _ _ (by simp [go_sem])) rfl ⟨rfl,below2 _ _ _⟩
def K1 (c : Nat → Int) (v : Value) (w : World) : Prop := ∃ b cap,v = .slice (some ⟨b,0,none⟩) 1 cap ∧ b < w.heap.size ∧ w.cell? ⟨b,0,none⟩ = some (.bool false) ∧ w.cell? ⟨b,1,none⟩ = some (.int .i64 (c 0))
def K2 (c : Nat → Int) (v : Value) (w : World) : Prop := ∃ b cap,v = .slice (some ⟨b,0,none⟩) 2 cap ∧ b < w.heap.size ∧ w.cell? ⟨b,0,none⟩ = some (.bool false) ∧ w.cell? ⟨b,1,none⟩ = some (.int .i64 (c 0)) ∧ w.cell? ⟨b,2,none⟩ = some (.bool true) ∧ w.cell? ⟨b,3,none⟩ = some (.int .i64 (c 3))
def Post (F : Value → World → Prop) (w : World) (e : Ending) (w' : World) : Prop := ∃ v,e = .returned v ∧ Below w.heap.size w w' ∧ F v w'
end Go.Proofs.YtnnbjhpkgndclaaGreatDoor.Cm
