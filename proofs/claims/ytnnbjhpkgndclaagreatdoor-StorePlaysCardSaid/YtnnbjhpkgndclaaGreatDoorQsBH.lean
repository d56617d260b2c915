/- Disks in memory. -/
import Derived.Test.YtnnbjhpkgndclaaGreatDoorQsZZ
import Derived.Test.YtnnbjhpkgndclaaGreatDoorRows
import Derived.Test.YtnnbjhpkgndclaaGreatDoorQsAW
import Derived.Test.YtnnbjhpkgndclaaGreatDoorQsAT
import Derived.Test.YtnnbjhpkgndclaaGreatDoorQsAG
import Derived.Lib.Hide
import Derived.Deep.QuietTactic
import Derived.StillTailTactics
import Derived.Laws.EntriesVeiled
set_option linter.unusedVariables false
namespace Go.Proofs.YtnnbjhpkgndclaaGreatDoor.Dk
open Go.RowKit
open Go.Proofs.YtnnbjhpkgndclaaGreatDoor.Rw
open Go.Proofs.YtnnbjhpkgndclaaGreatDoor.Da
theorem ret_int {k : IntKind} {a b : Int} (h : a = b) : Ending.returned (.int k a) = .returned (.int k b) := by rw [h]
theorem ret_bool {a b : Bool} (h : a = b) : Ending.returned (.bool a) = .returned (.bool b) := by rw [h]
def cellsO (o : Do) : List Value := [.int .i64 (zi o.1),.string o.2.1,.bool o.2.2]
def eO : Enc Do := Enc.flat 3 cellsO (fun _ => rfl) (fun o u hu => by simp [cellsO] at hu;rcases hu with rfl | rfl | rfl <;> rfl)
abbrev OL (n : Nat) (l : List Do) (v : Value) (w : World) : Prop := Is eO 82 (Bs.of n) l v w
theorem typesO : 82 ∉ eO.ts := by decide
theorem infoO : (Tryz.prog.info? 82).map (fun i => (i.zero,i.size,i.bytes)) = some (some (.agg #[.int .i64 0,.string ⟨#[]⟩,.bool false]),3,32) := by kernel_rfl
theorem elemO : Elem Tryz.prog 25 82 eO.k 32 := elem_of Tryz.underlying25 infoO rfl (by decide)
theorem at3 {n : Nat} {l : List Do} {b off : Nat} {w : World} (h : Lies eO 82 (Bs.of n) l b off w) (i : Nat) (hi : i < l.length) :
    w.cell? ⟨b,off + i * 3,none⟩ = some (.int .i64 (zi l[i].1)) ∧ w.cell? ⟨b,off + i * 3 + 1,none⟩ = some (.string l[i].2.1) ∧ w.cell? ⟨b,off + i * 3 + 2,none⟩ = some (.bool l[i].2.2) := by
  obtain ⟨cs,rfl,hu⟩ := h.at i hi
  exact ⟨hu 0 _ rfl,hu 1 _ rfl,hu 2 _ rfl⟩
abbrev cD (a b : ByteArray) (o : Value) (c f : Int) (n : Bool) : Array Value := #[.string a,.string b,o,.int .i64 c,.int .i64 f,.bool n]
def DV (n : Nat) (d : Ds) (v : Value) (w : World) : Prop := ∃ o,v = .agg (cD d.a d.b o d.c d.f d.n) ∧ OL n d.l o w ∧ capOk o
theorem OL.keep {n : Nat} {l : List Do} {v : Value} {w w' : World} (h : OL n l v w) (k : Keeps (Bs.of n) [82] w w') : OL n l v w' := Is.keep eO 82 h k
theorem OL.stays {n : Nat} {l : List Do} {v : Value} {w w' : World} (h : OL n l v w) (k : Below w.heap.size w w') : OL n l v w' := Is.stays eO 82 h k
theorem DV.stays {n : Nat} {d : Ds} {v : Value} {w w' : World} (h : DV n d v w) (k : Below w.heap.size w w') : DV n d v w' := by
  obtain ⟨o,rfl,h,c⟩ := h;exact ⟨o,rfl,h.stays k,c⟩
theorem keeps_setRow {B : Bs} {ts : List TypeId} {w : World} {b : Nat} {cur : Array Value} {t : TypeId} {fr : Nat × Nat} (c : Array Value) (h : w.heap[b]? = some (.cells cur t fr)) (ht : t ∉ ts) (hB : B.lo ≤ b) : Keeps B ts w (w.setRow b c) :=
  ⟨by rw [setRow_size];exact Nat.le_refl _,fun i ob hi ho => by
    by_cases e : i = b
    · subst e
      rw [h] at hi
      obtain rfl := Option.some.inj hi
      rcases ho with ho | ⟨_,_,_,he,hm,_⟩
      · omega
      · cases he;exact absurd hm ht
    · rw [setRow_other w b i c e];exact hi⟩
theorem keeps_setCell {B : Bs} {ts : List TypeId} {w : World} {b : Nat} {cur : Array Value} {t : TypeId} {fr : Nat × Nat} (o : Nat) (v : Value) (h : w.heap[b]? = some (.cells cur t fr)) (ht : t ∉ ts) (hB : B.lo ≤ b) : Keeps B ts w (w.setCell ⟨b,o,none⟩ v) :=
  ⟨by simp [World.setCell],fun i ob hi ho => by
    by_cases e : i = b
    · subst e
      rw [h] at hi
      obtain rfl := Option.some.inj hi
      rcases ho with ho | ⟨_,_,_,he,hm,_⟩
      · omega
      · cases he;exact absurd hm ht
    · rw [Below.heap_setCell w ⟨b,o,none⟩ v i e];exact hi⟩
theorem low_setCell {w : World} {b n : Nat} (o : Nat) (v : Value) (h : n ≤ b) : Below n w (w.setCell ⟨b,o,none⟩ v) :=
  ⟨rfl,rfl,rfl,by simp [World.setCell],fun i hi => Below.heap_setCell w ⟨b,o,none⟩ v i (by show i ≠ b;omega)⟩
theorem low_setRow {w : World} {b n : Nat} (c : Array Value) (h : n ≤ b) : Below n w (w.setRow b c) := below_setRow (Below.refl _ _) h c
def Bx (w : World) (b : Nat) (cs : Array Value) (t : TypeId) : Prop := w.heap[b]? = some (.cells cs t (0,0))
section
variable {w w' : World} {b b' : Nat} {cs c : Array Value} {t t' : TypeId}
theorem Bx.lt (h : Bx w b cs t) : b < w.heap.size := (Array.getElem?_eq_some_iff.1 h).1
theorem Bx.stays (h : Bx w b cs t) (k : Below w.heap.size w w') : Bx w' b cs t := (k.block b h.lt).trans h
theorem Bx.new (w : World) (cs : Array Value) (t : TypeId) : Bx (w.alloc (.cells cs t)) w.heap.size cs t := heap_alloc_new w _
theorem Bx.alloc (h : Bx w b cs t) (o : Obj) : Bx (w.alloc o) b cs t := h.stays (below1 _ _)
theorem Bx.at {w : World} {b : Nat} (h : b = w.heap.size) (cs : Array Value) (t : TypeId) : Bx (w.alloc (.cells cs t)) b cs t := by subst h;exact Bx.new w cs t
theorem bx2 (w : World) (c1 : Array Value) (t1 : TypeId) (c2 : Array Value) (t2 : TypeId) : Bx ((w.alloc (.cells c1 t1)).alloc (.cells c2 t2)) w.heap.size c1 t1 ∧ Bx ((w.alloc (.cells c1 t1)).alloc (.cells c2 t2)) (w.heap.size + 1) c2 t2 :=
  ⟨(Bx.new _ _ _).alloc _,Bx.at (by simp) _ _⟩
theorem bx3 (w : World) (c1 : Array Value) (t1 : TypeId) (c2 : Array Value) (t2 : TypeId) (c3 : Array Value) (t3 : TypeId) : Bx (((w.alloc (.cells c1 t1)).alloc (.cells c2 t2)).alloc (.cells c3 t3)) w.heap.size c1 t1 ∧ Bx (((w.alloc (.cells c1 t1)).alloc (.cells c2 t2)).alloc (.cells c3 t3)) (w.heap.size + 1) c2 t2 ∧ Bx (((w.alloc (.cells c1 t1)).alloc (.cells c2 t2)).alloc (.cells c3 t3)) (w.heap.size + 2) c3 t3 :=
  ⟨((Bx.new _ _ _).alloc _).alloc _,(Bx.at (by simp) _ _).alloc _,Bx.at (by simp) _ _⟩
theorem Bx.row (h : Bx w b cs t) : row w b = cs := by unfold Rw.row;rw [h]
theorem Bx.plain (h : Bx w b cs t) {n : Nat} (hn : cs.size = n) : plain n w b = true := by unfold Rw.plain;rw [h];simp [hn]
theorem Bx.cell (h : Bx w b cs t) (k : Nat) : w.cell? ⟨b,k,none⟩ = cs[k]? := by simp [World.cell?,show w.heap[b]? = _ from h]
theorem Bx.thawed (h : Bx w b cs t) (k : Nat) : w.frozen? ⟨b,k,none⟩ = false := by simp [World.frozen?,show w.heap[b]? = _ from h]
theorem Bx.set (h : Bx w b cs t) (k : Nat) (v : Value) : Bx (w.setCell ⟨b,k,none⟩ v) b (cs.setIfInBounds k v) t := by
  unfold Bx;simp only [World.setCell,Array.getElem?_modify,if_true,show w.heap[b]? = _ from h];rfl
theorem Bx.put (h : Bx w b cs t) (c : Array Value) : Bx (w.setRow b c) b c t := setRow_heap w b cs c t _ h
theorem Bx.set' (h : Bx w b cs t) (hb : b ≠ b') (k : Nat) (v : Value) : Bx (w.setCell ⟨b',k,none⟩ v) b cs t := (Below.heap_setCell w ⟨b',k,none⟩ v b hb).trans h
theorem Bx.put' (h : Bx w b cs t) (hb : b ≠ b') (c : Array Value) : Bx (w.setRow b' c) b cs t := (setRow_other w b' b c hb).trans h
end
theorem Bx.d6 {w : World} {b : Nat} {x0 x1 x2 x3 x4 x5 : Value} {t : TypeId} (h : Bx w b #[x0,x1,x2,x3,x4,x5] t) : b < w.heap.size ∧ Rw.row w b = #[x0,x1,x2,x3,x4,x5] ∧ Rw.plain 6 w b = true ∧
    (w.cell? ⟨b,0,none⟩ = some x0 ∧ w.cell? ⟨b,1,none⟩ = some x1 ∧ w.cell? ⟨b,2,none⟩ = some x2 ∧ w.cell? ⟨b,3,none⟩ = some x3 ∧ w.cell? ⟨b,4,none⟩ = some x4 ∧ w.cell? ⟨b,5,none⟩ = some x5) ∧
    (w.frozen? ⟨b,0,none⟩ = false ∧ w.frozen? ⟨b,1,none⟩ = false ∧ w.frozen? ⟨b,2,none⟩ = false ∧ w.frozen? ⟨b,3,none⟩ = false ∧ w.frozen? ⟨b,4,none⟩ = false ∧ w.frozen? ⟨b,5,none⟩ = false) :=
  ⟨h.lt,h.row,h.plain rfl,⟨h.cell 0,h.cell 1,h.cell 2,h.cell 3,h.cell 4,h.cell 5⟩,h.thawed 0,h.thawed 1,h.thawed 2,h.thawed 3,h.thawed 4,h.thawed 5⟩
theorem Bx.d3 {w : World} {b : Nat} {x0 x1 x2 : Value} {t : TypeId} (h : Bx w b #[x0,x1,x2] t) : b < w.heap.size ∧ Rw.row w b = #[x0,x1,x2] ∧ Rw.plain 3 w b = true ∧
    (w.cell? ⟨b,0,none⟩ = some x0 ∧ w.cell? ⟨b,1,none⟩ = some x1 ∧ w.cell? ⟨b,2,none⟩ = some x2) ∧ (w.frozen? ⟨b,0,none⟩ = false ∧ w.frozen? ⟨b,1,none⟩ = false ∧ w.frozen? ⟨b,2,none⟩ = false) :=
  ⟨h.lt,h.row,h.plain rfl,⟨h.cell 0,h.cell 1,h.cell 2⟩,h.thawed 0,h.thawed 1,h.thawed 2⟩
theorem Bx.d2 {w : World} {b : Nat} {x0 x1 : Value} {t : TypeId} (h : Bx w b #[x0,x1] t) : b < w.heap.size ∧ Rw.row w b = #[x0,x1] ∧ Rw.plain 2 w b = true ∧
    (w.cell? ⟨b,0,none⟩ = some x0 ∧ w.cell? ⟨b,1,none⟩ = some x1) ∧ (w.frozen? ⟨b,0,none⟩ = false ∧ w.frozen? ⟨b,1,none⟩ = false) :=
  ⟨h.lt,h.row,h.plain rfl,⟨h.cell 0,h.cell 1⟩,h.thawed 0,h.thawed 1⟩
section
variable (ρ : Operand → Value) (dst : Option Tmp) (ty : TypeId) (pos : String) (after : Array Edge) (guard : Option (Nat × Bool)) (w : World)
theorem loadD (x : Operand) (h : (rowOf w (ρ x)).size = 6) : (execOp ρ { dst,op := .load 27 x,type := ty,pos,after,guard }).run Tryz.prog w = .ok (.value (.agg (rowOf w (ρ x)))) w :=
  exec_load (n := 5) ρ dst ty pos after guard w Tryz.underlying27 rfl (by kernel_rfl) x h
theorem storeD (p x : Operand) (h : plainAt 6 w (ρ p) = true) (hs : (ρ x).cells.size = 6) (h1 : oneAll (ρ x) = true) (ha : ρ x = .agg (ρ x).cells) : (execOp ρ { dst,op := .store 27 p x,type := ty,pos,after,guard }).run Tryz.prog w = .ok .skip (putRow w (ρ p) (ρ x).cells) :=
  exec_store (n := 5) ρ dst ty pos after guard w (by kernel_rfl) p x h hs h1 ha
theorem loadO (x : Operand) (h : (rowOf w (ρ x)).size = 3) : (execOp ρ { dst,op := .load 82 x,type := ty,pos,after,guard }).run Tryz.prog w = .ok (.value (.agg (rowOf w (ρ x)))) w :=
  exec_load (n := 2) ρ dst ty pos after guard w Tryz.underlying82 rfl (by kernel_rfl) x h
theorem storeO (p x : Operand) (h : plainAt 3 w (ρ p) = true) (hs : (ρ x).cells.size = 3) (h1 : oneAll (ρ x) = true) (ha : ρ x = .agg (ρ x).cells) : (execOp ρ { dst,op := .store 82 p x,type := ty,pos,after,guard }).run Tryz.prog w = .ok .skip (putRow w (ρ p) (ρ x).cells) :=
  exec_store (n := 2) ρ dst ty pos after guard w (by kernel_rfl) p x h hs h1 ha
theorem loadZ (x : Operand) (h : (rowOf w (ρ x)).size = 2) : (execOp ρ { dst,op := .load 24 x,type := ty,pos,after,guard }).run Tryz.prog w = .ok (.value (.agg (rowOf w (ρ x)))) w :=
  exec_load (n := 1) ρ dst ty pos after guard w Tryz.underlying24 rfl (by kernel_rfl) x h
theorem storeZ (p x : Operand) (h : plainAt 2 w (ρ p) = true) (hs : (ρ x).cells.size = 2) (h1 : oneAll (ρ x) = true) (ha : ρ x = .agg (ρ x).cells) : (execOp ρ { dst,op := .store 24 p x,type := ty,pos,after,guard }).run Tryz.prog w = .ok .skip (putRow w (ρ p) (ρ x).cells) :=
  exec_store (n := 1) ρ dst ty pos after guard w (by kernel_rfl) p x h hs h1 ha
end
theorem cells_agg (c : Array Value) : (Value.agg c).cells = c := rfl
theorem one6 (a b : ByteArray) (o : Option Addr) (n m : Nat) (c f : Int) (d : Bool) : oneAll (.agg #[.string a,.string b,.slice o n m,.int .i64 c,.int .i64 f,.bool d]) = true := by simp [oneAll,Value.cells,Value.oneCell']
theorem one3 (z : Int) (x : ByteArray) (e : Bool) : oneAll (.agg #[.int .i64 z,.string x,.bool e]) = true := by simp [oneAll,Value.cells,Value.oneCell']
theorem one2 (a b : ByteArray) : oneAll (.agg #[.string a,.string b]) = true := by simp [oneAll,Value.cells,Value.oneCell']
theorem one5 (a b c d : Int) (x : ByteArray) : oneAll (.agg #[.int .i64 a,.int .i64 b,.int .i64 c,.int .i64 d,.string x]) = true := by simp [oneAll,Value.cells,Value.oneCell']
theorem size6 (a b c d e f : Value) : (#[a,b,c,d,e,f] : Array Value).size = 6 := rfl
theorem size5 (a b c d e : Value) : (#[a,b,c,d,e] : Array Value).size = 5 := rfl
theorem size3 (a b c : Value) : (#[a,b,c] : Array Value).size = 3 := rfl
theorem size2 (a b : Value) : (#[a,b] : Array Value).size = 2 := rfl
attribute [go_sem ↓] loadD storeD loadO storeO loadZ storeZ
attribute [go_sem] cells_agg one6 one3 one2 one5 size6 size5 size3 size2
theorem ret_D1 {fn : Func} {p : Tmp} (h : fn.results = #[.cell p 27]) (tmps : Array Value) (w : World) {cs : Array Value} (hs : cs.size = 6) (hr : rowOf w (tmps.getD p undef) = cs) : (results fn tmps).run Tryz.prog w = .ok (.agg cs) w :=
  ret1 (n := 5) h Tryz.underlying27 rfl (by kernel_rfl) tmps w hs hr
theorem ret_D2 {fn : Func} {p q : Tmp} (h : fn.results = #[.cell p 27,.tmp q]) (tmps : Array Value) (w : World) {cs : Array Value} (hs : cs.size = 6) (hr : rowOf w (tmps.getD p undef) = cs) : (results fn tmps).run Tryz.prog w = .ok (.tuple #[.agg cs,tmps.getD q undef]) w :=
  ret2 (n := 5) h Tryz.underlying27 rfl (by kernel_rfl) tmps w hs hr
theorem ret_Z1 {fn : Func} {p : Tmp} (h : fn.results = #[.cell p 24]) (tmps : Array Value) (w : World) {cs : Array Value} (hs : cs.size = 2) (hr : rowOf w (tmps.getD p undef) = cs) : (results fn tmps).run Tryz.prog w = .ok (.agg cs) w :=
  ret1 (n := 1) h Tryz.underlying24 rfl (by kernel_rfl) tmps w hs hr
def PostD (n : Nat) (d : Ds) (w : World) (e : Ending) (w' : World) : Prop := ∃ v,e = .returned v ∧ Below w.heap.size w w' ∧ DV n d v w'
def Post2 (n : Nat) (p : Ds × Int) (w : World) (e : Ending) (w' : World) : Prop := ∃ v,e = .returned (.tuple #[v,.int .i64 p.2]) ∧ Below w.heap.size w w' ∧ DV n p.1 v w'
theorem DV.mk {n : Nat} {a b : ByteArray} {l : List Do} {c f : Int} {dn : Bool} {o : Value} {w : World} (h : OL n l o w) (hc : capOk o) : DV n ⟨a,b,l,c,f,dn⟩ (.agg (cD a b o c f dn)) w := ⟨o,rfl,h,hc⟩
theorem limit_any (n m : Int) (w : World) : Calls Tryz.prog 41 #[.int .i64 n,.int .i64 m] w fun e w' => e = .returned (.int .i64 (lim n m)) ∧ w = w' := by
  go_enter Tryz.func41,Tryz.ntmps41
  go_wp2
  all_goals (go_ret;exact ⟨ret_int (by unfold lim;omega),rfl⟩)
theorem isZone_any (z : Int) (w : World) : Calls Tryz.prog 67 #[.int .i64 z] w fun e w' => e = .returned (.bool (zoneB z)) ∧ w = w' := by
  have HZ := lH (show zoneB z = (z == 0 || z == 1) from rfl)
  by_cases h0 : z = 0
  · subst h0
    go_enter Tryz.func67,Tryz.ntmps67
    go_wp2
    go_ret
    exact ⟨ret_bool (by rw [HZ.out];rfl),rfl⟩
  · have h1 : (z == 0) = false := by simpa using h0
    by_cases h2 : z = 1
    · subst h2
      go_enter Tryz.func67,Tryz.ntmps67
      go_wp2
      go_ret
      exact ⟨ret_bool (by rw [HZ.out];rfl),rfl⟩
    · have h3 : (z == 1) = false := by simpa using h2
      go_enter Tryz.func67,Tryz.ntmps67
      go_wp2
      go_ret
      exact ⟨ret_bool (by rw [HZ.out,h1,h3];rfl),rfl⟩
theorem isZone_is {z : Int} {q : Bool} (H : Hid (zoneB z = q)) (w : World) : Calls Tryz.prog 67 #[.int .i64 z] w fun e w' => e = .returned (.bool q) ∧ w = w' := by
  rw [← H.out];exact isZone_any z w
theorem check_any (d : Ds) (o : Value) (z : Int) (w : World) : Calls Tryz.prog 69 #[.agg (cD d.a d.b o d.c d.f d.n),.int .i64 z] w fun e w' => e = .returned (.int .i64 (readE d z)) ∧ Below w.heap.size w w' := by
  obtain ⟨a,b,l,c,f,dn⟩ := d
  simp only
  have HE := lH (show readE ⟨a,b,l,c,f,dn⟩ z = if dn then 15 else if zoneB z then 0 else 1 from rfl)
  cases dn
  · obtain ⟨q,hq⟩ : ∃ q,zoneB z = q := ⟨_,rfl⟩
    have HQ := lH hq
    clear hq
    cases q
    all_goals
      go_enter Tryz.func69,Tryz.ntmps69
      go_wp2_with fail
      refine (isZone_is HQ _).mono ?_
      rintro e w1 ⟨rfl,rfl⟩
      go_wp2
      go_ret
      exact ⟨ret_int (by rw [HE.out,HQ.out];rfl),below1 _ _⟩
  · go_enter Tryz.func69,Tryz.ntmps69
    go_wp2
    go_ret
    exact ⟨ret_int (by rw [HE.out];rfl),below1 _ _⟩
theorem check_is {d : Ds} {z q : Int} (H : Hid (readE d z = q)) (o : Value) (w : World) : Calls Tryz.prog 69 #[.agg (cD d.a d.b o d.c d.f d.n),.int .i64 z] w fun e w' => e = .returned (.int .i64 q) ∧ Below w.heap.size w w' := by
  rw [← H.out];exact check_any d o z w
set_option maxHeartbeats 1000000 in
theorem burn_any (n : Nat) (d : Ds) (v : Value) (w : World) (h : DV n d v w) (hf : -1 ≤ d.f ∧ d.f ≤ 9223372036854775807) : Calls Tryz.prog 84 #[v] w (Post2 n (burnP d) w) := by
  obtain ⟨o,rfl,hO,hc⟩ := h
  obtain ⟨a,b,l,c,f,dn⟩ := d
  simp only at hf hO ⊢
  obtain ⟨a1,c1,rfl⟩ := hO.len
  obtain ⟨n1,hn1⟩ : ∃ q,l.length = q := ⟨_,rfl⟩
  rw [hn1] at hO hc ⊢
  have HH := lH (show ∀ u,Below w.heap.size w u → OL n l (.slice a1 n1 c1) u from fun u hu => hO.stays hu)
  have HC := lH hc
  obtain ⟨p,hp⟩ : ∃ p,burnP ⟨a,b,l,c,f,dn⟩ = p := ⟨_,rfl⟩
  rw [hp]
  have HP := lH hp
  clear hO hc hn1 hp
  by_cases h0 : f = 0
  · subst h0
    go_enter Tryz.func84,Tryz.ntmps84
    go_wp2
    refine bodyPost_ret (v := .tuple #[.agg (cD a b (.slice a1 n1 c1) c 0 true),.int .i64 15]) (ret_D2 Tryz.results84 _ _ rfl ?c1) rfl ?_
    case c1 => simp [go_sem]
    · rw [← HP.out];exact ⟨_,rfl,below2 _ _ _,DV.mk (HH.out _ (below2 _ _ _)) HC.out⟩
  · have h1 : (f == 0) = false := by simpa using h0
    have HM : Hid (burnP ⟨a,b,l,c,f,dn⟩ = (⟨a,b,l,c,max f 0 - 1,dn⟩,0)) := lH (by simp only [burnP];rw [if_neg h0])
    go_enter Tryz.func84,Tryz.ntmps84
    go_wp2
    all_goals
      refine bodyPost_ret (v := .tuple #[.agg (cD a b (.slice a1 n1 c1) c (max f 0 - 1) dn),.int .i64 0]) (ret_D2 Tryz.results84 _ _ rfl ?_) rfl ?_
      · simp [go_sem];omega
      · rw [← HP.out,HM.out];exact ⟨_,rfl,below2 _ _ _,DV.mk (HH.out _ (below2 _ _ _)) HC.out⟩
set_option maxHeartbeats 1000000
theorem start_any (n : Nat) (d : Ds) (v : Value) (w : World) (h : DV n d v w) : Calls Tryz.prog 15 #[v] w (PostD n (staP d) w) := by
  obtain ⟨o,rfl,hO,hc⟩ := h
  obtain ⟨a,b,l,c,f,dn⟩ := d
  simp only at hO ⊢
  obtain ⟨a1,c1,rfl⟩ := hO.len
  obtain ⟨n1,hn1⟩ : ∃ q,l.length = q := ⟨_,rfl⟩
  rw [hn1] at hO hc ⊢
  have HH := lH (show ∀ u,Below w.heap.size w u → OL n l (.slice a1 n1 c1) u from fun u hu => hO.stays hu)
  have HC := lH hc
  clear hO hc hn1
  go_enter Tryz.func15,Tryz.ntmps15
  go_wp2
  refine bodyPost_ret (v := .agg (cD a b (.slice a1 n1 c1) c f false)) (ret_D1 Tryz.results15 _ _ rfl ?c1) rfl ?_
  case c1 => simp [go_sem]
  exact ⟨_,rfl,below2 _ _ _,DV.mk (HH.out _ (below2 _ _ _)) HC.out⟩
theorem arm_any (n : Nat) (d : Ds) (v : Value) (k : Int) (w : World) (h : DV n d v w) : Calls Tryz.prog 19 #[v,.int .i64 k] w (PostD n (armP d k) w) := by
  obtain ⟨o,rfl,hO,hc⟩ := h
  obtain ⟨a,b,l,c,f,dn⟩ := d
  simp only at hO ⊢
  obtain ⟨a1,c1,rfl⟩ := hO.len
  obtain ⟨n1,hn1⟩ : ∃ q,l.length = q := ⟨_,rfl⟩
  rw [hn1] at hO hc ⊢
  have HH := lH (show ∀ u,Below w.heap.size w u → OL n l (.slice a1 n1 c1) u from fun u hu => hO.stays hu)
  have HC := lH hc
  clear hO hc hn1
  obtain ⟨m,hm⟩ : ∃ m,max k (-1) = m := ⟨_,rfl⟩
  have HM := lH (show armP ⟨a,b,l,c,f,dn⟩ k = ⟨a,b,l,c,m,dn⟩ by unfold armP;rw [hm])
  have HM2 := lH hm
  clear hm
  go_enter Tryz.func19,Tryz.ntmps19
  go_wp2
  all_goals
    refine bodyPost_ret (v := .agg (cD a b (.slice a1 n1 c1) c m dn)) (ret_D1 Tryz.results19 _ _ rfl ?_) rfl ?_
    · rw [← HM2.out];simp [go_sem];omega
    · rw [HM.out];exact ⟨_,rfl,below2 _ _ _,DV.mk (HH.out _ (below2 _ _ _)) HC.out⟩
theorem room_any (n : Nat) (d : Ds) (v : Value) (k : Int) (w : World) (h : DV n d v w) : Calls Tryz.prog 20 #[v,.int .i64 k] w (PostD n (rooP d k) w) := by
  obtain ⟨o,rfl,hO,hc⟩ := h
  obtain ⟨a,b,l,c,f,dn⟩ := d
  simp only at hO ⊢
  obtain ⟨a1,c1,rfl⟩ := hO.len
  obtain ⟨n1,hn1⟩ : ∃ q,l.length = q := ⟨_,rfl⟩
  rw [hn1] at hO hc ⊢
  have HH := lH (show ∀ u,Below w.heap.size w u → OL n l (.slice a1 n1 c1) u from fun u hu => hO.stays hu)
  have HC := lH hc
  clear hO hc hn1
  go_enter Tryz.func20,Tryz.ntmps20
  go_wp2_with fail
  refine (limit_any k 60000 _).mono ?_
  rintro e w1 ⟨rfl,rfl⟩
  obtain ⟨m,hm⟩ : ∃ m,lim k 60000 = m := ⟨_,rfl⟩
  have HM := lH (show rooP ⟨a,b,l,c,f,dn⟩ k = ⟨a,b,l,m,f,dn⟩ by unfold rooP;rw [hm])
  rw [hm]
  clear hm
  go_wp2
  refine bodyPost_ret (v := .agg (cD a b (.slice a1 n1 c1) m f dn)) (ret_D1 Tryz.results20 _ _ rfl ?c1) rfl ?_
  case c1 => simp [go_sem]
  rw [HM.out];exact ⟨_,rfl,below2 _ _ _,DV.mk (HH.out _ (below2 _ _ _)) HC.out⟩
theorem new_any (n : Nat) (k : Int) (w : World) (hn : n ≤ w.heap.size) : Calls Tryz.prog 9 #[.int .i64 k] w (PostD n (newP k) w) := by
  have HD := lH (show ∀ u,DV n ⟨nul,nul,[],0,-1,false⟩ (.agg #[.string ⟨#[]⟩,.string ⟨#[]⟩,.slice none 0 0,.int .i64 0,.int .i64 (-1),.bool false]) u from fun u => ⟨_,rfl,Is.nil _ _ _ _,Nat.le_refl 0⟩)
  go_enter Tryz.func9,Tryz.ntmps9
  go_wp2_with fail
  refine (room_any n _ _ k _ (HD.out _)).mono ?_
  rintro e w1 ⟨v1,rfl,hb1,o1,rfl,hO,hc⟩
  obtain ⟨m,hm⟩ : ∃ m,lim k 60000 = m := ⟨_,rfl⟩
  have HM := lH (show newP k = ⟨nul,nul,[],m,-1,false⟩ by unfold newP;rw [hm])
  simp only [rooP] at hO hc ⊢
  rw [hm]
  obtain ⟨a1,c1,rfl⟩ := hO.len
  simp only [List.length_nil] at hO hc ⊢
  have B0 : Bx w1 w.heap.size #[.string ⟨#[]⟩,.string ⟨#[]⟩,.slice none 0 0,.int .i64 0,.int .i64 0,.bool false] 27 := (Bx.new w _ _).stays hb1
  obtain ⟨X,hX⟩ : ∃ X,w1.setRow w.heap.size #[.string nul,.string nul,.slice a1 0 c1,.int .i64 m,.int .i64 (-1),.bool false] = X := ⟨_,rfl⟩
  have bX : Below w.heap.size w X := hX ▸ (nx (below1 _ _) hb1).trans (low_setRow _ (Nat.le_refl _))
  have BX : Bx X w.heap.size #[.string nul,.string nul,.slice a1 0 c1,.int .i64 m,.int .i64 (-1),.bool false] 27 := hX ▸ B0.put _
  have HO := lH (show OL n [] (.slice a1 0 c1) X from hX ▸ hO.keep (keeps_setRow _ B0 (by decide) hn))
  have HC := lH hc
  have HX := lH BX
  obtain ⟨l0,_,p0,_⟩ := B0.d6
  obtain ⟨_,r1,_⟩ := BX.d6
  clear hO hc B0 BX hm
  go_wp2
  refine bodyPost_ret (v := .agg (cD nul nul (.slice a1 0 c1) m (-1) false)) (ret_D1 Tryz.results9 _ _ rfl ?c1) rfl ?_
  case c1 => simp [go_sem,r1]
  rw [HM.out]
  exact ⟨_,rfl,bX,DV.mk HO.out HC.out⟩
end Go.Proofs.YtnnbjhpkgndclaaGreatDoor.Dk
