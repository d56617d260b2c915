/- Pure: Put as a loop over the levels. -/
import Derived.Test.YthecinmekoaphaaGreatQaAK
import Derived.Test.YthecinmekoaphaaGreatQaAF
set_option linter.unusedVariables false
namespace Go.Proofs.YthecinmekoaphaaGreat.Le
open Go.RowKit
open Go.Proofs.YthecinmekoaphaaGreat.Rw
open Go.Proofs.YthecinmekoaphaaGreat.Da
theorem infoI : (Tryz.prog.info? 3).map (fun i => (i.zero, i.size, i.bytes)) = some (some (.int .i64 0), 1, 8) := by kernel_rfl
theorem elemI : Elem Tryz.prog 152 3 eI.k 8 := elem_of Tryz.underlying152 infoI rfl (by decide)
theorem typesI : 3 ∉ eI.ts := by decide
theorem at1 {B : Bs} {l : List Int} {b off : Nat} {w : World} (h : Lies eI 3 B l b off w) (i : Nat) (hi : i < l.length) : w.cell? ⟨b, off + i, none⟩ = some (.int .i64 l[i]) := by
  obtain ⟨cs, rfl, hu⟩ := h.at i hi
  have := hu 0 _ rfl
  simpa [eI, Enc.flat] using this
/-- The cells of an order, or of none. -/
def cO : Option Od → Array Value
  | some o => #[.int .i64 o.1, .int .i64 o.2.1, .int .i64 o.2.2.1, .int .i64 o.2.2.2.1, .int .i64 o.2.2.2.2]
  | none => #[.int .i64 0, .int .i64 0, .int .i64 0, .int .i64 0, .int .i64 0]
theorem cO_size (r : Option Od) : (cO r).size = 5 := by cases r <;> rfl
/-- Block b is a variable of five cells, which hold these. -/
def Var (b : Nat) (r : Option Od) (w : World) : Prop := ∃ t, w.heap[b]? = some (.cells (cO r) t (0, 0))
theorem Var.same {b : Nat} {r : Option Od} {w w' : World} (h : Var b r w) (e : w'.heap[b]? = w.heap[b]?) : Var b r w' := by
  obtain ⟨t, h⟩ := h; exact ⟨t, e.trans h⟩
theorem Var.lt {b : Nat} {r : Option Od} {w : World} (h : Var b r w) : b < w.heap.size := by obtain ⟨t, h⟩ := h; exact (Array.getElem?_eq_some_iff.1 h).1
theorem Var.stays {b : Nat} {r : Option Od} {w w' : World} (h : Var b r w) (k : Below w.heap.size w w') : Var b r w' := h.same (k.block b h.lt)
theorem Var.row {b : Nat} {r : Option Od} {w : World} (h : Var b r w) : row w b = cO r := by obtain ⟨t, h⟩ := h; unfold Rw.row; rw [h]
theorem Var.plain {b : Nat} {r : Option Od} {w : World} (h : Var b r w) : plain 5 w b = true := by obtain ⟨t, h⟩ := h; unfold Rw.plain; rw [h]; simp [cO_size]
theorem Var.set {b : Nat} {r : Option Od} {w : World} (r' : Option Od) (h : Var b r w) : Var b r' (w.setRow b (cO r')) := by
  obtain ⟨t, h⟩ := h; exact ⟨t, setRow_heap w b _ _ _ _ h⟩
theorem Var.made (w : World) : Var w.heap.size none (w.alloc (.cells #[.int .i64 0, .int .i64 0, .int .i64 0, .int .i64 0, .int .i64 0] 70)) := ⟨_, heap_alloc_new w _⟩
theorem alt_setRow {X : Nat → Prop} {a w : World} (h : Alt X a w) {b : Nat} (hb : X b) (c : Array Value) : Alt X a (w.setRow b c) :=
  h.trans ⟨rfl, rfl, rfl, by rw [setRow_size]; exact Nat.le_refl _, fun i _ hx => setRow_other w b i c (fun e => hx (by rw [e]; exact hb))⟩
theorem low_setCell {w : World} {b n : Nat} (o : Nat) (v : Value) (h : n ≤ b) : Below n w (w.setCell ⟨b, o, none⟩ v) :=
  ⟨rfl, rfl, rfl, by simp [World.setCell], fun i hi => Below.heap_setCell w ⟨b, o, none⟩ v i (by show i ≠ b; omega)⟩
theorem keeps_setCell {B : Bs} {ts : List TypeId} {w : World} {b : Nat} {cur : Array Value} {t : TypeId} {fr : Nat × Nat} (o : Nat) (v : Value) (h : w.heap[b]? = some (.cells cur t fr)) (ht : t ∉ ts) (hB : B.lo ≤ b) : Keeps B ts w (w.setCell ⟨b, o, none⟩ v) :=
  ⟨by simp [World.setCell], fun i ob hi ho => by
    by_cases e : i = b
    · subst e
      rw [h] at hi
      obtain rfl := Option.some.inj hi
      rcases ho with ho | ⟨_, _, _, he, hm, _⟩
      · omega
      · simp only [Obj.cells.injEq] at he
        exact absurd (he.2.1 ▸ hm) ht
    · exact (Below.heap_setCell w ⟨b, o, none⟩ v i e).trans hi⟩
def Post3 (F : Value → World → Prop) (r : Option Od) (w : World) (e : Ending) (w' : World) : Prop := ∃ v, e = .returned (.tuple #[v, .agg (cO r), .bool r.isSome]) ∧ Below w.heap.size w w' ∧ F v w'
theorem ownO_grown {B : Bs} {Bo : Nat} {l : List Od} {v : Value} {w w' : World} {ob : Option Nat} (h : OwnO B Bo l v w) (hg : w.grownBy w' ob) (ho : ∀ g, v.ownBlock = some g → ob ≠ some g) : OwnO B Bo l v w' := by
  obtain ⟨css, hl, hc, hr⟩ := h
  refine ⟨css, hl, hc, hr.1, ?_⟩
  rcases hr.2 with h | ⟨g, cap, cur, rfl, h2, h3, h4⟩
  · exact .inl h
  · exact .inr ⟨g, cap, cur, rfl, h2, (hg.block g (Array.getElem?_eq_some_iff.1 h3).1 fun e => ho g rfl e.symm).trans h3, h4⟩
/-- The levels L lie as ms say. -/
structure LvS (B : Bs) (L : List Lv) (ms : List Hw) (w : World) : Prop where
  len : ms.length = L.length
  at' : ∀ (i : Nat) (x : Lv) (y : Hw), L[i]? = some x → ms[i]? = some y → y.1 = x.1 ∧ OL B x.2 (hv y) w
theorem LvS.keep {B : Bs} {L : List Lv} {ms : List Hw} {w w' : World} (h : LvS B L ms w) (hk : Keeps B [70] w w') : LvS B L ms w' :=
  ⟨h.len, fun i x y hx hy => ⟨(h.at' i x y hx hy).1, Is.keep eO 70 (h.at' i x y hx hy).2 hk⟩⟩
theorem LvS.nil (B : Bs) (w : World) : LvS B [] [] w := ⟨rfl, by simp⟩
theorem LvS.snoc {B : Bs} {L : List Lv} {ms : List Hw} {w : World} {x : Lv} {y : Hw} (h : LvS B L ms w) (hp : y.1 = x.1) (hy : OL B x.2 (hv y) w) : LvS B (L ++ [x]) (ms ++ [y]) w := by
  refine ⟨by rw [List.length_append, List.length_append, h.len]; rfl, fun i a b ha hb => ?_⟩
  by_cases hi : i < L.length
  · rw [List.getElem?_append_left hi] at ha
    rw [List.getElem?_append_left (by rw [h.len]; exact hi)] at hb
    exact h.at' i a b ha hb
  · rw [List.getElem?_append_right (by omega)] at ha
    rw [List.getElem?_append_right (by rw [h.len]; omega), h.len] at hb
    rcases hd : i - L.length with _ | m
    · rw [hd] at ha hb
      simp at ha hb
      subst ha hb
      exact ⟨hp, hy⟩
    · rw [hd] at ha
      simp at ha
theorem LvS.ll {B : Bs} {L : List Lv} {ms : List Hw} {t : Value} {w : World} (h : LvS B L ms w) (ht : Is eF 98 B ms t w) : LL B L t w := by
  obtain ⟨a, c, rfl, hc⟩ := ht
  refine ⟨a, c, by rw [h.len], ?_⟩
  rcases hc with ⟨rfl, hc⟩ | ⟨b, off, rfl, hb, hb2, hat⟩
  · exact .inl ⟨List.length_eq_zero_iff.1 h.len.symm, hc⟩
  · refine .inr ⟨b, off, rfl, hb, hb2, fun i x hx => ?_⟩
    have hi : i < ms.length := by rw [h.len]; exact (List.getElem?_eq_some_iff.1 hx).1
    obtain ⟨cs, hcs, hu⟩ := hat i _ (List.getElem?_eq_getElem hi)
    obtain ⟨hp, hy⟩ := h.at' i x _ hx (List.getElem?_eq_getElem hi)
    refine ⟨cs, ?_, hu⟩
    rw [show cs = [.int .i64 ms[i].1, hv ms[i]] from hcs, hp]
    exact eL_mk hy
/-- What holds of the levels and of own's rows in the loop: k levels are through. -/
structure Pc (B : Bs) (w3 w4 : World) (l : List Lv) (hs : List Hw) (a : Option Addr) (k : Nat) (L : List Lv) (ms : List Hw) (d : Bool) (u : World) : Prop where
  lv : LvS B L ms u
  mine : d = false → Mine B w3.heap.size l hs u
  rest : ∀ (i : Nat) (x : Lv) (y : Hw), k ≤ i → l[i]? = some x → hs[i]? = some y → y.1 = x.1 ∧ OL B x.2 (hv y) u
  row : ∀ (i : Nat) (y : Hw), hs[i]? = some y → ∀ b off, a = some ⟨b, off, none⟩ → b < w4.heap.size ∧ u.heap[b]? = w4.heap[b]?
  low : Below w3.heap.size w3 u
  sz : w4.heap.size ≤ u.heap.size
section
variable {B : Bs} {w3 w4 : World} {l : List Lv} {hs : List Hw} {a : Option Addr} {k : Nat} {L : List Lv} {ms : List Hw} {d : Bool} {u u' : World}
theorem Pc.keep (hB : B.le w3.heap.size) (h34 : w3.heap.size ≤ w4.heap.size) (h : Pc B w3 w4 l hs a k L ms d u) (hk : Keeps B [70] u u') (hb : Below w4.heap.size u u') : Pc B w3 w4 l hs a k L ms d u' :=
  ⟨h.lv.keep hk, fun e => (h.mine e).keep hB hk, fun i x y hi hx hy => ⟨(h.rest i x y hi hx hy).1, Is.keep eO 70 (h.rest i x y hi hx hy).2 hk⟩,
    fun i y hy b off ha => ⟨(h.row i y hy b off ha).1, (hb.block b (h.row i y hy b off ha).1).trans (h.row i y hy b off ha).2⟩, h.low.trans (hb.mono h34), Nat.le_trans h.sz hb.size⟩
theorem Pc.stays (hB : B.le w3.heap.size) (h34 : w3.heap.size ≤ w4.heap.size) (h : Pc B w3 w4 l hs a k L ms d u) (hb : Below u.heap.size u u') : Pc B w3 w4 l hs a k L ms d u' :=
  h.keep hB h34 (Keeps.of_below hb) (hb.mono h.sz)
theorem Pc.add (h : Pc B w3 w4 l hs a k L ms d u) {x : Lv} {y : Hw} (hp : y.1 = x.1) (hy : OL B x.2 (hv y) u) : Pc B w3 w4 l hs a k (L ++ [x]) (ms ++ [y]) d u :=
  ⟨h.lv.snoc hp hy, h.mine, h.rest, h.row, h.low, h.sz⟩
theorem Pc.next (h : Pc B w3 w4 l hs a k L ms d u) : Pc B w3 w4 l hs a (k + 1) L ms d u :=
  ⟨h.lv, h.mine, fun i x y hi => h.rest i x y (by omega), h.row, h.low, h.sz⟩
theorem Pc.done (h : Pc B w3 w4 l hs a k L ms d u) : Pc B w3 w4 l hs a k L ms true u :=
  ⟨h.lv, fun e => (by cases e), h.rest, h.row, h.low, h.sz⟩
end
theorem fV_is (q : Option Od) : fV q = .tuple #[.agg (cO q), .bool q.isSome] := by cases q <;> rfl
def PostP (B : Bs) (l : List Lv) (o : Od) (w : World) (e : Ending) (w' : World) : Prop := ∃ t, e = .returned (.tuple #[t, .int .i64 (putE l o)]) ∧ Below w.heap.size w w' ∧ LL B (put l o) t w'
end Go.Proofs.YthecinmekoaphaaGreat.Le
