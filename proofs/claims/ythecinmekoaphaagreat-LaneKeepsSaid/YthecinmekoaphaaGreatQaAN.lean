/- The document's own Remove, with what it says of the rows. -/
import Derived.Test.YthecinmekoaphaaGreatQaAL
import Derived.Test.YthecinmekoaphaaGreatQaAK
import Derived.Test.YthecinmekoaphaaGreatQaAC
import Derived.Test.YthecinmekoaphaaGreatQaAH
import Derived.Test.YthecinmekoaphaaGreatQaAM
import Derived.RegionTactic
import Derived.ChangeAlike
import Derived.BigRegion
set_option linter.unusedVariables false
namespace Go.Proofs.YthecinmekoaphaaGreat.Da
open Go.RowKit
section
variable {α : Type} {e : Enc α} {T : TypeId}
/-- The base with a list's own row left out keeps what lies in it behind an append to that list, whatever the types. -/
theorem keeps_but {B : Bs} {ts : List TypeId} {v : Value} {w w' : World} (hg : w.grownBy w' v.ownBlock) (hlo : ∀ g, v.ownBlock = some g → B.lo ≤ g) : Keeps (B.but fun b => v.ownBlock = some b) ts w w' :=
  ⟨hg.size, fun b o hb ho => by
    refine (hg.block b (Array.getElem?_eq_some_iff.1 hb).1 fun e => ?_).trans hb
    rcases ho with ho | ⟨_, _, _, _, _, hn⟩
    · have := hlo b e.symm
      have h2 : b < B.lo := ho
      omega
    · exact hn (.inr e.symm)⟩
/-- What lies apart from a list's own row lies, behind an append to that list, apart from its row. -/
theorem Is.apart {β : Type} (f : Enc β) (S : TypeId) {B : Bs} {L : List β} {y v v' : Value} {w w' : World} (h : Is f S (B.but fun b => v.ownBlock = some b) L y w) (hg : w.grownBy w' v.ownBlock) (hlo : ∀ g, v.ownBlock = some g → B.lo ≤ g)
    (hv : v'.ownBlock = v.ownBlock ∨ v'.ownBlock = some w.heap.size) : Is f S (B.but fun b => v'.ownBlock = some b) L y w' := by
  have h2 := Is.keep f S h (keeps_but (ts := S :: f.ts) hg hlo)
  rcases hv with e | e
  · rw [e]; exact h2
  · have h3 := Is.now f S (X := fun b => b = w.heap.size) h (fun b hb => by rw [hb]; exact Nat.le_refl _)
    have hk : Keeps ((B.but fun b => v.ownBlock = some b).but fun b => b = w.heap.size) (S :: f.ts) w w' :=
      ⟨hg.size, fun b o hb ho => by
        refine (keeps_but (ts := S :: f.ts) hg hlo).block b o hb ?_
        rcases ho with ho | ⟨cur, t, fr, e, ht, hn⟩
        · exact .inl ho
        · exact .inr ⟨cur, t, fr, e, ht, fun hx => hn (.inl hx)⟩⟩
    have h4 := Is.keep f S h3 hk
    refine Is.up f S (A := (B.but fun b => v.ownBlock = some b).but fun b => b = w.heap.size) ⟨Nat.le_refl _, fun b hb => ?_⟩ h4
    rcases hb with hb | hb
    · exact .inl (.inl (.inl hb))
    · rw [e] at hb
      exact .inl (.inr (Option.some.inj hb).symm)
end
end Go.Proofs.YthecinmekoaphaaGreat.Da
namespace Go.Proofs.YthecinmekoaphaaGreat.Bk
open Go.RowKit
open Go.Proofs.YthecinmekoaphaaGreat.Rw
open Go.Proofs.YthecinmekoaphaaGreat.Da
open Go.Proofs.YthecinmekoaphaaGreat.Le
theorem plain_setCell (m : Nat) (w : World) (b c o : Nat) (v : Value) : plain m (w.setCell ⟨b, o, none⟩ v) c = plain m w c := by
  unfold plain
  simp only [World.setCell, Array.getElem?_modify]
  by_cases h : b = c
  · subst h
    simp only [if_true]
    cases w.heap[b]? with
    | none => rfl
    | some x => cases x <;> simp
  · simp only [h, if_false]
section
variable (ρ : Operand → Value) (dst : Option Tmp) (ty : TypeId) (pos : String) (after : Array Edge) (guard : Option (Nat × Bool)) (w : World)
theorem loadB (x : Operand) (h : (rowOf w (ρ x)).size = 3) : (execOp ρ { dst, op := .load 25 x, type := ty, pos, after, guard }).run Tryz.prog w = .ok (.value (.agg (rowOf w (ρ x)))) w :=
  exec_load (n := 2) ρ dst ty pos after guard w Tryz.underlying25 rfl (by kernel_rfl) x h
theorem storeB (p x : Operand) (h : plainAt 3 w (ρ p) = true) (hs : (ρ x).cells.size = 3) (h1 : oneAll (ρ x) = true) (ha : ρ x = .agg (ρ x).cells) : (execOp ρ { dst, op := .store 25 p x, type := ty, pos, after, guard }).run Tryz.prog w = .ok .skip (putRow w (ρ p) (ρ x).cells) :=
  exec_store (n := 2) ρ dst ty pos after guard w (by kernel_rfl) p x h hs h1 ha
end
theorem one3 (a c : Option Addr) (n m d e : Nat) (x : Int) : oneAll (.agg #[.slice a n d, .slice c m e, .int .i64 x]) = true := by simp [oneAll, Value.cells, Value.oneCell']
theorem size3 (a b c : Value) : (#[a, b, c] : Array Value).size = 3 := rfl
attribute [go_sem ↓] loadB storeB
attribute [go_sem] one3 size3 plain_setCell
theorem ret_B1 {fn : Func} {p : Tmp} (h : fn.results = #[.cell p 25]) (tmps : Array Value) (w : World) {cs : Array Value} (hs : cs.size = 3) (hr : rowOf w (tmps.getD p undef) = cs) : (results fn tmps).run Tryz.prog w = .ok (.agg cs) w :=
  ret1 (n := 2) h Tryz.underlying25 rfl (by kernel_rfl) tmps w hs hr
/-- A book. -/
def BL (B : Bs) (b : Bk) (v : Value) (w : World) : Prop := ∃ x y, v = .agg #[x, y, .int .i64 b.2.2] ∧ LL B b.1 x w ∧ LL B b.2.1 y w
theorem BL.stays {B : Bs} {b : Bk} {v : Value} {w w' : World} (h : BL B b v w) (hb : Below w.heap.size w w') : BL B b v w' := by
  obtain ⟨x, y, e, h1, h2⟩ := h
  exact ⟨x, y, e, Is.stays eL 98 h1 hb, Is.stays eL 98 h2 hb⟩
/-- The five cells of a fill. -/
def cellsF (f : Fl) : List Value := [.int .i64 f.1, .int .i64 f.2.1, .int .i64 f.2.2.1, .int .i64 f.2.2.2.1, .bool f.2.2.2.2]
def eFl : Enc Fl := Enc.flat 5 cellsF (fun _ => rfl) (fun o u hu => by simp [cellsF] at hu; rcases hu with rfl | rfl | rfl | rfl | rfl <;> rfl)
abbrev FL (B : Bs) (l : List Fl) (v : Value) (w : World) : Prop := Is eFl 91 B l v w
abbrev OwnFl (B : Bs) (Bo : Nat) (l : List Fl) (v : Value) (w : World) : Prop := Own eFl 91 B Bo l v w
theorem typesFl : 91 ∉ eFl.ts := by decide
theorem infoFl : (Tryz.prog.info? 91).map (fun i => (i.zero, i.size, i.bytes)) = some (some (.agg #[.int .i64 0, .int .i64 0, .int .i64 0, .int .i64 0, .bool false]), 5, 40) := by kernel_rfl
theorem elemFl : Elem Tryz.prog 41 91 eFl.k 40 := elem_of Tryz.underlying41 infoFl rfl (by decide)
theorem atFl {B : Bs} {l : List Fl} {b off : Nat} {w : World} (h : Lies eFl 91 B l b off w) (i : Nat) (hi : i < l.length) :
    w.cell? ⟨b, off + i * 5, none⟩ = some (.int .i64 l[i].1) ∧ w.cell? ⟨b, off + i * 5 + 1, none⟩ = some (.int .i64 l[i].2.1) ∧ w.cell? ⟨b, off + i * 5 + 2, none⟩ = some (.int .i64 l[i].2.2.1) ∧ w.cell? ⟨b, off + i * 5 + 3, none⟩ = some (.int .i64 l[i].2.2.2.1) ∧ w.cell? ⟨b, off + i * 5 + 4, none⟩ = some (.bool l[i].2.2.2.2) := by
  obtain ⟨cs, rfl, hu⟩ := h.at i hi
  exact ⟨hu 0 _ rfl, hu 1 _ rfl, hu 2 _ rfl, hu 3 _ rfl, hu 4 _ rfl⟩
def prO (q : Option Od) : Int := match q with
  | some o => opr o
  | none => 0
theorem cO_3 (q : Option Od) : (cO q)[3]? = some (.int .i64 (prO q)) := by cases q <;> rfl
theorem bestP_is (l : List Lv) : bestP l = prO (flat l).head? := by unfold bestP prO; cases (flat l).head? <;> rfl
end Go.Proofs.YthecinmekoaphaaGreat.Bk
namespace Go.Proofs.YthecinmekoaphaaGreat.Bk
open Go.RowKit
open Go.Proofs.YthecinmekoaphaaGreat.Rw
open Go.Proofs.YthecinmekoaphaaGreat.Da
open Go.Proofs.YthecinmekoaphaaGreat.Ro
open Go.Proofs.YthecinmekoaphaaGreat.Le
def fOd : Flat Od := ⟨5, cellsO, fun _ => rfl, fun o u hu => by simp [cellsO] at hu; rcases hu with rfl | rfl | rfl | rfl | rfl <;> rfl⟩
abbrev RowOd (g cap : Nat) (os : List Od) (w : World) : Prop := Row fOd 70 g cap os w
theorem rowOd_of {B : Bs} {Bo : Nat} {os : List Od} {v : Value} {w : World} (h : OwnO B Bo os v w) {a : Nat} (ha : a < os.length) : ∃ g cap, v = .slice (some ⟨g, 0, none⟩) os.length cap ∧ Bo ≤ g ∧ cap ≤ maxLen ∧ RowOd g cap os w := by
  rcases Row.ofOwn (e := fOd) (show Own fOd.enc 70 B Bo os v w from h) with ⟨_, e⟩ | ⟨g, cap, h1, h2, h3, h4⟩
  · rw [e] at ha; cases ha
  · exact ⟨g, cap, h1, h2, h3, h4⟩
/-- A list of levels, each with a row of its own. -/
def MiL (B : Bs) (Bo : Nat) (l : List Lv) (v : Value) (w : World) : Prop := ∃ hs, Is eF 98 B hs v w ∧ Mine B Bo l hs w
theorem MiL.stays {B : Bs} {Bo : Nat} {l : List Lv} {v : Value} {w w' : World} (h : MiL B Bo l v w) (hb : Below w.heap.size w w') : MiL B Bo l v w' := by
  obtain ⟨hs, h1, h2⟩ := h
  exact ⟨hs, Is.stays eF 98 h1 hb, h2.stays hb⟩
theorem mine_lvs {B : Bs} {Bo : Nat} {l : List Lv} {hs : List Hw} {w : World} (hB : B.le Bo) (h : Mine B Bo l hs w) : LvS B l hs w :=
  ⟨h.len, fun i x y hx hy => ⟨(h.own i x y hx hy).1, (h.own i x y hx hy).2.is (by decide) hB⟩⟩
theorem MiL.ll {B : Bs} {Bo : Nat} {l : List Lv} {v : Value} {w : World} (hB : B.le Bo) (h : MiL B Bo l v w) : LL B l v w := by
  obtain ⟨hs, h1, h2⟩ := h
  exact (mine_lvs hB h2).ll h1
/-- The blocks of the orders' rows. -/
def Blk (hs : List Hw) (b : Nat) : Prop := ∃ (i : Nat) (y : Hw), hs[i]? = some y ∧ (hv y).ownBlock = some b
theorem mine_set {B : Bs} {Bo g cap : Nat} {L : List Lv} {hs : List Hw} {W : World} (hB : B.le Bo) (hM : Mine B Bo L hs W) {i k : Nat} {p : Int} {os : List Od} {y : Hw} {o : Od} (hx : L[i]? = some (p, os)) (hy : hs[i]? = some y) (hgv : hv y = .slice (some ⟨g, 0, none⟩) os.length cap) (hBg : Bo ≤ g) (hcap : cap ≤ maxLen) (hr : RowOd g cap os W) (hk : os[k]? = some o) (n : Int) :
    Mine B Bo (L.set i (p, os.set k (less o n))) hs (W.setCell ⟨g, k * 5 + 4, none⟩ (.int .i64 (olf o - n))) ∧ Keeps B [98] W (W.setCell ⟨g, k * 5 + 4, none⟩ (.int .i64 (olf o - n))) := by
  have hset := hr.setCell (i := k) (j := 4) (x := o) (y := less o n) (u := .int .i64 (olf o - n)) hk (by decide) rfl
  have hgr := setCell_grown W g (k * 5 + 4) (.int .i64 (olf o - n))
  refine ⟨⟨by rw [List.length_set]; exact hM.len, fun j u z hu hz => ?_, hM.apart⟩, hr.keeps (by have := hB.1; omega) (by decide) hgr⟩
  by_cases e : i = j
  · subst e
    have hil : i < L.length := (List.getElem?_eq_some_iff.1 hx).1
    rw [List.getElem?_set_self hil] at hu
    obtain rfl := Option.some.inj hu
    rw [hy] at hz
    obtain rfl := Option.some.inj hz
    refine ⟨(hM.own i _ y hx hy).1, ?_⟩
    have h2 : OwnO B Bo (os.set k (less o n)) (.slice (some ⟨g, 0, none⟩) (os.set k (less o n)).length cap) _ := Row.own (e := fOd) hset hBg hcap
    rw [List.length_set, ← hgv] at h2
    exact h2
  · rw [List.getElem?_set_ne e] at hu
    obtain ⟨h1, h2⟩ := hM.own j u z hu hz
    refine ⟨h1, ownO_grown h2 hgr fun g' hg1 hg2 => ?_⟩
    obtain rfl : g = g' := Option.some.inj hg2
    have hyo : (hv y).ownBlock = some g := by rw [hgv]; rfl
    rcases Nat.lt_or_gt_of_ne e with hi | hi
    · exact hM.apart i j y z g hi hy hz hyo hg1
    · exact hM.apart j i z y g hi hz hy hg1 hyo
/-- What holds within filled. -/
structure FS (B : Bs) (Bo : Nat) (hs0 hs : List Hw) (w : World) (fs : List Fl) (fv t : Value) (L : List Lv) (u : World) : Prop where
  is : Is eF 98 B hs t u
  mine : Mine B Bo L hs u
  fl : FL B fs fv u
  alt : Alt (Blk hs0) w u
  new : ∀ b, Blk hs b → Blk hs0 b ∨ w.heap.size ≤ b
  le : Bo ≤ u.heap.size
theorem FS.stays {B : Bs} {Bo : Nat} {hs0 hs : List Hw} {w : World} {fs : List Fl} {fv t : Value} {L : List Lv} {u u' : World} (h : FS B Bo hs0 hs w fs fv t L u) (hb : Below u.heap.size u u') : FS B Bo hs0 hs w fs fv t L u' :=
  ⟨Is.stays eF 98 h.is hb, h.mine.stays hb, Is.stays eFl 91 h.fl hb, h.alt.trans (Alt.of_below hb), h.new, Nat.le_trans h.le hb.size⟩
theorem FS.set {B : Bs} {Bo g cap : Nat} {hs0 hs : List Hw} {w : World} {fs : List Fl} {fv t : Value} {L : List Lv} {u : World} (hB : B.le Bo) (h : FS B Bo hs0 hs w fs fv t L u) {i k : Nat} {p : Int} {os : List Od} {y : Hw} {o : Od} (hx : L[i]? = some (p, os)) (hy : hs[i]? = some y) (hgv : hv y = .slice (some ⟨g, 0, none⟩) os.length cap) (hBg : Bo ≤ g) (hcap : cap ≤ maxLen) (hr : RowOd g cap os u) (hk : os[k]? = some o) (n : Int) :
    FS B Bo hs0 hs w fs fv t (L.set i (p, os.set k (less o n))) (u.setCell ⟨g, k * 5 + 4, none⟩ (.int .i64 (olf o - n))) ∧ ∀ q, q ≠ g → (u.setCell ⟨g, k * 5 + 4, none⟩ (.int .i64 (olf o - n))).heap[q]? = u.heap[q]? := by
  obtain ⟨m1, m2⟩ := mine_set hB h.mine hx hy hgv hBg hcap hr hk n
  have hgr := setCell_grown u g (k * 5 + 4) (.int .i64 (olf o - n))
  have hbk : Blk hs g := ⟨i, y, hy, by rw [hgv]; rfl⟩
  refine ⟨⟨Is.keep eF 98 h.is m2, m1, Is.keep eFl 91 h.fl (hr.keeps (by have := hB.1; omega) (by decide) hgr), ?_, h.new, by rw [show (u.setCell ⟨g, k * 5 + 4, none⟩ (.int .i64 (olf o - n))).heap.size = u.heap.size by simp]; exact h.le⟩, fun q hq => Below.heap_setCell u ⟨g, k * 5 + 4, none⟩ _ q hq⟩
  refine ⟨h.alt.os, h.alt.tape, h.alt.output, by have := h.alt.size; simp; omega, fun b hb hx => ?_⟩
  have hne : b ≠ g := fun e => by
    subst e
    rcases h.new b hbk with h1 | h1
    · exact hx h1
    · omega
  rw [Below.heap_setCell u ⟨g, k * 5 + 4, none⟩ _ b hne]
  exact h.alt.block b hb hx
theorem atF {B : Bs} {hs : List Hw} {b off : Nat} {w : World} (h : Lies eF 98 B hs b off w) (i : Nat) (hi : i < hs.length) :
    w.cell? ⟨b, off + i * 2, none⟩ = some (.int .i64 hs[i].1) ∧ w.cell? ⟨b, off + i * 2 + 1, none⟩ = some (hv hs[i]) := by
  obtain ⟨cs, rfl, hu⟩ := h.at i hi
  exact ⟨hu 0 _ rfl, hu 1 _ rfl⟩
/-- The levels are made anew (an order was taken out). -/
theorem FS.anew {B : Bs} {Bo : Nat} {hs0 hs hs2 : List Hw} {w V V2 : World} {fs : List Fl} {fv t v2 : Value} {L L2 : List Lv} (h : FS B Bo hs0 hs w fs fv t L V) (hb : Below V.heap.size V V2) (hi : Is eF 98 B hs2 v2 V2) (hm : Mine B V.heap.size L2 hs2 V2) : FS B V.heap.size hs0 hs2 w fs fv v2 L2 V2 :=
  ⟨hi, hm, Is.stays eFl 91 h.fl hb, h.alt.trans (Alt.of_below hb), fun b hx => by
    obtain ⟨i, y, hy, hg⟩ := hx
    have hl := hm.len
    have hil : i < L2.length := by have := (List.getElem?_eq_some_iff.1 hy).1; omega
    have := (Own.block (hm.own i _ y (List.getElem?_eq_getElem hil) hy).2 _ hg).1
    exact .inr (Nat.le_trans h.alt.size this), hb.size⟩
theorem rem_flat_sub (l : List Lv) (id : Int) : (flat (rem l id)).Sublist (flat l) := by
  unfold rem
  rw [flat_rem]
  exact remO_sub id _ _
def FilP (B : Bs) (l : List Lv) (fs : List Fl) (hs0 : List Hw) (w : World) (e : Ending) (w' : World) : Prop := ∃ v, e = .returned v ∧ LL B (fil l fs) v w' ∧ Alt (Blk hs0) w w'
theorem fil_snoc {l : List Lv} {fs : List Fl} {j : Nat} (h : j < fs.length) : fil l (fs.take (j + 1)) = fil1 (fil l (fs.take j)) fs[j] := by
  unfold fil
  rw [Da.take_snoc h, List.foldl_append]; rfl
end Go.Proofs.YthecinmekoaphaaGreat.Bk
namespace Go.Proofs.YthecinmekoaphaaGreat.Bk
open Go.RowKit
open Go.Proofs.YthecinmekoaphaaGreat.Rw
open Go.Proofs.YthecinmekoaphaaGreat.Da
open Go.Proofs.YthecinmekoaphaaGreat.Le
theorem set3 {w : World} {b o : Nat} {x y z v : Value} {t : TypeId} (h : w.heap[b]? = some (.cells #[x, y, z] t (0, 0))) : (w.setCell ⟨b, o, none⟩ v).heap[b]? = some (.cells (#[x, y, z].setIfInBounds o v) t (0, 0)) := by
  simp [World.setCell, Array.getElem?_modify, h]
theorem blk_ge {B : Bs} {Bo : Nat} {l : List Lv} {hs : List Hw} {w : World} (h : Mine B Bo l hs w) : ∀ b, Blk hs b → Bo ≤ b ∧ b < w.heap.size := fun b hx => by
  obtain ⟨i, y, hy, hg⟩ := hx
  have hl := h.len
  have hil : i < l.length := by have := (List.getElem?_eq_some_iff.1 hy).1; omega
  exact Own.block (h.own i _ y (List.getElem?_eq_getElem hil) hy).2 _ hg
theorem keeps_setRow {B : Bs} {ts : List TypeId} {w : World} {b : Nat} {cur : Array Value} {t : TypeId} {fr : Nat × Nat} (c : Array Value) (h : w.heap[b]? = some (.cells cur t fr)) (ht : t ∉ ts) (hB : B.lo ≤ b) : Keeps B ts w (w.setRow b c) :=
  ⟨by rw [setRow_size]; exact Nat.le_refl _, fun i ob hi ho => by
    by_cases e : i = b
    · subst e
      rw [h] at hi
      obtain rfl := Option.some.inj hi
      rcases ho with ho | ⟨_, _, _, he, hm, _⟩
      · omega
      · simp only [Obj.cells.injEq] at he
        exact absurd (he.2.1 ▸ hm) ht
    · exact (setRow_other w b i c e).trans hi⟩
/-- A book of the call's own. -/
structure MyB (B : Bs) (Bo : Nat) (b : Bk) (x y : Value) (hs1 hs2 : List Hw) (w : World) : Prop where
  i1 : Is eF 98 B hs1 x w
  m1 : Mine B Bo b.1 hs1 w
  i2 : Is eF 98 B hs2 y w
  m2 : Mine B Bo b.2.1 hs2 w
  o1 : LL (B.but (Blk hs2)) b.1 x w
  o2 : LL (B.but (Blk hs1)) b.2.1 y w
theorem MyB.stays {B : Bs} {Bo : Nat} {b : Bk} {x y : Value} {hs1 hs2 : List Hw} {w w' : World} (h : MyB B Bo b x y hs1 hs2 w) (hb : Below w.heap.size w w') : MyB B Bo b x y hs1 hs2 w' :=
  ⟨Is.stays eF 98 h.i1 hb, h.m1.stays hb, Is.stays eF 98 h.i2 hb, h.m2.stays hb, Is.stays eL 98 h.o1 hb, Is.stays eL 98 h.o2 hb⟩
theorem MyB.bl {B : Bs} {Bo : Nat} {b : Bk} {x y : Value} {hs1 hs2 : List Hw} {w : World} (h : MyB B Bo b x y hs1 hs2 w) : BL B b (.agg #[x, y, .int .i64 b.2.2]) w :=
  ⟨x, y, rfl, Is.up eL 98 (Bs.sub_but _ _) h.o1, Is.up eL 98 (Bs.sub_but _ _) h.o2⟩
end Go.Proofs.YthecinmekoaphaaGreat.Bk
