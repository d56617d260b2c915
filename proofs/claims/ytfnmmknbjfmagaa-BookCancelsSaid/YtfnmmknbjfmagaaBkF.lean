/- Books and fills in memory; the document's own small functions of layer 9. -/
import Derived.Test.YtfnmmknbjfmagaaBkLaw
import Derived.Test.YtfnmmknbjfmagaaBkH
import Derived.Test.YtfnmmknbjfmagaaBkI
import Derived.Test.YtfnmmknbjfmagaaRo
import Derived.RegionTactic
import Derived.ChangeAlike
import Derived.BigRegion
namespace Go.Proofs.Ytfnmmknbjfmagaa.Bk
open Go.RowKit
set_option linter.unusedVariables false
open Go.Proofs.Ytfnmmknbjfmagaa.Rw
open Go.Proofs.Ytfnmmknbjfmagaa.Da
open Go.Proofs.Ytfnmmknbjfmagaa.Le
theorem row_setCell (w : World) (b o : Nat) (v : Value) : row (w.setCell ⟨b, o, none⟩ v) b = (row w b).setIfInBounds o v := by
  unfold row
  simp only [World.setCell, Array.getElem?_modify, if_true]
  cases w.heap[b]? with
  | none => simp
  | some x => cases x <;> simp
theorem row_setCell_ne (w : World) (b c o : Nat) (v : Value) (h : c ≠ b) : row (w.setCell ⟨b, o, none⟩ v) c = row w c := by
  unfold row
  rw [Below.heap_setCell w ⟨b, o, none⟩ v c h]
theorem plain_setCell (m : Nat) (w : World) (b c o : Nat) (v : Value) : plain m (w.setCell ⟨b, o, none⟩ v) c = plain m w c := by
  unfold plain
  simp only [World.setCell, Array.getElem?_modify]
  by_cases h : b = c
  · subst h
    simp only [if_true]
    cases w.heap[b]? with
    | none => rfl
    | some x => cases x <;> simp
  · simp only [h, if_false]
section
variable (ρ : Operand → Value) (dst : Option Tmp) (ty : TypeId) (pos : String) (after : Array Edge) (guard : Option (Nat × Bool)) (w : World)
theorem loadB (x : Operand) (h : (rowOf w (ρ x)).size = 3) : (execOp ρ { dst, op := .load 26 x, type := ty, pos, after, guard }).run Try.prog w = .ok (.value (.agg (rowOf w (ρ x)))) w :=
  exec_load (n := 2) ρ dst ty pos after guard w Try.underlying26 rfl (by kernel_rfl) x h
theorem storeB (p x : Operand) (h : plainAt 3 w (ρ p) = true) (hs : (ρ x).cells.size = 3) (h1 : oneAll (ρ x) = true) (ha : ρ x = .agg (ρ x).cells) : (execOp ρ { dst, op := .store 26 p x, type := ty, pos, after, guard }).run Try.prog w = .ok .skip (putRow w (ρ p) (ρ x).cells) :=
  exec_store (n := 2) ρ dst ty pos after guard w (by kernel_rfl) p x h hs h1 ha
end
theorem one3 (a c : Option Addr) (n m d e : Nat) (x : Int) : oneAll (.agg #[.slice a n d, .slice c m e, .int .i64 x]) = true := by simp [oneAll, Value.cells, Value.oneCell']
theorem size3 (a b c : Value) : (#[a, b, c] : Array Value).size = 3 := rfl
attribute [go_sem ↓] loadB storeB
attribute [go_sem] one3 size3 plain_setCell
theorem ret_B1 {fn : Func} {p : Tmp} (h : fn.results = #[.cell p 26]) (tmps : Array Value) (w : World) {cs : Array Value} (hs : cs.size = 3) (hr : rowOf w (tmps.getD p undef) = cs) : (results fn tmps).run Try.prog w = .ok (.agg cs) w :=
  ret1 (n := 2) h Try.underlying26 rfl (by kernel_rfl) tmps w hs hr
/-- A book. -/
def BL (B : Bs) (b : Bk) (v : Value) (w : World) : Prop := ∃ x y, v = .agg #[x, y, .int .i64 b.2.2] ∧ LL B b.1 x w ∧ LL B b.2.1 y w
theorem BL.stays {B : Bs} {b : Bk} {v : Value} {w w' : World} (h : BL B b v w) (hb : Below w.heap.size w w') : BL B b v w' := by
  obtain ⟨x, y, e, h1, h2⟩ := h
  exact ⟨x, y, e, Is.stays eL 48 h1 hb, Is.stays eL 48 h2 hb⟩
/-- The five cells of a fill. -/
def cellsF (f : Fl) : List Value := [.int .i64 f.1, .int .i64 f.2.1, .int .i64 f.2.2.1, .int .i64 f.2.2.2.1, .bool f.2.2.2.2]
def eFl : Enc Fl := Enc.flat 5 cellsF (fun _ => rfl) (fun o u hu => by simp [cellsF] at hu; rcases hu with rfl | rfl | rfl | rfl | rfl <;> rfl)
abbrev FL (B : Bs) (l : List Fl) (v : Value) (w : World) : Prop := Is eFl 53 B l v w
abbrev OwnFl (B : Bs) (Bo : Nat) (l : List Fl) (v : Value) (w : World) : Prop := Own eFl 53 B Bo l v w
theorem typesFl : 53 ∉ eFl.ts := by decide
theorem infoFl : (Try.prog.info? 53).map (fun i => (i.zero, i.size, i.bytes)) = some (some (.agg #[.int .i64 0, .int .i64 0, .int .i64 0, .int .i64 0, .bool false]), 5, 40) := by kernel_rfl
theorem elemFl : Elem Try.prog 36 53 eFl.k 40 := elem_of Try.underlying36 infoFl rfl (by decide)
theorem atFl {B : Bs} {l : List Fl} {b off : Nat} {w : World} (h : Lies eFl 53 B l b off w) (i : Nat) (hi : i < l.length) :
    w.cell? ⟨b, off + i * 5, none⟩ = some (.int .i64 l[i].1) ∧ w.cell? ⟨b, off + i * 5 + 1, none⟩ = some (.int .i64 l[i].2.1) ∧ w.cell? ⟨b, off + i * 5 + 2, none⟩ = some (.int .i64 l[i].2.2.1) ∧ w.cell? ⟨b, off + i * 5 + 3, none⟩ = some (.int .i64 l[i].2.2.2.1) ∧ w.cell? ⟨b, off + i * 5 + 4, none⟩ = some (.bool l[i].2.2.2.2) := by
  obtain ⟨cs, rfl, hu⟩ := h.at i hi
  exact ⟨hu 0 _ rfl, hu 1 _ rfl, hu 2 _ rfl, hu 3 _ rfl, hu 4 _ rfl⟩
def prO (q : Option Od) : Int := match q with
  | some o => opr o
  | none => 0
theorem cO_3 (q : Option Od) : (cO q)[3]? = some (.int .i64 (prO q)) := by cases q <;> rfl
theorem bestP_is (l : List Lv) : bestP l = prO (flat l).head? := by unfold bestP prO; cases (flat l).head? <;> rfl
set_option maxHeartbeats 400000 in
theorem rMeets_any (s p x : Int) (w : World) : Calls Try.prog 65 #[.int .i64 s, .int .i64 p, .int .i64 x] w fun e w' => e = .returned (.bool (meets s p x)) ∧ w = w' := by
  by_cases h : s = 1
  · have hd : (s == 1) = true := by simpa using h
    have H : Hid (meets s p x = decide (x ≤ p)) := Lib.hid (if_pos h)
    clear h
    go_enter Try.func65, Try.ntmps65
    go_wp2
    go_ret
    exact ⟨ret_bool H.out.symm, rfl⟩
  · have hd : (s == 1) = false := by simpa using h
    have H : Hid (meets s p x = decide (p ≤ x)) := Lib.hid (if_neg h)
    clear h
    go_enter Try.func65, Try.ntmps65
    go_wp2
    go_ret
    exact ⟨ret_bool H.out.symm, rfl⟩
theorem rMeets_is {s p x : Int} {r : Bool} (h : Hid (meets s p x = r)) (w : World) : Calls Try.prog 65 #[.int .i64 s, .int .i64 p, .int .i64 x] w fun e w' => e = .returned (.bool r) ∧ w = w' := by
  rw [← h.out]; exact rMeets_any s p x w
set_option maxHeartbeats 400000 in
theorem rAgainst_any (x y : Value) (n s : Int) (w : World) : Calls Try.prog 38 #[.agg #[x, y, .int .i64 n], .int .i64 s] w fun e w' => e = .returned (if s = 1 then y else x) ∧ Below w.heap.size w w' := by
  by_cases h : s = 1
  · have hd : (s == 1) = true := by simpa using h
    rw [if_pos h]
    clear h
    go_enter Try.func38, Try.ntmps38
    go_wp2
    go_ret
    exact ⟨rfl, below1 _ _⟩
  · have hd : (s == 1) = false := by simpa using h
    rw [if_neg h]
    clear h
    go_enter Try.func38, Try.ntmps38
    go_wp2
    go_ret
    exact ⟨rfl, below1 _ _⟩
set_option maxHeartbeats 400000 in
theorem rNew_any (w : World) : Calls Try.prog 10 #[] w fun e w' => e = .returned (.agg #[.slice none 0 0, .slice none 0 0, .int .i64 1]) ∧ Below w.heap.size w w' := by
  go_enter Try.func10, Try.ntmps10
  go_wp2
  refine bodyPost_ret (v := .agg #[.slice none 0 0, .slice none 0 0, .int .i64 1]) (ret_B1 Try.results10 _ _ rfl ?c1) rfl ⟨rfl, below1 _ _⟩
  case c1 => simp [go_sem]
end Go.Proofs.Ytfnmmknbjfmagaa.Bk
/- The document's own: Top, own, done. -/
namespace Go.Proofs.Ytfnmmknbjfmagaa.Bk
open Go.RowKit
set_option linter.unusedVariables false
open Go.Proofs.Ytfnmmknbjfmagaa.Rw
open Go.Proofs.Ytfnmmknbjfmagaa.Da
open Go.Proofs.Ytfnmmknbjfmagaa.Le
set_option maxHeartbeats 1000000 in
theorem rTop_any (B : Bs) (b : Bk) (v : Value) (w : World) (h : BL B b v w) (h1 : b.1.length ≤ 1000000) (h2 : (flat b.1).length ≤ 1000000) (h3 : b.2.1.length ≤ 1000000) (h4 : (flat b.2.1).length ≤ 1000000) :
    Calls Try.prog 18 #[v] w fun e w' => e = .returned (.tuple #[.int .i64 (bestP b.1), .int .i64 (bestP b.2.1)]) ∧ Below w.heap.size w w' := by
  obtain ⟨x, y, rfl, hx, hy⟩ := h
  rw [bestP_is, bestP_is]
  obtain ⟨q1, hq1⟩ : ∃ q, (flat b.1).head? = q := ⟨_, rfl⟩
  obtain ⟨q2, hq2⟩ : ∃ q, (flat b.2.1).head? = q := ⟨_, rfl⟩
  rw [hq1, hq2]
  have HQ1 := Lib.hid hq1
  have HQ2 := Lib.hid hq2
  obtain ⟨n, hn⟩ : ∃ n, b.2.2 = n := ⟨_, rfl⟩
  rw [hn]
  obtain ⟨V, hV⟩ : ∃ V, V = w.alloc (.cells #[x, y, .int .i64 n] 26) := ⟨_, rfl⟩
  have hbV : Below w.heap.size w V := hV ▸ below1 w _
  have hzV : w.heap.size < V.heap.size := by rw [hV]; simp
  obtain ⟨a1, c1, rfl⟩ := hx.len
  obtain ⟨a2, c2, rfl⟩ := hy.len
  have HX := Lib.hid (show ∀ u, Below V.heap.size V u → LL B b.1 (.slice a1 b.1.length c1) u ∧ LL B b.2.1 (.slice a2 b.2.1.length c2) u from fun u hu => ⟨Is.stays eL 48 hx (nx hbV hu), Is.stays eL 48 hy (nx hbV hu)⟩)
  have HC := Lib.hid (show ∀ u, Below V.heap.size V u → u.cell? ⟨w.heap.size, 0, none⟩ = some (.slice a1 b.1.length c1) ∧ u.cell? ⟨w.heap.size, 1, none⟩ = some (.slice a2 b.2.1.length c2) ∧ w.heap.size < u.heap.size from fun u hu => by
    refine ⟨?_, ?_, Nat.lt_of_lt_of_le hzV hu.size⟩
    · rw [hu.cell (p := ⟨w.heap.size, 0, none⟩) hzV, hV]; simp [go_sem]
    · rw [hu.cell (p := ⟨w.heap.size, 1, none⟩) hzV, hV]; simp [go_sem])
  have HV := Lib.hid hV
  have hcs1 := cO_size q1
  have h1c1 : oneAll (.agg (cO q1)) = true := by cases q1 <;> exact one5 _ _ _ _ _
  have hcs2 := cO_size q2
  have h1c2 : oneAll (.agg (cO q2)) = true := by cases q2 <;> exact one5 _ _ _ _ _
  have ho1 := cO_3 q1
  have ho2 := cO_3 q2
  have ho2' : ∀ h, (cO q2)[3]'h = .int .i64 (prO q2) := fun h => by cases q2 <;> rfl
  have HB1 := Lib.hid h1
  have HB2 := Lib.hid h2
  have HB3 := Lib.hid h3
  have HB4 := Lib.hid h4
  clear hx hy hV hq1 hq2 hn h1 h2 h3 h4
  obtain ⟨m0, m1, mz⟩ := HC.out V (Below.refl _ _)
  go_enter Try.func18, Try.ntmps18
  go_wp2_with fail
  rw [← HV.out]
  refine (rBest_any B b.1 _ V (HX.out V (Below.refl _ _)).1 HB1.out HB2.out).mono ?_
  rintro e w1 ⟨rfl, hb1⟩
  rw [HQ1.out, fV_is]
  clear m0 m1 mz
  have hbx := below1 w1 (.cells (cO q1) 31)
  obtain ⟨X, hX⟩ : ∃ X, X = w1.alloc (.cells (cO q1) 31) := ⟨_, rfl⟩
  have hzX : w1.heap.size < X.heap.size := by rw [hX]; simp
  have hcX : X.cell? ⟨w1.heap.size, 3, none⟩ = some (.int .i64 (prO q1)) := by rw [hX]; simp [go_sem, ho1]
  have hc1 := Lib.hid (show ∀ u, Below X.heap.size X u → u.cell? ⟨w1.heap.size, 3, none⟩ = some (.int .i64 (prO q1)) ∧ w1.heap.size < u.heap.size from fun u hu => ⟨(hu.cell (p := ⟨w1.heap.size, 3, none⟩) hzX).trans hcX, Nat.lt_of_lt_of_le hzX hu.size⟩)
  rw [← hX] at hbx
  have HX1 := Lib.hid hX
  have hb2 := nx hb1 hbx
  obtain ⟨m0, m1, mz⟩ := HC.out w1 hb1
  clear hX hcX
  go_wp2_with fail
  rw [← HX1.out]
  clear m0 m1 mz
  refine (rBest_any B b.2.1 _ X (HX.out X hb2).2 HB3.out HB4.out).mono ?_
  rintro e w2 ⟨rfl, hb3⟩
  rw [HQ2.out, fV_is]
  obtain ⟨k0, k1⟩ := hc1.out w2 hb3
  go_wp2
  go_region
  go_wp2
  go_ret2
  exact ⟨rfl, (nx hbV (nx hb2 (nx hb3 (below1 _ _)))).drew⟩
def Post' (F : Value → World → Prop) (w : World) (e : Ending) (w' : World) : Prop := ∃ v, e = .returned v ∧ Below w.heap.size w w' ∧ F v w'
set_option maxHeartbeats 1000000 in
theorem rDone_any (B : Bs) (fs : List Fl) (v : Value) (w : World) (h : FL B fs v w) (hm : fs.length ≤ 1000000) :
    Calls Try.prog 40 #[v] w fun e w' => e = .returned (.int .i64 (dn fs : Nat)) ∧ Below w.heap.size w w' := by
  obtain ⟨a2, c2, rfl, hel⟩ := h
  obtain ⟨m, hmm⟩ : ∃ m, m = fs.length := ⟨_, rfl⟩
  have HE := Lib.hid hel
  rw [← hmm] at hm ⊢
  have HM := Lib.hid hmm
  clear hel hmm
  go_enter Try.func40, Try.ntmps40
  go_wp2
  go_loopw [3, 8] (fun t i wr => ∃ j : Nat, j ≤ m ∧ i = .int .i64 j ∧ t = .int .i64 (dn (fs.take j) : Nat) ∧ Below w.heap.size w wr) (fun _ i _ => m - (intOf i).toNat)
  case atStart => exact ⟨0, Nat.zero_le _, rfl, rfl, Below.refl _ _⟩
  case round =>
    obtain ⟨j, hj, rfl, rfl, hb⟩ := hrel
    by_cases hjm : j < m
    · have hjm2 : (j : Int) < m := by omega
      have hjo : j < fs.length := by rw [← HM.out]; exact hjm
      rcases HE.out with ⟨e, _⟩ | ⟨b2, off2, rfl, hat2⟩
      · rw [e] at hjo; cases hjo
      have hat3 := Lies.keep eFl 53 hat2 (Keeps.of_below hb)
      have hc5 := atFl hat3 j hjo
      have hb2 := hat3.1
      have hsn : dn (fs.take (j + 1)) = dn (fs.take j) + if fs[j].2.2.2.2 = true then 1 else 0 := by
        unfold dn
        rw [Da.take_snoc hjo, List.filter_append, List.length_append, List.filter_cons, List.filter_nil]
        split <;> simp [*]
      have hle : dn (fs.take j) ≤ 1000000 := by
        have := List.length_filter_le (fun x : Fl => x.2.2.2.2) (fs.take j)
        rw [List.length_take] at this
        unfold dn; omega
      obtain ⟨⟨o1, o2, o3, o4, o5⟩, ho⟩ : ∃ o, fs[j]'hjo = o := ⟨_, rfl⟩
      rw [ho] at hc5 hsn
      simp only at hc5 hsn
      obtain ⟨s0, s1, s2, s3, s4⟩ := hc5
      obtain ⟨d, hd⟩ : ∃ d, dn (fs.take j) = d := ⟨_, rfl⟩
      rw [hd] at hsn hle ⊢
      have hbx := below1 wr (.cells #[.int .i64 o1, .int .i64 o2, .int .i64 o3, .int .i64 o4, .bool o5] 53)
      clear hat2 hat3 ho hd
      cases o5
      · have HS : Hid (dn (fs.take (j + 1)) = d) := Lib.hid (by rw [hsn]; rfl)
        clear hsn
        go_wp2
        go_roundw
        case rel => exact ⟨j + 1, by omega, by go_num, by rw [HS.out], nx hb hbx⟩
        case measure => simp [intOf]; omega
      · have HS : Hid (dn (fs.take (j + 1)) = d + 1) := Lib.hid (by rw [hsn]; rfl)
        clear hsn
        go_wp2
        go_roundw
        case rel => exact ⟨j + 1, by omega, by go_num, by rw [HS.out]; go_num, nx hb hbx⟩
        case measure => simp [intOf]; omega
    · obtain rfl : j = m := by omega
      have HZ : Hid (dn (fs.take j) = dn fs) := Lib.hid (by rw [HM.out, List.take_length])
      clear hjm
      go_wp2
      go_ret
      exact ⟨ret_int (by rw [HZ.out]), hb⟩
end Go.Proofs.Ytfnmmknbjfmagaa.Bk
/- Lists of levels with rows of their own: an order is changed in place. -/
namespace Go.Proofs.Ytfnmmknbjfmagaa.Bk
open Go.RowKit
set_option linter.unusedVariables false
open Go.Proofs.Ytfnmmknbjfmagaa.Rw
open Go.Proofs.Ytfnmmknbjfmagaa.Da
open Go.Proofs.Ytfnmmknbjfmagaa.Ro
open Go.Proofs.Ytfnmmknbjfmagaa.Le
def fOd : Flat Od := ⟨5, cellsO, fun _ => rfl, fun o u hu => by simp [cellsO] at hu; rcases hu with rfl | rfl | rfl | rfl | rfl <;> rfl⟩
abbrev RowOd (g cap : Nat) (os : List Od) (w : World) : Prop := Row fOd 31 g cap os w
theorem rowOd_of {B : Bs} {Bo : Nat} {os : List Od} {v : Value} {w : World} (h : OwnO B Bo os v w) {a : Nat} (ha : a < os.length) : ∃ g cap, v = .slice (some ⟨g, 0, none⟩) os.length cap ∧ Bo ≤ g ∧ cap ≤ maxLen ∧ RowOd g cap os w := by
  rcases Row.ofOwn (e := fOd) (show Own fOd.enc 31 B Bo os v w from h) with ⟨_, e⟩ | ⟨g, cap, h1, h2, h3, h4⟩
  · rw [e] at ha; cases ha
  · exact ⟨g, cap, h1, h2, h3, h4⟩
theorem rowOd_at {g cap : Nat} {os : List Od} {u : World} (h : RowOd g cap os u) {i : Nat} {o : Od} (ho : os[i]? = some o) : u.cell? ⟨g, i * 5, none⟩ = some (.int .i64 o.1) ∧ u.cell? ⟨g, i * 5 + 4, none⟩ = some (.int .i64 (olf o)) ∧ u.frozen? ⟨g, i * 5 + 4, none⟩ = false :=
  ⟨h.cell ho (j := 0) rfl, h.cell ho (j := 4) rfl, h.frozen _⟩
/-- A list of levels, each with a row of its own. -/
def MiL (B : Bs) (Bo : Nat) (l : List Lv) (v : Value) (w : World) : Prop := ∃ hs, Is eF 48 B hs v w ∧ Mine B Bo l hs w
theorem MiL.stays {B : Bs} {Bo : Nat} {l : List Lv} {v : Value} {w w' : World} (h : MiL B Bo l v w) (hb : Below w.heap.size w w') : MiL B Bo l v w' := by
  obtain ⟨hs, h1, h2⟩ := h
  exact ⟨hs, Is.stays eF 48 h1 hb, h2.stays hb⟩
theorem mine_lvs {B : Bs} {Bo : Nat} {l : List Lv} {hs : List Hw} {w : World} (hB : B.le Bo) (h : Mine B Bo l hs w) : LvS B l hs w :=
  ⟨h.len, fun i x y hx hy => ⟨(h.own i x y hx hy).1, (h.own i x y hx hy).2.is (by decide) hB⟩⟩
theorem MiL.ll {B : Bs} {Bo : Nat} {l : List Lv} {v : Value} {w : World} (hB : B.le Bo) (h : MiL B Bo l v w) : LL B l v w := by
  obtain ⟨hs, h1, h2⟩ := h
  exact (mine_lvs hB h2).ll h1
/-- The blocks of the orders' rows. -/
def Blk (hs : List Hw) (b : Nat) : Prop := ∃ (i : Nat) (y : Hw), hs[i]? = some y ∧ (hv y).ownBlock = some b
theorem mine_set {B : Bs} {Bo g cap : Nat} {L : List Lv} {hs : List Hw} {W : World} (hB : B.le Bo) (hM : Mine B Bo L hs W) {i k : Nat} {p : Int} {os : List Od} {y : Hw} {o : Od} (hx : L[i]? = some (p, os)) (hy : hs[i]? = some y) (hgv : hv y = .slice (some ⟨g, 0, none⟩) os.length cap) (hBg : Bo ≤ g) (hcap : cap ≤ maxLen) (hr : RowOd g cap os W) (hk : os[k]? = some o) (n : Int) :
    Mine B Bo (L.set i (p, os.set k (less o n))) hs (W.setCell ⟨g, k * 5 + 4, none⟩ (.int .i64 (olf o - n))) ∧ Keeps B [48] W (W.setCell ⟨g, k * 5 + 4, none⟩ (.int .i64 (olf o - n))) := by
  have hset := hr.setCell (i := k) (j := 4) (x := o) (y := less o n) (u := .int .i64 (olf o - n)) hk (by decide) rfl
  have hgr := setCell_grown W g (k * 5 + 4) (.int .i64 (olf o - n))
  refine ⟨⟨by rw [List.length_set]; exact hM.len, fun j u z hu hz => ?_, hM.apart⟩, hr.keeps (by have := hB.1; omega) (by decide) hgr⟩
  by_cases e : i = j
  · subst e
    have hil : i < L.length := (List.getElem?_eq_some_iff.1 hx).1
    rw [List.getElem?_set_self hil] at hu
    obtain rfl := Option.some.inj hu
    rw [hy] at hz
    obtain rfl := Option.some.inj hz
    refine ⟨(hM.own i _ y hx hy).1, ?_⟩
    have h2 : OwnO B Bo (os.set k (less o n)) (.slice (some ⟨g, 0, none⟩) (os.set k (less o n)).length cap) _ := Row.own (e := fOd) hset hBg hcap
    rw [List.length_set, ← hgv] at h2
    exact h2
  · rw [List.getElem?_set_ne e] at hu
    obtain ⟨h1, h2⟩ := hM.own j u z hu hz
    refine ⟨h1, ownO_grown h2 hgr fun g' hg1 hg2 => ?_⟩
    obtain rfl : g = g' := Option.some.inj hg2
    have hyo : (hv y).ownBlock = some g := by rw [hgv]; rfl
    rcases Nat.lt_or_gt_of_ne e with hi | hi
    · exact hM.apart i j y z g hi hy hz hyo hg1
    · exact hM.apart j i z y g hi hz hy hg1 hyo
/-- The first k of the orders are changed. -/
def mixO (f : Od → Od) (k : Nat) (os : List Od) : List Od := (os.take k).map f ++ os.drop k
theorem mixO_zero (f : Od → Od) (os : List Od) : mixO f 0 os = os := rfl
theorem mixO_all (f : Od → Od) (os : List Od) : mixO f os.length os = os.map f := by unfold mixO; rw [List.take_length, List.drop_length, List.append_nil]
theorem mixO_len (f : Od → Od) (k : Nat) (os : List Od) : (mixO f k os).length = os.length := by unfold mixO; simp only [List.length_append, List.length_map, List.length_take, List.length_drop]; omega
theorem mixO_get (f : Od → Od) {k : Nat} {os : List Od} (h : k < os.length) : (mixO f k os)[k]? = some os[k] := by
  unfold mixO
  rw [List.getElem?_append_right (by simp only [List.length_map, List.length_take]; omega), List.length_map, List.length_take, Nat.min_eq_left (by omega), Nat.sub_self, List.getElem?_drop, Nat.add_zero, List.getElem?_eq_getElem h]
theorem mixO_succ (f : Od → Od) {k : Nat} {os : List Od} (h : k < os.length) : mixO f (k + 1) os = (mixO f k os).set k (f os[k]) := by
  unfold mixO
  rw [List.set_append_right _ _ (by simp only [List.length_map, List.length_take]; omega), List.length_map, List.length_take, Nat.min_eq_left (by omega), Nat.sub_self, Da.take_snoc h, List.map_append, List.append_assoc]
  rw [show os.drop k = os[k] :: os.drop (k + 1) from List.drop_eq_getElem_cons h]
  rfl
theorem mixO_same (f : Od → Od) {k : Nat} {os : List Od} (h : k < os.length) (e : f os[k] = os[k]) : mixO f (k + 1) os = mixO f k os := by
  rw [mixO_succ f h, e]
  refine List.ext_getElem? fun j => ?_
  rw [List.getElem?_set]
  by_cases hj : k = j
  · subst hj
    rw [if_pos rfl, mixO_get f h, if_pos (by rw [mixO_len]; exact h)]
  · rw [if_neg hj]
def lvU (f : Od → Od) (v : Lv) : Lv := (v.1, v.2.map f)
def mixL (f : Od → Od) (i : Nat) (l : List Lv) : List Lv := (l.take i).map (lvU f) ++ l.drop i
theorem mixL_zero (f : Od → Od) (l : List Lv) : mixL f 0 l = l := rfl
theorem mixL_all (f : Od → Od) (l : List Lv) : mixL f l.length l = l.map (lvU f) := by unfold mixL; rw [List.take_length, List.drop_length, List.append_nil]
theorem mixL_get (f : Od → Od) {i : Nat} {l : List Lv} (h : i < l.length) : (mixL f i l)[i]? = some l[i] := by
  unfold mixL
  rw [List.getElem?_append_right (by simp only [List.length_map, List.length_take]; omega), List.length_map, List.length_take, Nat.min_eq_left (by omega), Nat.sub_self, List.getElem?_drop, Nat.add_zero, List.getElem?_eq_getElem h]
theorem mixL_len (f : Od → Od) (i : Nat) (l : List Lv) : (mixL f i l).length = l.length := by unfold mixL; simp only [List.length_append, List.length_map, List.length_take, List.length_drop]; omega
theorem mixL_succ (f : Od → Od) {i : Nat} {l : List Lv} (h : i < l.length) : mixL f (i + 1) l = (mixL f i l).set i (l[i].1, mixO f l[i].2.length l[i].2) := by
  rw [mixO_all]
  unfold mixL
  rw [List.set_append_right _ _ (by simp only [List.length_map, List.length_take]; omega), List.length_map, List.length_take, Nat.min_eq_left (by omega), Nat.sub_self, Da.take_snoc h, List.map_append, List.append_assoc]
  rw [show l.drop i = l[i] :: l.drop (i + 1) from List.drop_eq_getElem_cons h]
  rfl
theorem set_same {α : Type} {l : List α} {i : Nat} {x : α} (h : l[i]? = some x) : l.set i x = l := by
  refine List.ext_getElem? fun j => ?_
  rw [List.getElem?_set]
  by_cases hj : i = j
  · subst hj
    rw [if_pos rfl, h, if_pos (List.getElem?_eq_some_iff.1 h).1]
  · rw [if_neg hj]
end Go.Proofs.Ytfnmmknbjfmagaa.Bk
/- The document's own: filled. -/
namespace Go.Proofs.Ytfnmmknbjfmagaa.Bk
open Go.RowKit
set_option linter.unusedVariables false
open Go.Proofs.Ytfnmmknbjfmagaa.Rw
open Go.Proofs.Ytfnmmknbjfmagaa.Da
open Go.Proofs.Ytfnmmknbjfmagaa.Ro
open Go.Proofs.Ytfnmmknbjfmagaa.Le
/-- What holds within filled. -/
structure FS (B : Bs) (Bo : Nat) (hs0 hs : List Hw) (w : World) (fs : List Fl) (fv t : Value) (L : List Lv) (u : World) : Prop where
  is : Is eF 48 B hs t u
  mine : Mine B Bo L hs u
  fl : FL B fs fv u
  alt : Alt (Blk hs0) w u
  new : ∀ b, Blk hs b → Blk hs0 b ∨ w.heap.size ≤ b
  le : Bo ≤ u.heap.size
theorem FS.stays {B : Bs} {Bo : Nat} {hs0 hs : List Hw} {w : World} {fs : List Fl} {fv t : Value} {L : List Lv} {u u' : World} (h : FS B Bo hs0 hs w fs fv t L u) (hb : Below u.heap.size u u') : FS B Bo hs0 hs w fs fv t L u' :=
  ⟨Is.stays eF 48 h.is hb, h.mine.stays hb, Is.stays eFl 53 h.fl hb, h.alt.trans (Alt.of_below hb), h.new, Nat.le_trans h.le hb.size⟩
theorem FS.set {B : Bs} {Bo g cap : Nat} {hs0 hs : List Hw} {w : World} {fs : List Fl} {fv t : Value} {L : List Lv} {u : World} (hB : B.le Bo) (h : FS B Bo hs0 hs w fs fv t L u) {i k : Nat} {p : Int} {os : List Od} {y : Hw} {o : Od} (hx : L[i]? = some (p, os)) (hy : hs[i]? = some y) (hgv : hv y = .slice (some ⟨g, 0, none⟩) os.length cap) (hBg : Bo ≤ g) (hcap : cap ≤ maxLen) (hr : RowOd g cap os u) (hk : os[k]? = some o) (n : Int) :
    FS B Bo hs0 hs w fs fv t (L.set i (p, os.set k (less o n))) (u.setCell ⟨g, k * 5 + 4, none⟩ (.int .i64 (olf o - n))) ∧ ∀ q, q ≠ g → (u.setCell ⟨g, k * 5 + 4, none⟩ (.int .i64 (olf o - n))).heap[q]? = u.heap[q]? := by
  obtain ⟨m1, m2⟩ := mine_set hB h.mine hx hy hgv hBg hcap hr hk n
  have hgr := setCell_grown u g (k * 5 + 4) (.int .i64 (olf o - n))
  have hbk : Blk hs g := ⟨i, y, hy, by rw [hgv]; rfl⟩
  refine ⟨⟨Is.keep eF 48 h.is m2, m1, Is.keep eFl 53 h.fl (hr.keeps (by have := hB.1; omega) (by decide) hgr), ?_, h.new, by rw [show (u.setCell ⟨g, k * 5 + 4, none⟩ (.int .i64 (olf o - n))).heap.size = u.heap.size by simp]; exact h.le⟩, fun q hq => Below.heap_setCell u ⟨g, k * 5 + 4, none⟩ _ q hq⟩
  refine ⟨h.alt.os, h.alt.tape, h.alt.output, by have := h.alt.size; simp; omega, fun b hb hx => ?_⟩
  have hne : b ≠ g := fun e => by
    subst e
    rcases h.new b hbk with h1 | h1
    · exact hx h1
    · omega
  rw [Below.heap_setCell u ⟨g, k * 5 + 4, none⟩ _ b hne]
  exact h.alt.block b hb hx
theorem atF {B : Bs} {hs : List Hw} {b off : Nat} {w : World} (h : Lies eF 48 B hs b off w) (i : Nat) (hi : i < hs.length) :
    w.cell? ⟨b, off + i * 2, none⟩ = some (.int .i64 hs[i].1) ∧ w.cell? ⟨b, off + i * 2 + 1, none⟩ = some (hv hs[i]) := by
  obtain ⟨cs, rfl, hu⟩ := h.at i hi
  exact ⟨hu 0 _ rfl, hu 1 _ rfl⟩
/-- Where the i-th level lies. -/
theorem FS.lev {B : Bs} {Bo n ct : Nat} {at1 : Option Addr} {hs0 hs : List Hw} {w : World} {fs : List Fl} {fv : Value} {L : List Lv} {u : World} (h : FS B Bo hs0 hs w fs fv (.slice at1 n ct) L u) {i : Nat} {p : Int} {os : List Od} (hi : L[i]? = some (p, os)) :
    ∃ y b off, hs[i]? = some y ∧ at1 = some ⟨b, off, none⟩ ∧ b < u.heap.size ∧ u.cell? ⟨b, off + i * 2 + 1, none⟩ = some (hv y) ∧ OwnO B Bo os (hv y) u := by
  have hl := h.mine.len
  have hiL : i < L.length := (List.getElem?_eq_some_iff.1 hi).1
  have hih : i < hs.length := by omega
  obtain ⟨a, c, e, ht⟩ := h.is
  simp only [Value.slice.injEq] at e
  obtain ⟨rfl, _, rfl⟩ := e
  rcases ht with ⟨e, _⟩ | ⟨b, off, rfl, hat⟩
  · rw [e] at hih; cases hih
  · exact ⟨hs[i], b, off, List.getElem?_eq_getElem hih, rfl, hat.1, (atF hat i hih).2, (h.mine.own i _ _ hi (List.getElem?_eq_getElem hih)).2⟩
/-- The levels are made anew (an order was taken out). -/
theorem FS.anew {B : Bs} {Bo : Nat} {hs0 hs hs2 : List Hw} {w V V2 : World} {fs : List Fl} {fv t v2 : Value} {L L2 : List Lv} (h : FS B Bo hs0 hs w fs fv t L V) (hb : Below V.heap.size V V2) (hi : Is eF 48 B hs2 v2 V2) (hm : Mine B V.heap.size L2 hs2 V2) : FS B V.heap.size hs0 hs2 w fs fv v2 L2 V2 :=
  ⟨hi, hm, Is.stays eFl 53 h.fl hb, h.alt.trans (Alt.of_below hb), fun b hx => by
    obtain ⟨i, y, hy, hg⟩ := hx
    have hl := hm.len
    have hil : i < L2.length := by have := (List.getElem?_eq_some_iff.1 hy).1; omega
    have := (Own.block (hm.own i _ y (List.getElem?_eq_getElem hil) hy).2 _ hg).1
    exact .inr (Nat.le_trans h.alt.size this), hb.size⟩
theorem rem_flat_sub (l : List Lv) (id : Int) : (flat (rem l id)).Sublist (flat l) := by
  unfold rem
  rw [flat_rem]
  exact remO_sub id _ _
def FilP (B : Bs) (l : List Lv) (fs : List Fl) (hs0 : List Hw) (w : World) (e : Ending) (w' : World) : Prop := ∃ v, e = .returned v ∧ LL B (fil l fs) v w' ∧ Alt (Blk hs0) w w'
theorem upd_map (id n : Int) (l : List Lv) : l.map (lvU (updO id n)) = upd id n l := rfl
theorem fil_snoc {l : List Lv} {fs : List Fl} {j : Nat} (h : j < fs.length) : fil l (fs.take (j + 1)) = fil1 (fil l (fs.take j)) fs[j] := by
  unfold fil
  rw [Da.take_snoc h, List.foldl_append]; rfl
theorem flat_mem_mix {f : Od → Od} {i : Nat} {l : List Lv} (h : i < l.length) : ∀ o ∈ l[i].2, o ∈ flat l := fun o ho => List.mem_flatMap.2 ⟨_, List.getElem_mem h, ho⟩
set_option maxHeartbeats 4000000 in
theorem rFilled_any (B : Bs) (Bo : Nat) (l : List Lv) (fs : List Fl) (v fv : Value) (hs0 : List Hw) (w : World) (hI : Is eF 48 B hs0 v w) (hM : Mine B Bo l hs0 w) (hB : B.le Bo) (hBo : Bo ≤ w.heap.size) (hF : FL B fs fv w) (hm : l.length ≤ 1000000) (hfl : (flat l).length ≤ 1000000) (hfm : fs.length ≤ 1000000)
    (hlast : ∀ i (h : i < fs.length), fs[i].2.2.2.2 = false → i + 1 = fs.length) (hq : ∀ f ∈ fs, 0 ≤ f.2.2.2.1 ∧ f.2.2.2.1 ≤ 1048576) (hol : ∀ o ∈ flat l, 0 ≤ olf o ∧ olf o ≤ 1048576) :
    Calls Try.prog 41 #[v, fv] w (FilP B l fs hs0 w) := by
  obtain ⟨a2, c2, rfl, _⟩ := id hF
  obtain ⟨n, hn⟩ : ∃ n, n = fs.length := ⟨_, rfl⟩
  have HSt : Hid (FS B Bo hs0 hs0 w fs (.slice a2 fs.length c2) v l w) := Lib.hid ⟨hI, hM, hF, Alt.refl _ _, fun b hb => .inl hb, hBo⟩
  have HLast := Lib.hid hlast
  have HQ := Lib.hid hq
  have HOl := Lib.hid hol
  have HB := Lib.hid hB
  rw [← hn] at hfm HSt ⊢
  have HN := Lib.hid hn
  have HM := Lib.hid hm
  have HFl := Lib.hid hfl
  clear hI hM hF hlast hq hol hB hn hm hfl hBo
  go_enter Try.func41, Try.ntmps41
  go_wp2
  go_loopw [0, 11] (fun t i wr => ∃ (j : Nat) (L : List Lv) (Bo' : Nat) (hs : List Hw), j ≤ n ∧ i = .int .i64 j ∧ L = fil l (fs.take j) ∧ B.le Bo' ∧ FS B Bo' hs0 hs w fs (.slice a2 n c2) t L wr ∧ (j < n → ∀ o ∈ flat L, 0 ≤ olf o ∧ olf o ≤ 1048576) ∧ L.length ≤ l.length ∧ (flat L).length ≤ (flat l).length) (fun _ i _ => n - (intOf i).toNat)
  case atStart => exact ⟨0, l, Bo, hs0, Nat.zero_le _, rfl, rfl, HB.out, HSt.out, fun _ => HOl.out, Nat.le_refl _, Nat.le_refl _⟩
  case round =>
    obtain ⟨wo, rfl⟩ : ∃ wo : World, wo = wr := ⟨_, rfl⟩
    obtain ⟨j, L, Bo', hs, hj, rfl, hL, hB', hS, hbd, hl1, hl2⟩ := hrel
    have HS := Lib.hid hS
    have HLe := Lib.hid hL
    have HBd := Lib.hid hbd
    have HB' := Lib.hid hB'
    have hm : L.length ≤ 1000000 := by have := HM.out; omega
    have hfl : (flat L).length ≤ 1000000 := by have := HFl.out; omega
    clear hS hL hbd hB'
    by_cases hlt : j < n
    · have hlt2 : (j : Int) < n := by omega
      have hjf : j < fs.length := by rw [← HN.out]; exact hlt
      have hfi := HS.out.fl
      rcases hfi with ⟨aa, ca, e, hfi⟩
      rw [← HN.out] at e
      simp only [Value.slice.injEq] at e
      obtain ⟨rfl, _, rfl⟩ := e
      rcases hfi with ⟨e, _⟩ | ⟨b2, off2, rfl, hat⟩
      · rw [e] at hjf; cases hjf
      have hc5 := atFl hat j hjf
      have hbb := hat.1
      have hsn := fil_snoc (l := l) hjf
      have hmem := HQ.out _ (List.getElem_mem hjf)
      have hla := HLast.out j hjf
      obtain ⟨⟨f1, f2, f3, f4, f5⟩, hf⟩ : ∃ f, fs[j]'hjf = f := ⟨_, rfl⟩
      rw [hf] at hc5 hsn hmem hla
      simp only at hc5 hmem hla
      rw [← HLe.out] at hsn
      obtain ⟨s0, s1, s2, s3, s4⟩ := hc5
      obtain ⟨V, hV⟩ : ∃ V, V = wo.alloc (.cells #[.int .i64 f1, .int .i64 f2, .int .i64 f3, .int .i64 f4, .bool f5] 53) := ⟨_, rfl⟩
      have hbV : Below wo.heap.size wo V := hV ▸ below1 wo _
      have hbx : V.heap[wo.heap.size]? = some (.cells #[.int .i64 f1, .int .i64 f2, .int .i64 f3, .int .i64 f4, .bool f5] 53 (0, 0)) := by rw [hV]; exact heap_alloc_new wo _
      have HV := Lib.hid hV
      have HSV := Lib.hid (HS.out.stays hbV)
      have HSn := Lib.hid hsn
      clear hV hf hat hsn
      cases f5
      · have hjn : j + 1 = n := by rw [hla rfl, HN.out]
        have hsn2 : fil l (fs.take (j + 1)) = upd f1 f4 L := by rw [HSn.out]; rfl
        have HSn2 := Lib.hid hsn2
        clear hsn2 hla
        obtain ⟨at1, ct, et⟩ := HSV.out.is.len
        subst et
        have hhl : hs.length = L.length := HSV.out.mine.len
        have HHl := Lib.hid hhl
        rw [hhl]
        have HBx := Lib.hid hbx
        have hbd := HBd.out hlt
        have HBd2 := Lib.hid hbd
        rw [hhl] at HSV
        clear hhl hbx hbd
        go_wp2
        rw [← HV.out]
        go_loopw [27] (fun i wr => ∃ i' : Nat, i' ≤ L.length ∧ i = .int .i64 i' ∧ FS B Bo' hs0 hs w fs (.slice (some ⟨b2, off2, none⟩) n c2) (.slice at1 L.length ct) (mixL (updO f1 f4) i' L) wr ∧ wr.heap[wo.heap.size]? = some (.cells #[.int .i64 f1, .int .i64 f2, .int .i64 f3, .int .i64 f4, .bool false] 53 (0, 0))) (fun i _ => L.length - (intOf i).toNat)
        case atStart => exact ⟨0, Nat.zero_le _, rfl, HSV.out, HBx.out⟩
        case round =>
          obtain ⟨wm, rfl⟩ : ∃ wm : World, wm = wr := ⟨_, rfl⟩
          obtain ⟨i', hi', rfl, hS1, hbx1⟩ := hrel
          have HS1 := Lib.hid hS1
          have HBx1 := Lib.hid hbx1
          clear hS1 hbx1
          by_cases hli : i' < L.length
          · have hli2 : (i' : Int) < L.length := by omega
            obtain ⟨⟨p, os⟩, hpo⟩ : ∃ y, L[i'] = y := ⟨_, rfl⟩
            have hget := mixL_get (updO f1 f4) hli
            rw [hpo] at hget
            have hos : os.length ≤ 1000000 := by
              have h1 := flat_take_le L (i' + 1)
              have h2 := flat_take_snoc hli
              rw [hpo] at h2
              simp only at h2
              rw [h2, List.length_append] at h1
              omega
            obtain ⟨y, tb, toff, hy, rfl, htb, htc, hown⟩ := HS1.out.lev hget
            obtain ⟨a3, c3, hyv⟩ := (hown.is (by decide) HB'.out).len
            rw [hyv] at htc
            have HGet := Lib.hid hget
            have HY := Lib.hid hy
            have HYv := Lib.hid hyv
            have HPo := Lib.hid hpo
            clear hget hy hyv hpo hown
            go_wp2
            go_loopw [36] (fun i wr => ∃ k' : Nat, k' ≤ os.length ∧ i = .int .i64 k' ∧ FS B Bo' hs0 hs w fs (.slice (some ⟨b2, off2, none⟩) n c2) (.slice (some ⟨tb, toff, none⟩) L.length ct) ((mixL (updO f1 f4) i' L).set i' (p, mixO (updO f1 f4) k' os)) wr ∧ wr.heap[wo.heap.size]? = some (.cells #[.int .i64 f1, .int .i64 f2, .int .i64 f3, .int .i64 f4, .bool false] 53 (0, 0))) (fun i _ => os.length - (intOf i).toNat)
            case atStart => exact ⟨0, Nat.zero_le _, rfl, by rw [mixO_zero, set_same HGet.out]; exact HS1.out, HBx1.out⟩
            case round =>
              obtain ⟨wi, rfl⟩ : ∃ wi : World, wi = wr := ⟨_, rfl⟩
              obtain ⟨k', hk', rfl, hS2, hbx2⟩ := hrel
              by_cases hlk : k' < os.length
              · have hlk2 : (k' : Int) < os.length := by omega
                have hx : ((mixL (updO f1 f4) i' L).set i' (p, mixO (updO f1 f4) k' os))[i']? = some (p, mixO (updO f1 f4) k' os) := List.getElem?_set_self (by rw [mixL_len]; exact hli)
                obtain ⟨y', b, off, hy', e, htb', htc', hown⟩ := hS2.lev hx
                rw [HY.out] at hy'
                obtain rfl := Option.some.inj hy'
                simp only [Option.some.injEq, Addr.mk.injEq, and_true] at e
                obtain ⟨rfl, rfl⟩ := e
                obtain ⟨g, cap, hgv, hBg, hcap, hr⟩ := rowOd_of hown (a := k') (by rw [mixO_len]; exact hlk)
                have hgk := mixO_get (updO f1 f4) hlk
                obtain ⟨o, ho⟩ : ∃ o, os[k'] = o := ⟨_, rfl⟩
                rw [ho] at hgk
                have hgv2 := hgv
                rw [mixO_len, HYv.out] at hgv2
                simp only [Value.slice.injEq] at hgv2
                obtain ⟨rfl, _, rfl⟩ := hgv2
                rw [HYv.out] at htc'
                obtain ⟨q0, q4, fz⟩ := rowOd_at hr hgk
                have hgl : g < wi.heap.size := hr.lt
                have hng : wo.heap.size ≠ g := fun e => by
                  obtain ⟨cur, hg1, _⟩ := hr.ex
                  rw [← e, hbx2] at hg1
                  injection hg1 with hg1
                  injection hg1 with _ hg2 _
                  exact absurd hg2 (by decide)
                have k0 : wi.cell? ⟨wo.heap.size, 0, none⟩ = some (.int .i64 f1) := by simp [World.cell?, hbx2]
                have k3 : wi.cell? ⟨wo.heap.size, 3, none⟩ = some (.int .i64 f4) := by simp [World.cell?, hbx2]
                have hol : 0 ≤ olf o ∧ olf o ≤ 1048576 := by
                  have := List.getElem_mem hlk
                  rw [ho] at this
                  exact HBd2.out o (List.mem_flatMap.2 ⟨_, List.getElem_mem hli, by rw [HPo.out]; exact this⟩)
                have hbl := (Array.getElem?_eq_some_iff.1 hbx2).1
                have HS2 := Lib.hid hS2
                have HBx2 := Lib.hid hbx2
                have HX := Lib.hid hx
                have HR := Lib.hid hr
                have HGv := Lib.hid hgv
                have HGk := Lib.hid hgk
                have HO := Lib.hid ho
                obtain ⟨o1, o2, o3, o4, o5⟩ := o
                simp only [olf] at q4 hol
                clear hS2 hbx2 hx hr hgv hgk ho hown
                by_cases he : o1 = f1
                · have hd : (o1 == f1) = true := by simpa using he
                  clear he
                  go_wp2
                  go_region
                  go_wp2
                  go_region
                  obtain ⟨n1, n2⟩ := HS2.out.set HB'.out HX.out HY.out HGv.out hBg hcap HR.out HGk.out f4
                  have hsm := mixO_succ (updO f1 f4) hlk
                  rw [HO.out, show updO f1 f4 (o1, o2, o3, o4, o5) = less (o1, o2, o3, o4, o5) f4 from if_pos (by simpa using hd)] at hsm
                  rw [List.set_set, ← hsm] at n1
                  have HRel := Lib.hid (show FS B Bo' hs0 hs w fs (.slice (some ⟨b2, off2, none⟩) n c2) (.slice (some ⟨tb, toff, none⟩) L.length ct) ((mixL (updO f1 f4) i' L).set i' (p, mixO (updO f1 f4) (k' + 1) os)) ((wi.setCell ⟨g, k' * 5 + 4, none⟩ (.int .i64 (o5 - f4))).drew.drew) ∧ ((wi.setCell ⟨g, k' * 5 + 4, none⟩ (.int .i64 (o5 - f4))).drew.drew).heap[wo.heap.size]? = some (.cells #[.int .i64 f1, .int .i64 f2, .int .i64 f3, .int .i64 f4, .bool false] 53 (0, 0)) from ⟨n1.stays (Below.refl _ _).drew.drew, (n2 _ hng).trans HBx2.out⟩)
                  clear n1 n2 hsm
                  go_wp2
                  go_roundw
                  case rel => exact ⟨k' + 1, by omega, by go_num, HRel.out.1, HRel.out.2⟩
                  case measure => simp [intOf]; omega
                · have hd : (o1 == f1) = false := by simpa using he
                  clear he
                  go_wp2
                  go_region
                  have hsm := mixO_same (updO f1 f4) hlk (by rw [HO.out]; exact if_neg (fun e => by rw [show o1 = f1 from e] at hd; simp at hd))
                  have HRel := Lib.hid (show FS B Bo' hs0 hs w fs (.slice (some ⟨b2, off2, none⟩) n c2) (.slice (some ⟨tb, toff, none⟩) L.length ct) ((mixL (updO f1 f4) i' L).set i' (p, mixO (updO f1 f4) (k' + 1) os)) wi.drew ∧ wi.drew.heap[wo.heap.size]? = some (.cells #[.int .i64 f1, .int .i64 f2, .int .i64 f3, .int .i64 f4, .bool false] 53 (0, 0)) from ⟨by rw [hsm]; exact HS2.out.stays (Below.refl _ _).drew, HBx2.out⟩)
                  clear hsm
                  go_wp2
                  go_roundw
                  case rel => exact ⟨k' + 1, by omega, by go_num, HRel.out.1, HRel.out.2⟩
                  case measure => simp [intOf]; omega
              · obtain rfl : k' = os.length := by omega
                have hsu := mixL_succ (updO f1 f4) hli
                rw [HPo.out] at hsu
                have HRel := Lib.hid (show FS B Bo' hs0 hs w fs (.slice (some ⟨b2, off2, none⟩) n c2) (.slice (some ⟨tb, toff, none⟩) L.length ct) (mixL (updO f1 f4) (i' + 1) L) wi ∧ wi.heap[wo.heap.size]? = some (.cells #[.int .i64 f1, .int .i64 f2, .int .i64 f3, .int .i64 f4, .bool false] 53 (0, 0)) from ⟨by rw [hsu]; exact hS2, hbx2⟩)
                clear hS2 hbx2 hsu
                go_wp2
                go_roundw
                case rel => exact ⟨i' + 1, by omega, by go_num, HRel.out.1, HRel.out.2⟩
                case measure => simp [intOf]; omega
          · obtain rfl : i' = L.length := by omega
            have hup : FS B Bo' hs0 hs w fs (.slice (some ⟨b2, off2, none⟩) n c2) (.slice at1 L.length ct) (upd f1 f4 L) wm := by
              have := HS1.out
              rw [mixL_all, upd_map] at this
              exact this
            have hl3 : (upd f1 f4 L).length = L.length := by unfold upd; rw [List.length_map]
            have hl4 : (flat (upd f1 f4 L)).length = (flat L).length := by rw [flat_upd, List.length_map]
            have HRel := Lib.hid (show upd f1 f4 L = fil l (fs.take (j + 1)) ∧ FS B Bo' hs0 hs w fs (.slice (some ⟨b2, off2, none⟩) n c2) (.slice at1 L.length ct) (upd f1 f4 L) wm ∧ (upd f1 f4 L).length = L.length ∧ (flat (upd f1 f4 L)).length = (flat L).length from ⟨HSn2.out.symm, hup, hl3, hl4⟩)
            clear hup hl3 hl4
            go_wp2
            go_roundw
            case rel => exact ⟨j + 1, upd f1 f4 L, Bo', hs, by omega, by go_num, HRel.out.1, HB'.out, HRel.out.2.1, fun h => by omega, by rw [HRel.out.2.2.1]; exact hl1, by rw [HRel.out.2.2.2]; exact hl2⟩
            case measure => simp [intOf]; omega
      · have hsn2 : fil l (fs.take (j + 1)) = rem L f1 := by rw [HSn.out]; rfl
        have HSn2 := Lib.hid hsn2
        have hbd := HBd.out hlt
        have HBd2 := Lib.hid hbd
        have hBV : B.le V.heap.size := HB'.out.mono HSV.out.le
        have hLL := (mine_lvs HB'.out HSV.out.mine).ll HSV.out.is
        have HBV := Lib.hid hBV
        have HLL := Lib.hid hLL
        have hr1 : (rem L f1).length ≤ L.length := remL_len f1 L false
        have hr2 := (rem_flat_sub L f1).length_le
        clear hsn2 hla hbd hBV hLL
        go_wp2_with fail
        rw [← HV.out]
        refine (rRemove2_any B L _ f1 V HLL.out HBV.out hm hfl).mono ?_
        rintro e V2 ⟨v2, rfl, hbR, hs2, hi2, hm2⟩
        have HRel := Lib.hid (show rem L f1 = fil l (fs.take (j + 1)) ∧ FS B V.heap.size hs0 hs2 w fs (.slice (some ⟨b2, off2, none⟩) n c2) v2 (rem L f1) V2 from ⟨HSn2.out.symm, HSV.out.anew hbR hi2 hm2⟩)
        clear hi2 hm2
        go_wp2
        go_roundw
        case rel => exact ⟨j + 1, rem L f1, V.heap.size, hs2, by omega, by go_num, HRel.out.1, HBV.out, HRel.out.2, fun _ o ho => HBd2.out o ((rem_flat_sub L f1).subset ho), by omega, by omega⟩
        case measure => simp [intOf]; omega
    · obtain rfl : j = n := by omega
      have e1 : fil l fs = L := by rw [HLe.out, HN.out, List.take_length]
      have HE := Lib.hid e1
      clear e1
      go_wp2
      go_ret
      exact ⟨_, rfl, by rw [HE.out]; exact (mine_lvs HB'.out HS.out.mine).ll HS.out.is, HS.out.alt⟩
end Go.Proofs.Ytfnmmknbjfmagaa.Bk
/- The document's own: own, of a book. -/
namespace Go.Proofs.Ytfnmmknbjfmagaa.Bk
open Go.RowKit
set_option linter.unusedVariables false
open Go.Proofs.Ytfnmmknbjfmagaa.Rw
open Go.Proofs.Ytfnmmknbjfmagaa.Da
open Go.Proofs.Ytfnmmknbjfmagaa.Le
theorem set3 {w : World} {b o : Nat} {x y z v : Value} {t : TypeId} (h : w.heap[b]? = some (.cells #[x, y, z] t (0, 0))) : (w.setCell ⟨b, o, none⟩ v).heap[b]? = some (.cells (#[x, y, z].setIfInBounds o v) t (0, 0)) := by
  simp [World.setCell, Array.getElem?_modify, h]
theorem blk_ge {B : Bs} {Bo : Nat} {l : List Lv} {hs : List Hw} {w : World} (h : Mine B Bo l hs w) : ∀ b, Blk hs b → Bo ≤ b ∧ b < w.heap.size := fun b hx => by
  obtain ⟨i, y, hy, hg⟩ := hx
  have hl := h.len
  have hil : i < l.length := by have := (List.getElem?_eq_some_iff.1 hy).1; omega
  exact Own.block (h.own i _ y (List.getElem?_eq_getElem hil) hy).2 _ hg
theorem keeps_setRow {B : Bs} {ts : List TypeId} {w : World} {b : Nat} {cur : Array Value} {t : TypeId} {fr : Nat × Nat} (c : Array Value) (h : w.heap[b]? = some (.cells cur t fr)) (ht : t ∉ ts) (hB : B.lo ≤ b) : Keeps B ts w (w.setRow b c) :=
  ⟨by rw [setRow_size]; exact Nat.le_refl _, fun i ob hi ho => by
    by_cases e : i = b
    · subst e
      rw [h] at hi
      obtain rfl := Option.some.inj hi
      rcases ho with ho | ⟨_, _, _, he, hm, _⟩
      · omega
      · simp only [Obj.cells.injEq] at he
        exact absurd (he.2.1 ▸ hm) ht
    · exact (setRow_other w b i c e).trans hi⟩
/-- A book of the call's own. -/
structure MyB (B : Bs) (Bo : Nat) (b : Bk) (x y : Value) (hs1 hs2 : List Hw) (w : World) : Prop where
  i1 : Is eF 48 B hs1 x w
  m1 : Mine B Bo b.1 hs1 w
  i2 : Is eF 48 B hs2 y w
  m2 : Mine B Bo b.2.1 hs2 w
  o1 : LL (B.but (Blk hs2)) b.1 x w
  o2 : LL (B.but (Blk hs1)) b.2.1 y w
theorem MyB.stays {B : Bs} {Bo : Nat} {b : Bk} {x y : Value} {hs1 hs2 : List Hw} {w w' : World} (h : MyB B Bo b x y hs1 hs2 w) (hb : Below w.heap.size w w') : MyB B Bo b x y hs1 hs2 w' :=
  ⟨Is.stays eF 48 h.i1 hb, h.m1.stays hb, Is.stays eF 48 h.i2 hb, h.m2.stays hb, Is.stays eL 48 h.o1 hb, Is.stays eL 48 h.o2 hb⟩
theorem MyB.bl {B : Bs} {Bo : Nat} {b : Bk} {x y : Value} {hs1 hs2 : List Hw} {w : World} (h : MyB B Bo b x y hs1 hs2 w) : BL B b (.agg #[x, y, .int .i64 b.2.2]) w :=
  ⟨x, y, rfl, Is.up eL 48 (Bs.sub_but _ _) h.o1, Is.up eL 48 (Bs.sub_but _ _) h.o2⟩
set_option maxHeartbeats 1000000 in
theorem rOwnB_any (B : Bs) (b : Bk) (v : Value) (w : World) (h : BL B b v w) (hB : B.le w.heap.size) (h1 : b.1.length ≤ 1000000) (h2 : (flat b.1).length ≤ 1000000) (h3 : b.2.1.length ≤ 1000000) (h4 : (flat b.2.1).length ≤ 1000000) :
    Calls Try.prog 28 #[v] w fun e w' => ∃ x y hs1 hs2, e = .returned (.agg #[x, y, .int .i64 b.2.2]) ∧ Below w.heap.size w w' ∧ MyB B w.heap.size b x y hs1 hs2 w' := by
  obtain ⟨x, y, rfl, hx, hy⟩ := h
  obtain ⟨n, hn⟩ : ∃ n, b.2.2 = n := ⟨_, rfl⟩
  rw [hn]
  obtain ⟨a1, c1, rfl⟩ := hx.len
  obtain ⟨a2, c2, rfl⟩ := hy.len
  obtain ⟨V, hV⟩ : ∃ V, V = (w.alloc (.cells #[.slice a1 b.1.length c1, .slice a2 b.2.1.length c2, .int .i64 n] 26)).alloc (.cells #[.slice none 0 0, .slice none 0 0, .int .i64 0] 26) := ⟨_, rfl⟩
  have hbV : Below w.heap.size w V := hV ▸ below2 w _ _
  have hzV : V.heap.size = w.heap.size + 2 := by rw [hV]; simp
  have hk0 : V.heap[w.heap.size]? = some (.cells #[.slice a1 b.1.length c1, .slice a2 b.2.1.length c2, .int .i64 n] 26 (0, 0)) := by
    rw [hV]
    exact ((below1 _ _).block _ (by simp)).trans (heap_alloc_new w _)
  have hk1 : V.heap[w.heap.size + 1]? = some (.cells #[.slice none 0 0, .slice none 0 0, .int .i64 0] 26 (0, 0)) := by
    have := heap_alloc_new (w.alloc (.cells #[.slice a1 b.1.length c1, .slice a2 b.2.1.length c2, .int .i64 n] 26)) (.cells #[.slice none 0 0, .slice none 0 0, .int .i64 0] 26)
    rw [World.size_alloc] at this
    rw [hV]; exact this
  have HK0 := Lib.hid hk0
  have HK1 := Lib.hid hk1
  have HX := Lib.hid hx
  have HY := Lib.hid hy
  have HV := Lib.hid hV
  clear hx hy hV hk0 hk1 hn
  go_enter Try.func28, Try.ntmps28
  go_wp2_with fail
  rw [← HV.out]
  refine (rLevels2_any B b.1 _ V (Is.stays eL 48 HX.out hbV) (hB.mono (by omega)) h1 h2).mono ?_
  rintro e w1 ⟨x1, rfl, hb1, hs1, hi1, hm1⟩
  obtain ⟨a3, c3, rfl⟩ := hi1.len
  obtain ⟨n3, hn3⟩ : ∃ n3, hs1.length = n3 := ⟨_, rfl⟩
  rw [hn3] at hi1 ⊢
  have hz1 := hb1.size
  have g0 := (hb1.block w.heap.size (by omega)).trans HK0.out
  have g1 := (hb1.block (w.heap.size + 1) (by omega)).trans HK1.out
  obtain ⟨U, hU⟩ : ∃ U, U = w1.setCell ⟨w.heap.size, 0, none⟩ (.slice a3 n3 c3) := ⟨_, rfl⟩
  have hzU : U.heap.size = w1.heap.size := by rw [hU]; simp
  have hlU : Below w.heap.size w1 U := by rw [hU]; exact low_setCell 0 _ (Nat.le_refl _)
  have hbw1 : Below w.heap.size w w1 := nx hbV hb1
  have hbU : Below w.heap.size w U := hbw1.trans hlU
  have g0U : U.heap[w.heap.size]? = some (.cells #[.slice a3 n3 c3, .slice a2 b.2.1.length c2, .int .i64 n] 26 (0, 0)) := by rw [hU]; exact set3 g0
  have g1U : U.heap[w.heap.size + 1]? = some (.cells #[.slice none 0 0, .slice none 0 0, .int .i64 0] 26 (0, 0)) := by
    rw [hU, Below.heap_setCell w1 ⟨w.heap.size, 0, none⟩ _ (w.heap.size + 1) (by show w.heap.size + 1 ≠ w.heap.size; omega)]; exact g1
  have hkp : ∀ A : Bs, A.lo ≤ w.heap.size → ∀ ts, 26 ∉ ts → Keeps A ts w1 U := fun A hA ts ht => by rw [hU]; exact keeps_setCell 0 _ g0 ht hA
  have hlo := hB.1
  have hi1U : Is eF 48 B hs1 (.slice a3 n3 c3) U := Is.keep eF 48 hi1 (hkp B hlo _ (by decide))
  have hm1U : Mine B V.heap.size b.1 hs1 U := hm1.keep (hB.mono (by omega)) (hkp B hlo _ (by decide))
  have hbk := blk_ge hm1U
  have hyU : LL (B.but (Blk hs1)) b.2.1 (.slice a2 b.2.1.length c2) U := Is.stays eL 48 (Is.now eL 48 HY.out (fun b' hb' => by have := hbk b' hb'; omega)) hbU
  have HI1 := Lib.hid hi1U
  have HM1 := Lib.hid hm1U
  have HYU := Lib.hid hyU
  have HG0 := Lib.hid g0U
  have HG1 := Lib.hid g1U
  have HU := Lib.hid hU
  have HKp := Lib.hid hkp
  have c0 : w1.cell? ⟨w.heap.size, 0, none⟩ = some (.slice a1 b.1.length c1) := by simp [World.cell?, g0]
  have f0 : w1.frozen? ⟨w.heap.size, 0, none⟩ = false := by simp [World.frozen?, g0]
  have c1' : w1.cell? ⟨w.heap.size, 1, none⟩ = some (.slice a2 b.2.1.length c2) := by simp [World.cell?, g0]
  clear hi1U hm1U hyU g0U g1U hU hkp g0 g1 hi1 hm1
  go_wp2_with fail
  rw [← HU.out]
  refine (rLevels2_any (B.but (Blk hs1)) b.2.1 _ U HYU.out (Bs.but_le (hB.mono (by omega)) (fun b' hb' => (hbk b' hb').2)) h3 h4).mono ?_
  rintro e w2 ⟨y1, rfl, hb2, hs2, hi2, hm2⟩
  obtain ⟨a4, c4, rfl⟩ := hi2.len
  obtain ⟨n4, hn4⟩ : ∃ n4, hs2.length = n4 := ⟨_, rfl⟩
  rw [hn4] at hi2 ⊢
  have hz2 := hb2.size
  have g0 := (hb2.block w.heap.size (by omega)).trans HG0.out
  have g1 := (hb2.block (w.heap.size + 1) (by omega)).trans HG1.out
  have f1 : w2.frozen? ⟨w.heap.size, 1, none⟩ = false := by simp [World.frozen?, g0]
  have d1 : w2.cell? ⟨w.heap.size, 1, none⟩ = some (.slice a2 b.2.1.length c2) := by simp [World.cell?, g0]
  clear c0 f0 c1'
  obtain ⟨W, hW⟩ : ∃ W, W = w2.setCell ⟨w.heap.size, 1, none⟩ (.slice a4 n4 c4) := ⟨_, rfl⟩
  have hzW : W.heap.size = w2.heap.size := by rw [hW]; simp
  have hlW : Below w.heap.size w2 W := by rw [hW]; exact low_setCell 1 _ (Nat.le_refl _)
  have hbW : Below w.heap.size w W := (nx hbU hb2).trans hlW
  have g0W : W.heap[w.heap.size]? = some (.cells #[.slice a3 n3 c3, .slice a4 n4 c4, .int .i64 n] 26 (0, 0)) := by rw [hW]; exact set3 g0
  have g1W : W.heap[w.heap.size + 1]? = some (.cells #[.slice none 0 0, .slice none 0 0, .int .i64 0] 26 (0, 0)) := by
    rw [hW, Below.heap_setCell w2 ⟨w.heap.size, 1, none⟩ _ (w.heap.size + 1) (by show w.heap.size + 1 ≠ w.heap.size; omega)]; exact g1
  have hkp : ∀ A : Bs, A.lo ≤ w.heap.size → ∀ ts, 26 ∉ ts → Keeps A ts w2 W := fun A hA ts ht => by rw [hW]; exact keeps_setCell 1 _ g0 ht hA
  have r0 : row w2 w.heap.size = #[.slice a3 n3 c3, .slice a2 b.2.1.length c2, .int .i64 n] := by simp [Rw.row, g0]
  have rS : row (w2.setCell ⟨w.heap.size, 1, none⟩ (.slice a4 n4 c4)) w.heap.size = #[.slice a3 n3 c3, .slice a4 n4 c4, .int .i64 n] := by
    rw [← hW]; simp [Rw.row, g0W]
  have p1 : plain 3 w2 (w.heap.size + 1) = true := by simp [Rw.plain, g1]
  have hw2 : w.heap.size + 1 < w2.heap.size := by omega
  obtain ⟨Z, hZ⟩ : ∃ Z, Z = W.setRow (w.heap.size + 1) #[.slice a3 n3 c3, .slice a4 n4 c4, .int .i64 n] := ⟨_, rfl⟩
  have hkz : ∀ A : Bs, A.lo ≤ w.heap.size → ∀ ts, 26 ∉ ts → Keeps A ts w2 Z := fun A hA ts ht => (hkp A hA ts ht).trans (by rw [hZ]; exact keeps_setRow _ g1W ht (by omega))
  have hbZ : Below w.heap.size w Z := by rw [hZ]; exact below_setRow hbW (Nat.le_succ _) _
  have hrZ : row Z (w.heap.size + 1) = #[.slice a3 n3 c3, .slice a4 n4 c4, .int .i64 n] := by
    unfold Rw.row
    rw [hZ, setRow_heap W _ _ _ _ _ g1W]
  have hk2 : ∀ A : Bs, A.lo ≤ w.heap.size → ∀ ts, 26 ∉ ts → Keeps A ts U Z := fun A hA ts ht => (Keeps.of_below hb2).trans (hkz A hA ts ht)
  have hm1Z : Mine B w.heap.size b.1 hs1 Z := by
    have := HM1.out.keep (hB.mono (by omega)) (hk2 B hlo _ (by decide))
    exact ⟨this.len, fun i x y hx hy => ⟨(this.own i x y hx hy).1, Own.lower (this.own i x y hx hy).2 (by omega)⟩, this.apart⟩
  have hm2Z : Mine B w.heap.size b.2.1 hs2 Z := by
    have := Mine.keep (Bs.but_le (hB.mono (show w.heap.size ≤ U.heap.size by omega)) (fun b' hb' => (hbk b' hb').2)) hm2 (hkz (B.but (Blk hs1)) hlo _ (by decide))
    exact ⟨this.len, fun i x y hx hy => ⟨(this.own i x y hx hy).1, Own.lower (this.own i x y hx hy).2 (by omega)⟩, this.apart⟩
  have hbk2 := blk_ge hm2
  have hRes : MyB B w.heap.size b (.slice a3 n3 c3) (.slice a4 n4 c4) hs1 hs2 Z :=
    ⟨Is.keep eF 48 HI1.out (hk2 B hlo _ (by decide)), hm1Z, Is.keep eF 48 (Is.up eF 48 (Bs.sub_but _ _) hi2) (hkz B hlo _ (by decide)), hm2Z,
     Is.keep eL 48 (Is.now eL 48 ((mine_lvs (hB.mono (by omega)) HM1.out).ll HI1.out) (fun b' hb' => (hbk2 b' hb').1)) (hk2 (B.but _) hlo _ (by decide)),
     Is.keep eL 48 ((mine_lvs (Bs.but_le (hB.mono (by omega)) (fun b' hb' => (hbk b' hb').2)) hm2).ll hi2) (hkz (B.but _) hlo _ (by decide))⟩
  have HRes := Lib.hid (show _ ∧ _ from ⟨hbZ, hRes⟩)
  have HW := Lib.hid hW
  have HZ := Lib.hid hZ
  clear hbZ hRes hm1Z hm2Z hk2 hkz hkp g0W g1W g0 g1 hW hZ hi2 hm2 hbW hlW hbU hlU hbw1 hb1 hb2 hbV
  go_wp2
  rw [← HW.out, ← HZ.out]
  refine bodyPost_ret (v := .agg #[.slice a3 n3 c3, .slice a4 n4 c4, .int .i64 n]) (ret_B1 Try.results28 _ _ rfl ?c1) rfl ⟨_, _, _, _, rfl, HRes.out⟩
  case c1 => simp [go_sem, hrZ]
end Go.Proofs.Ytfnmmknbjfmagaa.Bk
/- The document's own: trades. -/
namespace Go.Proofs.Ytfnmmknbjfmagaa.Bk
open Go.RowKit
set_option linter.unusedVariables false
open Go.Proofs.Ytfnmmknbjfmagaa.Rw
open Go.Proofs.Ytfnmmknbjfmagaa.Da
open Go.Proofs.Ytfnmmknbjfmagaa.Le
def Cat (gs : List Fl) (r : Option (List Fl × Int)) : Option (List Fl × Int) := r.map fun x => (gs ++ x.1, x.2)
theorem cat_nil (r : Option (List Fl × Int)) : Cat [] r = r := by cases r <;> rfl
theorem cat_stop {ow s p q : Int} {o : Od} {r : List Od} {gs : List Fl} (h : q = 0 ∨ meets s p (opr o) = false) : Cat gs (tr ow s p (o :: r) q) = some (gs, q) := by
  rw [tr, if_pos h]; simp [Cat]
theorem cat_self {ow s p q : Int} {o : Od} {r : List Od} {gs : List Fl} (h : ¬ (q = 0 ∨ meets s p (opr o) = false)) (k : oow o = ow) : Cat gs (tr ow s p (o :: r) q) = none := by
  rw [tr, if_neg h, if_pos k]; rfl
theorem cat_go {ow s p q : Int} {o : Od} {r : List Od} {gs : List Fl} (h : ¬ (q = 0 ∨ meets s p (opr o) = false)) (k : ¬ oow o = ow) : Cat gs (tr ow s p (o :: r) q) = Cat (gs ++ [mkF o (min q (olf o))]) (tr ow s p r (q - min q (olf o))) := by
  rw [tr, if_neg h, if_neg k]
  cases tr ow s p r (q - min q (olf o)) with
  | none => rfl
  | some x => simp [Cat]
theorem trade_app {B : Bs} {n cg : Nat} {ag : Option Addr} {gs : List Fl} {wr : World} (o1 o2 o3 o4 o5 n0 : Int) (d : Bool) (hd : d = decide (n0 = o5)) (hBn : B.le n) (hsz : n ≤ wr.heap.size) (hown : OwnFl B n gs (.slice ag gs.length cg) wr) (hgl : gs.length ≤ 1000000) :
    ∃ v8 w8, appRun Try.prog 36 36 (.slice ag gs.length cg) (.slice (some ⟨wr.heap.size + 1, 0, none⟩) 1 1) ((wr.alloc (.cells #[.int .i64 o1, .int .i64 o2, .int .i64 o3, .int .i64 o4, .int .i64 o5] 31)).alloc (.cells #[.int .i64 o1, .int .i64 o2, .int .i64 o4, .int .i64 n0, .bool d] 53)) = .ok v8 w8 ∧ OwnFl B n (gs ++ [mkF (o1, o2, o3, o4, o5) n0]) v8 w8 ∧ Below n wr w8 := by
  subst hd
  obtain ⟨V, hV⟩ : ∃ V, V = wr.alloc (.cells #[.int .i64 o1, .int .i64 o2, .int .i64 o3, .int .i64 o4, .int .i64 o5] 31) := ⟨_, rfl⟩
  have hbV : Below wr.heap.size wr V := hV ▸ below1 wr _
  have hzV : V.heap.size = wr.heap.size + 1 := by rw [hV]; simp
  obtain ⟨U, hU⟩ : ∃ U, U = V.alloc (.cells #[.int .i64 o1, .int .i64 o2, .int .i64 o4, .int .i64 n0, .bool (decide (n0 = o5))] 53) := ⟨_, rfl⟩
  have hbU : Below V.heap.size V U := hU ▸ below1 V _
  have hzU : U.heap.size = V.heap.size + 1 := by rw [hU]; simp
  have hbUV := nx hbV hbU
  have hsrc : Is eFl 53 B [mkF (o1, o2, o3, o4, o5) n0] (.slice (some ⟨V.heap.size, 0, none⟩) 1 1) U := by
    rw [hU]; exact Is.one (e := eFl) (T := 53) (B := B) (x := mkF (o1, o2, o3, o4, o5) n0) (cs := [.int .i64 o1, .int .i64 o2, .int .i64 o4, .int .i64 n0, .bool (decide (n0 = o5))]) (w := V) (hBn.mono (by omega)) rfl
  obtain ⟨v8, w8, hrun, hown8, _, hbl, _⟩ := Own.append elemFl 36 typesFl hBn (by omega) (Own.stays hown hbUV) hsrc (by simp only [List.length_singleton]; omega) (by omega)
  rw [hzV, hU, hV] at hrun
  exact ⟨v8, w8, hrun, hown8, (hbUV.mono (by omega)).trans (hbl _ U (Nat.le_refl _) (Below.refl _ _))⟩
def TrP (B : Bs) (r : Option (List Fl × Int)) (w : World) (e : Ending) (w' : World) : Prop :=
  ∃ fv lf ok, e = .returned (.tuple #[fv, .int .i64 lf, .bool ok]) ∧ Below w.heap.size w w' ∧ ok = r.isSome ∧ ∀ x, r = some x → lf = x.2 ∧ FL B x.1 fv w'
set_option maxHeartbeats 4000000 in
theorem rTrades_any (B : Bs) (l : List Lv) (v : Value) (ow s p q : Int) (w : World) (h : LL B l v w) (hB : B.le w.heap.size) (hm : l.length ≤ 1000000) (hf : (flat l).length ≤ 1000000) (hq : 0 ≤ q ∧ q ≤ 1048576) (hl : ∀ o ∈ flat l, 0 ≤ olf o ∧ olf o ≤ 1048576) :
    Calls Try.prog 37 #[v, .int .i64 ow, .int .i64 s, .int .i64 p, .int .i64 q] w (TrP B (tr ow s p (flat l) q) w) := by
  obtain ⟨a1, c1, rfl⟩ := h.len
  have HL := Lib.hid h
  obtain ⟨os, hos⟩ : ∃ os, flat l = os := ⟨_, rfl⟩
  have HOl := Lib.hid hl
  rw [hos] at HOl ⊢
  have HOs := Lib.hid hos
  have hm2 : os.length ≤ 1000000 := by rw [← hos]; exact hf
  clear h hl hos
  go_enter Try.func37, Try.ntmps37
  go_wp2_with fail
  refine (rOrders_any B l _ w HL.out hB hm hf).mono ?_
  rintro e w1 ⟨v1, rfl, hb1, hol⟩
  rw [HOs.out] at hol
  obtain ⟨a2, c2, rfl, hel⟩ := id hol
  obtain ⟨m, hmm⟩ : ∃ m, m = os.length := ⟨_, rfl⟩
  rw [← hmm] at hm2 ⊢
  have HM := Lib.hid hmm
  have HOL := Lib.hid hol
  have HE := Lib.hid hel
  have HT0 := Lib.hid (cat_nil (tr ow s p os q)).symm
  obtain ⟨n, hn⟩ : ∃ n, n = w1.heap.size := ⟨_, rfl⟩
  have hBn : B.le n := by rw [hn]; exact hB.mono hb1.size
  have HBn := Lib.hid hBn
  have HN := Lib.hid hn
  clear hmm hol hel hn hBn
  go_wp2
  go_loopw [4, 13, 20] (fun qv t i wr => ∃ (j : Nat) (gs : List Fl) (qj : Int), j ≤ m ∧ i = .int .i64 j ∧ qv = .int .i64 qj ∧ Below n w1 wr ∧ (0 ≤ qj ∧ qj ≤ 1048576) ∧ OwnFl B n gs t wr ∧ gs.length ≤ j ∧ tr ow s p os q = Cat gs (tr ow s p (os.drop j) qj)) (fun _ _ i _ => m - (intOf i).toNat)
  case atStart => exact ⟨0, [], q, Nat.zero_le _, rfl, rfl, Below.refl _ _, hq, Own.nil _ _ _, Nat.le_refl _, HT0.out⟩
  case round =>
    obtain ⟨j, gs, qj, hj, rfl, rfl, hb, hqj, hown, hgl, htr⟩ := hrel
    have HOw := Lib.hid hown
    have HTr := Lib.hid htr
    have HBw := Lib.hid hb
    clear hown htr hb
    have hszw : n ≤ wr.heap.size := by have := HBw.out.size; have := HN.out; omega
    obtain ⟨ag, cg, hgis⟩ := (HOw.out.is (by decide) HBn.out).len
    subst hgis
    by_cases hjm : j < m
    · have hjm2 : (j : Int) < m := by omega
      have hjo : j < os.length := by rw [← HM.out]; exact hjm
      rcases HE.out with ⟨e, _⟩ | ⟨b2, off2, rfl, hat2⟩
      · rw [e] at hjo; cases hjo
      have hbr : Below w1.heap.size w1 wr := by rw [← HN.out]; exact HBw.out
      have hat3 := Lies.keep eO 31 hat2 (Keeps.of_below hbr)
      have hc5 := at5 hat3 j hjo
      have hbb := hat3.1
      have hod := HOl.out _ (List.getElem_mem hjo)
      have hdr : os.drop j = os[j] :: os.drop (j + 1) := List.drop_eq_getElem_cons hjo
      obtain ⟨⟨o1, o2, o3, o4, o5⟩, ho⟩ : ∃ o, os[j] = o := ⟨_, rfl⟩
      rw [ho] at hc5 hod hdr
      simp only [olf] at hc5 hod
      obtain ⟨s0, s1, s2, s3, s4⟩ := hc5
      have htr := HTr.out
      rw [hdr] at htr
      have HTd := Lib.hid htr
      clear hat2 hat3 ho hdr htr
      by_cases hq0 : qj = 0
      · have hd : (qj == 0) = true := by simpa using hq0
        have HR := Lib.hid (HTd.out.trans (cat_stop (.inl hq0)))
        clear hq0
        go_wp2
        go_ret3
        exact ⟨_, _, true, rfl, nx (nx hb1 hbr) (below1 _ _), by rw [HR.out]; rfl, fun x hx => by rw [HR.out] at hx; obtain rfl := Option.some.inj hx; exact ⟨rfl, Is.stays eFl 53 (HOw.out.is (by decide) HBn.out) (below1 _ _)⟩⟩
      · have hd : (qj == 0) = false := by simpa using hq0
        cases hmt : meets s p o4
        · have HMt := Lib.hid hmt
          have HR := Lib.hid (HTd.out.trans (cat_stop (.inr hmt)))
          clear hmt hq0
          go_wp2_with fail
          refine (rMeets_is HMt _).mono ?_
          rintro e w2 ⟨rfl, rfl⟩
          go_wp2
          go_ret3
          exact ⟨_, _, true, rfl, nx (nx hb1 hbr) (below1 _ _), by rw [HR.out]; rfl, fun x hx => by rw [HR.out] at hx; obtain rfl := Option.some.inj hx; exact ⟨rfl, Is.stays eFl 53 (HOw.out.is (by decide) HBn.out) (below1 _ _)⟩⟩
        · have HMt := Lib.hid hmt
          have hnn : ¬ (qj = 0 ∨ meets s p (opr (o1, o2, o3, o4, o5)) = false) := by
            rintro (h | h)
            · exact hq0 h
            · rw [show opr (o1, o2, o3, o4, o5) = o4 from rfl, hmt] at h; cases h
          by_cases how : o2 = ow
          · have hd2 : (o2 == ow) = true := by simpa using how
            have HR := Lib.hid (HTd.out.trans (cat_self hnn how))
            clear hmt hq0 how hnn
            go_wp2_with fail
            refine (rMeets_is HMt _).mono ?_
            rintro e w2 ⟨rfl, rfl⟩
            go_wp2
            go_ret3
            exact ⟨_, _, false, rfl, nx (nx hb1 hbr) (below1 _ _), by rw [HR.out]; rfl, fun x hx => by rw [HR.out] at hx; cases hx⟩
          · have hd2 : (o2 == ow) = false := by simpa using how
            have HR := Lib.hid (HTd.out.trans (cat_go hnn how))
            clear hmt hq0 how hnn
            by_cases hmn : o5 < qj
            · have hmin : min qj (olf (o1, o2, o3, o4, o5)) = o5 := by simp only [olf]; omega
              rw [hmin] at HR
              obtain ⟨v8, w8, hrun, hown8, hb8⟩ := trade_app o1 o2 o3 o4 o5 o5 true (by simp) HBn.out hszw HOw.out (by omega)
              have HRel := Lib.hid (show Below n w1 w8 ∧ OwnFl B n (gs ++ [mkF (o1, o2, o3, o4, o5) o5]) v8 w8 from ⟨HBw.out.trans hb8, hown8⟩)
              obtain ⟨a8, n8, c8, rfl⟩ : ∃ a n c, v8 = .slice a n c := by obtain ⟨a, c, h⟩ := (hown8.is (by decide) HBn.out).len; exact ⟨a, _, c, h⟩
              clear hmin hown8 hb8
              go_wp2_with fail
              refine (rMeets_is HMt _).mono ?_
              rintro e w2 ⟨rfl, rfl⟩
              go_wp2
              go_roundw
              case rel => exact ⟨j + 1, gs ++ [mkF (o1, o2, o3, o4, o5) o5], qj - o5, by omega, by go_num, by go_num, HRel.out.1, by omega, HRel.out.2, by simp only [List.length_append, List.length_singleton]; omega, HR.out⟩
              case measure => simp [intOf]; omega
            · have hmin : min qj (olf (o1, o2, o3, o4, o5)) = qj := by simp only [olf]; omega
              rw [hmin] at HR
              obtain ⟨v8, w8, hrun, hown8, hb8⟩ := trade_app o1 o2 o3 o4 o5 qj (qj == o5) rfl HBn.out hszw HOw.out (by omega)
              have HRel := Lib.hid (show Below n w1 w8 ∧ OwnFl B n (gs ++ [mkF (o1, o2, o3, o4, o5) qj]) v8 w8 from ⟨HBw.out.trans hb8, hown8⟩)
              obtain ⟨a8, n8, c8, rfl⟩ : ∃ a n c, v8 = .slice a n c := by obtain ⟨a, c, h⟩ := (hown8.is (by decide) HBn.out).len; exact ⟨a, _, c, h⟩
              clear hmin hown8 hb8
              go_wp2_with fail
              refine (rMeets_is HMt _).mono ?_
              rintro e w2 ⟨rfl, rfl⟩
              go_wp2
              go_roundw
              case rel => exact ⟨j + 1, gs ++ [mkF (o1, o2, o3, o4, o5) qj], qj - qj, by omega, by go_num, by go_num, HRel.out.1, by omega, HRel.out.2, by simp only [List.length_append, List.length_singleton]; omega, HR.out⟩
              case measure => simp [intOf]; omega
    · obtain rfl : j = m := by omega
      have HR : Hid (tr ow s p os q = some (gs, qj)) := Lib.hid (by rw [HTr.out, show os.drop j = [] from List.drop_eq_nil_of_le (by rw [HM.out]; exact Nat.le_refl _)]; simp [tr, Cat])
      have hbr : Below w1.heap.size w1 wr := by rw [← HN.out]; exact HBw.out
      go_wp2
      go_ret3
      exact ⟨_, _, true, rfl, nx hb1 hbr, by rw [HR.out]; rfl, fun x hx => by rw [HR.out] at hx; obtain rfl := Option.some.inj hx; exact ⟨rfl, HOw.out.is (by decide) HBn.out⟩⟩
end Go.Proofs.Ytfnmmknbjfmagaa.Bk
