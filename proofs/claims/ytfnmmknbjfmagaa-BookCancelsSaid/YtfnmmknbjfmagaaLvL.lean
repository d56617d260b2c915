/- Package level as it landed: slices.Clone of orders, cloned. -/
import Derived.Test.YtfnmmknbjfmagaaLvD
import Derived.Test.YtfnmmknbjfmagaaLeFr
import Derived.Test.YtfnmmknbjfmagaaRo
namespace Go.Proofs.Ytfnmmknbjfmagaa.Le
open Go.RowKit
set_option linter.unusedVariables false
open Go.Proofs.Ytfnmmknbjfmagaa.Rw
open Go.Proofs.Ytfnmmknbjfmagaa.Da
open Go.Proofs.Ytfnmmknbjfmagaa.Ro
def fO : Flat Od := ⟨5, cellsO, fun _ => rfl, fun o u hu => by simp [cellsO] at hu; rcases hu with rfl | rfl | rfl | rfl | rfl <;> rfl⟩
def fF : Flat Hw := ⟨2, fun h => [.int .i64 h.1, hv h], fun _ => rfl, fun h u hu => by simp [hv] at hu; rcases hu with rfl | rfl <;> rfl⟩
theorem fO_enc : fO.enc = eO := rfl
theorem fF_enc : fF.enc = eF := rfl
/-- A level's row, in a list of the call's own. -/
abbrev RowF (g cap : Nat) (hs : List Hw) (w : World) : Prop := Row fF 48 g cap hs w
abbrev RowO (g cap : Nat) (os : List Od) (w : World) : Prop := Row fO 31 g cap os w
theorem make_levels (m : Nat) (hm : m ≤ 1000000) (w : World) : (Instr.makeSlice 24 (.int .i64 m) (.int .i64 m)).run Try.prog w = .ok (.slice (some ⟨w.heap.size, 0, none⟩) m m) (w.alloc (.cells (madeCells #[.int .i64 0, .slice none 0 0] (m * 2)) 48)) := by
  obtain ⟨i, h1, h2, h3, h4⟩ := info_parts infoL
  have := run_make (P := Try.prog) w 24 48 i _ Try.underlying24 h1 h2 .i64 .i64 m m (by omega) (Int.le_refl _) (by rw [h4]; omega) (by omega)
  rw [h3] at this
  simpa [Value.cells] using this
theorem row_levels (m : Nat) (w : World) : RowF w.heap.size m (List.replicate m (0, none, 0, 0)) (w.alloc (.cells (madeCells #[.int .i64 0, .slice none 0 0] (m * 2)) 48)) :=
  Row.made (e := fF) (z := #[.int .i64 0, .slice none 0 0]) (0, none, 0, 0) rfl (by decide)
theorem eqlN (a : Option Addr) (n c : Nat) (w : World) : (binOp .eql 46 (.slice a n c) (.slice none 0 0)).run Try.prog w = .ok (.bool a.isNone) w := Lib.run_eql_slice_nil w _ _ a n c 0 0 Try.underlying46
theorem guardN (p q : Operand) (a : Option Addr) (n c : Nat) (w : World) : (eqGuard .eql 46 p q (.slice a n c) (.slice none 0 0)).run Try.prog w = .ok () w := rfl
attribute [go_sem ↓] eqlN guardN
set_option maxHeartbeats 1000000 in
theorem cloneO_any (B : Bs) (os : List Od) (x : Value) (w : World) (h : OL B os x w) (hB : B.le w.heap.size) (hm : os.length ≤ 1000000) :
    Calls Try.prog 75 #[x] w (Post (fun v u => OwnO B w.heap.size os v u) w) := by
  obtain ⟨a2, c2, rfl, hel⟩ := id h
  cases a2 with
  | none =>
    rcases hel with ⟨rfl, hc⟩ | ⟨b, off, e, _⟩
    · obtain rfl := hc rfl
      clear h
      go_enter Try.func75, Try.ntmps75
      go_wp2
      go_ret
      exact ⟨_, rfl, Below.refl _ _, Own.nil _ _ _⟩
    · cases e
  | some ad =>
    have hb1 := below1 w (.cells #[] 31)
    obtain ⟨v2, w2, hrun, hown2, _, hbl, _⟩ := Own.append elemO 46 typesO hB (by simp) (Own.made B w w.heap.size (Nat.le_refl _)) (Is.stays eO 31 h hb1) (by simp; omega) (by omega)
    have hb2 := hbl _ _ (Nat.le_refl _) hb1
    have HO := Lib.hid hown2
    obtain ⟨m, hmm⟩ : ∃ m, m = os.length := ⟨_, rfl⟩
    rw [← hmm] at hrun ⊢
    clear hown2 hbl h hel hmm
    go_enter Try.func75, Try.ntmps75
    go_wp2
    go_ret
    exact ⟨_, rfl, hb2, HO.out⟩
def ClF (B : Bs) (Bo : Nat) (l : List Lv) (v : Value) (u : World) : Prop := ∃ g hs, v = .slice (some ⟨g, 0, none⟩) l.length l.length ∧ Bo ≤ g ∧ hs.length = l.length ∧ RowF g l.length hs u ∧ Mine B Bo l hs u
def RelC (B : Bs) (Bo n : Nat) (l : List Lv) (k : Nat) (u : World) : Prop := ∃ hs, RowF Bo n (hs ++ List.replicate (n - k) (0, none, 0, 0)) u ∧ Mine B Bo (l.take k) hs u
theorem RelC.stays {B : Bs} {Bo n : Nat} {l : List Lv} {k : Nat} {u u' : World} (h : RelC B Bo n l k u) (hb : Below u.heap.size u u') : RelC B Bo n l k u' := by
  obtain ⟨hs, h1, h2⟩ := h
  exact ⟨hs, h1.stays hb, h2.stays hb⟩
theorem rowF_at {g cap : Nat} {hs : List Hw} {u : World} (h : RowF g cap hs u) {i : Nat} {y : Hw} (hy : hs[i]? = some y) : u.cell? ⟨g, i * 2, none⟩ = some (.int .i64 y.1) ∧ u.cell? ⟨g, i * 2 + 1, none⟩ = some (hv y) ∧ u.frozen? ⟨g, i * 2, none⟩ = false ∧ u.frozen? ⟨g, i * 2 + 1, none⟩ = false :=
  ⟨h.cell hy (j := 0) rfl, h.cell hy (j := 1) rfl, h.frozen _, h.frozen _⟩
theorem relC_at {B : Bs} {Bo n : Nat} {l : List Lv} {k : Nat} (hn : n = l.length) (hk : k < l.length) {hs : List Hw} {u : World} (hV : Mine B Bo (l.take k) hs u) (hr : RowF Bo n (hs ++ List.replicate (n - k) (0, none, 0, 0)) u) :
    u.cell? ⟨Bo, k * 2, none⟩ = some (.int .i64 0) ∧ u.cell? ⟨Bo, k * 2 + 1, none⟩ = some (.slice none 0 0) ∧ u.frozen? ⟨Bo, k * 2, none⟩ = false ∧ u.frozen? ⟨Bo, k * 2 + 1, none⟩ = false := by
  have hl : hs.length = k := by rw [hV.len, List.length_take]; omega
  have hx : (hs ++ List.replicate (n - k) ((0, none, 0, 0) : Hw))[k]? = some (0, none, 0, 0) := by
    rw [List.getElem?_append_right (by omega), hl, Nat.sub_self, List.getElem?_replicate, if_pos (by omega)]
  exact rowF_at hr hx
theorem relC_next {B : Bs} {Bo n : Nat} {l : List Lv} {k : Nat} (hB : B.le Bo) (hn : n = l.length) (hk : k < l.length) {hs : List Hw} {V u : World} (hr : RowF Bo n (hs ++ List.replicate (n - k) (0, none, 0, 0)) u) (hV : Mine B Bo (l.take k) hs V) (hVu : Below V.heap.size V u) (hBo : Bo ≤ V.heap.size)
    {p : Int} {os : List Od} (hlk : l[k] = (p, os)) {a : Option Addr} {m c : Nat} (ho : OwnO B V.heap.size os (.slice a m c) u) :
    RelC B Bo n l (k + 1) ((u.setCell ⟨Bo, k * 2, none⟩ (.int .i64 p)).setCell ⟨Bo, k * 2 + 1, none⟩ (.slice a m c)) ∧ u.grownBy ((u.setCell ⟨Bo, k * 2, none⟩ (.int .i64 p)).setCell ⟨Bo, k * 2 + 1, none⟩ (.slice a m c)) (some Bo) := by
  have hl : hs.length = k := by rw [hV.len, List.length_take]; omega
  have hx : (hs ++ List.replicate (n - k) ((0, none, 0, 0) : Hw))[k]? = some (0, none, 0, 0) := by
    rw [List.getElem?_append_right (by omega), hl, Nat.sub_self, List.getElem?_replicate, if_pos (by omega)]
  have h1 := hr.setCell (j := 0) (y := (p, none, 0, 0)) (u := .int .i64 p) hx (by decide) rfl
  have hx2 : ((hs ++ List.replicate (n - k) ((0, none, 0, 0) : Hw)).set k (p, none, 0, 0))[k]? = some (p, none, 0, 0) := by
    rw [List.getElem?_set_self (by rw [List.length_append, List.length_replicate]; omega)]
  have h2 := h1.setCell (j := 1) (y := (p, a, m, c)) (u := .slice a m c) hx2 (by decide) rfl
  rw [List.set_set] at h2
  have e1 : (hs ++ List.replicate (n - k) ((0, none, 0, 0) : Hw)).set k (p, a, m, c) = (hs ++ [(p, a, m, c)]) ++ List.replicate (n - (k + 1)) (0, none, 0, 0) := by
    rw [List.set_append_right _ _ (by omega), hl, Nat.sub_self]
    rw [show n - k = (n - (k + 1)) + 1 by omega, List.replicate_succ, List.set_cons_zero, List.append_assoc, List.singleton_append]
  rw [e1] at h2
  have hg := grown_trans (setCell_grown u Bo (k * 2) (.int .i64 p)) (setCell_grown _ Bo (k * 2 + 1) (.slice a m c))
  have hkp : Keeps B [31] u ((u.setCell ⟨Bo, k * 2, none⟩ (.int .i64 p)).setCell ⟨Bo, k * 2 + 1, none⟩ (.slice a m c)) := hr.keeps hB.1 (by decide) hg
  refine ⟨⟨hs ++ [(p, a, m, c)], h2, ?_⟩, hg⟩
  rw [take_all hk, hlk]
  exact Mine.snoc ((hV.stays hVu).keep hB hkp) hV (Nat.le_refl _) hBo rfl (Own.keep (hB.mono hBo) ho hkp)
set_option maxHeartbeats 2000000 in
theorem cloned_any (B : Bs) (l : List Lv) (v : Value) (w : World) (h : LL B l v w) (hB : B.le w.heap.size) (hm : l.length ≤ 1000000) (hf : (flat l).length ≤ 1000000) :
    Calls Try.prog 53 #[v] w (Post (ClF B w.heap.size l) w) := by
  obtain ⟨a1, c1, rfl, h1⟩ := h
  have HA := Lib.hid h1
  have HFl := Lib.hid hf
  obtain ⟨n, hn⟩ : ∃ n, n = l.length := ⟨_, rfl⟩
  rw [← hn] at hm ⊢
  have HN := Lib.hid hn
  have hmk' := make_levels n hm
  clear h1 hn hf
  go_enter Try.func53, Try.ntmps53
  go_wp2
  clear hmk'
  obtain ⟨W, hW⟩ : ∃ W, W = w.alloc (.cells (madeCells #[.int .i64 0, .slice none 0 0] (n * 2)) 48) := ⟨_, rfl⟩
  have hbW : Below w.heap.size w W := hW ▸ below1 w _
  have hI : RowF w.heap.size n (List.replicate n (0, none, 0, 0)) W := hW ▸ row_levels n w
  rw [← hW]
  clear hW
  have HI := Lib.hid hI
  clear hI
  go_loopw [4, 11] (fun _ i wr => ∃ k : Nat, k ≤ n ∧ i = .int .i64 k ∧ Below w.heap.size w wr ∧ RelC B w.heap.size n l k wr) (fun _ i _ => n - (intOf i).toNat)
  case atStart => exact ⟨0, Nat.zero_le _, rfl, hbW, [], HI.out, Mine.nil _ _ _⟩
  case round =>
    obtain ⟨k, hk, rfl, hb, hs, hrow, hmine⟩ := hrel
    have HR := Lib.hid hrow
    have HM := Lib.hid hmine
    clear hrow hmine
    by_cases hlt : k < n
    · have hlt2 : (k : Int) < n := by omega
      have hkl : k < l.length := by rw [← HN.out]; exact hlt
      rcases HA.out with ⟨e, _⟩ | ⟨b, off, rfl, hat⟩
      · rw [e] at hkl; cases hkl
      have hat2 := Lies.keep eL 48 hat (Keeps.of_below hb)
      have hbb := hat2.1
      obtain ⟨x, q0, q1, hx⟩ := atL hat2 k hkl
      have hle := flat_take_le l (k + 1)
      rw [flat_take_snoc hkl, List.length_append] at hle
      obtain ⟨⟨pr, os⟩, hlk⟩ : ∃ y, l[k]'hkl = y := ⟨_, rfl⟩
      rw [hlk] at q0 hx hle
      simp only at q0 hx hle
      have hosl : os.length ≤ 1000000 := by have := HFl.out; omega
      have HX0 := Lib.hid hx
      obtain ⟨a2, c2, rfl⟩ := hx.len
      have hgz := HR.out.lt
      obtain ⟨V, hV⟩ : ∃ V, V = wr.alloc (.cells #[.int .i64 pr, .slice a2 os.length c2] 48) := ⟨_, rfl⟩
      have hbV : Below wr.heap.size wr V := hV ▸ below1 wr _
      have hzV : wr.heap.size < V.heap.size := by rw [hV]; simp
      have s0 : V.cell? ⟨wr.heap.size, 0, none⟩ = some (.int .i64 pr) := by rw [hV]; simp [go_sem]
      have s1 : V.cell? ⟨wr.heap.size, 1, none⟩ = some (.slice a2 os.length c2) := by rw [hV]; simp [go_sem]
      have hbw := nx hb hbV
      have hne : some wr.heap.size ≠ some w.heap.size := fun e => by injection e with e; omega
      have hF : ∀ u, V.grownBy u (some w.heap.size) → u.cell? ⟨wr.heap.size, 0, none⟩ = some (.int .i64 pr) ∧ u.cell? ⟨wr.heap.size, 1, none⟩ = some (.slice a2 os.length c2) := fun u hu =>
        ⟨by rw [grown_cell hu hzV hne]; exact s0, by rw [grown_cell hu hzV hne]; exact s1⟩
      have HX := Lib.hid (show ∀ u, Below V.heap.size V u → OL B os (.slice a2 os.length c2) u ∧ B.le u.heap.size from fun u hu => ⟨Is.stays eO 31 HX0.out (nx hbV hu), hB.mono (nx hbw hu).size⟩)
      have HRV := Lib.hid (HR.out.stays hbV)
      have HMV := Lib.hid (HM.out.stays hbV)
      have HB := Lib.hid hB
      have HLk := Lib.hid hlk
      have HV := Lib.hid hV
      clear hV hle s0 s1 hx hlk
      go_wp2
      rw [← HV.out]
      refine Rh.region (fun u => V.grownBy u (some w.heap.size)) (fun u => Below V.heap.size V u) (grown_stays V _) (fun _ _ h k => nx h k) (grown_drew V _) ((Below.refl _ _).drew) [0, 1, 2, 3, 4, 5, 6, 7, 8, 9] (by kernel_rfl) (by kernel_rfl) (by kernel_rfl) (fun _ _ d _ _ h => by cases d <;> exact h) ?_
      repeat (first | (refine Rh.Steps.skip (by rfl) (by kernel_rfl) (by rfl) ?_; simp only [Act.put, List.setIfInBounds_toArray, List.set_cons_zero, List.set_cons_succ]) | (refine Rh.Steps.pure (v := ?_) (by rfl) (by kernel_rfl) (by rfl) ?_ ?_; rotate_left; (intro w_ hS_; have hk_ := hF w_ hS_; go_simp <;> with_reducible rfl); simp only [Act.put, List.setIfInBounds_toArray, List.set_cons_zero, List.set_cons_succ]))
      refine Rh.Steps.forced (i := 6) (by kernel_rfl) ?_
      refine Rh.One.call (fun v u => OwnO B V.heap.size os v u) (fun v _ _ h k => h.stays k) (f := ?_) (args := ?_) (by rfl) (by rfl) ?_ ?_ ?_
      rotate_left 2
      · intro w_ hS_ hG_; go_simp <;> first | with_reducible rfl | (constructor <;> with_reducible rfl)
      · intro w_ hS_ hG_; (go_at_call 75; refine (cloneO_any B os _ w_ (HX.out w_ hG_).1 (HX.out w_ hG_).2 hosl).mono ?_; rintro e w' ⟨v, rfl, hb1, ho⟩; exact ⟨v, rfl, hb1, Own.lower ho hG_.size⟩)
      intro v1 u_ hv1
      simp only [Act.put, List.setIfInBounds_toArray, List.set_cons_zero, List.set_cons_succ]
      obtain ⟨a3, n3, c3, rfl⟩ : ∃ a n c, v1 = .slice a n c := by obtain ⟨a, c, h⟩ := (hv1.is (by decide) (HB.out.mono hbw.size)).len; exact ⟨a, _, c, h⟩
      repeat (first | (refine Rh.Steps.skip (by rfl) (by kernel_rfl) (by rfl) ?_; simp only [Act.put, List.setIfInBounds_toArray, List.set_cons_zero, List.set_cons_succ]) | (refine Rh.Steps.pure (v := ?_) (by rfl) (by kernel_rfl) (by rfl) ?_ ?_; rotate_left; (intro w_ hS_; have hk_ := hF w_ hS_; go_simp <;> with_reducible rfl); simp only [Act.put, List.setIfInBounds_toArray, List.set_cons_zero, List.set_cons_succ]))
      refine Rh.Steps.forced (i := 9) (by kernel_rfl) ?_
      refine Rh.One.store (fun u => Below w.heap.size w u ∧ RelC B w.heap.size n l (k + 1) u) (fun _ _ h k => ⟨nx h.1 k, h.2.stays k⟩) (by rfl) (by rfl) ?_ ?_
      · intro w_ hS_ hG_
        obtain ⟨c0, c1, f0, f1⟩ := relC_at HN.out hkl (HMV.out.stays hG_.1) (HRV.out.stays hG_.1)
        obtain ⟨hrel, hgr⟩ := relC_next HB.out HN.out hkl (HRV.out.stays hG_.1) HMV.out hG_.1 hbw.size HLk.out hG_.2
        refine ⟨_, ?_, grown_trans hS_ hgr, (nx hbw hG_.1).grown hgr (nx hbw hG_.1).size (fun k hk => by injection hk with e; omega), hrel⟩
        go_simp
      refine Rh.Steps.nil (by kernel_rfl) ?_
      intro w4 _ hG4
      have HG := Lib.hid hG4
      clear hG4
      go_wp2
      go_roundw
      case rel => exact ⟨k + 1, by omega, by go_num, HG.out.1, HG.out.2⟩
      case measure => simp [intOf]; omega
    · obtain rfl : k = n := by omega
      have e1 : l.take k = l := by rw [HN.out, List.take_length]
      have hm9 := HM.out
      have hr9 := HR.out
      rw [e1] at hm9
      rw [Nat.sub_self, List.replicate_zero, List.append_nil] at hr9
      have HM9 := Lib.hid hm9
      have HR9 := Lib.hid hr9
      clear hm9 hr9 e1
      go_wp2
      go_ret
      exact ⟨_, rfl, hb, w.heap.size, hs, by rw [← HN.out]; rfl, Nat.le_refl _, HM9.out.len, by rw [← HN.out]; exact HR9.out, HM9.out⟩
end Go.Proofs.Ytfnmmknbjfmagaa.Le
/- Package level as it landed: slices.Insert of a level. -/
namespace Go.Proofs.Ytfnmmknbjfmagaa.Le
open Go.RowKit
set_option linter.unusedVariables false
open Go.Proofs.Ytfnmmknbjfmagaa.Rw
open Go.Proofs.Ytfnmmknbjfmagaa.Da
open Go.Proofs.Ytfnmmknbjfmagaa.Ro
theorem zero2 (w : World) : (zeroValue 48).run Try.prog w = .ok (.agg #[.int .i64 0, .slice none 0 0]) w := by kernel_rfl
def InsF (n i : Nat) (hs : List Hw) (y : Hw) (w : World) (e : Ending) (w' : World) : Prop := ∃ g2 c2, e = .returned (.slice (some ⟨g2, 0, none⟩) (n + 1) c2) ∧ RowF g2 c2 (hs.take i ++ [y] ++ hs.drop i) w' ∧ w.heap.size ≤ g2 ∧ Below w.heap.size w w' ∧ Hid (c2 ≤ maxLen)
set_option maxRecDepth 100000 in
set_option maxHeartbeats 2000000 in
theorem insert_any (g n i b1 : Nat) (hs : List Hw) (y : Hw) (w : World) (hrow : RowF g n hs w) (hl : n = hs.length) (hi : i ≤ n) (hm : n ≤ 1000000) (hv : RowF b1 1 [y] w) :
    Calls Try.prog 64 #[.slice (some ⟨g, 0, none⟩) n n, .int .i64 i, .slice (some ⟨b1, 0, none⟩) 1 1] w (InsF n i hs y w) := by
  have HR := Lib.hid hrow
  have HV := Lib.hid hv
  have HL := Lib.hid hl
  by_cases hin : i = n
  · subst hin
    obtain ⟨c', w', hrun, hr2, hb2, hc2⟩ := Row.grow (ys := [y]) elemF 24 zero2 (x0 := ((0, none, 0, 0) : Hw)) rfl hrow (by rw [← hl]; simp) (by rw [← hl]; simp; omega) (by decide) ⟨b1, 0, none⟩ 1 hv.cells0
    rw [← hl] at hrun
    simp only [List.length_singleton] at hrun
    have HR2 := Lib.hid hr2
    have hd : ((1 : Int) == 0) = false := by decide
    have HC2 := Lib.hid hc2
    clear hrow hv hl hr2 hc2
    go_enter Try.func64, Try.ntmps64
    go_wp2
    go_ret
    exact ⟨_, _, rfl, by have := HR2.out; rw [HL.out, List.take_length, List.drop_length, List.append_nil]; exact this, Nat.le_refl _, hb2, HC2⟩
  · have hlt : i < n := by omega
    obtain ⟨c2, w2, hrun, hr2, hb2, hc2⟩ := Row.growz (u := 3) (ik := .i64) elemF Try.underlying3 24 zero2 (x0 := ((0, none, 0, 0) : Hw)) rfl hrow (n := i) (m := n + 1 - i) (by omega) (by omega) (by omega) (by decide)
    have e1 : i + (n + 1 - i) = n + 1 := by omega
    have e2 : ((n + 1 - i : Nat) : Int) = (n : Int) + 1 - i := by omega
    rw [e1, e2] at hrun
    have hg2 : w.heap.size < w2.heap.size := hr2.lt
    have hle2 : n + 1 ≤ c2 := by have := hr2.le; rw [List.length_append, List.length_take, List.length_replicate] at this; omega
    have hlen2 : (hs.take i ++ List.replicate (n + 1 - i) ((0, none, 0, 0) : Hw)).length = n + 1 := by rw [List.length_append, List.length_take, List.length_replicate]; omega
    obtain ⟨w3, hrun3, hr3, hg3⟩ := Row.copy (u := 24) elemF 3 hr2 (ys := [y]) (o := i) (dl := n + 1 - i) (dc := c2 - i) (by omega) (by simp; omega) (by simp; omega) ⟨b1, 0, none⟩ 1 (hv.stays hb2).cells0
    simp only [List.length_singleton, show fF.k = 2 from rfl] at hrun3
    have hb3 : Below w.heap.size w w3 := hb2.grown hg3 hb2.size (fun k hk => by injection hk with e; omega)
    have hgz := hrow.lt
    have HR3 := Lib.hid hr3
    have HRo := Lib.hid ((hrow.stays hb2).apart hg3 (by omega))
    have hi1 : (i : Int) < n := by omega
    have hi2 : (i : Int) ≤ n := by omega
    have hi3 : (i : Int) ≤ n + 1 := by omega
    have hi4 : (i : Int) < c2 := by omega
    have hd1 : ((1 : Int) == 0) = false := by decide
    have hd2 : ((i : Int) == n) = false := by simp; omega
    have hd3 : decide ((n : Int) < n + 1) = true := decide_eq_true (by omega)
    have hd4 : decide (n < n + 1) = true := decide_eq_true (by omega)
    have HC2 := Lib.hid hc2
    have HC3 : Hid (∀ u, Below w3.heap.size w3 u → ∃ w', copyRun Try.prog 24 24 3 (.slice (some ⟨w.heap.size, (i + 1) * 2, none⟩) (n - i) (c2 - (i + 1))) (.slice (some ⟨g, i * 2, none⟩) (n - i) (n - i)) u = .ok (.int .i64 ((n - i : Nat) : Int)) w' ∧ RowF w.heap.size c2 (hs.take i ++ [y] ++ hs.drop i) w' ∧ Below w.heap.size w w') := Lib.hid fun u hu => by
      have hlen3 : (((hs.take i ++ List.replicate (n + 1 - i) ((0, none, 0, 0) : Hw)).take i ++ [y] ++ (hs.take i ++ List.replicate (n + 1 - i) ((0, none, 0, 0) : Hw)).drop (i + [y].length))).length = n + 1 := by
        simp only [List.length_append, List.length_take, List.length_drop, List.length_singleton, List.length_replicate]; omega
      have hdl : (hs.drop i).length = n - i := by rw [List.length_drop]; omega
      obtain ⟨w', h1, h2, h3⟩ := Row.copy (u := 24) elemF 3 (HR3.out.stays hu) (ys := hs.drop i) (o := i + 1) (dl := n - i) (dc := c2 - (i + 1)) (by omega) (by omega) (by omega) ⟨g, i * 2, none⟩ (n - i) ((HRo.out.stays hu).cells i)
      rw [hdl] at h1
      have hbu := hb3.trans (hu.mono hb3.size)
      refine ⟨w', h1, ?_, hbu.grown h3 hbu.size (fun k hk => by injection hk with e; omega)⟩
      have e1 : ((hs.take i ++ List.replicate (n + 1 - i) ((0, none, 0, 0) : Hw)).take i ++ [y] ++ (hs.take i ++ List.replicate (n + 1 - i) ((0, none, 0, 0) : Hw)).drop (i + [y].length)).take (i + 1) = hs.take i ++ [y] := by
        rw [List.take_append_of_le_length (by simp only [List.length_append, List.length_take, List.length_singleton, List.length_replicate]; omega)]
        rw [List.take_of_length_le (by simp only [List.length_append, List.length_take, List.length_singleton, List.length_replicate]; omega)]
        rw [List.take_append_of_le_length (by rw [List.length_take]; omega), List.take_take, Nat.min_self]
      have e3 : ((hs.take i ++ List.replicate (n + 1 - i) ((0, none, 0, 0) : Hw)).take i ++ [y] ++ (hs.take i ++ List.replicate (n + 1 - i) ((0, none, 0, 0) : Hw)).drop (i + [y].length)).drop (i + 1 + (n - i)) = [] := List.drop_of_length_le (by rw [hlen3]; omega)
      rw [e1, hdl, e3, List.append_nil] at h2
      exact h2
    have k1 : IntKind.i64.wrap ((i : Int) + 1) = (i : Int) + 1 := IntWalk.i64_in _ (by omega)
    have k2 : ((i : Int) + 1).toNat = i + 1 := by omega
    have k3 : (0 : Int) ≤ (i : Int) + 1 := by omega
    have k4 : (i : Int) + 1 ≤ n + 1 := by omega
    have k5 : ¬ c2 = i + 1 := by omega
    have k6 : ¬ (c2 : Int) = (i : Int) + 1 := by omega
    have k8 : ¬ n = i := by omega
    have k7 : ((n - i : Nat) : Int) = (n : Int) - i := by omega
    clear hrow hv hr2 hr3 hl e1 e2 hc2
    go_enter Try.func64, Try.ntmps64
    go_wp2
    refine Rh.region (fun _ => True) (fun u => Below w3.heap.size w3 u) (fun _ _ _ _ => trivial) (fun _ _ h k => nx h k) (trivial) ((Below.refl _ _).drew) [0, 1, 2, 3, 4, 5, 6, 7, 8] (by kernel_rfl) (by kernel_rfl) (by kernel_rfl) (fun _ _ d _ _ h => by cases d <;> exact h) ?_
    repeat (first | (refine Rh.Steps.skip (by rfl) (by kernel_rfl) (by rfl) ?_; simp only [Act.put, List.setIfInBounds_toArray, List.set_cons_zero, List.set_cons_succ]) | (refine Rh.Steps.pure (v := ?_) (by rfl) (by kernel_rfl) (by rfl) ?_ ?_; rotate_left; (intro w_ hS_; skip; go_simp <;> with_reducible rfl); simp only [Act.put, List.setIfInBounds_toArray, List.set_cons_zero, List.set_cons_succ]))
    refine Rh.Steps.forced (i := 8) (by kernel_rfl) ?_
    refine Rh.One.new (fun v u => RowF w.heap.size c2 (hs.take i ++ [y] ++ hs.drop i) u ∧ Below w.heap.size w u) (fun v _ _ h k => ⟨h.1.stays k, nx h.2 k⟩) (by rfl) (by rfl) ?_ ?_
    · intro w_ hS_ hG_
      obtain ⟨w', h1, h2, h3⟩ := HC3.out w_ hG_
      rw [k7] at h1
      refine ⟨.int .i64 ((n : Int) - i), w', ?_, trivial, h2, h3⟩
      go_simp
    intro v4 u5 hv4
    simp only [Act.put, List.setIfInBounds_toArray, List.set_cons_zero, List.set_cons_succ]
    refine Rh.Steps.nil (by kernel_rfl) ?_
    intro w4 _ hG4
    have HG := Lib.hid hG4
    clear hG4
    go_wp2
    go_ret
    exact ⟨_, _, rfl, HG.out.1, Nat.le_refl _, HG.out.2, HC2⟩
end Go.Proofs.Ytfnmmknbjfmagaa.Le
/- Package level as it landed: slices.DeleteFunc of levels without orders. -/
namespace Go.Proofs.Ytfnmmknbjfmagaa.Le
open Go.RowKit
set_option linter.unusedVariables false
open Go.Proofs.Ytfnmmknbjfmagaa.Rw
open Go.Proofs.Ytfnmmknbjfmagaa.Da
open Go.Proofs.Ytfnmmknbjfmagaa.Ro
/-- Has the level orders? -/
def full (y : Hw) : Bool := decide (y.2.2.1 ≠ 0)
def ixE : List Hw → Nat → Int
  | [], _ => -1
  | y :: r, j => if y.2.2.1 = 0 then (j : Int) else ixE r (j + 1)
theorem hdrop {α : Type} {l : List α} {k : Nat} (h : k < l.length) : l.drop k = l[k] :: l.drop (k + 1) := List.drop_eq_getElem_cons h
theorem ixE_drop {hs : List Hw} {j : Nat} (h : j < hs.length) : ixE (hs.drop j) j = if hs[j].2.2.1 = 0 then (j : Int) else ixE (hs.drop (j + 1)) (j + 1) := by
  rw [hdrop h]; rfl
theorem ixE_spec : ∀ (hs : List Hw) (j : Nat), (ixE hs j = -1 ∧ hs.filter full = hs) ∨ ∃ k, ∃ h : k < hs.length, ixE hs j = ((j + k : Nat) : Int) ∧ hs[k].2.2.1 = 0 ∧ (hs.take k).filter full = hs.take k
  | [], j => .inl ⟨rfl, rfl⟩
  | y :: r, j => by
    by_cases e : y.2.2.1 = 0
    · exact .inr ⟨0, by simp, by simp [ixE, e], by simpa using e, by simp⟩
    · have hf : full y = true := by simp [full, e]
      rcases ixE_spec r (j + 1) with ⟨h1, h2⟩ | ⟨k, hk, h1, h2, h3⟩
      · exact .inl ⟨by simp only [ixE, e, if_false]; exact h1, by rw [List.filter_cons, hf, h2]; rfl⟩
      · refine .inr ⟨k + 1, by simp; omega, ?_, by simpa using h2, ?_⟩
        · simp only [ixE, e, if_false, h1]; congr 1; omega
        · rw [List.take_succ_cons, List.filter_cons, hf, h3]; rfl
theorem rowF_set {g cap : Nat} {xs : List Hw} {u : World} (h : RowF g cap xs u) {i : Nat} {x : Hw} (y : Hw) (hx : xs[i]? = some x) : RowF g cap (xs.set i y) ((u.setCell ⟨g, i * 2, none⟩ (.int .i64 y.1)).setCell ⟨g, i * 2 + 1, none⟩ (hv y)) ∧ u.grownBy ((u.setCell ⟨g, i * 2, none⟩ (.int .i64 y.1)).setCell ⟨g, i * 2 + 1, none⟩ (hv y)) (some g) := by
  have hi : i < xs.length := (List.getElem?_eq_some_iff.1 hx).1
  have h1 := h.setCell (j := 0) (y := (y.1, x.2)) (u := .int .i64 y.1) hx (by decide) rfl
  have h2 := h1.setCell (j := 1) (y := y) (u := hv y) (List.getElem?_set_self hi) (by decide) rfl
  rw [List.set_set] at h2
  exact ⟨h2, grown_trans (setCell_grown u g (i * 2) (.int .i64 y.1)) (setCell_grown _ g (i * 2 + 1) (hv y))⟩
set_option maxHeartbeats 1000000 in
theorem indexFuncL_any (g n : Nat) (hs : List Hw) (w : World) (hrow : RowF g n hs w) (hl : n = hs.length) (hm : n ≤ 1000000) (hbd : ∀ y ∈ hs, y.2.2.1 ≤ 1000000) :
    Calls Try.prog 76 #[.slice (some ⟨g, 0, none⟩) n n, .func (.func 56) #[] #[]] w fun e w' => e = .returned (.int .i64 (ixE hs 0)) ∧ Below w.heap.size w w' := by
  obtain ⟨r, hr⟩ : ∃ r, ixE (hs.drop 0) 0 = r := ⟨_, rfl⟩
  have HG : Hid (ixE hs 0 = r) := Lib.hid hr
  have HR := Lib.hid hr
  have HW := Lib.hid hrow
  have HL := Lib.hid hl
  have HD := Lib.hid hbd
  clear hrow hr hl hbd
  go_enter Try.func76, Try.ntmps76
  go_wp2
  go_loopw [5, 8] (fun _ i wr => ∃ j : Nat, j ≤ n ∧ i = .int .i64 j ∧ Below w.heap.size w wr ∧ ixE (hs.drop j) j = r) (fun _ i _ => n - (intOf i).toNat)
  case atStart => exact ⟨0, Nat.zero_le _, rfl, Below.refl _ _, HR.out⟩
  case round =>
    obtain ⟨j, hj, rfl, hb, hrj⟩ := hrel
    have HT := Lib.hid hrj
    clear hrj
    by_cases hjm : j < n
    · have hjm2 : (j : Int) < n := by omega
      have hjo : j < hs.length := by rw [← HL.out]; exact hjm
      have hrw := HW.out.stays hb
      have hgz := hrw.lt
      have hcons := ixE_drop hjo
      have hmem := HD.out _ (List.getElem_mem hjo)
      obtain ⟨⟨yp, ya, yn, yc⟩, hy⟩ : ∃ y, hs[j]'hjo = y := ⟨_, rfl⟩
      rw [hy] at hcons hmem
      simp only at hcons hmem
      obtain ⟨q0, q1, _, _⟩ := rowF_at hrw (show hs[j]? = some (yp, ya, yn, yc) by rw [← hy]; exact List.getElem?_eq_getElem hjo)
      simp only [hv] at q1
      rw [HT.out] at hcons
      clear hrw hy
      rcases Nat.eq_zero_or_pos yn with h0 | h0
      · subst h0
        have HZ : Hid (r = (j : Int)) := Lib.hid (by rw [hcons, if_pos rfl])
        clear hcons
        go_wp2_with fail
        refine (isEmpty_any _ _ _ _ (by omega) _).mono ?_
        rintro e w' ⟨rfl, hb1⟩
        go_wp2
        go_ret
        exact ⟨ret_int (by rw [HG.out, HZ.out]), nx hb hb1⟩
      · have hd : Hid (decide (yn = 0) = false) := Lib.hid (decide_eq_false (by omega))
        have HZ : Hid (ixE (hs.drop (j + 1)) (j + 1) = r) := Lib.hid (by rw [hcons, if_neg (by omega)])
        clear hcons
        go_wp2_with fail
        refine (isEmpty_any _ _ _ _ hmem _).mono ?_
        rintro e w' ⟨rfl, hb1⟩
        rw [hd.out]
        go_wp2
        go_roundw
        case rel => exact ⟨j + 1, by omega, by go_num, nx hb hb1, HZ.out⟩
        case measure => simp [intOf]; omega
    · obtain rfl : j = n := by omega
      have HZ : Hid (r = -1) := Lib.hid (by rw [← HT.out, HL.out, List.drop_length]; rfl)
      clear hjm
      go_wp2
      go_ret
      exact ⟨ret_int (by rw [HG.out, HZ.out]), hb⟩
theorem indexFuncL_is {g n : Nat} {hs : List Hw} {w : World} {r : Int} (hr : Hid (ixE hs 0 = r)) (hrow : RowF g n hs w) (hl : n = hs.length) (hm : n ≤ 1000000) (hbd : ∀ y ∈ hs, y.2.2.1 ≤ 1000000) :
    Calls Try.prog 76 #[.slice (some ⟨g, 0, none⟩) n n, .func (.func 56) #[] #[]] w fun e w' => e = .returned (.int .i64 r) ∧ Below w.heap.size w w' := by
  rw [← hr.out]; exact indexFuncL_any g n hs w hrow hl hm hbd
/-- DeleteFunc's loop: the levels up to j that have orders stand in the first i places. -/
def DfI (hs xs : List Hw) (i j : Nat) : Prop := xs.length = hs.length ∧ xs.take i = (hs.take j).filter full ∧ xs.drop j = hs.drop j
theorem DfI.at {hs xs : List Hw} {i j : Nat} (h : DfI hs xs i j) (hj : j < hs.length) : xs[j]? = hs[j]? := by
  have h1 : (xs.drop j)[0]? = (hs.drop j)[0]? := by rw [h.2.2]
  rw [List.getElem?_drop, List.getElem?_drop] at h1
  simpa using h1
theorem DfI.skip {hs xs : List Hw} {i j : Nat} (h : DfI hs xs i j) (hj : j < hs.length) (he : full hs[j] = false) : DfI hs xs i (j + 1) := by
  refine ⟨h.1, ?_, ?_⟩
  · rw [h.2.1, Da.take_snoc hj, List.filter_append, List.filter_cons, he]; simp
  · rw [← List.drop_drop, h.2.2, List.drop_drop]
theorem DfI.keep {hs xs : List Hw} {i j : Nat} (h : DfI hs xs i j) (hij : i < j) (hj : j < hs.length) (he : full hs[j] = true) : DfI hs (xs.set i hs[j]) (i + 1) (j + 1) := by
  have hix : i < xs.length := by rw [h.1]; omega
  refine ⟨by rw [List.length_set]; exact h.1, ?_, ?_⟩
  · rw [Da.take_snoc (by rw [List.length_set]; exact hix), List.take_set_of_le (Nat.le_refl i), h.2.1, Da.take_snoc hj, List.filter_append, List.filter_cons, he, List.getElem_set_self]; simp
  · rw [List.drop_set_of_lt (by omega), ← List.drop_drop, h.2.2, List.drop_drop]
def DfP (g n : Nat) (hs : List Hw) (w : World) (e : Ending) (w' : World) : Prop := e = .returned (.slice (some ⟨g, 0, none⟩) (hs.filter full).length n) ∧ RowF g n (hs.filter full) w' ∧ w.grownBy w' (some g)
set_option maxHeartbeats 2000000 in
theorem deleteFunc_any (g n : Nat) (hs : List Hw) (w : World) (hrow : RowF g n hs w) (hl : n = hs.length) (hm : n ≤ 1000000) (hbd : ∀ y ∈ hs, y.2.2.1 ≤ 1000000) :
    Calls Try.prog 55 #[.slice (some ⟨g, 0, none⟩) n n, .func (.func 56) #[] #[]] w (DfP g n hs w) := by
  obtain ⟨q, hq⟩ : ∃ q, ixE hs 0 = q := ⟨_, rfl⟩
  have HQ := Lib.hid hq
  rcases ixE_spec hs 0 with ⟨h1, h2⟩ | ⟨k, hk, h1, h2, h3⟩
  · rw [hq] at h1
    subst h1
    have HZ := Lib.hid (show ∀ u, Below w.heap.size w u → DfP g n hs w (.returned (.slice (some ⟨g, 0, none⟩) n n)) u from fun u hu => ⟨by rw [h2, ← hl], by rw [h2]; exact hrow.stays hu, grown_below _ hu⟩)
    have hcall := Lib.hid (indexFuncL_is HQ hrow hl hm hbd)
    clear hq h2 hrow hl hbd
    go_enter Try.func55, Try.ntmps55
    go_wp2_with fail
    refine hcall.out.mono ?_
    rintro e w' ⟨rfl, hb1⟩
    go_wp2
    go_ret
    exact HZ.out _ hb1
  · rw [hq, Nat.zero_add] at h1
    subst h1
    have hst : DfI hs hs k (k + 1) := ⟨rfl, by rw [Da.take_snoc hk, List.filter_append, h3, List.filter_cons]; simp [full, h2], rfl⟩
    have HSt := Lib.hid hst
    have HR := Lib.hid hrow
    have HL := Lib.hid hl
    have HD := Lib.hid hbd
    have hcall := Lib.hid (indexFuncL_is HQ hrow hl hm hbd)
    have hkn : k < n := by omega
    clear hst hrow hl hbd h2 h3 hq
    go_enter Try.func55, Try.ntmps55
    go_wp2_with fail
    refine hcall.out.mono ?_
    rintro e w' ⟨rfl, hb1⟩
    have hd : ((k : Int) == -1) = false := by simp
    have HR1 := Lib.hid (HR.out.stays hb1)
    have HGr := Lib.hid (grown_below (some g) hb1)
    go_wp2
    go_loopw [5, 6, 7] (fun s5 s6 _ wr => ∃ (i j : Nat) (xs : List Hw), s5 = .int .i64 i ∧ s6 = .int .i64 j ∧ i < j ∧ j ≤ n ∧ RowF g n xs wr ∧ DfI hs xs i j ∧ w.grownBy wr (some g)) (fun _ s6 _ _ => n - (intOf s6).toNat)
    case atStart => exact ⟨k, k + 1, hs, rfl, by go_num, by omega, by omega, HR1.out, HSt.out, HGr.out⟩
    case round =>
      obtain ⟨i, j, xs, rfl, rfl, hij, hjn, hrw, hinv, hgr⟩ := hrel
      have HI := Lib.hid hinv
      have HW := Lib.hid hrw
      have HG := Lib.hid hgr
      have hgz := hrw.lt
      clear hinv hrw hgr
      by_cases hjm : j < n
      · have hjm2 : (j : Int) < n := by omega
        have hin2 : (i : Int) < n := by omega
        have hjo : j < hs.length := by rw [← HL.out]; exact hjm
        have hat := HI.out.at hjo
        have hmem := HD.out _ (List.getElem_mem hjo)
        obtain ⟨⟨yp, ya, yn, yc⟩, hy⟩ : ∃ y, hs[j]'hjo = y := ⟨_, rfl⟩
        rw [hy] at hmem
        simp only at hmem
        have hxj : xs[j]? = some (yp, ya, yn, yc) := by rw [hat, ← hy]; exact List.getElem?_eq_getElem hjo
        obtain ⟨q0, q1, _, _⟩ := rowF_at HW.out hxj
        simp only [hv] at q1
        have HY := Lib.hid hy
        clear hat hy hxj
        have hbx := below1 wr (.cells #[.int .i64 yp, .slice ya yn yc] 48)
        rcases Nat.eq_zero_or_pos yn with h0 | h0
        · subst h0
          have HZ := Lib.hid (HI.out.skip hjo (by rw [HY.out]; simp [full]))
          go_wp2_with fail
          refine (isEmpty_any _ _ _ _ (by omega) _).mono ?_
          rintro e w2 ⟨rfl, hb2⟩
          have hb3 := nx hbx hb2
          go_wp2
          go_roundw
          case rel => exact ⟨i, j + 1, xs, rfl, by go_num, by omega, by omega, HW.out.stays hb3, HZ.out, grown_stays _ _ _ _ HG.out hb3⟩
          case measure => simp [intOf]; omega
        · have hd2 : Hid (decide (yn = 0) = false) := Lib.hid (decide_eq_false (by omega))
          have HZ := Lib.hid (HI.out.keep hij hjo (by rw [HY.out]; simp [full]; omega))
          rw [HY.out] at HZ
          go_wp2_with fail
          refine (isEmpty_any _ _ _ _ hmem _).mono ?_
          rintro e w2 ⟨rfl, hb2⟩
          rw [hd2.out]
          have hb3 := nx hbx hb2
          have hrw2 := HW.out.stays hb3
          have hix : i < xs.length := by rw [HI.out.1]; omega
          obtain ⟨c0, c1, f0, f1⟩ := rowF_at hrw2 (List.getElem?_eq_getElem hix)
          obtain ⟨hr4, hg4⟩ := rowF_set hrw2 (yp, ya, yn, yc) (List.getElem?_eq_getElem hix)
          simp only [hv] at hr4 hg4
          have HR4 := Lib.hid hr4
          have hg5 := grown_trans (grown_stays _ _ _ _ HG.out hb3) hg4
          have HG5 := Lib.hid hg5
          have b0 : w2.cell? ⟨wr.heap.size, 0, none⟩ = some (.int .i64 yp) := by rw [hb2.cell (p := ⟨wr.heap.size, 0, none⟩) (by simp)]; simp [go_sem]
          have b1 : w2.cell? ⟨wr.heap.size, 1, none⟩ = some (.slice ya yn yc) := by rw [hb2.cell (p := ⟨wr.heap.size, 1, none⟩) (by simp)]; simp [go_sem]
          clear hr4 hg4 hg5 hrw2
          go_wp2
          go_roundw
          case rel => exact ⟨i + 1, j + 1, _, by go_num, by go_num, by omega, by omega, HR4.out, HZ.out, HG5.out⟩
          case measure => simp [intOf]; omega
      · obtain rfl : j = n := by omega
        have hfil : xs.take i = hs.filter full := by have := HI.out.2.1; rw [HL.out, List.take_length] at this; exact this
        have hil : (hs.filter full).length = i := by rw [← hfil, List.length_take, HI.out.1, ← HL.out]; omega
        obtain ⟨w5, hrun, hr5, hg5⟩ := Row.clear elemF 0 zero2 (x0 := ((0, none, 0, 0) : Hw)) rfl (HW.out.take i) (o := i) (m := j - i) (c := j - i) (by rw [List.length_take]; omega) (by omega) (by omega)
        simp only [show fF.k = 2 from rfl] at hrun
        have HZ : Hid (DfP g j hs w (.returned (.slice (some ⟨g, 0, none⟩) i j)) w5) := Lib.hid ⟨by rw [hil], by rw [← hfil]; exact hr5, grown_trans HG.out hg5⟩
        have k1 : ¬ j = i := by omega
        have k2 : (i : Int) ≤ j := by omega
        clear hfil hil hr5 hg5
        go_wp2
        go_ret
        exact HZ.out
end Go.Proofs.Ytfnmmknbjfmagaa.Le
/- Package level as it landed: slices.Delete of an order. -/
namespace Go.Proofs.Ytfnmmknbjfmagaa.Le
open Go.RowKit
set_option linter.unusedVariables false
open Go.Proofs.Ytfnmmknbjfmagaa.Rw
open Go.Proofs.Ytfnmmknbjfmagaa.Da
open Go.Proofs.Ytfnmmknbjfmagaa.Ro
def DelP (g cap k i : Nat) (os : List Od) (w : World) (e : Ending) (w' : World) : Prop := e = .returned (.slice (some ⟨g, 0, none⟩) k cap) ∧ RowO g cap (os.take i ++ os.drop (i + 1)) w' ∧ w.grownBy w' (some g)
set_option maxHeartbeats 2000000 in
theorem delete_any (g cap k i : Nat) (os : List Od) (w : World) (hrow : RowO g cap os w) (hl : os.length = k + 1) (hi : i < k + 1) (hm : k < 1000000) (hc : Hid (cap ≤ maxLen)) :
    Calls Try.prog 54 #[.slice (some ⟨g, 0, none⟩) (k + 1) cap, .int .i64 i, .int .i64 ((i : Int) + 1)] w (DelP g cap k i os w) := by
  have hle := hrow.le
  rw [hl] at hle
  have HR := Lib.hid hrow
  have hdl : (os.drop (i + 1)).length = k - i := by rw [List.length_drop, hl]; omega
  obtain ⟨ad, had, hsl⟩ : ∃ ad : Addr, (∀ u, Below w.heap.size w u → ∀ j x, (((os.drop (i + 1)).map fO.f).flatten)[j]? = some x → u.cell? (ad.add j) = some x) ∧ (if cap = i + 1 then some (⟨g, 0, none⟩ : Addr) else some ⟨g, (i + 1) * 5, none⟩) = some ad := by
    by_cases e : cap = i + 1
    · refine ⟨⟨g, 0, none⟩, fun u _ j x hx => ?_, by rw [if_pos e]⟩
      have : os.drop (i + 1) = [] := List.drop_of_length_le (by omega)
      rw [this] at hx; simp at hx
    · exact ⟨⟨g, (i + 1) * 5, none⟩, fun u hu => (hrow.stays hu).cells (i + 1), by rw [if_neg e]⟩
  have HA : Hid (∀ u, Below w.heap.size w u → ∃ w', appRun Try.prog 46 46 (.slice (some ⟨g, 0, none⟩) i cap) (.slice (some ad) (k - i) (cap - (i + 1))) u = .ok (.slice (some ⟨g, 0, none⟩) k cap) w' ∧ RowO g cap (os.take i ++ os.drop (i + 1)) w' ∧ w.grownBy w' (some g)) := Lib.hid fun u hu => by
    obtain ⟨w', h1, h2, h3⟩ := Row.append elemO 46 (HR.out.stays hu) (n := i) (ys := os.drop (i + 1)) (by omega) (by omega) ad (cap - (i + 1)) (had u hu)
    have e2 : i + (os.drop (i + 1)).length = k := by omega
    rw [e2] at h1
    rw [hdl] at h1
    have h4 := h2.take k
    rw [List.take_append_of_le_length (by rw [List.length_append, List.length_take, hdl, hl]; omega), List.take_of_length_le (by rw [List.length_append, List.length_take, hdl, hl]; omega)] at h4
    exact ⟨w', h1, h4, grown_trans (grown_below _ hu) h3⟩
  have HC : Hid (∀ u, RowO g cap (os.take i ++ os.drop (i + 1)) u → w.grownBy u (some g) → ∃ w', clearRun Try.prog 46 0 (.slice (some ⟨g, k * 5, none⟩) 1 (cap - k)) u = .ok (.tuple #[]) w' ∧ RowO g cap (os.take i ++ os.drop (i + 1)) w' ∧ w.grownBy w' (some g)) := Lib.hid fun u hu hg => by
    obtain ⟨w', h1, h2, h3⟩ := Row.clear elemO 0 zero5 (x0 := ((0, 0, 0, 0, 0) : Od)) rfl hu (o := k) (m := 1) (c := cap - k) (by rw [List.length_append, List.length_take, hdl, hl]; omega) (by omega) (by omega)
    exact ⟨w', h1, h2, grown_trans hg h3⟩
  have hd1 : ((i : Int) == (i : Int) + 1) = false := by simp; omega
  have k1 : (i : Int) < (k : Int) + 1 := by omega
  have k2 : (i : Int) ≤ (k : Int) + 1 := by omega
  have k3 : (i : Int) ≤ k := by omega
  have k4 : (i : Int) + 1 ≤ cap := by omega
  have k5 : (k : Int) + 1 ≤ cap := by omega
  have k6 : (i : Int) ≤ cap := by omega
  have k7 : ¬ cap = i := by omega
  have k8 : ¬ cap = k := by omega
  have k9 : (k : Int) ≤ cap := by omega
  have k10 : ((i : Int) + 1).toNat = i + 1 := by omega
  have k11 : (0 : Int) ≤ (i : Int) + 1 := by omega
  have k12 : ((k : Int) + 1).toNat = k + 1 := by omega
  have k13 : (0 : Int) ≤ (k : Int) + 1 := by omega
  clear hrow had hdl hle hl
  go_enter Try.func54, Try.ntmps54
  go_wp2
  refine Rh.region (fun _ => True) (fun u => Below w.heap.size w u) (fun _ _ _ _ => trivial) (fun _ _ h k => nx h k) (trivial) ((Below.refl _ _).drew) [0, 1, 2, 3, 4, 5, 6, 7] (by kernel_rfl) (by kernel_rfl) (by kernel_rfl) (fun _ _ d _ _ h => by cases d <;> exact h) ?_
  repeat (first | (refine Rh.Steps.skip (by rfl) (by kernel_rfl) (by rfl) ?_; simp only [Act.put, List.setIfInBounds_toArray, List.set_cons_zero, List.set_cons_succ]) | (refine Rh.Steps.pure (v := ?_) (by rfl) (by kernel_rfl) (by rfl) ?_ ?_; rotate_left; (intro w_ hS_; skip; go_simp <;> with_reducible rfl); simp only [Act.put, List.setIfInBounds_toArray, List.set_cons_zero, List.set_cons_succ]))
  refine Rh.Steps.forced (i := 6) (by kernel_rfl) ?_
  refine Rh.One.new (fun v u => v = .slice (some ⟨g, 0, none⟩) k cap ∧ RowO g cap (os.take i ++ os.drop (i + 1)) u ∧ w.grownBy u (some g)) (fun v _ _ h k => ⟨h.1, h.2.1.stays k, grown_stays _ _ _ _ h.2.2 k⟩) (by rfl) (by rfl) ?_ ?_
  · intro w_ hS_ hG_
    obtain ⟨w', h1, h2, h3⟩ := HA.out w_ hG_
    refine ⟨_, w', ?_, trivial, rfl, h2, h3⟩
    go_simp
  rintro v4 u5 ⟨rfl, hv4⟩
  simp only [Act.put, List.setIfInBounds_toArray, List.set_cons_zero, List.set_cons_succ]
  refine Rh.Steps.pure (v := ?_) (by rfl) (by kernel_rfl) (by rfl) ?_ ?_
  rotate_left
  · intro w_ hS_
    go_simp <;> with_reducible rfl
  simp only [Act.put, List.setIfInBounds_toArray, List.set_cons_zero]
  refine Rh.Steps.nil (by kernel_rfl) ?_
  intro w4 _ hG4
  obtain ⟨w5, hrun, hr5, hg5⟩ := HC.out w4 hG4.2.1 hG4.2.2
  have HZ := Lib.hid (show DelP g cap k i os w (.returned (.slice (some ⟨g, 0, none⟩) k cap)) w5 from ⟨rfl, hr5, hg5⟩)
  clear hr5 hg5 hG4
  go_wp2
  go_ret
  exact HZ.out
end Go.Proofs.Ytfnmmknbjfmagaa.Le
