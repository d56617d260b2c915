/- BookFills: walked. -/
import Derived.Test.YtfnmmknbjfmagaaBlO
import Derived.RegionTactic
import Derived.WalkMore
import Derived.BigQuiet
namespace Go.Proofs.Ytfnmmknbjfmagaa.Bk
open Go.RowKit
set_option linter.unusedVariables false
open Go.Proofs.Ytfnmmknbjfmagaa.Rw
open Go.Proofs.Ytfnmmknbjfmagaa.Da
open Go.Proofs.Ytfnmmknbjfmagaa.Le
theorem sumQ_snoc {fs : List Fl} {k : Nat} (h : k < fs.length) : sumQ (fs.take (k + 1)) = sumQ (fs.take k) + fs[k].2.2.2.1 := by
  unfold sumQ
  rw [Da.take_snoc h, List.map_append, List.sum_append]
  simp
theorem sumQ_le {fs : List Fl} (h : ∀ f ∈ fs, 0 ≤ f.2.2.2.1) (k : Nat) : 0 ≤ sumQ (fs.take k) ∧ sumQ (fs.take k) ≤ sumQ fs := by
  have h1 := sumQ_nn (fs := fs.take k) fun f hf => h f (List.mem_of_mem_take hf)
  have h2 := sumQ_nn (fs := fs.drop k) fun f hf => h f (List.mem_of_mem_drop hf)
  have h3 : sumQ fs = sumQ (fs.take k) + sumQ (fs.drop k) := by
    unfold sumQ
    rw [← List.sum_append, ← List.map_append, List.take_append_drop]
  omega
theorem tr_nn {ow s p q : Int} {os : List Od} {fs : List Fl} {lf : Int} (h : TrS ow s p os q fs lf) : ∀ f ∈ fs, 0 ≤ f.2.2.2.1 := fun f hf => by
  obtain ⟨i, hi, rfl⟩ := List.mem_iff_getElem.1 hf
  obtain ⟨h', n, e, n1, _⟩ := h.at' i hi
  rw [e]
  show 0 ≤ n
  omega
theorem bdrewN {B : Nat} {a w : World} (h : Below B a w) (n : Nat) : Below B a (w.drewN n) := ⟨h.os, h.tape, h.output, h.size, h.block⟩
theorem steps_two {P : Program} {ops : Array Oper} {Q : Exit → Act → World → Prop} {md : Region.Mode} {S G : World → Prop} {i j : Nat} {ord ord' : List Nat} {listed : Array Bool} {a : Act}
    (hr : Region.ready md ops listed = [i, j]) (hl : ord'.length = ord.length) (h : Rh.One P md ops Q S i ord listed a G) (k : Rh.One P md ops Q S j ord' listed a G) : Rh.Steps P md ops Q S (i :: ord) listed a G := fun hs hQ sS st =>
  ⟨fun e => absurd hr (by rw [e]; exact fun x => by cases x), fun x hx => by
    rw [hr] at hx
    simp at hx
    rcases hx with rfl | rfl
    · exact h hs hQ sS st
    · have := k hs hQ sS st
      rw [hl] at this
      exact this⟩
/-- Block g is a variable of an order's five cells, which hold these. -/
def VO (g : Nat) (q : Option Od) (u : World) : Prop := u.heap[g]? = some (.cells (cO q) 31 (0, 0))
theorem VO.lt {g : Nat} {q : Option Od} {u : World} (h : VO g q u) : g < u.heap.size := (Array.getElem?_eq_some_iff.1 h).1
theorem VO.stays {g : Nat} {q : Option Od} {u u' : World} (h : VO g q u) (k : Below u.heap.size u u') : VO g q u' := (k.block g h.lt).trans h
theorem VO.row {g : Nat} {q : Option Od} {u : World} (h : VO g q u) : row u g = cO q := by unfold Rw.row; rw [show u.heap[g]? = _ from h]
theorem VO.plain {g : Nat} {q : Option Od} {u : World} (h : VO g q u) : plain 5 u g = true := by unfold Rw.plain; rw [show u.heap[g]? = _ from h]; simp [cO_size]
theorem VO.set {g : Nat} {q : Option Od} {u : World} (h : VO g q u) (q' : Option Od) : VO g q' (u.setRow g (cO q')) := setRow_heap u g _ _ _ _ h
def AlF (s : Nat) (v : Value) (u : World) : Prop := ∃ g, v = .pointer (some ⟨g, 0, none⟩) ∧ s ≤ g ∧ VO g none u
theorem AlF.stays {s : Nat} {v : Value} {u u' : World} (h : AlF s v u) (k : Below u.heap.size u u') : AlF s v u' := by
  obtain ⟨g, e, hs, hv⟩ := h
  exact ⟨g, e, hs, hv.stays k⟩
theorem AlF.made {s : Nat} (u : World) (h : s ≤ u.heap.size) : AlF s (.pointer (some ⟨u.heap.size, 0, none⟩)) (u.alloc (.cells #[.int .i64 0, .int .i64 0, .int .i64 0, .int .i64 0, .int .i64 0] 31)) := ⟨_, rfl, h, heap_alloc_new u _⟩
theorem AlF.vo {s g : Nat} {u : World} (h : AlF s (.pointer (some ⟨g, 0, none⟩)) u) : VO g none u := by
  obtain ⟨g', e, _, hv⟩ := h
  simp only [Value.pointer.injEq, Option.some.injEq, Addr.mk.injEq, and_true] at e
  subst e
  exact hv
theorem AlF.app {s g : Nat} {u u' : World} (h : AlF s (.pointer (some ⟨g, 0, none⟩)) u) (k : ∀ g, s ≤ g → VO g none u → VO g none u') : AlF s (.pointer (some ⟨g, 0, none⟩)) u' := by
  obtain ⟨g', e, hs, hv⟩ := h
  exact ⟨g', e, hs, k g' hs hv⟩
theorem lv_app {B : Bs} {s : Nat} {l m : List Lv} {v x : Value} {u : World} (hB : B.le s) (hs : s ≤ u.heap.size) (hown : OwnL B s l v u) (hx : LL B m x u) (hl : l.length + m.length ≤ 10000) :
    ∃ v' u', appRun Try.prog 24 24 v x u = .ok v' u' ∧ OwnL B s (l ++ m) v' u' ∧ (∀ w0, Below s w0 u → Below s w0 u') ∧ (∀ g, s ≤ g → VO g none u → VO g none u') := by
  obtain ⟨v', u', hrun, hown', hg, hbl, hkp⟩ := Own.append elemL 24 typesL hB hs hown hx (by omega) (by omega)
  refine ⟨v', u', hrun, hown', fun w0 h => hbl s w0 (Nat.le_refl _) h, fun g hg h => ?_⟩
  exact (hkp [31] (by decide)).block g _ h (.inr ⟨_, _, _, rfl, by simp, fun hb => by have := hB.2 _ hb; omega⟩)
theorem find_fi {B : Bs} {l : List Lv} {v : Value} {id : Int} {q : Option Od} {w : World} (hq : Hid (fnd (flat l) id = q)) (h : LL B l v w) (hm : l.length ≤ 1000000) (hf : (flat l).length ≤ 1000000) :
    Calls Try.prog 23 #[v, .int .i64 id] w fun e w' => e = .returned (.tuple #[.agg (cO q), .bool q.isSome]) ∧ Below w.heap.size w w' := by
  rw [← fV_is, ← hq.out]; exact find_big B l v id w h hm hf
/-- What the search for the new order leaves. -/
def FiP (W : World) (q : Option Od) (a b : Value) (u : World) : Prop := ∃ g : Nat, a = .pointer (some ⟨g, 0, none⟩) ∧ b = .bool q.isSome ∧ Below W.heap.size W u ∧ VO g q u
set_option maxRecDepth 16000 in
set_option maxHeartbeats 8000000 in
theorem walkFillsE (ops : List Op5) (v : Value) (o1 o2 o3 o4 o5 : Int) (w : World) (h : PL (Bs.of w.heap.size) ops v w) (h80 : ops.length ≤ 80) (hE : ¬ (o3 = 1 ∨ o3 = 2)) :
    Calls Try.prog 6 #[v, .agg #[.int .i64 o1, .int .i64 o2, .int .i64 o3, .int .i64 o4, .int .i64 o5]] w fun e w' => e = .returned (.bool true) ∧ Below w.heap.size w w' := by
  obtain ⟨B, hB'⟩ : ∃ B, B = Bs.of w.heap.size := ⟨_, rfl⟩
  have hB : B.le w.heap.size := by rw [hB']; exact Bs.of_le _
  have HB := Lib.hid (show ∀ u, Below w.heap.size w u → B.le u.heap.size from fun u hu => hB.mono hu.size)
  obtain ⟨U, hU⟩ : ∃ U, U = w.alloc (.cells #[.int .i64 o1, .int .i64 o2, .int .i64 o3, .int .i64 o4, .int .i64 o5] 29) := ⟨_, rfl⟩
  have hbU : Below w.heap.size w U := hU ▸ below1 w _
  have hzU : U.heap.size = w.heap.size + 1 := by rw [hU]; simp
  have hop : U.heap[w.heap.size]? = some (.cells #[.int .i64 o1, .int .i64 o2, .int .i64 o3, .int .i64 o4, .int .i64 o5] 29 (0, 0)) := by rw [hU]; exact heap_alloc_new w _
  have HOp := Lib.hid (show ∀ u, Below U.heap.size U u → (u.cell? ⟨w.heap.size, 0, none⟩ = some (.int .i64 o1) ∧ u.cell? ⟨w.heap.size, 1, none⟩ = some (.int .i64 o2) ∧ u.cell? ⟨w.heap.size, 2, none⟩ = some (.int .i64 o3) ∧ u.cell? ⟨w.heap.size, 3, none⟩ = some (.int .i64 o4) ∧ u.cell? ⟨w.heap.size, 4, none⟩ = some (.int .i64 o5)) ∧ w.heap.size < u.heap.size from fun u hu => by
    have g := (hu.block _ (by omega)).trans hop
    have := hu.size
    refine ⟨⟨?_, ?_, ?_, ?_, ?_⟩, by omega⟩ <;> simp [World.cell?, g])
  have HPl := Lib.hid (played_any B (Bs.of w.heap.size) ops v U (Is.stays eP 29 h hbU) (HB.out U hbU) h80)
  have HU := Lib.hid hU
  clear hB hB' h h80 hU hop
  go_enter Try.func6, Try.ntmps6
  go_wp2_with fail
  rw [← HU.out]
  refine HPl.out.mono ?_
  rintro e w1 ⟨a1, n1, c1, a2, n2, c2, n, rfl, hb1, hbl⟩
  obtain ⟨b, hb⟩ : ∃ b, playB ops = b := ⟨_, rfl⟩
  have hR : RightB b := by rw [← hb]; exact play_right _
  rw [hb] at hbl
  have hnb : b.2.2 = n := by
    obtain ⟨x, y, e, _, _⟩ := hbl
    simp only [Value.agg.injEq, Array.mk.injEq, List.cons.injEq, Value.int.injEq, and_true, true_and] at e
    exact e.2.2.symm
  obtain ⟨p, hp⟩ : ∃ p, w1.heap.size = p := ⟨_, rfl⟩
  obtain ⟨M, hM⟩ : ∃ M, M = w1.alloc (.cells #[.slice a1 n1 c1, .slice a2 n2 c2, .int .i64 n] 26) := ⟨_, rfl⟩
  have hbUM : Below U.heap.size U M := nx hb1 (hM ▸ below1 w1 _)
  have hbM := nx hbU hbUM
  have hx0 : Bx B b p #[.slice a1 n1 c1, .slice a2 n2 c2, .int .i64 n] M := by rw [hM, ← hp]; exact Bx.made hbl (HB.out w1 (nx hbU hb1)).1
  obtain ⟨⟨q0, q1, q2, q3, q4⟩, zs⟩ := HOp.out w1 hb1
  rw [hp] at zs
  have HM := Lib.hid hM
  have HX := Lib.hid hx0
  have HR := Lib.hid hR
  have HNb := Lib.hid hnb
  obtain ⟨rs, hrs⟩ : ∃ rs, (o1 != 1) = rs := ⟨_, rfl⟩
  have HRs := Lib.hid hrs
  obtain ⟨C, hC⟩ : ∃ C, place b o2 o3 o4 o5 rs = C := ⟨_, rfl⟩
  have hcase := place_cases (ow := o2) (s := o3) (p := o4) (q := o5) (rest := rs) hR
  rw [hC] at hcase
  have HC := Lib.hid hC
  have HCase := Lib.hid hcase
  clear hM hx0 hbl hb hR hnb HPl hC hcase
  go_wp2_with fail
  rw [← HM.out]
  refine (place_is HC (small_right HR.out) B _ M HX.out.bl (HB.out M hbM)).mono ?_
  rintro e w2 ⟨a3, n3, c3, a4, n4, c4, m3, fa, fn, fc, rfl, hm3, hfn, hd2, hbl2, hfl2⟩
  obtain ⟨lf, hlf⟩ : ∃ lf, C.2.2.1 = lf := ⟨_, rfl⟩
  obtain ⟨id, hid⟩ : ∃ id, C.2.2.2.1 = id := ⟨_, rfl⟩
  obtain ⟨er, her⟩ : ∃ er, C.2.2.2.2 = er := ⟨_, rfl⟩
  obtain ⟨fs, hfs⟩ : ∃ fs, C.2.1 = fs := ⟨_, rfl⟩
  obtain ⟨c, hc⟩ : ∃ c, C.1 = c := ⟨_, rfl⟩
  rw [hlf, hid, her]
  rw [hfs] at hfn hfl2
  rw [hc] at hbl2 hm3
  have hcase2 : (er ≠ 0 ∧ fs = [] ∧ lf = 0 ∧ id = 0) ∨ (er = 0 ∧ PlS b o2 o3 o4 o5 rs fs lf c id) := by
    rcases HCase.out with ⟨e, he, h⟩ | ⟨fs', lf', r, id', h, hs⟩
    · rw [h] at hlf hid her hfs
      exact .inl ⟨by rw [← her]; exact he, hfs.symm, hlf.symm, hid.symm⟩
    · rw [h] at hlf hid her hfs hc
      simp only at hlf hid her hfs hc
      subst hlf hid her hfs hc
      exact .inr ⟨rfl, hs⟩
  obtain ⟨r, hr⟩ : ∃ r, w2.heap.size = r := ⟨_, rfl⟩
  obtain ⟨M2, hM2⟩ : ∃ M, M = w2.alloc (.cells #[.slice a3 n3 c3, .slice a4 n4 c4, .int .i64 m3] 26) := ⟨_, rfl⟩
  have hbMM : Below M.heap.size M M2 := nx hd2 (hM2 ▸ below1 w2 _)
  have hbw2 := nx hbM hd2
  have hbM2 := nx hbM hbMM
  have hbUM2 := nx hbUM hbMM
  have hxr : Bx B c r #[.slice a3 n3 c3, .slice a4 n4 c4, .int .i64 m3] M2 := by rw [hM2, ← hr]; exact Bx.made hbl2 (HB.out w2 hbw2).1
  have HXr := Lib.hid hxr
  have HX2 := Lib.hid (HX.out.stays hbMM)
  have HFl2 := Lib.hid (Is.stays eFl 53 hfl2 (show Below w2.heap.size w2 M2 from hM2 ▸ below1 w2 _))
  have HM2 := Lib.hid hM2
  have HFn := Lib.hid hfn
  have hx2 := HX.out.stays hd2
  clear hM2 hxr hfn hbl2 hfl2 hlf hid her hfs hc HC HCase q0 q1 q2 q3 q4 zs
  rcases hcase2 with ⟨her, hfs, hlf, hid⟩ | ⟨her, hpl⟩
  · have hde : (er != 0) = true := by simpa using her
    have hfn0 : fn = 0 := by rw [← HFn.out, hfs]; rfl
    subst hfn0 hlf hid
    clear her hfs hx2
    go_wp2_with fail
    rw [← HM2.out]
    refine (awake_any M2).mono ?_
    rintro e w3 ⟨rfl, hb3⟩
    go_wp2
    go_ret
    exact ⟨rfl, nx hbM2 hb3⟩
  · exact absurd (argOk_iff.1 hpl.arg).2.2.1 hE
end Go.Proofs.Ytfnmmknbjfmagaa.Bk
