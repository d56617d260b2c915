/- The document's own of layer 10: Cancel. -/
import Derived.Test.YthecinmekoaphaaGreatQaBN
import Derived.Test.YthecinmekoaphaaGreatQaBO
import Derived.Test.YthecinmekoaphaaGreatQaBQ
import Derived.Test.YthecinmekoaphaaGreatQaAZ
set_option linter.unusedVariables false
namespace Go.Proofs.YthecinmekoaphaaGreat.La
open Go.RowKit
open Go.Proofs.YthecinmekoaphaaGreat.Rw
open Go.Proofs.YthecinmekoaphaaGreat.Da
open Go.Proofs.YthecinmekoaphaaGreat.Le
open Go.Proofs.YthecinmekoaphaaGreat.Bk
open Go.Proofs.YthecinmekoaphaaGreat.Ac (Hd Pu HL pmay pmay_iff tot total giveE giveL takeE takeL)
/-- What Cancel tells. -/
def PostCN (B : Bs) (c : Ln × List Hd × Int × Int) (w : World) (e : Ending) (w' : World) : Prop :=
  ∃ v fv, e = .returned (.tuple #[v, fv, .int .i64 c.2.2.1, .int .i64 c.2.2.2]) ∧ Below w.heap.size w w' ∧ LN B c.1 v w' ∧ HL B.lo c.2.1 fv w'
/-- What Cancel of a book tells, at a known answer. -/
def CaR (B : Bs) (b : Bk) (q : Option Od) (er : Int) (w : World) (e : Ending) (w' : World) : Prop :=
  ∃ a1 n1 c1 a2 n2 c2 n, e = .returned (.tuple #[.agg #[.slice a1 n1 c1, .slice a2 n2 c2, .int .i64 n], .agg (cO q), .int .i64 er]) ∧ b.2.2 = n ∧ Below w.heap.size w w' ∧ LL B b.1 (.slice a1 n1 c1) w' ∧ LL B b.2.1 (.slice a2 n2 c2) w'
/-- What cancelling comes to, in three ways. -/
theorem cancelN_ways {l : Ln} {fr : List Hd} {ow id : Int} (h1 : rightN l = true) (h2 : Ac.right fr = true) :
    ∃ C, cancel l.2.2.1 ow id = C ∧ ((C.2.2 ≠ 0 ∧ cancelN l fr ow id = (l, fr, 0, C.2.2)) ∨ ∃ o, C.2.2 = 0 ∧ C.2.1 = some o ∧ okO o ∧
      cancelN l fr ow id = if giveE fr (ow, ndA l.1 l.2.1 o.2.2.1) (ndN o.2.2.1 o.2.2.2.1 o.2.2.2.2) = 0 then ((l.1, l.2.1, C.1, l.2.2.2), giveL fr (ow, ndA l.1 l.2.1 o.2.2.1) (ndN o.2.2.1 o.2.2.2.1 o.2.2.2.2), ndN o.2.2.1 o.2.2.2.1 o.2.2.2.2, 0) else (l, fr, 0, giveE fr (ow, ndA l.1 l.2.1 o.2.2.1) (ndN o.2.2.1 o.2.2.2.1 o.2.2.2.2))) := by
  have hr := rightN_iff.1 h1
  refine ⟨_, rfl, ?_⟩
  unfold cancelN
  rw [h1, h2, if_pos (by rfl)]
  rcases cancel_cases (ow := ow) (id := id) hr.book with ⟨_, h2⟩ | ⟨o, _, _, h2⟩ | ⟨o, k1, k2, k3, k4, _⟩
  · rw [h2]; exact .inl ⟨show (8 : Int) ≠ 0 by decide, rfl⟩
  · rw [h2]; exact .inl ⟨show (9 : Int) ≠ 0 by decide, rfl⟩
  · rw [k4]
    exact .inr ⟨o, rfl, rfl, okO_of hr.book o (fndB_mem k1).1, by simp only [if_true]⟩
theorem cancelB_is {b : Bk} {ow id : Int} {c : Bk × Option Od × Int} (h : Hid (cancel b ow id = c)) (h1 : b.1.length ≤ 1000) (h2 : (flat b.1).length ≤ 1000) (h3 : b.2.1.length ≤ 1000) (h4 : (flat b.2.1).length ≤ 1000) (B : Bs) (v : Value) (w : World) (hb : BL B b v w) (hB : B.le w.heap.size) :
    Calls Tryz.prog 36 #[v, .int .i64 ow, .int .i64 id] w (CaR B c.1 c.2.1 c.2.2 w) := by
  rw [← h.out]
  refine (cancel_any B b v ow id w hb hB h1 h2 h3 h4).mono fun e w' h => ?_
  obtain ⟨bv, rfl, hb, ⟨x, y, rfl, h1, h2⟩⟩ := h
  obtain ⟨a1, c1, rfl⟩ := h1.len
  obtain ⟨a2, c2, rfl⟩ := h2.len
  exact ⟨a1, _, c1, a2, _, c2, _, rfl, rfl, hb, h1, h2⟩
theorem giveH_is {lo : Nat} {l : List Hd} {v : Value} {p q n E : Int} {w : World} (hE : Hid (giveE l (p, q) n = E)) (h : HL lo l v w) (hm : l.length ≤ 1000000) :
    Calls Tryz.prog 34 #[v, .agg #[.int .i64 p, .int .i64 q], .int .i64 n] w fun e w' => ∃ a m c, e = .returned (.tuple #[.slice a m c, .int .i64 E]) ∧ Below w.heap.size w w' ∧ HL lo (giveL l (p, q) n) (.slice a m c) w' := by
  rw [← hE.out]
  refine (Ac.give_any l v p q n w h hm).mono ?_
  rintro e w' ⟨v, rfl, hb, hf⟩
  obtain ⟨a, c, rfl⟩ := hl_slice hf
  exact ⟨a, _, c, rfl, hb, hf⟩
/-- The visitor's owed list is written into its box. -/
theorem VB.owed {B : Bs} {lb lq : Int} {bk : Bk} {od od' : List Hd} {x y o o' : Value} {m : Nat} {w : World} (h : VB B (lb, lq, bk, od) x y o m w) (h3 : HL B.lo od' o' w) :
    VB B (lb, lq, bk, od') x y o' m (w.setCell ⟨m, 5, none⟩ o') ∧ (∀ ts, 74 ∉ ts → ∀ A : Bs, A.lo ≤ m → Da.Keeps A ts w (w.setCell ⟨m, 5, none⟩ o')) ∧ (∀ k, k ≠ m → (w.setCell ⟨m, 5, none⟩ o').heap[k]? = w.heap[k]?) ∧ ∀ n, n ≤ m → Below n w (w.setCell ⟨m, 5, none⟩ o') :=
  ⟨h.set (m := (lb, lq, bk, od')) 5 o' rfl h.l1 h.l2 h3, fun ts ht A hA => keeps_setCell 5 o' h.bk ht hA, fun k hk => Below.heap_setCell _ ⟨m, 5, none⟩ _ k hk, fun n hn => low_setCell 5 o' hn⟩
set_option maxRecDepth 16000 in
set_option maxHeartbeats 16000000 in
theorem lcancel_any (B : Bs) (l : Ln) (v : Value) (fr : List Hd) (fv : Value) (ow id : Int) (w : World) (h : LN B l v w) (hfr : HL B.lo fr fv w) (hB : B.le w.heap.size) (hs : Sm l) (hfm : fr.length ≤ 1000) :
    Calls Tryz.prog 12 #[v, fv, .int .i64 ow, .int .i64 id] w (PostCN B (cancelN l fr ow id) w) := by
  have HSm := Lib.hid hs
  obtain ⟨R, hR⟩ : ∃ R, cancelN l fr ow id = R := ⟨_, rfl⟩
  have HR := Lib.hid hR
  rw [hR]
  obtain ⟨r, hr⟩ : ∃ r, (rightN l && Ac.right fr) = r := ⟨_, rfl⟩
  have HR1 := Lib.hid hr
  have hm1 := hs.m1
  have hm2 := hs.m2
  have hm3 := hs.m3
  have hm4 := hs.m4
  have hm5 := hs.m5
  clear hR hr
  obtain ⟨lb, lq, ⟨bu, se, nn⟩, od⟩ := l
  simp only at hm1 hm2 hm3 hm4 hm5
  obtain ⟨a1, n1, c1, a2, n2, c2, a3, n3, c3, rfl, e1, e2, e3, hl1, hl2, hl3⟩ := h.open'
  simp only at e1 e2 e3 hl1 hl2 hl3
  obtain ⟨V, hV⟩ : ∃ V, V = (w.alloc (.cells (cN lb lq (.slice a1 n1 c1) (.slice a2 n2 c2) nn (.slice a3 n3 c3)) 28)).alloc (.cells (nilN 0 0 0) 28) := ⟨_, rfl⟩
  have hbV : Below w.heap.size w V := hV ▸ below2 w _ _
  have hx0 : LB B (lb, lq, (bu, se, nn), od) (.slice a1 n1 c1) (.slice a2 n2 c2) (.slice a3 n3 c3) w.heap.size V := by rw [hV]; exact (LB.made hl1 hl2 hl3 hB.1).stays (below1 _ _)
  have hg0 : V.heap[w.heap.size + 1]? = some (.cells (nilN 0 0 0) 28 (0, 0)) := by
    have := heap_alloc_new (w.alloc (.cells (cN lb lq (.slice a1 n1 c1) (.slice a2 n2 c2) nn (.slice a3 n3 c3)) 28)) (.cells (nilN 0 0 0) 28)
    rw [World.size_alloc] at this
    rw [hV]; exact this
  have HB := Lib.hid (show ∀ u, Below w.heap.size w u → B.le u.heap.size from fun u hu => hB.mono hu.size)
  have HSt0 := Lib.hid (show St0 B (lb, lq, (bu, se, nn), od) (.slice a1 n1 c1) (.slice a2 n2 c2) (.slice a3 n3 c3) w.heap.size fr fv w V from ⟨hx0, hg0, hl_stays hfr hbV, hbV⟩)
  obtain ⟨fa, fc, rfl⟩ := hl_slice hfr
  obtain ⟨fn, hfn⟩ : ∃ fn, fr.length = fn := ⟨_, rfl⟩
  rw [hfn] at HSt0 hfm ⊢
  have HFn := Lib.hid hfn
  have r0 := hx0.row
  simp only at r0
  rw [hV] at r0
  have HV := Lib.hid hV
  clear hx0 hg0 hl1 hl2 hl3 h hfr hB e1 e2 e3 hV hfn hs
  go_enter Tryz.func12, Tryz.ntmps12
  go_wp2_with fail
  rw [← HV.out]
  refine (areRight_is HR1 HSt0.out.lb.ln HSt0.out.fr (HB.out V hbV) HSm.out (by rw [HFn.out]; exact hfm)).mono ?_
  rintro e w1 ⟨rfl, hb1⟩
  have HSt1 := Lib.hid (HSt0.out.stays hb1)
  clear r0
  cases r
  · have HZ : Hid (R = ((lb, lq, (bu, se, nn), od), fr, 0, 1)) := Lib.hid (by rw [← HR.out]; unfold cancelN; rw [HR1.out, if_neg (by decide)])
    have hrow := HSt1.out.lb.row
    simp only at hrow
    have hpl := HSt1.out.pl
    obtain ⟨z1, z2⟩ := HSt1.out.lt
    go_wp2
    refine bodyPost_ret (v := .tuple #[.agg (cN lb lq (.slice a1 n1 c1) (.slice a2 n2 c2) nn (.slice a3 n3 c3)), .slice fa fn fc, .int .i64 0, .int .i64 1]) (ret_N4 Tryz.results12 _ _ rfl ?c1) rfl ⟨_, _, by rw [HZ.out], ?c2⟩
    case c1 => exact row_set _ hpl
    case c2 =>
      rw [HZ.out]
      exact HSt1.out.ret
  have hrr := HR1.out
  rw [Bool.and_eq_true] at hrr
  have hways := cancelN_ways (l := (lb, lq, (bu, se, nn), od)) (fr := fr) (ow := ow) (id := id) hrr.1 hrr.2
  rw [HR.out] at hways
  simp only at hways
  obtain ⟨C, hC, hways⟩ := hways
  have HC := Lib.hid hC
  have HWays := Lib.hid hways
  clear hC hways hrr
  obtain ⟨_, _, r2, r3, r4, _⟩ := HSt1.out.lb.cells
  simp only at r2 r3 r4
  have z1 := HSt1.out.lt.1
  have hbw1 : Below w.heap.size w w1 := HSt1.out.bel
  go_wp2_with fail
  refine (cancelB_is HC hm1 hm2 hm3 hm4 B _ w1 HSt1.out.lb.bl (HB.out w1 hbw1)).mono ?_
  rintro e w5 ⟨b1, k1, d1, b2, k2, d2, n', rfl, hnn', hb5, hlb1, hlb2⟩
  clear r2 r3 r4 z1
  obtain ⟨er, her⟩ : ∃ er, C.2.2 = er := ⟨_, rfl⟩
  obtain ⟨oo, hoo⟩ : ∃ oo, C.2.1 = oo := ⟨_, rfl⟩
  rw [her, hoo]
  have hoz := cO_size oo
  have ho1 : oneAll (.agg (cO oo)) = true := by cases oo <;> exact one5 _ _ _ _ _
  have HQ := Lib.hid (show C.2.2 = er ∧ C.2.1 = oo ∧ C.1.2.2 = n' from ⟨her, hoo, hnn'⟩)
  obtain ⟨M5, hM5⟩ : ∃ M, M = (w5.alloc (.cells #[.slice b1 k1 d1, .slice b2 k2 d2, .int .i64 n'] 25)).alloc (.cells (cO oo) 70) := ⟨_, rfl⟩
  have hbM5 : Below w5.heap.size w5 M5 := hM5 ▸ below2 w5 _ _
  have HSt5 := Lib.hid ((HSt1.out.stays hb5).stays hbM5)
  have hst5' := HSt1.out.stays hb5
  have hzM5 : M5.heap.size = w5.heap.size + 2 := by rw [hM5]; simp
  have hbo : M5.heap[w5.heap.size + 1]? = some (.cells (cO oo) 70 (0, 0)) := by
    have := heap_alloc_new (w5.alloc (.cells #[.slice b1 k1 d1, .slice b2 k2 d2, .int .i64 n'] 25)) (.cells (cO oo) 70)
    rw [World.size_alloc] at this
    rw [hM5]; exact this
  have hbb : M5.heap[w5.heap.size]? = some (.cells #[.slice b1 k1 d1, .slice b2 k2 d2, .int .i64 n'] 25 (0, 0)) := by
    rw [hM5, Below.heap_alloc _ _ _ (by simp)]; exact heap_alloc_new w5 _
  have HBk := Lib.hid (show M5.heap[w5.heap.size]? = some (.cells #[.slice b1 k1 d1, .slice b2 k2 d2, .int .i64 n'] 25 (0, 0)) ∧ LL B C.1.1 (.slice b1 k1 d1) M5 ∧ LL B C.1.2.1 (.slice b2 k2 d2) M5 from ⟨hbb, Is.stays eL 98 hlb1 hbM5, Is.stays eL 98 hlb2 hbM5⟩)
  have HBo := Lib.hid hbo
  have hz5 : w.heap.size < w5.heap.size ∧ w.heap.size + 1 < w5.heap.size := hst5'.lt
  have HZ5 := Lib.hid hz5.2
  have HM5 := Lib.hid hM5
  clear her hoo hnn' hlb1 hlb2 hM5 hst5' hz5 hbb hbo
  go_upto_region 4 with fail
  rw [← HM5.out]
  by_cases hne : er ≠ 0
  · have hde : (er != 0) = true := by simpa using hne
    have HZ : Hid (R = ((lb, lq, (bu, se, nn), od), fr, 0, er)) := Lib.hid (by
      rcases HWays.out with ⟨_, h⟩ | ⟨o, h, _⟩
      · rw [h, HQ.out.1]
      · exact absurd (HQ.out.1.symm.trans h) hne)
    clear hne
    have hrow := HSt5.out.lb.row
    simp only at hrow
    have hpl := HSt5.out.pl
    obtain ⟨z1, z2⟩ := HSt5.out.lt
    go_wp2
    refine bodyPost_ret (v := .tuple #[.agg (cN lb lq (.slice a1 n1 c1) (.slice a2 n2 c2) nn (.slice a3 n3 c3)), .slice fa fn fc, .int .i64 0, .int .i64 er]) (ret_N4 Tryz.results12 _ _ rfl ?c1) rfl ⟨_, _, by rw [HZ.out], ?c2⟩
    case c1 => exact row_set _ hpl
    case c2 =>
      rw [HZ.out]
      exact HSt5.out.ret
  obtain rfl : 0 = er := by have : er = 0 := by simpa using hne
                            exact this.symm
  obtain ⟨⟨x1, x2, x3, x4, x5⟩, ho, hok, hP⟩ : ∃ o, oo = some o ∧ okO o ∧ R = if giveE fr (ow, ndA lb lq o.2.2.1) (ndN o.2.2.1 o.2.2.2.1 o.2.2.2.2) = 0 then ((lb, lq, C.1, od), giveL fr (ow, ndA lb lq o.2.2.1) (ndN o.2.2.1 o.2.2.2.1 o.2.2.2.2), ndN o.2.2.1 o.2.2.2.1 o.2.2.2.2, 0) else ((lb, lq, (bu, se, nn), od), fr, 0, giveE fr (ow, ndA lb lq o.2.2.1) (ndN o.2.2.1 o.2.2.2.1 o.2.2.2.2)) := by
    rcases HWays.out with ⟨h, _⟩ | ⟨o, _, h1, h2, h3⟩
    · exact absurd HQ.out.1 h
    · exact ⟨o, HQ.out.2.1.symm.trans h1, h2, h3⟩
  subst ho
  unfold okO at hok
  simp only at hok hP
  obtain ⟨n2', hn2⟩ : ∃ n2, ndN x3 x4 x5 = n2 := ⟨_, rfl⟩
  obtain ⟨ga, hga⟩ : ∃ ga, ndA lb lq x3 = ga := ⟨_, rfl⟩
  have HNd := Lib.hid (show ndN x3 x4 x5 = n2' ∧ ndA lb lq x3 = ga from ⟨hn2, hga⟩)
  rw [hn2, hga] at hP
  have HP := Lib.hid hP
  have hF : ∀ u, Below M5.heap.size M5 u → row u w.heap.size = cN lb lq (.slice a1 n1 c1) (.slice a2 n2 c2) nn (.slice a3 n3 c3) ∧ u.cell? ⟨w5.heap.size + 1, 2, none⟩ = some (.int .i64 x3) ∧ u.cell? ⟨w5.heap.size + 1, 3, none⟩ = some (.int .i64 x4) ∧ u.cell? ⟨w5.heap.size + 1, 4, none⟩ = some (.int .i64 x5) := fun u hu => by
    have hb := (hu.block _ (by omega)).trans HBo.out
    have hr := (HSt5.out.stays hu).lb.row
    refine ⟨hr, ?_, ?_, ?_⟩ <;> simp [World.cell?, hb, cO]
  have HFr := Lib.hid (show fr.length ≤ 1000000 from by rw [HFn.out]; omega)
  clear hne hn2 hga hP hoz ho1
  go_upto_region 6 with fail
  go_cut [15, 16] (fun p q u => ∃ pb : Nat, p = .pointer (some ⟨pb, 0, none⟩) ∧ q = .int .i64 n2' ∧ M5.heap.size ≤ pb ∧ VB B (lb, lq, (bu, se, nn), od) (.slice a1 n1 c1) (.slice a2 n2 c2) (.slice a3 n3 c3) pb u ∧ Below M5.heap.size M5 u)
  case first =>
    as_aux_lemma =>
      refine Rh.region (fun u => Below M5.heap.size M5 u) (fun u => Below M5.heap.size M5 u) (fun _ _ h k => nx h k) (fun _ _ h k => nx h k) ((Below.refl _ _).drew) ((Below.refl _ _).drew) [0, 1, 2, 3, 4, 5, 6, 7, 8, 9, 10, 11] (by kernel_rfl) (by kernel_rfl) (by kernel_rfl) (fun _ _ d _ _ h => by cases d <;> exact h) ?_
      repeat (first | (refine Rh.Steps.skip (by rfl) (by kernel_rfl) (by rfl) ?_; simp only [Act.put, List.setIfInBounds_toArray, List.set_cons_zero, List.set_cons_succ]) | (refine Rh.Steps.pure (v := ?_) (by rfl) (by kernel_rfl) (by rfl) ?_ ?_; rotate_left; (intro w_ hS_; have hk_ := hF w_ hS_; go_simp <;> with_reducible rfl); simp only [Act.put, List.setIfInBounds_toArray, List.set_cons_zero, List.set_cons_succ]) | (refine Rh.Steps.call (v := ?_) (f := ?_) (args := ?_) (by rfl) (by kernel_rfl) (by rfl) ?_ ?_ ?_; rotate_left 3; (intro w_ hS_; have hk_ := hF w_ hS_; go_simp <;> first | with_reducible rfl | (constructor <;> with_reducible rfl)); (intro w_ hS_; have hk_ := hF w_ hS_; first | (go_at_call 37; refine (need_any x3 x4 x5 _ ⟨hok.1, hok.2.1⟩ ⟨hok.2.2.1, hok.2.2.2⟩).mono ?_; first | (rintro e w_ ⟨rfl, rfl⟩; refine ⟨?_, Below.refl _ _⟩; with_reducible rfl) | (rintro e w_ ⟨rfl, hb_⟩; refine ⟨?_, hb_⟩; with_reducible rfl))); simp only [Act.put, List.setIfInBounds_toArray, List.set_cons_zero, List.set_cons_succ]))
      refine Rh.Steps.forced (i := 9) (by kernel_rfl) ?_
      refine Rh.One.new (fun v u => ∃ pb : Nat, v = .pointer (some ⟨pb, 0, none⟩) ∧ M5.heap.size ≤ pb ∧ u.heap[pb]? = some (.cells (nilN 0 0 0) 74 (0, 0)) ∧ Below M5.heap.size M5 u) (fun _ _ _ ⟨pb, e, h1, h2, h3⟩ k => ⟨pb, e, h1, (k.block pb (Array.getElem?_eq_some_iff.1 h2).1).trans h2, nx h3 k⟩) (by rfl) (by rfl) ?_ ?_
      · intro w_ hS_ _
        exact ⟨_, _, by go_simp <;> rfl, nx hS_ (below1 w_ _), _, rfl, hS_.size, heap_alloc_new w_ (.cells (nilN 0 0 0) 74), nx hS_ (below1 w_ _)⟩
      rintro v9 u9 ⟨pb, rfl, hpb, -, -⟩
      simp only [Act.put, List.setIfInBounds_toArray, List.set_cons_zero, List.set_cons_succ]
      refine Rh.Steps.forced (i := 10) (by kernel_rfl) ?_
      refine Rh.One.store (fun u => VB B (lb, lq, (bu, se, nn), od) (.slice a1 n1 c1) (.slice a2 n2 c2) (.slice a3 n3 c3) pb u ∧ Below M5.heap.size M5 u) (fun _ _ h k => ⟨h.1.stays k, nx h.2 k⟩) (by rfl) (by rfl) ?_ ?_
      · intro w_ hS_ hG_
        obtain ⟨pb', e, h1, h2, h3⟩ := hG_
        injection e with e
        injection e with e
        injection e with e
        subst e
        have hp : plain 6 w_ pb = true := by simp [Rw.plain, h2]
        have hz := (Array.getElem?_eq_some_iff.1 h2).1
        have hx := (HSt5.out.stays hS_).lb
        refine ⟨w_.setRow pb (cN lb lq (.slice a1 n1 c1) (.slice a2 n2 c2) nn (.slice a3 n3 c3)), by go_simp, below_setRow hS_ h1 _, ?_, below_setRow hS_ h1 _⟩
        have hlo : B.lo ≤ pb := by have := HSt5.out.lb.lo; have := HSt5.out.lb.lt; omega
        exact VB.put (m := (lb, lq, (bu, se, nn), od)) h2 hlo hx.l1 hx.l2 hx.l3
      repeat (first | (refine Rh.Steps.skip (by rfl) (by kernel_rfl) (by rfl) ?_; simp only [Act.put, List.setIfInBounds_toArray, List.set_cons_zero, List.set_cons_succ]) | (refine Rh.Steps.pure (v := ?_) (by rfl) (by kernel_rfl) (by rfl) ?_ ?_; rotate_left; (intro w_ hS_; skip; go_simp <;> with_reducible rfl); simp only [Act.put, List.setIfInBounds_toArray, List.set_cons_zero, List.set_cons_succ]))
      refine Rh.Steps.nil (by kernel_rfl) ?_
      rintro w9 _ hG9
      go_wp2_with fail
      go_meet
      exact ⟨pb, rfl, by rw [HNd.out.1], hpb, hG9.1, hG9.2⟩
  case rest =>
    obtain ⟨pb, rfl, rfl, hpb, hvb, hb6⟩ := hcut
    have HVB := Lib.hid hvb
    have HSt6 := Lib.hid (HSt5.out.stays hb6)
    have HPb := Lib.hid (show w.heap.size + 1 < pb by have := HZ5.out; omega)
    obtain ⟨E2, hE2⟩ : ∃ E, giveE fr (ow, ga) n2' = E := ⟨_, rfl⟩
    have HE2 := Lib.hid hE2
    have r0 := hvb.row
    simp only at r0
    have z0 := hvb.lt
    obtain ⟨_, o2, _, _⟩ := hF wc hb6
    have zo : w5.heap.size + 1 < wc.heap.size := by have := hb6.size; omega
    clear hvb hE2
    go_wp2_with fail
    refine (lpurse_any lb lq nn _ _ _ _ _ _ _ _ _ ow x3 wc).mono ?_
    rintro e w6 ⟨rfl, hb7⟩
    rw [HNd.out.2]
    have HSt7 := Lib.hid (HSt6.out.stays hb7)
    clear r0 z0 o2 zo
    go_wp2_with fail
    refine (giveH_is HE2 HSt7.out.fr HFr.out).mono ?_
    rintro e w10 ⟨a11, n11, c11, rfl, hb10, hf2⟩
    have HSt10 := Lib.hid (HSt7.out.stays hb10)
    have hb610 := nx hb7 hb10
    have HVB10 := Lib.hid (HVB.out.stays hb610)
    by_cases hne2 : E2 ≠ 0
    · have hde2 : (E2 != 0) = true := by simpa using hne2
      have HZ : Hid (R = ((lb, lq, (bu, se, nn), od), fr, 0, E2)) := Lib.hid (by rw [HP.out, HE2.out, if_neg hne2])
      clear hne2
      have hrow := HSt10.out.lb.row
      simp only at hrow
      have hpl := HSt10.out.pl
      obtain ⟨z1, z2⟩ := HSt10.out.lt
      go_wp2
      refine bodyPost_ret (v := .tuple #[.agg (cN lb lq (.slice a1 n1 c1) (.slice a2 n2 c2) nn (.slice a3 n3 c3)), .slice fa fn fc, .int .i64 0, .int .i64 E2]) (ret_N4 Tryz.results12 _ _ rfl ?c1) rfl ⟨_, _, by rw [HZ.out], ?c2⟩
      case c1 => exact row_set _ hpl
      case c2 =>
        rw [HZ.out]
        exact HSt10.out.ret
    have hE20 : E2 = 0 := by simpa using hne2
    have hde2 : (E2 != 0) = false := by simpa using hE20
    have HP6 : Hid (R = ((lb, lq, C.1, od), giveL fr (ow, ga) n2', n2', 0)) := Lib.hid (by rw [HP.out, HE2.out, if_pos hE20])
    have hbM10 := nx hb6 hb610
    have HBk10 := Lib.hid (show w10.heap[w5.heap.size]? = some (.cells #[.slice b1 k1 d1, .slice b2 k2 d2, .int .i64 n'] 25 (0, 0)) ∧ LL B C.1.1 (.slice b1 k1 d1) w10 ∧ LL B C.1.2.1 (.slice b2 k2 d2) w10 from ⟨(hbM10.block _ (Array.getElem?_eq_some_iff.1 HBk.out.1).1).trans HBk.out.1, Is.stays eL 98 HBk.out.2.1 hbM10, Is.stays eL 98 HBk.out.2.2 hbM10⟩)
    have hS0 : ∀ u, (u.heap[w5.heap.size]? = w10.heap[w5.heap.size]? ∧ u.heap[w.heap.size]? = w10.heap[w.heap.size]? ∧ w10.heap.size ≤ u.heap.size) → row u w5.heap.size = #[.slice b1 k1 d1, .slice b2 k2 d2, .int .i64 n'] ∧ u.cell? ⟨w.heap.size, 5, none⟩ = some (.slice a3 n3 c3) := fun u hu => by
      have hl := HSt10.out.lb.bk
      refine ⟨?_, ?_⟩
      · unfold Rw.row; rw [hu.1, HBk10.out.1]
      · simp [World.cell?, hu.2.1, hl]
    have HF2 := Lib.hid hf2
    have HVz := Lib.hid HVB10.out.lt
    have hodm : od.length ≤ 1000000 := by omega
    clear hne2 hE20 hf2 hF
    go_upto_region 10 with fail
    refine Rh.region (fun u => u.heap[w5.heap.size]? = w10.heap[w5.heap.size]? ∧ u.heap[w.heap.size]? = w10.heap[w.heap.size]? ∧ w10.heap.size ≤ u.heap.size) (fun u => Below w10.heap.size w10 u) (fun u u' h k => ⟨(k.block _ (Nat.lt_of_lt_of_le (Array.getElem?_eq_some_iff.1 HBk10.out.1).1 h.2.2)).trans h.1, (k.block _ (Nat.lt_of_lt_of_le HSt10.out.lb.lt h.2.2)).trans h.2.1, Nat.le_trans h.2.2 k.size⟩) (fun _ _ h k => nx h k) (⟨rfl, rfl, Nat.le_refl _⟩) ((Below.refl _ _).drew) [0, 1, 2, 4, 5, 3, 6, 7, 8, 9] (by kernel_rfl) (by kernel_rfl) (by kernel_rfl) (fun _ _ d _ _ h => by cases d <;> exact h) ?_
    repeat (first | (refine Rh.Steps.skip (by rfl) (by kernel_rfl) (by rfl) ?_; simp only [Act.put, List.setIfInBounds_toArray, List.set_cons_zero, List.set_cons_succ]) | (refine Rh.Steps.pure (v := ?_) (by rfl) (by kernel_rfl) (by rfl) ?_ ?_; rotate_left; (intro w_ hS_; have hk_ := hS0 w_ hS_; go_simp <;> with_reducible rfl); simp only [Act.put, List.setIfInBounds_toArray, List.set_cons_zero, List.set_cons_succ]))
    refine Rh.Steps.forced (i := 3) (by kernel_rfl) ?_
    refine Rh.One.call (fun v u => HL B.lo od v u) (fun v _ _ h k => hl_stays h k) (f := ?_) (args := ?_) (by rfl) (by rfl) ?_ ?_ ?_
    rotate_left 2
    · intro w_ hS_ hG_; go_simp <;> first | with_reducible rfl | (constructor <;> with_reducible rfl)
    · intro w_ hS_ hG_; (go_at_call 39; refine (cloneH_any (lo := B.lo) od _ w_ (HSt10.out.stays hG_).lb.l3 (HB.out w_ (HSt10.out.stays hG_).bel).1 hodm).mono ?_; rintro e w' ⟨v, rfl, hb9, ho⟩; exact ⟨v, rfl, hb9, is_hl (ho.is (by decide) ⟨(HB.out w_ (HSt10.out.stays hG_).bel).1, fun _ h => h.elim⟩)⟩)
    intro v1 u_ hv1
    simp only [Act.put, List.setIfInBounds_toArray, List.set_cons_zero, List.set_cons_succ]
    obtain ⟨a12, c12, rfl⟩ := hl_slice hv1
    refine Rh.Steps.forced (i := 6) (by kernel_rfl) ?_
    refine Rh.One.store (fun u => VB B (lb, lq, C.1, od) (.slice b1 k1 d1) (.slice b2 k2 d2) (.slice a3 n3 c3) pb u ∧ HL B.lo od (.slice a12 od.length c12) u ∧ HL B.lo (giveL fr (ow, ga) n2') (.slice a11 n11 c11) u ∧ u.heap[w.heap.size + 1]? = some (.cells (nilN 0 0 0) 28 (0, 0)) ∧ Below w.heap.size w u) (fun _ _ h k => ⟨h.1.stays k, hl_stays h.2.1 k, hl_stays h.2.2.1 k, (k.block _ (Array.getElem?_eq_some_iff.1 h.2.2.2.1).1).trans h.2.2.2.1, h.2.2.2.2.trans (k.mono (by have := (Array.getElem?_eq_some_iff.1 h.2.2.2.1).1; omega))⟩) (by rfl) (by rfl) ?_ ?_
    · intro w_ hS_ hG_
      have hvb := HVB10.out.stays hG_.1
      have hst := HSt10.out.stays hG_.1
      obtain ⟨m0, m1, m2, m3, m4, m5⟩ := hvb.cells
      simp only at m0 m1 m2 m3 m4 m5
      have mf2 := hvb.free 2
      have mf3 := hvb.free 3
      have mf4 := hvb.free 4
      obtain ⟨k1', k2', k3', k4'⟩ := hvb.book (bk' := C.1) (n' := n') (Is.stays eL 98 HBk10.out.2.1 hG_.1) (Is.stays eL 98 HBk10.out.2.2 hG_.1) HQ.out.2.2
      have hkb : pb ≠ w5.heap.size ∧ pb ≠ w.heap.size ∧ pb ≠ w.heap.size + 1 := by have := HPb.out; have := hzM5; omega
      have hlo := hvb.lo
      refine ⟨((w_.setCell ⟨pb, 2, none⟩ (.slice b1 k1 d1)).setCell ⟨pb, 3, none⟩ (.slice b2 k2 d2)).setCell ⟨pb, 4, none⟩ (.int .i64 n'), ?_, ⟨(k3' _ hkb.1.symm).trans hS_.1, (k3' _ hkb.2.1.symm).trans hS_.2.1, by simp; exact hS_.2.2⟩, k1', hl_keep hG_.2 (k2' _ (by decide) _ hlo), hl_keep (hl_stays HF2.out hG_.1) (k2' _ (by decide) _ hlo), (k3' _ hkb.2.2.symm).trans hst.g, hst.bel.trans (k4' _ (by have := HPb.out; omega))⟩
      clear k1' k2' k3' k4' hvb hst hG_ hS_
      go_simp
    repeat (first | (refine Rh.Steps.skip (by rfl) (by kernel_rfl) (by rfl) ?_; simp only [Act.put, List.setIfInBounds_toArray, List.set_cons_zero, List.set_cons_succ]) | (refine Rh.Steps.pure (v := ?_) (by rfl) (by kernel_rfl) (by rfl) ?_ ?_; rotate_left; (intro w_ hS_; skip; go_simp <;> with_reducible rfl); simp only [Act.put, List.setIfInBounds_toArray, List.set_cons_zero, List.set_cons_succ]))
    refine Rh.Steps.forced (i := 9) (by kernel_rfl) ?_
    refine Rh.One.store (fun u => VB B (lb, lq, C.1, od) (.slice b1 k1 d1) (.slice b2 k2 d2) (.slice a12 od.length c12) pb u ∧ HL B.lo (giveL fr (ow, ga) n2') (.slice a11 n11 c11) u ∧ u.heap[w.heap.size + 1]? = some (.cells (nilN 0 0 0) 28 (0, 0)) ∧ Below w.heap.size w u) (fun _ _ h k => ⟨h.1.stays k, hl_stays h.2.1 k, (k.block _ (Array.getElem?_eq_some_iff.1 h.2.2.1).1).trans h.2.2.1, h.2.2.2.trans (k.mono (by have := (Array.getElem?_eq_some_iff.1 h.2.2.1).1; omega))⟩) (by rfl) (by rfl) ?_ ?_
    · intro w_ hS_ hG_
      obtain ⟨hvb, hcl, hfl, hgg, hbw⟩ := hG_
      obtain ⟨m0, m1, m2, m3, m4, m5⟩ := hvb.cells
      simp only at m0 m1 m2 m3 m4 m5
      have mf5 := hvb.free 5
      obtain ⟨k1', k2', k3', k4'⟩ := hvb.owed hcl
      have hkb : pb ≠ w5.heap.size ∧ pb ≠ w.heap.size ∧ pb ≠ w.heap.size + 1 := by have := HPb.out; have := hzM5; omega
      have hlo := hvb.lo
      refine ⟨w_.setCell ⟨pb, 5, none⟩ (.slice a12 od.length c12), ?_, ⟨(k3' _ hkb.1.symm).trans hS_.1, (k3' _ hkb.2.1.symm).trans hS_.2.1, by simp; exact hS_.2.2⟩, k1', hl_keep hfl (k2' _ (by decide) _ hlo), (k3' _ hkb.2.2.symm).trans hgg, hbw.trans (k4' _ (by have := HPb.out; omega))⟩
      clear k1' k2' k3' k4' hvb hS_
      go_simp
    refine Rh.Steps.nil (by kernel_rfl) ?_
    rintro w9 _ ⟨hvb, hfl, hgg, hbw⟩
    have hrow := hvb.row
    have z9 := hvb.lt
    simp only at hrow
    rw [HQ.out.2.2] at hrow
    have hpl : plain 6 w9 (w.heap.size + 1) = true := by simp [Rw.plain, hgg]
    have zg := (Array.getElem?_eq_some_iff.1 hgg).1
    have HVB9 := Lib.hid hvb
    have HFL9 := Lib.hid hfl
    have HG9 := Lib.hid hgg
    have HB9 := Lib.hid hbw
    clear hvb hfl hgg hbw hS0
    go_wp2
    refine bodyPost_ret (v := .tuple #[.agg (cN lb lq (.slice b1 k1 d1) (.slice b2 k2 d2) n' (.slice a12 od.length c12)), .slice a11 n11 c11, .int .i64 n2', .int .i64 0]) (ret_N4 Tryz.results12 _ _ rfl ?c1) rfl ⟨_, _, by rw [HP6.out], ?c2⟩
    case c1 => exact row_set _ hpl
    case c2 =>
      rw [HP6.out]
      have hlo := HVB9.out.lo
      have hlo1 : B.lo ≤ w.heap.size + 1 := by have := HSt5.out.lb.lo; omega
      have hkk : ∀ A : Bs, A.lo ≤ w.heap.size + 1 → ∀ ts, 28 ∉ ts → Da.Keeps A ts w9 (w9.setRow (w.heap.size + 1) (cN lb lq (.slice b1 k1 d1) (.slice b2 k2 d2) n' (.slice a12 od.length c12))) := fun A hA ts ht => keeps_setRow _ HG9.out ht hA
      refine ⟨below_setRow HB9.out (Nat.le_succ _) _, ⟨.slice b1 k1 d1, .slice b2 k2 d2, .slice a12 od.length c12, by rw [HQ.out.2.2], Is.keep eL 98 HVB9.out.l1 (hkk _ hlo1 _ (by decide)), Is.keep eL 98 HVB9.out.l2 (hkk _ hlo1 _ (by decide)), hl_keep HVB9.out.l3 (hkk (Bs.of B.lo) hlo1 _ (by decide))⟩, hl_keep HFL9.out (hkk (Bs.of B.lo) hlo1 _ (by decide))⟩
/-- What Collect tells. -/
def PostCo (B : Bs) (c : Ln × List Hd × Int × Int × Int) (w : World) (e : Ending) (w' : World) : Prop :=
  ∃ v fv, e = .returned (.tuple #[v, fv, .int .i64 c.2.2.1, .int .i64 c.2.2.2.1, .int .i64 c.2.2.2.2]) ∧ Below w.heap.size w w' ∧ LN B c.1 v w' ∧ HL B.lo c.2.1 fv w'
end Go.Proofs.YthecinmekoaphaaGreat.La
namespace Go.Proofs.YthecinmekoaphaaGreat.La
open Go.RowKit
open Go.Proofs.YthecinmekoaphaaGreat.Rw
open Go.Proofs.YthecinmekoaphaaGreat.Da
open Go.Proofs.YthecinmekoaphaaGreat.Le
open Go.Proofs.YthecinmekoaphaaGreat.Bk
open Go.Proofs.YthecinmekoaphaaGreat.Ro
open Go.Proofs.YthecinmekoaphaaGreat.Ac (Hd Pu HL pmay pmay_iff tot total giveE giveL takeE takeL)
theorem get_notOf {ow : Int} (q : Pu) : ∀ (l : List Hd), Ac.get (l.filter (notOf ow)) q = if q.1 = ow then 0 else Ac.get l q
  | [] => by simp [Ac.get]
  | h :: r => by
    have ih := get_notOf (ow := ow) q r
    by_cases e : h.1 = ow
    · have hf : notOf ow h = false := by simp [notOf, e]
      rw [List.filter_cons, hf, if_neg (by decide), ih]
      by_cases k : q.1 = ow
      · rw [if_pos k, if_pos k]
      · rw [if_neg k, if_neg k, Ac.get]
        rw [if_neg (fun x => k (by rw [← x]; exact e))]
    · have hf : notOf ow h = true := by simp [notOf, e]
      rw [List.filter_cons, hf, if_pos rfl, Ac.get, ih, Ac.get]
      by_cases k : Ac.key h = q
      · rw [if_pos k, if_pos k, if_neg (fun x => e (by rw [← x, ← k]; rfl))]
      · rw [if_neg k, if_neg k]
theorem right_notOf {ow : Int} {l : List Hd} (h : Ac.Right l) : Ac.Right (l.filter (notOf ow)) :=
  ⟨fun x hx => h.1 x (List.mem_filter.1 hx).1, h.2.filter _⟩
/-- What an owner is owed is taken, or left out. -/
theorem collect_notOf {lb lq ow : Int} {od : List Hd} (h : Ac.Right od) (ho : only lb lq od = true) (hne : lb ≠ lq) (hp : pmay (ow, lb) = true) (hq : pmay (ow, lq) = true) :
    takeL (takeL od (ow, lb) (Ac.get od (ow, lb))) (ow, lq) (Ac.get od (ow, lq)) = od.filter (notOf ow) := by
  have p1 := Ac.get_pos (p := (ow, lb)) h
  have p2 := Ac.get_pos (p := (ow, lq)) h
  have e1 : takeE od (ow, lb) (Ac.get od (ow, lb)) = 0 := (Ac.take_plays h hp).2 ⟨p1.1, Int.le_refl _⟩
  obtain ⟨r1, g1, _⟩ := Ac.take_done h hp e1
  have hq1 : Ac.get (takeL od (ow, lb) (Ac.get od (ow, lb))) (ow, lq) = Ac.get od (ow, lq) := by
    rw [g1, if_neg (fun e => hne (Prod.mk.inj e).2.symm)]
  have e2 : takeE (takeL od (ow, lb) (Ac.get od (ow, lb))) (ow, lq) (Ac.get od (ow, lq)) = 0 := (Ac.take_plays r1 hq).2 ⟨p2.1, by rw [hq1]; exact Int.le_refl _⟩
  obtain ⟨r2, g2, _⟩ := Ac.take_done r1 hq e2
  refine Ac.right_ext r2 (right_notOf h) fun u => ?_
  rw [g2, get_notOf, hq1]
  by_cases k2 : u = (ow, lq)
  · rw [if_pos k2, if_pos (by rw [k2])]; omega
  · rw [if_neg k2, g1]
    by_cases k1 : u = (ow, lb)
    · rw [if_pos k1, if_pos (by rw [k1])]; omega
    · rw [if_neg k1]
      by_cases k : u.1 = ow
      · rw [if_pos k]
        refine Ac.get_none fun x hx e => ?_
        unfold only at ho
        have := List.all_eq_true.1 ho x hx
        rw [Bool.or_eq_true, beq_iff_eq, beq_iff_eq] at this
        rcases this with a | a
        · exact k1 (by rw [← e]; exact Prod.ext (by show x.1 = ow; rw [← k, ← e]; rfl) a)
        · exact k2 (by rw [← e]; exact Prod.ext (by show x.1 = ow; rw [← k, ← e]; rfl) a)
      · rw [if_neg k]
/-- Two may come now. -/
theorem steps_two {P : Program} {ops : Array Oper} {Q : Exit → Act → World → Prop} {md : Region.Mode} {S G : World → Prop} {i j : Nat} {ord ord' : List Nat} {listed : Array Bool} {a : Act}
    (hr : Region.ready md ops listed = [i, j]) (hl : ord'.length = ord.length) (h : Rh.One P md ops Q S i ord listed a G) (k : Rh.One P md ops Q S j ord' listed a G) : Rh.Steps P md ops Q S (i :: ord) listed a G := fun hs hQ sS st =>
  ⟨fun e => absurd hr (by rw [e]; exact fun x => by cases x), fun x hx => by
    rw [hr] at hx
    simp at hx
    rcases hx with rfl | rfl
    · exact h hs hQ sS st
    · have := k hs hQ sS st
      rw [hl] at this
      exact this⟩
/-- A block of the call's own, seen by a pointer. -/
def AtB (T : TypeId) (cs : Array Value) (lo : Nat) (v : Value) (u : World) : Prop := ∃ b, v = .pointer (some ⟨b, 0, none⟩) ∧ lo ≤ b ∧ u.heap[b]? = some (.cells cs T (0, 0))
theorem AtB.stays {T : TypeId} {cs : Array Value} {lo : Nat} {v : Value} {u u' : World} (h : AtB T cs lo v u) (k : Below u.heap.size u u') : AtB T cs lo v u' := by
  obtain ⟨b, e, h1, h2⟩ := h
  exact ⟨b, e, h1, (k.block b (Array.getElem?_eq_some_iff.1 h2).1).trans h2⟩
theorem AtB.inv {T : TypeId} {cs : Array Value} {lo b : Nat} {u : World} (h : AtB T cs lo (.pointer (some ⟨b, 0, none⟩)) u) : lo ≤ b ∧ u.heap[b]? = some (.cells cs T (0, 0)) := by
  obtain ⟨b', e, h1, h2⟩ := h
  injection e with e
  injection e with e
  injection e with e
  subst e
  exact ⟨h1, h2⟩
theorem AtB.made (T : TypeId) (cs : Array Value) {lo : Nat} {w : World} (h : lo ≤ w.heap.size) : AtB T cs lo (.pointer (some ⟨w.heap.size, 0, none⟩)) (w.alloc (.cells cs T)) := ⟨_, rfl, h, heap_alloc_new w _⟩
/-- The lane's box, the owner's, the result's, and what is free. -/
structure St1 (B : Bs) (l : Ln) (x y o : Value) (ow : Int) (s : Nat) (fr : List Hd) (fv : Value) (w wr : World) : Prop where
  lb : LB B l x y o s wr
  ob : wr.heap[s + 1]? = some (.cells #[.int .i64 ow] 3 (0, 0))
  g : wr.heap[s + 1 + 1]? = some (.cells (nilN 0 0 0) 28 (0, 0))
  fr : HL B.lo fr fv wr
  bel : Below s w wr
theorem St1.stays {B : Bs} {l : Ln} {x y o : Value} {ow : Int} {s : Nat} {fr : List Hd} {fv : Value} {w wr u : World} (h : St1 B l x y o ow s fr fv w wr) (hb : Below wr.heap.size wr u) : St1 B l x y o ow s fr fv w u :=
  ⟨h.lb.stays hb, (hb.block _ (Array.getElem?_eq_some_iff.1 h.ob).1).trans h.ob, (hb.block _ (Array.getElem?_eq_some_iff.1 h.g).1).trans h.g, hl_stays h.fr hb, h.bel.trans (hb.mono (Nat.le_of_lt h.lb.lt))⟩
theorem St1.lt {B : Bs} {l : Ln} {x y o : Value} {ow : Int} {s : Nat} {fr : List Hd} {fv : Value} {w wr : World} (h : St1 B l x y o ow s fr fv w wr) : s < wr.heap.size ∧ s + 1 < wr.heap.size ∧ s + 1 + 1 < wr.heap.size := ⟨h.lb.lt, (Array.getElem?_eq_some_iff.1 h.ob).1, (Array.getElem?_eq_some_iff.1 h.g).1⟩
theorem St1.pl {B : Bs} {l : Ln} {x y o : Value} {ow : Int} {s : Nat} {fr : List Hd} {fv : Value} {w wr : World} (h : St1 B l x y o ow s fr fv w wr) : plain 6 wr (s + 1 + 1) = true := by simp [Rw.plain, h.g]
theorem St1.own {B : Bs} {l : Ln} {x y o : Value} {ow : Int} {s : Nat} {fr : List Hd} {fv : Value} {w wr : World} (h : St1 B l x y o ow s fr fv w wr) : wr.cell? ⟨s + 1, 0, none⟩ = some (.int .i64 ow) := by simp [World.cell?, h.ob]
theorem St1.ret {B : Bs} {l : Ln} {x y o : Value} {ow : Int} {s : Nat} {fr : List Hd} {fv : Value} {w wr : World} (h : St1 B l x y o ow s fr fv w wr) :
    Below s w (wr.setRow (s + 1 + 1) (cN l.1 l.2.1 x y l.2.2.1.2.2 o)) ∧ LN B l (.agg (cN l.1 l.2.1 x y l.2.2.1.2.2 o)) (wr.setRow (s + 1 + 1) (cN l.1 l.2.1 x y l.2.2.1.2.2 o)) ∧ HL B.lo fr fv (wr.setRow (s + 1 + 1) (cN l.1 l.2.1 x y l.2.2.1.2.2 o)) :=
  ⟨below_setRow h.bel (by omega) _, (h.lb.other (by omega) (by have := h.lb.lo; omega) h.g _).ln, hl_keep h.fr (keeps_setRow _ h.g (by decide) (by have := h.lb.lo; show B.lo ≤ s + 1 + 1; omega))⟩
theorem lpurse_is {lb lq nn g : Int} {s : Int} (hg : ndA lb lq s = g) (a1 a2 a3 : Option Addr) (n1 c1 n2 c2 n3 c3 : Nat) (ow : Int) (w : World) :
    Calls Tryz.prog 38 #[.agg (cN lb lq (.slice a1 n1 c1) (.slice a2 n2 c2) nn (.slice a3 n3 c3)), .int .i64 ow, .int .i64 s] w fun e w' => e = .returned (.agg #[.int .i64 ow, .int .i64 g]) ∧ Below w.heap.size w w' := by
  rw [← hg]; exact lpurse_any lb lq nn a1 a2 a3 n1 c1 n2 c2 n3 c3 ow s w
theorem getH_is {lo : Nat} {l : List Hd} {v : Value} {p q x : Int} {w : World} (hx : Hid (Ac.get l (p, q) = x)) (h : HL lo l v w) (hm : l.length ≤ 1000000) :
    Calls Tryz.prog 29 #[v, .agg #[.int .i64 p, .int .i64 q]] w fun e w' => e = .returned (.int .i64 x) ∧ Below w.heap.size w w' := by
  rw [← hx.out]; exact Ac.get_any l v p q w h hm
section
variable (ρ : Operand → Value) (dst : Option Tmp) (ty : TypeId) (pos : String) (after : Array Edge) (guard : Option (Nat × Bool)) (w : World)
theorem storeP (p x : Operand) (h : plainAt 2 w (ρ p) = true) (hs : (ρ x).cells.size = 2) (h1 : oneAll (ρ x) = true) (ha : ρ x = .agg (ρ x).cells) : (execOp ρ { dst, op := .store 53 p x, type := ty, pos, after, guard }).run Tryz.prog w = .ok .skip (putRow w (ρ p) (ρ x).cells) :=
  exec_store (n := 1) ρ dst ty pos after guard w (by kernel_rfl) p x h hs h1 ha
theorem loadP (x : Operand) (h : (rowOf w (ρ x)).size = 2) : (execOp ρ { dst, op := .load 53 x, type := ty, pos, after, guard }).run Tryz.prog w = .ok (.value (.agg (rowOf w (ρ x)))) w :=
  exec_load (n := 1) ρ dst ty pos after guard w Tryz.underlying53 rfl (by kernel_rfl) x h
end
theorem one2 (x y : Int) : oneAll (.agg #[.int .i64 x, .int .i64 y]) = true := by simp [oneAll, Value.cells, Value.oneCell']
theorem size2 (a b : Value) : (#[a, b] : Array Value).size = 2 := rfl
end Go.Proofs.YthecinmekoaphaaGreat.La
