/- BookFills: walked, side B. -/
import Derived.Test.YtfnmmknbjfmagaaBlF0
import Derived.RegionTactic
import Derived.BigQuiet
import Derived.Deep.DeepCutAuto
namespace Go.Proofs.Ytfnmmknbjfmagaa.Bk
open Go.RowKit
set_option linter.unusedVariables false
open Go.Proofs.Ytfnmmknbjfmagaa.Rw
open Go.Proofs.Ytfnmmknbjfmagaa.Da
open Go.Proofs.Ytfnmmknbjfmagaa.Le
set_option maxRecDepth 16000 in
set_option maxHeartbeats 8000000 in
theorem walkFillsB (ops : List Op5) (v : Value) (o1 o2 o4 o5 : Int) (w : World) (h : PL (Bs.of w.heap.size) ops v w) (h80 : ops.length ≤ 80) :
    Calls Try.prog 6 #[v, .agg #[.int .i64 o1, .int .i64 o2, .int .i64 2, .int .i64 o4, .int .i64 o5]] w fun e w' => e = .returned (.bool true) ∧ Below w.heap.size w w' := by
  obtain ⟨B, hB'⟩ : ∃ B, B = Bs.of w.heap.size := ⟨_, rfl⟩
  have hB : B.le w.heap.size := by rw [hB']; exact Bs.of_le _
  have HB := Lib.hid (show ∀ u, Below w.heap.size w u → B.le u.heap.size from fun u hu => hB.mono hu.size)
  obtain ⟨U, hU⟩ : ∃ U, U = w.alloc (.cells #[.int .i64 o1, .int .i64 o2, .int .i64 2, .int .i64 o4, .int .i64 o5] 29) := ⟨_, rfl⟩
  have hbU : Below w.heap.size w U := hU ▸ below1 w _
  have hzU : U.heap.size = w.heap.size + 1 := by rw [hU]; simp
  have hop : U.heap[w.heap.size]? = some (.cells #[.int .i64 o1, .int .i64 o2, .int .i64 2, .int .i64 o4, .int .i64 o5] 29 (0, 0)) := by rw [hU]; exact heap_alloc_new w _
  have HOp := Lib.hid (show ∀ u, Below U.heap.size U u → (u.cell? ⟨w.heap.size, 0, none⟩ = some (.int .i64 o1) ∧ u.cell? ⟨w.heap.size, 1, none⟩ = some (.int .i64 o2) ∧ u.cell? ⟨w.heap.size, 2, none⟩ = some (.int .i64 2) ∧ u.cell? ⟨w.heap.size, 3, none⟩ = some (.int .i64 o4) ∧ u.cell? ⟨w.heap.size, 4, none⟩ = some (.int .i64 o5)) ∧ w.heap.size < u.heap.size from fun u hu => by
    have g := (hu.block _ (by omega)).trans hop
    have := hu.size
    refine ⟨⟨?_, ?_, ?_, ?_, ?_⟩, by omega⟩ <;> simp [World.cell?, g])
  have HPl := Lib.hid (played_any B (Bs.of w.heap.size) ops v U (Is.stays eP 29 h hbU) (HB.out U hbU) h80)
  have HU := Lib.hid hU
  clear hB hB' h h80 hU hop
  go_enter Try.func6, Try.ntmps6
  go_wp2_with fail
  rw [← HU.out]
  refine HPl.out.mono ?_
  rintro e w1 ⟨a1, n1, c1, a2, n2, c2, n, rfl, hb1, hbl⟩
  obtain ⟨b, hb⟩ : ∃ b, playB ops = b := ⟨_, rfl⟩
  have hR : RightB b := by rw [← hb]; exact play_right _
  rw [hb] at hbl
  have hnb : b.2.2 = n := by
    obtain ⟨x, y, e, _, _⟩ := hbl
    simp only [Value.agg.injEq, Array.mk.injEq, List.cons.injEq, Value.int.injEq, and_true, true_and] at e
    exact e.2.2.symm
  obtain ⟨p, hp⟩ : ∃ p, w1.heap.size = p := ⟨_, rfl⟩
  obtain ⟨M, hM⟩ : ∃ M, M = w1.alloc (.cells #[.slice a1 n1 c1, .slice a2 n2 c2, .int .i64 n] 26) := ⟨_, rfl⟩
  have hbUM : Below U.heap.size U M := nx hb1 (hM ▸ below1 w1 _)
  have hbM := nx hbU hbUM
  have hx0 : Bx B b p #[.slice a1 n1 c1, .slice a2 n2 c2, .int .i64 n] M := by rw [hM, ← hp]; exact Bx.made hbl (HB.out w1 (nx hbU hb1)).1
  obtain ⟨⟨q0, q1, q2, q3, q4⟩, zs⟩ := HOp.out w1 hb1
  rw [hp] at zs
  have HM := Lib.hid hM
  have HX := Lib.hid hx0
  have HR := Lib.hid hR
  have HNb := Lib.hid hnb
  obtain ⟨rs, hrs⟩ : ∃ rs, (o1 != 1) = rs := ⟨_, rfl⟩
  have HRs := Lib.hid hrs
  obtain ⟨C, hC⟩ : ∃ C, place b o2 2 o4 o5 rs = C := ⟨_, rfl⟩
  have hcase := place_cases (ow := o2) (s := 2) (p := o4) (q := o5) (rest := rs) hR
  rw [hC] at hcase
  have HC := Lib.hid hC
  have HCase := Lib.hid hcase
  clear hM hx0 hbl hb hR hnb HPl hC hcase
  go_wp2_with fail
  rw [← HM.out]
  refine (place_is HC (small_right HR.out) B _ M HX.out.bl (HB.out M hbM)).mono ?_
  rintro e w2 ⟨a3, n3, c3, a4, n4, c4, m3, fa, fn, fc, rfl, hm3, hfn, hd2, hbl2, hfl2⟩
  obtain ⟨lf, hlf⟩ : ∃ lf, C.2.2.1 = lf := ⟨_, rfl⟩
  obtain ⟨id, hid⟩ : ∃ id, C.2.2.2.1 = id := ⟨_, rfl⟩
  obtain ⟨er, her⟩ : ∃ er, C.2.2.2.2 = er := ⟨_, rfl⟩
  obtain ⟨fs, hfs⟩ : ∃ fs, C.2.1 = fs := ⟨_, rfl⟩
  obtain ⟨c, hc⟩ : ∃ c, C.1 = c := ⟨_, rfl⟩
  rw [hlf, hid, her]
  rw [hfs] at hfn hfl2
  rw [hc] at hbl2 hm3
  have hcase2 : (er ≠ 0 ∧ fs = [] ∧ lf = 0 ∧ id = 0) ∨ (er = 0 ∧ PlS b o2 2 o4 o5 rs fs lf c id) := by
    rcases HCase.out with ⟨e, he, h⟩ | ⟨fs', lf', r, id', h, hs⟩
    · rw [h] at hlf hid her hfs
      exact .inl ⟨by rw [← her]; exact he, hfs.symm, hlf.symm, hid.symm⟩
    · rw [h] at hlf hid her hfs hc
      simp only at hlf hid her hfs hc
      subst hlf hid her hfs hc
      exact .inr ⟨rfl, hs⟩
  obtain ⟨r, hr⟩ : ∃ r, w2.heap.size = r := ⟨_, rfl⟩
  obtain ⟨M2, hM2⟩ : ∃ M, M = w2.alloc (.cells #[.slice a3 n3 c3, .slice a4 n4 c4, .int .i64 m3] 26) := ⟨_, rfl⟩
  have hbMM : Below M.heap.size M M2 := nx hd2 (hM2 ▸ below1 w2 _)
  have hbw2 := nx hbM hd2
  have hbM2 := nx hbM hbMM
  have hbUM2 := nx hbUM hbMM
  have hxr : Bx B c r #[.slice a3 n3 c3, .slice a4 n4 c4, .int .i64 m3] M2 := by rw [hM2, ← hr]; exact Bx.made hbl2 (HB.out w2 hbw2).1
  have HXr := Lib.hid hxr
  have HX2 := Lib.hid (HX.out.stays hbMM)
  have HFl2 := Lib.hid (Is.stays eFl 53 hfl2 (show Below w2.heap.size w2 M2 from hM2 ▸ below1 w2 _))
  have HM2 := Lib.hid hM2
  have HFn := Lib.hid hfn
  have hx2 := HX.out.stays hd2
  clear hM2 hxr hfn hbl2 hfl2 hlf hid her hfs hc HC HCase q0 q1 q2 q3 q4 zs
  rcases hcase2 with ⟨her, hfs, hlf, hid⟩ | ⟨her, hpl⟩
  · have hde : (er != 0) = true := by simpa using her
    have hfn0 : fn = 0 := by rw [← HFn.out, hfs]; rfl
    subst hfn0 hlf hid
    clear her hfs hx2
    go_wp2_with fail
    rw [← HM2.out]
    refine (awake_any M2).mono ?_
    rintro e w3 ⟨rfl, hb3⟩
    go_wp2
    go_ret
    exact ⟨rfl, nx hbM2 hb3⟩
  subst her
  have HPS := Lib.hid hpl
  obtain ⟨⟨_, _, q2, _, _⟩, zs⟩ := HOp.out w2 (nx hbUM hd2)
  rw [hr] at zs
  have hx2k := hx2.bk
  have k0 : w2.cell? ⟨p, 0, none⟩ = some (.slice a1 n1 c1) := by simp [World.cell?, hx2k]
  have k1 : w2.cell? ⟨p, 1, none⟩ = some (.slice a2 n2 c2) := by simp [World.cell?, hx2k]
  have kz := hx2.lt
  rw [hr] at kz
  have HL := Lib.hid (show ∀ u, Below M2.heap.size M2 u → LL B b.1 (.slice a1 n1 c1) u ∧ LL B b.2.1 (.slice a2 n2 c2) u from fun u hu => by
    obtain ⟨x, y, e, h1, h2⟩ := (HX2.out.stays hu).bl
    simp only [Value.agg.injEq, Array.mk.injEq, List.cons.injEq, and_true] at e
    obtain ⟨rfl, rfl, _⟩ := e
    exact ⟨h1, h2⟩)
  clear hpl hx2 hx2k hd2
  go_wp2_with fail
  rw [← HM2.out]
  refine (ords_big B b.2.1 _ M2 (HL.out M2 (Below.refl _ _)).2 (HB.out M2 hbM2) (Nat.le_trans (right_small HR.out).2.2.1 (by decide)) (Nat.le_trans (right_small HR.out).2.2.2 (by decide))).mono ?_
  rintro e w3 ⟨v3, rfl, hb3, hol3⟩
  have hb3U := nx hbUM2 hb3
  have hb3w := nx hbM2 hb3
  clear q2 k0 k1 kz zs
  obtain ⟨⟨_, _, q2, _, _⟩, zs⟩ := HOp.out w3 hb3U
  have hx3 := (HX2.out.stays hb3)
  have hx3k := hx3.bk
  have k0 : w3.cell? ⟨p, 0, none⟩ = some (.slice a1 n1 c1) := by simp [World.cell?, hx3k]
  have kz := hx3.lt
  clear hx3 hx3k hol3
  go_wp2_with fail
  refine (ords_big B b.1 _ w3 (HL.out w3 hb3).1 (HB.out w3 hb3w) (Nat.le_trans (right_small HR.out).1 (by decide)) (Nat.le_trans (right_small HR.out).2.1 (by decide))).mono ?_
  rintro e w4 ⟨v3, rfl, hb4, hol4⟩
  have hoth : flat b.1 = flat (oth b 2) := rfl
  rw [hoth] at hol4
  have hbf := nx hb3 hb4
  have hbU4 := nx hb3U hb4
  have hbw4 := nx hb3w hb4
  clear hb3 hb3U hb3w hb4 hoth q2 zs k0 kz
  obtain ⟨os, hos⟩ : ∃ os, flat (oth b 2) = os := ⟨_, rfl⟩
  rw [hos] at hol4
  have hT : TrS o2 2 o4 os o5 fs lf := by rw [← hos]; exact HPS.out.tr'
  have hosl : os.length ≤ 1000 := by
    rw [← hos]
    unfold oth
    split
    · exact (small_right HR.out).2.2.2
    · exact (small_right HR.out).2.1
  obtain ⟨a9, c9, e9⟩ := hol4.len
  obtain ⟨m, hm⟩ : ∃ m, os.length = m := ⟨_, rfl⟩
  rw [hm] at e9
  subst e9
  have HT := Lib.hid hT
  have HOl := Lib.hid hol4
  have HMm := Lib.hid hm
  have hsn := tr_nn hT
  have hsum := hT.sum
  have hA := argOk_iff.1 HPS.out.arg
  have HQ := Lib.hid (show (∀ k, 0 ≤ sumQ (fs.take k) ∧ lf + sumQ (fs.take k) ≤ 1048576) from fun k => by have := sumQ_le hsn k; omega)
  have HFl4 := Lib.hid (Is.stays eFl 53 HFl2.out hbf)
  have hfn1000 : fn ≤ 1000 := by rw [← HFn.out]; have := hT.len; omega
  have hlfb : 0 ≤ lf ∧ lf ≤ 1048576 := by
    have h8 := hT.nn
    have h9 := (HQ.out 0).2
    rw [show sumQ (fs.take 0) = 0 by rw [List.take_zero]; rfl] at h9
    omega
  have HLf := Lib.hid hlfb
  have hm1000 : m ≤ 1000 := by omega
  clear hos hT hol4 hm hsn hsum hA hosl hlfb
  go_wp2
  try clear q2 zs
  go_loopw [13, 74] (fun nv i wr => ∃ k : Nat, k ≤ fn ∧ i = .int .i64 k ∧ nv = .int .i64 (lf + sumQ (fs.take k)) ∧ Below w4.heap.size w4 wr) (fun _ i _ => fn - (intOf i).toNat)
  case atStart => exact ⟨0, Nat.zero_le _, rfl, by simp [sumQ], Below.refl _ _⟩
  case round =>
    obtain ⟨k, hk, rfl, rfl, hb⟩ := hrel
    obtain ⟨nk, hnk⟩ : ∃ nk, lf + sumQ (fs.take k) = nk := ⟨_, rfl⟩
    have hnkb : 0 ≤ nk ∧ nk ≤ 1048576 := by have := HQ.out k; have := HLf.out; omega
    have HNk := Lib.hid hnk
    rw [hnk]
    clear hnk
    have hbw := nx hbw4 hb
    have hbUw := nx hbU4 hb
    have hbfw := nx hbf hb
    by_cases hlt : k < fn
    · as_aux_lemma =>
      have hlt2 : (k : Int) < fn := by omega
      have hkf : k < fs.length := by rw [HFn.out]; exact hlt
      obtain ⟨hko, nq, e9, n1', n2', hmt, hne, hlast⟩ := HT.out.at' k hkf
      have hfl := Is.stays eFl 53 HFl4.out hb
      have hol := Is.stays eO 31 HOl.out hb
      rw [← HFn.out] at hfl
      rw [← HMm.out] at hol
      rcases hfl.cases with ⟨e, _⟩ | ⟨_, g, off, cc, e, hat⟩
      · rw [e] at hkf; cases hkf
      rcases hol.cases with ⟨e', _⟩ | ⟨_, g2, off2, cc2, e', hat2⟩
      · rw [e'] at hko; cases hko
      simp only [Value.slice.injEq] at e e'
      obtain ⟨rfl, _, rfl⟩ := e
      obtain ⟨rfl, _, rfl⟩ := e'
      obtain ⟨s0, s1, s2, s3, s4⟩ := at5 hat2 k hko
      obtain ⟨p0, p1, p2, p3, p4⟩ := atFl hat k hkf
      rw [e9] at p0 p1 p2 p3 p4
      have hbb := hat.1
      have hbb2 := hat2.1
      have hks := sumQ_snoc hkf
      rw [e9] at hks
      obtain ⟨⟨y1, y2, y3, y4, y5⟩, hy⟩ : ∃ x, os[k]'hko = x := ⟨_, rfl⟩
      rw [hy] at s0 s1 s2 s3 s4 p0 p1 p2 p3 p4 n2' hmt hne hlast hks
      simp only [mkF, olf, oow, opr] at s0 s1 s2 s3 s4 p0 p1 p2 p3 p4 n2' hmt hne hlast hks
      obtain ⟨d, hdd⟩ : ∃ d, decide (nq = y5) = d := ⟨_, rfl⟩
      replace p4 : wr.cell? ⟨g, off + k * 5 + 4, none⟩ = some (.bool d) := p4.trans (by subst hdd; rfl)
      have hkm : k < m := by rw [← HMm.out]; exact hko
      have hkm2 : decide ((m : Int) ≤ k) = false := decide_eq_false (by omega)
      have hkm3 : decide (m ≤ k) = false := decide_eq_false (by omega)
      have f1 : (y2 == o2) = false := by simpa using hne
      have f2 : decide (nq < 1) = false := decide_eq_false (by omega)
      have f3 : decide (y5 < nq) = false := decide_eq_false (by omega)
      have hmt2 : o4 ≤ y4 := by
        have h9 : meets 2 o4 y4 = true := hmt
        unfold meets at h9
        first | rw [if_pos rfl] at h9 | rw [if_neg (by decide)] at h9
        simpa using h9
      have f4 : decide (y4 < o4) = false := decide_eq_false (by omega)
      have HK1 : Hid (nk + nq = lf + sumQ (fs.take (k + 1))) := Lib.hid (by rw [hks, ← HNk.out]; omega)
      have hwr : IntKind.i64.wrap (nk + nq) = nk + nq := IntWalk.i64_in _ (by have := (HQ.out (k + 1)); have := HK1.out; omega)
      obtain ⟨V, hV⟩ : ∃ V, V = wr.alloc (.cells #[.int .i64 y1, .int .i64 y2, .int .i64 y4, .int .i64 nq, .bool d] 53) := ⟨_, rfl⟩
      have hbV : Below wr.heap.size wr V := hV ▸ below1 wr _
      have hzV : V.heap.size = wr.heap.size + 1 := by rw [hV]; simp
      have hvb : V.heap[wr.heap.size]? = some (.cells #[.int .i64 y1, .int .i64 y2, .int .i64 y4, .int .i64 nq, .bool d] 53 (0, 0)) := by rw [hV]; exact heap_alloc_new wr _
      have hG : ∀ u, Below V.heap.size V u → (u.cell? ⟨wr.heap.size, 0, none⟩ = some (.int .i64 y1) ∧ u.cell? ⟨wr.heap.size, 1, none⟩ = some (.int .i64 y2) ∧ u.cell? ⟨wr.heap.size, 2, none⟩ = some (.int .i64 y4) ∧ u.cell? ⟨wr.heap.size, 3, none⟩ = some (.int .i64 nq) ∧ u.cell? ⟨wr.heap.size, 4, none⟩ = some (.bool d)) ∧
          (u.cell? ⟨w.heap.size, 1, none⟩ = some (.int .i64 o2) ∧ u.cell? ⟨w.heap.size, 2, none⟩ = some (.int .i64 2) ∧ u.cell? ⟨w.heap.size, 3, none⟩ = some (.int .i64 o4)) ∧
          (u.cell? ⟨g2, off2 + k * 5, none⟩ = some (.int .i64 y1) ∧ u.cell? ⟨g2, off2 + k * 5 + 1, none⟩ = some (.int .i64 y2) ∧ u.cell? ⟨g2, off2 + k * 5 + 3, none⟩ = some (.int .i64 y4) ∧ u.cell? ⟨g2, off2 + k * 5 + 4, none⟩ = some (.int .i64 y5)) ∧ wr.heap.size < u.heap.size ∧ w.heap.size < u.heap.size := fun u hu => by
        have gv := (hu.block _ (by omega)).trans hvb
        obtain ⟨⟨_, j1, j2, j3, _⟩, jz⟩ := HOp.out u (nx (nx hbUw hbV) hu)
        obtain ⟨c1, _⟩ := bcell (nx hbV hu)
        simp only [c1 _ _ hbb2]
        refine ⟨⟨?_, ?_, ?_, ?_, ?_⟩, ⟨j1, j2, j3⟩, ⟨s0, s1, s3, s4⟩, by have := hu.size; omega, jz⟩ <;> simp [World.cell?, gv]
      have HV := Lib.hid hV
      clear hat hat2 hfl hol e9 hy hmt hne hks hV hvb
      obtain ⟨⟨b0, b1, b2, b3, b4⟩, ⟨u1, u2, u3⟩, ⟨v1, v2, v3, v4⟩, zv1, zv2⟩ := hG V (Below.refl _ _)
      cases d
      · have hd0 : ¬ nq = y5 := by simpa using hdd
        have f5 : (nq == y5) = false := by simpa using hd0
        have hl9 := hlast (by omega)
        have hfk : fn = k + 1 := by rw [← HFn.out]; exact hl9.symm
        have hw9 : IntKind.i64.wrap ((fn : Int) - 1) = (fn : Int) - 1 := IntWalk.i64_in _ (by omega)
        have f6 : decide ((k : Int) < (fn : Int) - 1) = false := decide_eq_false (by omega)
        have f7 : decide ((k : Int) < IntKind.i64.wrap ((fn : Int) - 1)) = false := by rw [hw9]; exact f6
        clear hd0 hdd hlast hl9 hfk
        try clear HG0; try clear hG; try clear HB; try clear HM; try clear HX; try clear HR; try clear HNb; try clear hrs; try clear HRs; try clear hm3; try clear HXr; try clear HX2; try clear HM2; try clear HFl2; try clear HFl4; try clear HOl; try clear HL; try clear HPS; try clear HT; try clear HFn; try clear HMm; try clear HQ; try clear HLf; try clear HNk; try clear HOp; try clear HU; try clear hbUM; try clear hbM; try clear hbMM; try clear hbw2; try clear hbM2; try clear hbUM2; try clear hbf; try clear hbU4; try clear hbw4; try clear hbw; try clear hbUw; try clear hbfw; try clear hbU; try clear hb1; try clear hkf; try clear hko; try clear s0; try clear s1; try clear s2; try clear s3; try clear s4; try clear p0; try clear p1; try clear p2; try clear p3; try clear hzU
        go_wp2
        rw [← HV.out]
        go_quiet (fail)
        go_wp2
        go_roundw
        case rel => exact ⟨k + 1, by omega, by go_num, by rw [HK1.out], nx hb (bdrewN hbV _)⟩
        case measure => simp [intOf]; omega
      · have hd0 : nq = y5 := by simpa using hdd
        have f5 : (nq == y5) = true := by simpa using hd0
        clear hd0 hdd hlast
        try clear HG0; try clear hG; try clear HB; try clear HM; try clear HX; try clear HR; try clear HNb; try clear hrs; try clear HRs; try clear hm3; try clear HXr; try clear HX2; try clear HM2; try clear HFl2; try clear HFl4; try clear HOl; try clear HL; try clear HPS; try clear HT; try clear HFn; try clear HMm; try clear HQ; try clear HLf; try clear HNk; try clear HOp; try clear HU; try clear hbUM; try clear hbM; try clear hbMM; try clear hbw2; try clear hbM2; try clear hbUM2; try clear hbf; try clear hbU4; try clear hbw4; try clear hbw; try clear hbUw; try clear hbfw; try clear hbU; try clear hb1; try clear hkf; try clear hko; try clear s0; try clear s1; try clear s2; try clear s3; try clear s4; try clear p0; try clear p1; try clear p2; try clear p3; try clear hzU
        go_wp2
        rw [← HV.out]
        go_quiet (fail)
        go_wp2
        go_roundw
        case rel => exact ⟨k + 1, by omega, by go_num, by rw [HK1.out], nx hb (bdrewN hbV _)⟩
        case measure => simp [intOf]; omega
    · obtain rfl : fn = k := by omega
      have hfull : fs.take fn = fs := by rw [← HFn.out, List.take_length]
      have h5 : o5 = nk := by rw [← HNk.out, hfull]; have := HT.out.sum; omega
      obtain rfl := h5
      clear hfull hlt
      have hst : ∀ j (h : j < os.length), j = fs.length → meets 2 o4 (opr (os[j]'h)) = false ∨ ¬ 0 < lf := fun j h e => by
        by_cases hl : 0 < lf
        · subst e; exact .inl ((HT.out.stop hl).1 h)
        · exact .inr hl
      have HSt := Lib.hid hst
      have hol := Is.stays eO 31 HOl.out hb
      rw [← HMm.out] at hol
      have HOlw := Lib.hid hol
      clear hst hol
      go_wp2
      obtain ⟨⟨j0, j1, j2, j3, j4⟩, jz⟩ := HOp.out wr hbUw
      go_upto_region 20 with fail
      go_cut [227] (fun s227 wx => s227 = .bool false ∧ Below wr.heap.size wr wx)
      case first =>
        as_aux_lemma =>
          by_cases hl : 0 < lf
          · have d1 : decide (0 < lf) = true := decide_eq_true hl
            by_cases hfm : fn < m
            · have hko : fn < os.length := by rw [HMm.out]; exact hfm
              have hmt : meets 2 o4 (opr (os[fn]'hko)) = false := (HSt.out fn hko HFn.out.symm).resolve_right (fun h => absurd hl (by omega))
              rcases HOlw.out.cases with ⟨e', _⟩ | ⟨_, g2, off2, cc2, e', hat2⟩
              · rw [e'] at hko; cases hko
              simp only [Value.slice.injEq] at e'
              obtain ⟨rfl, _, rfl⟩ := e'
              obtain ⟨t0, t1, t2, s3, t4⟩ := at5 hat2 fn hko
              have hbb2 := hat2.1
              obtain ⟨pr, hpr⟩ : ∃ pr, opr (os[fn]'hko) = pr := ⟨_, rfl⟩
              rw [hpr] at hmt
              rw [show (os[fn]'hko).2.2.2.1 = pr from hpr] at s3
              have f1 : decide (o4 ≤ pr) = false := by
                unfold meets at hmt
                first | rw [if_pos rfl] at hmt | rw [if_neg (by decide)] at hmt
                exact hmt
              have f2 : decide (fn < m) = true := decide_eq_true hfm
              have f3 : decide ((fn : Int) < m) = true := decide_eq_true (by omega)
              have f4 : (fn : Int) < m := by omega
              clear t0 t1 t2 t4 hpr hmt hat2 hko hl
              go_quiet (fail)
              go_wp2
              go_meet
              exact ⟨rfl, bdrewN (Below.refl _ _) _⟩
            · have f2 : decide (fn < m) = false := decide_eq_false hfm
              have f3 : decide ((fn : Int) < m) = false := decide_eq_false (by omega)
              clear hl hfm
              go_quiet (fail)
              go_wp2
              go_meet
              exact ⟨rfl, bdrewN (Below.refl _ _) _⟩
          · have d1 : decide (0 < lf) = false := decide_eq_false hl
            clear hl
            go_quiet (fail)
            go_wp2
            go_meet
            exact ⟨rfl, bdrewN (Below.refl _ _) _⟩
      case rest =>
        obtain ⟨rfl, hbc⟩ := hcut
        clear j0 j1 j2 j3 j4 jz
        obtain ⟨W5, rfl⟩ : ∃ W5 : World, W5 = wc := ⟨_, rfl⟩
        have hbwc := nx hbw hbc
        have hbUc := nx hbUw hbc
        have hbfc := nx hbfw hbc
        obtain ⟨rr, hrr⟩ : ∃ rr, (rs && decide (0 < lf)) = rr := ⟨_, rfl⟩
        have HRr := Lib.hid hrr
        clear hrr
        go_upto_region 22 with fail
        go_cut [16] (fun s16 wx => s16 = .bool rr ∧ wx = W5)
        case first =>
          as_aux_lemma =>
            obtain ⟨⟨j0, j1, j2, j3, j4⟩, jz⟩ := HOp.out W5 hbUc
            by_cases hrt : rs = true
            · have e1 : (o1 != 1) = true := HRs.out.trans hrt
              have e2 : (o1 == 1) = false := by simpa using e1
              have e3 : ¬ o1 = 1 := by simpa using e1
              by_cases hl : 0 < lf
              · have d1 : decide (0 < lf) = true := decide_eq_true hl
                obtain rfl : true = rr := by rw [← HRr.out, hrt, d1]; rfl
                clear hl
                go_wp2
                go_meet
                exact ⟨rfl, rfl⟩
              · have d1 : decide (0 < lf) = false := decide_eq_false hl
                obtain rfl : false = rr := by rw [← HRr.out, hrt, d1]; rfl
                clear hl
                go_wp2
                go_meet
                exact ⟨rfl, rfl⟩
            · have hrs2 : rs = false := by simpa using hrt
              have e1 : (o1 != 1) = false := HRs.out.trans hrs2
              have e2 : (o1 == 1) = true := by simpa using e1
              have e3 : o1 = 1 := by simpa using e1
              obtain rfl : false = rr := by rw [← HRr.out, hrs2]; rfl
              clear hrt
              go_wp2
              go_meet
              exact ⟨rfl, rfl⟩
        case rest =>
          obtain ⟨rfl, hW5⟩ := hcut
          obtain rfl : W5 = wc := hW5.symm
          clear hW5
          obtain ⟨q, hq⟩ : ∃ q, fnd (flat (c.1 ++ c.2.1)) n = q := ⟨_, rfl⟩
          have HFq := Lib.hid hq
          have HXc := Lib.hid (HXr.out.stays hbfc)
          have HXb := Lib.hid (HX2.out.stays hbfc)
          have hF : ∀ u, Below W5.heap.size W5 u → u.cell? ⟨r, 0, none⟩ = some (.slice a3 n3 c3) ∧ u.cell? ⟨r, 1, none⟩ = some (.slice a4 n4 c4) ∧ u.cell? ⟨p, 2, none⟩ = some (.int .i64 n) ∧ r < u.heap.size ∧ p < u.heap.size := fun u hu => by
            have g := (HXc.out.stays hu)
            have gk := g.bk
            have g2 := (HXb.out.stays hu)
            have gk2 := g2.bk
            refine ⟨?_, ?_, ?_, g.lt, g2.lt⟩ <;> simp [World.cell?, gk, gk2]
          have HLc := Lib.hid (show ∀ u, Below W5.heap.size W5 u → LL B c.1 (.slice a3 n3 c3) u ∧ LL B c.2.1 (.slice a4 n4 c4) u from fun u hu => by
            obtain ⟨x, y, e, h1, h2⟩ := (HXc.out.stays hu).bl
            simp only [Value.agg.injEq, Array.mk.injEq, List.cons.injEq, and_true] at e
            obtain ⟨rfl, rfl, _⟩ := e
            exact ⟨h1, h2⟩)
          have hcz := cO_size q
          have h1c : oneAll (.agg (cO q)) = true := by cases q <;> exact one5 _ _ _ _ _
          clear hq
          go_upto_region 23 with fail
          go_cut [17, 18] (FiP W5 q)
          case first =>
            as_aux_lemma =>
              refine Rh.region (fun u => Below W5.heap.size W5 u) (fun u => Below W5.heap.size W5 u) (fun _ _ h k => nx h k) (fun _ _ h k => nx h k) ((Below.refl _ _).drew) ((Below.refl _ _).drew) [1, 2, 4, 5, 7, 8, 0, 3, 6, 9, 10, 11, 12, 13, 14, 15] (by kernel_rfl) (by kernel_rfl) (by kernel_rfl) (fun _ _ d _ _ h => by cases d <;> exact h) ?_
              repeat (first | (refine Rh.Steps.skip (by rfl) (by kernel_rfl) (by rfl) ?_; simp only [Act.put, List.setIfInBounds_toArray, List.set_cons_zero, List.set_cons_succ]) | (refine Rh.Steps.pure (v := ?_) (by rfl) (by kernel_rfl) (by rfl) ?_ ?_; rotate_left; (intro w_ hS_; have hk_ := hF w_ hS_; go_simp <;> with_reducible rfl); simp only [Act.put, List.setIfInBounds_toArray, List.set_cons_zero, List.set_cons_succ]))
              refine steps_two (i := 0) (j := 13) (ord' := [0, 3, 6, 9, 10, 11, 12, 14, 15]) (by kernel_rfl) rfl ?_ ?_
              · refine Rh.One.val (fun v u => OwnL B W5.heap.size [] v u) (fun v _ _ h k => h.stays k) (by rfl) (by rfl) ?_ ?_
                · intro w_ hS_ hG_
                  refine ⟨_, _, ?_, below1 w_ (.cells #[] 48), Own.made B w_ W5.heap.size hS_.size⟩
                  go_simp
                intro v0 u0 hv0
                simp only [Act.put, List.setIfInBounds_toArray, List.set_cons_zero, List.set_cons_succ]
                refine steps_two (i := 3) (j := 13) (ord' := [3, 6, 9, 10, 11, 12, 14, 15]) (by kernel_rfl) rfl ?_ ?_
                · refine Rh.One.new (fun v u => OwnL B W5.heap.size (c.1) v u) (fun v _ _ h k => h.stays k) (by rfl) (by rfl) ?_ ?_
                  · intro w_ hS_ hG_
                    obtain ⟨v', u', hrun, ho, hbl, hvo⟩ := lv_app (HB.out W5 hbwc) hS_.size (hG_.2) (HLc.out w_ hS_).1 (by have := small_right HPS.out.right; unfold Small at this; simp only [List.length_nil]; omega)
                    refine ⟨v', u', ?_, hbl _ hS_, (by simpa using ho)⟩
                    go_simp
                  intro v3 u3 hv3
                  simp only [Act.put, List.setIfInBounds_toArray, List.set_cons_zero, List.set_cons_succ]
                  refine steps_two (i := 6) (j := 13) (ord' := [6, 9, 10, 11, 12, 14, 15]) (by kernel_rfl) rfl ?_ ?_
                  · refine Rh.One.new (fun v u => OwnL B W5.heap.size (c.1 ++ c.2.1) v u) (fun v _ _ h k => h.stays k) (by rfl) (by rfl) ?_ ?_
                    · intro w_ hS_ hG_
                      obtain ⟨v', u', hrun, ho, hbl, hvo⟩ := lv_app (HB.out W5 hbwc) hS_.size (hG_) (HLc.out w_ hS_).2 (by have := small_right HPS.out.right; unfold Small at this;  omega)
                      refine ⟨v', u', ?_, hbl _ hS_, ho⟩
                      go_simp
                    intro v6 u6 hv6
                    simp only [Act.put, List.setIfInBounds_toArray, List.set_cons_zero, List.set_cons_succ]
                    refine steps_two (i := 9) (j := 13) (ord' := [9, 10, 11, 12, 14, 15]) (by kernel_rfl) rfl ?_ ?_
                    · refine Rh.One.call (fun v u => v = .tuple #[.agg (cO q), .bool q.isSome]) (fun _ _ _ h _ => h) (f := ?_) (args := ?_) (by rfl) (by rfl) ?_ ?_ ?_
                      rotate_left 2
                      · intro w_ hS_ hG_; go_simp <;> first | with_reducible rfl | (constructor <;> with_reducible rfl)
                      · intro w_ hS_ hG_; (go_at_call 23; refine (find_fi HFq (Own.is (by decide) (HB.out W5 hbwc) (hG_)) (by have := small_right HPS.out.right; unfold Small at this; rw [List.length_append]; omega) (by have := small_right HPS.out.right; unfold Small at this; rw [flat_app, List.length_append]; omega)).mono ?_; rintro e w' ⟨rfl, hb9⟩; exact ⟨_, rfl, hb9, rfl⟩)
                      intro v9 u_ hv9
                      simp only [Act.put, List.setIfInBounds_toArray, List.set_cons_zero, List.set_cons_succ]
                      subst hv9
                      repeat (first | (refine Rh.Steps.skip (by rfl) (by kernel_rfl) (by rfl) ?_; simp only [Act.put, List.setIfInBounds_toArray, List.set_cons_zero, List.set_cons_succ]) | (refine Rh.Steps.pure (v := ?_) (by rfl) (by kernel_rfl) (by rfl) ?_ ?_; rotate_left; (intro w_ hS_; have hk_ := hF w_ hS_; go_simp <;> with_reducible rfl); simp only [Act.put, List.setIfInBounds_toArray, List.set_cons_zero, List.set_cons_succ]))
                      refine Rh.Steps.forced (i := 13) (by kernel_rfl) ?_
                      refine Rh.One.val (AlF W5.heap.size) (fun v _ _ h k => h.stays k) (by rfl) (by rfl) ?_ ?_
                      · intro w_ hS_ hG_
                        refine ⟨_, _, ?_, below1 w_ (.cells #[.int .i64 0, .int .i64 0, .int .i64 0, .int .i64 0, .int .i64 0] 31), AlF.made w_ hS_.size⟩
                        go_simp
                      intro v17 u17 hv17
                      obtain ⟨g, rfl, hg, _⟩ := hv17
                      simp only [Act.put, List.setIfInBounds_toArray, List.set_cons_zero, List.set_cons_succ]
                      refine Rh.Steps.forced (i := 14) (by kernel_rfl) ?_
                      refine Rh.One.store (fun u => VO g q u) (fun _ _ h k => h.stays k) (by rfl) (by rfl) ?_ ?_
                      · intro w_ hS_ hG_
                        have hvo := (hG_.2).vo
                        have hp := hvo.plain
                        refine ⟨w_.setRow g (cO q), ?_, below_setRow hS_ hg _, hvo.set _⟩
                        clear hS_ hG_ hvo
                        go_simp
                      repeat (first | (refine Rh.Steps.skip (by rfl) (by kernel_rfl) (by rfl) ?_; simp only [Act.put, List.setIfInBounds_toArray, List.set_cons_zero, List.set_cons_succ]) | (refine Rh.Steps.pure (v := ?_) (by rfl) (by kernel_rfl) (by rfl) ?_ ?_; rotate_left; (intro w_ hS_; have hk_ := hF w_ hS_; go_simp <;> with_reducible rfl); simp only [Act.put, List.setIfInBounds_toArray, List.set_cons_zero, List.set_cons_succ]))
                      refine Rh.Steps.nil (by kernel_rfl) ?_
                      intro w9 hS9 hG9
                      go_wp2_with fail
                      go_meet
                      exact ⟨g, rfl, rfl, hS9, hG9⟩
                    · refine Rh.One.val (AlF W5.heap.size) (fun v _ _ h k => h.stays k) (by rfl) (by rfl) ?_ ?_
                      · intro w_ hS_ hG_
                        refine ⟨_, _, ?_, below1 w_ (.cells #[.int .i64 0, .int .i64 0, .int .i64 0, .int .i64 0, .int .i64 0] 31), AlF.made w_ hS_.size⟩
                        go_simp
                      intro v17 u17 hv17
                      obtain ⟨g, rfl, hg, _⟩ := hv17
                      simp only [Act.put, List.setIfInBounds_toArray, List.set_cons_zero, List.set_cons_succ]
                      refine Rh.Steps.forced (i := 9) (by kernel_rfl) ?_
                      refine Rh.One.call (fun v u => v = .tuple #[.agg (cO q), .bool q.isSome]) (fun _ _ _ h _ => h) (f := ?_) (args := ?_) (by rfl) (by rfl) ?_ ?_ ?_
                      rotate_left 2
                      · intro w_ hS_ hG_; go_simp <;> first | with_reducible rfl | (constructor <;> with_reducible rfl)
                      · intro w_ hS_ hG_; (go_at_call 23; refine (find_fi HFq (Own.is (by decide) (HB.out W5 hbwc) (hG_.1)) (by have := small_right HPS.out.right; unfold Small at this; rw [List.length_append]; omega) (by have := small_right HPS.out.right; unfold Small at this; rw [flat_app, List.length_append]; omega)).mono ?_; rintro e w' ⟨rfl, hb9⟩; exact ⟨_, rfl, hb9, rfl⟩)
                      intro v9 u_ hv9
                      simp only [Act.put, List.setIfInBounds_toArray, List.set_cons_zero, List.set_cons_succ]
                      subst hv9
                      repeat (first | (refine Rh.Steps.skip (by rfl) (by kernel_rfl) (by rfl) ?_; simp only [Act.put, List.setIfInBounds_toArray, List.set_cons_zero, List.set_cons_succ]) | (refine Rh.Steps.pure (v := ?_) (by rfl) (by kernel_rfl) (by rfl) ?_ ?_; rotate_left; (intro w_ hS_; have hk_ := hF w_ hS_; go_simp <;> with_reducible rfl); simp only [Act.put, List.setIfInBounds_toArray, List.set_cons_zero, List.set_cons_succ]))
                      refine Rh.Steps.forced (i := 14) (by kernel_rfl) ?_
                      refine Rh.One.store (fun u => VO g q u) (fun _ _ h k => h.stays k) (by rfl) (by rfl) ?_ ?_
                      · intro w_ hS_ hG_
                        have hvo := (hG_.1.2).vo
                        have hp := hvo.plain
                        refine ⟨w_.setRow g (cO q), ?_, below_setRow hS_ hg _, hvo.set _⟩
                        clear hS_ hG_ hvo
                        go_simp
                      repeat (first | (refine Rh.Steps.skip (by rfl) (by kernel_rfl) (by rfl) ?_; simp only [Act.put, List.setIfInBounds_toArray, List.set_cons_zero, List.set_cons_succ]) | (refine Rh.Steps.pure (v := ?_) (by rfl) (by kernel_rfl) (by rfl) ?_ ?_; rotate_left; (intro w_ hS_; have hk_ := hF w_ hS_; go_simp <;> with_reducible rfl); simp only [Act.put, List.setIfInBounds_toArray, List.set_cons_zero, List.set_cons_succ]))
                      refine Rh.Steps.nil (by kernel_rfl) ?_
                      intro w9 hS9 hG9
                      go_wp2_with fail
                      go_meet
                      exact ⟨g, rfl, rfl, hS9, hG9⟩
                  · refine Rh.One.val (AlF W5.heap.size) (fun v _ _ h k => h.stays k) (by rfl) (by rfl) ?_ ?_
                    · intro w_ hS_ hG_
                      refine ⟨_, _, ?_, below1 w_ (.cells #[.int .i64 0, .int .i64 0, .int .i64 0, .int .i64 0, .int .i64 0] 31), AlF.made w_ hS_.size⟩
                      go_simp
                    intro v17 u17 hv17
                    obtain ⟨g, rfl, hg, _⟩ := hv17
                    simp only [Act.put, List.setIfInBounds_toArray, List.set_cons_zero, List.set_cons_succ]
                    refine Rh.Steps.forced (i := 6) (by kernel_rfl) ?_
                    refine Rh.One.new (fun v u => OwnL B W5.heap.size (c.1 ++ c.2.1) v u ∧ AlF W5.heap.size (.pointer (some ⟨g, 0, none⟩)) u) (fun v _ _ h k => ⟨h.1.stays k, h.2.stays k⟩) (by rfl) (by rfl) ?_ ?_
                    · intro w_ hS_ hG_
                      obtain ⟨v', u', hrun, ho, hbl, hvo⟩ := lv_app (HB.out W5 hbwc) hS_.size (hG_.1) (HLc.out w_ hS_).2 (by have := small_right HPS.out.right; unfold Small at this;  omega)
                      refine ⟨v', u', ?_, hbl _ hS_, ⟨ho, (hG_.2).app hvo⟩⟩
                      go_simp
                    intro v6 u6 hv6
                    simp only [Act.put, List.setIfInBounds_toArray, List.set_cons_zero, List.set_cons_succ]
                    refine Rh.Steps.forced (i := 9) (by kernel_rfl) ?_
                    refine Rh.One.call (fun v u => v = .tuple #[.agg (cO q), .bool q.isSome]) (fun _ _ _ h _ => h) (f := ?_) (args := ?_) (by rfl) (by rfl) ?_ ?_ ?_
                    rotate_left 2
                    · intro w_ hS_ hG_; go_simp <;> first | with_reducible rfl | (constructor <;> with_reducible rfl)
                    · intro w_ hS_ hG_; (go_at_call 23; refine (find_fi HFq (Own.is (by decide) (HB.out W5 hbwc) (hG_.1)) (by have := small_right HPS.out.right; unfold Small at this; rw [List.length_append]; omega) (by have := small_right HPS.out.right; unfold Small at this; rw [flat_app, List.length_append]; omega)).mono ?_; rintro e w' ⟨rfl, hb9⟩; exact ⟨_, rfl, hb9, rfl⟩)
                    intro v9 u_ hv9
                    simp only [Act.put, List.setIfInBounds_toArray, List.set_cons_zero, List.set_cons_succ]
                    subst hv9
                    repeat (first | (refine Rh.Steps.skip (by rfl) (by kernel_rfl) (by rfl) ?_; simp only [Act.put, List.setIfInBounds_toArray, List.set_cons_zero, List.set_cons_succ]) | (refine Rh.Steps.pure (v := ?_) (by rfl) (by kernel_rfl) (by rfl) ?_ ?_; rotate_left; (intro w_ hS_; have hk_ := hF w_ hS_; go_simp <;> with_reducible rfl); simp only [Act.put, List.setIfInBounds_toArray, List.set_cons_zero, List.set_cons_succ]))
                    refine Rh.Steps.forced (i := 14) (by kernel_rfl) ?_
                    refine Rh.One.store (fun u => VO g q u) (fun _ _ h k => h.stays k) (by rfl) (by rfl) ?_ ?_
                    · intro w_ hS_ hG_
                      have hvo := (hG_.1.2).vo
                      have hp := hvo.plain
                      refine ⟨w_.setRow g (cO q), ?_, below_setRow hS_ hg _, hvo.set _⟩
                      clear hS_ hG_ hvo
                      go_simp
                    repeat (first | (refine Rh.Steps.skip (by rfl) (by kernel_rfl) (by rfl) ?_; simp only [Act.put, List.setIfInBounds_toArray, List.set_cons_zero, List.set_cons_succ]) | (refine Rh.Steps.pure (v := ?_) (by rfl) (by kernel_rfl) (by rfl) ?_ ?_; rotate_left; (intro w_ hS_; have hk_ := hF w_ hS_; go_simp <;> with_reducible rfl); simp only [Act.put, List.setIfInBounds_toArray, List.set_cons_zero, List.set_cons_succ]))
                    refine Rh.Steps.nil (by kernel_rfl) ?_
                    intro w9 hS9 hG9
                    go_wp2_with fail
                    go_meet
                    exact ⟨g, rfl, rfl, hS9, hG9⟩
                · refine Rh.One.val (AlF W5.heap.size) (fun v _ _ h k => h.stays k) (by rfl) (by rfl) ?_ ?_
                  · intro w_ hS_ hG_
                    refine ⟨_, _, ?_, below1 w_ (.cells #[.int .i64 0, .int .i64 0, .int .i64 0, .int .i64 0, .int .i64 0] 31), AlF.made w_ hS_.size⟩
                    go_simp
                  intro v17 u17 hv17
                  obtain ⟨g, rfl, hg, _⟩ := hv17
                  simp only [Act.put, List.setIfInBounds_toArray, List.set_cons_zero, List.set_cons_succ]
                  refine Rh.Steps.forced (i := 3) (by kernel_rfl) ?_
                  refine Rh.One.new (fun v u => OwnL B W5.heap.size (c.1) v u ∧ AlF W5.heap.size (.pointer (some ⟨g, 0, none⟩)) u) (fun v _ _ h k => ⟨h.1.stays k, h.2.stays k⟩) (by rfl) (by rfl) ?_ ?_
                  · intro w_ hS_ hG_
                    obtain ⟨v', u', hrun, ho, hbl, hvo⟩ := lv_app (HB.out W5 hbwc) hS_.size (hG_.1.2) (HLc.out w_ hS_).1 (by have := small_right HPS.out.right; unfold Small at this; simp only [List.length_nil]; omega)
                    refine ⟨v', u', ?_, hbl _ hS_, ⟨(by simpa using ho), (hG_.2).app hvo⟩⟩
                    go_simp
                  intro v3 u3 hv3
                  simp only [Act.put, List.setIfInBounds_toArray, List.set_cons_zero, List.set_cons_succ]
                  refine Rh.Steps.forced (i := 6) (by kernel_rfl) ?_
                  refine Rh.One.new (fun v u => OwnL B W5.heap.size (c.1 ++ c.2.1) v u ∧ AlF W5.heap.size (.pointer (some ⟨g, 0, none⟩)) u) (fun v _ _ h k => ⟨h.1.stays k, h.2.stays k⟩) (by rfl) (by rfl) ?_ ?_
                  · intro w_ hS_ hG_
                    obtain ⟨v', u', hrun, ho, hbl, hvo⟩ := lv_app (HB.out W5 hbwc) hS_.size (hG_.1) (HLc.out w_ hS_).2 (by have := small_right HPS.out.right; unfold Small at this;  omega)
                    refine ⟨v', u', ?_, hbl _ hS_, ⟨ho, (hG_.2).app hvo⟩⟩
                    go_simp
                  intro v6 u6 hv6
                  simp only [Act.put, List.setIfInBounds_toArray, List.set_cons_zero, List.set_cons_succ]
                  refine Rh.Steps.forced (i := 9) (by kernel_rfl) ?_
                  refine Rh.One.call (fun v u => v = .tuple #[.agg (cO q), .bool q.isSome]) (fun _ _ _ h _ => h) (f := ?_) (args := ?_) (by rfl) (by rfl) ?_ ?_ ?_
                  rotate_left 2
                  · intro w_ hS_ hG_; go_simp <;> first | with_reducible rfl | (constructor <;> with_reducible rfl)
                  · intro w_ hS_ hG_; (go_at_call 23; refine (find_fi HFq (Own.is (by decide) (HB.out W5 hbwc) (hG_.1)) (by have := small_right HPS.out.right; unfold Small at this; rw [List.length_append]; omega) (by have := small_right HPS.out.right; unfold Small at this; rw [flat_app, List.length_append]; omega)).mono ?_; rintro e w' ⟨rfl, hb9⟩; exact ⟨_, rfl, hb9, rfl⟩)
                  intro v9 u_ hv9
                  simp only [Act.put, List.setIfInBounds_toArray, List.set_cons_zero, List.set_cons_succ]
                  subst hv9
                  repeat (first | (refine Rh.Steps.skip (by rfl) (by kernel_rfl) (by rfl) ?_; simp only [Act.put, List.setIfInBounds_toArray, List.set_cons_zero, List.set_cons_succ]) | (refine Rh.Steps.pure (v := ?_) (by rfl) (by kernel_rfl) (by rfl) ?_ ?_; rotate_left; (intro w_ hS_; have hk_ := hF w_ hS_; go_simp <;> with_reducible rfl); simp only [Act.put, List.setIfInBounds_toArray, List.set_cons_zero, List.set_cons_succ]))
                  refine Rh.Steps.forced (i := 14) (by kernel_rfl) ?_
                  refine Rh.One.store (fun u => VO g q u) (fun _ _ h k => h.stays k) (by rfl) (by rfl) ?_ ?_
                  · intro w_ hS_ hG_
                    have hvo := (hG_.1.2).vo
                    have hp := hvo.plain
                    refine ⟨w_.setRow g (cO q), ?_, below_setRow hS_ hg _, hvo.set _⟩
                    clear hS_ hG_ hvo
                    go_simp
                  repeat (first | (refine Rh.Steps.skip (by rfl) (by kernel_rfl) (by rfl) ?_; simp only [Act.put, List.setIfInBounds_toArray, List.set_cons_zero, List.set_cons_succ]) | (refine Rh.Steps.pure (v := ?_) (by rfl) (by kernel_rfl) (by rfl) ?_ ?_; rotate_left; (intro w_ hS_; have hk_ := hF w_ hS_; go_simp <;> with_reducible rfl); simp only [Act.put, List.setIfInBounds_toArray, List.set_cons_zero, List.set_cons_succ]))
                  refine Rh.Steps.nil (by kernel_rfl) ?_
                  intro w9 hS9 hG9
                  go_wp2_with fail
                  go_meet
                  exact ⟨g, rfl, rfl, hS9, hG9⟩
              · refine Rh.One.val (AlF W5.heap.size) (fun v _ _ h k => h.stays k) (by rfl) (by rfl) ?_ ?_
                · intro w_ hS_ hG_
                  refine ⟨_, _, ?_, below1 w_ (.cells #[.int .i64 0, .int .i64 0, .int .i64 0, .int .i64 0, .int .i64 0] 31), AlF.made w_ hS_.size⟩
                  go_simp
                intro v17 u17 hv17
                obtain ⟨g, rfl, hg, _⟩ := hv17
                simp only [Act.put, List.setIfInBounds_toArray, List.set_cons_zero, List.set_cons_succ]
                refine Rh.Steps.forced (i := 0) (by kernel_rfl) ?_
                refine Rh.One.val (fun v u => OwnL B W5.heap.size [] v u) (fun v _ _ h k => h.stays k) (by rfl) (by rfl) ?_ ?_
                · intro w_ hS_ hG_
                  refine ⟨_, _, ?_, below1 w_ (.cells #[] 48), Own.made B w_ W5.heap.size hS_.size⟩
                  go_simp
                intro v0 u0 hv0
                simp only [Act.put, List.setIfInBounds_toArray, List.set_cons_zero, List.set_cons_succ]
                refine Rh.Steps.forced (i := 3) (by kernel_rfl) ?_
                refine Rh.One.new (fun v u => OwnL B W5.heap.size (c.1) v u ∧ AlF W5.heap.size (.pointer (some ⟨g, 0, none⟩)) u) (fun v _ _ h k => ⟨h.1.stays k, h.2.stays k⟩) (by rfl) (by rfl) ?_ ?_
                · intro w_ hS_ hG_
                  obtain ⟨v', u', hrun, ho, hbl, hvo⟩ := lv_app (HB.out W5 hbwc) hS_.size (hG_.2) (HLc.out w_ hS_).1 (by have := small_right HPS.out.right; unfold Small at this; simp only [List.length_nil]; omega)
                  refine ⟨v', u', ?_, hbl _ hS_, ⟨(by simpa using ho), (hG_.1.2).app hvo⟩⟩
                  go_simp
                intro v3 u3 hv3
                simp only [Act.put, List.setIfInBounds_toArray, List.set_cons_zero, List.set_cons_succ]
                refine Rh.Steps.forced (i := 6) (by kernel_rfl) ?_
                refine Rh.One.new (fun v u => OwnL B W5.heap.size (c.1 ++ c.2.1) v u ∧ AlF W5.heap.size (.pointer (some ⟨g, 0, none⟩)) u) (fun v _ _ h k => ⟨h.1.stays k, h.2.stays k⟩) (by rfl) (by rfl) ?_ ?_
                · intro w_ hS_ hG_
                  obtain ⟨v', u', hrun, ho, hbl, hvo⟩ := lv_app (HB.out W5 hbwc) hS_.size (hG_.1) (HLc.out w_ hS_).2 (by have := small_right HPS.out.right; unfold Small at this;  omega)
                  refine ⟨v', u', ?_, hbl _ hS_, ⟨ho, (hG_.2).app hvo⟩⟩
                  go_simp
                intro v6 u6 hv6
                simp only [Act.put, List.setIfInBounds_toArray, List.set_cons_zero, List.set_cons_succ]
                refine Rh.Steps.forced (i := 9) (by kernel_rfl) ?_
                refine Rh.One.call (fun v u => v = .tuple #[.agg (cO q), .bool q.isSome]) (fun _ _ _ h _ => h) (f := ?_) (args := ?_) (by rfl) (by rfl) ?_ ?_ ?_
                rotate_left 2
                · intro w_ hS_ hG_; go_simp <;> first | with_reducible rfl | (constructor <;> with_reducible rfl)
                · intro w_ hS_ hG_; (go_at_call 23; refine (find_fi HFq (Own.is (by decide) (HB.out W5 hbwc) (hG_.1)) (by have := small_right HPS.out.right; unfold Small at this; rw [List.length_append]; omega) (by have := small_right HPS.out.right; unfold Small at this; rw [flat_app, List.length_append]; omega)).mono ?_; rintro e w' ⟨rfl, hb9⟩; exact ⟨_, rfl, hb9, rfl⟩)
                intro v9 u_ hv9
                simp only [Act.put, List.setIfInBounds_toArray, List.set_cons_zero, List.set_cons_succ]
                subst hv9
                repeat (first | (refine Rh.Steps.skip (by rfl) (by kernel_rfl) (by rfl) ?_; simp only [Act.put, List.setIfInBounds_toArray, List.set_cons_zero, List.set_cons_succ]) | (refine Rh.Steps.pure (v := ?_) (by rfl) (by kernel_rfl) (by rfl) ?_ ?_; rotate_left; (intro w_ hS_; have hk_ := hF w_ hS_; go_simp <;> with_reducible rfl); simp only [Act.put, List.setIfInBounds_toArray, List.set_cons_zero, List.set_cons_succ]))
                refine Rh.Steps.forced (i := 14) (by kernel_rfl) ?_
                refine Rh.One.store (fun u => VO g q u) (fun _ _ h k => h.stays k) (by rfl) (by rfl) ?_ ?_
                · intro w_ hS_ hG_
                  have hvo := (hG_.1.2).vo
                  have hp := hvo.plain
                  refine ⟨w_.setRow g (cO q), ?_, below_setRow hS_ hg _, hvo.set _⟩
                  clear hS_ hG_ hvo
                  go_simp
                repeat (first | (refine Rh.Steps.skip (by rfl) (by kernel_rfl) (by rfl) ?_; simp only [Act.put, List.setIfInBounds_toArray, List.set_cons_zero, List.set_cons_succ]) | (refine Rh.Steps.pure (v := ?_) (by rfl) (by kernel_rfl) (by rfl) ?_ ?_; rotate_left; (intro w_ hS_; have hk_ := hF w_ hS_; go_simp <;> with_reducible rfl); simp only [Act.put, List.setIfInBounds_toArray, List.set_cons_zero, List.set_cons_succ]))
                refine Rh.Steps.nil (by kernel_rfl) ?_
                intro w9 hS9 hG9
                go_wp2_with fail
                go_meet
                exact ⟨g, rfl, rfl, hS9, hG9⟩
          case rest =>
            obtain ⟨g, rfl, rfl, hb6, hv6⟩ := hcut
            obtain ⟨W6, rfl⟩ : ∃ W6 : World, W6 = wc := ⟨_, rfl⟩
            have hbw6 := nx hbwc hb6
            obtain ⟨⟨j0, j1, j2, j3, j4⟩, jz⟩ := HOp.out W6 (nx hbUc hb6)
            obtain ⟨_, _, k2, _, kz⟩ := hF W6 hb6
            have gr := hv6.row
            have gz := hv6.lt
            clear hF hcz h1c hv6
            cases hrr : rr
            · as_aux_lemma =>
                have hcond : ¬ (rs = true ∧ 0 < lf) := fun h => by
                  have := HRr.out
                  rw [hrr, h.1, decide_eq_true h.2] at this
                  cases this
                obtain rfl : id = 0 := by rw [HPS.out.num, if_neg hcond]
                have e1 : ((0 : Int) == n) = false := by
                  have h1 := HR.out.n1
                  rw [HNb.out] at h1
                  exact beq_false_of_ne (by omega)
                obtain rfl : none = q := by rw [← HFq.out, ← HNb.out, HPS.out.find, if_neg hcond]
                clear hcond hrr gr
                go_wp2_with fail
                refine (awake_any W6).mono ?_
                rintro e w9 ⟨rfl, hb9⟩
                go_wp2
                go_ret
                exact ⟨rfl, nx hbw6 hb9⟩
            · as_aux_lemma =>
                have hcond : rs = true ∧ 0 < lf := by
                  have := HRr.out
                  rw [hrr, Bool.and_eq_true] at this
                  exact ⟨this.1, of_decide_eq_true this.2⟩
                have hid2 : id = n := by rw [HPS.out.num, if_pos hcond, HNb.out]
                obtain rfl : some (id, o2, 2, o4, lf) = q := by rw [← HFq.out, hid2, ← HNb.out, HPS.out.find, if_pos hcond]
                subst hid2
                replace gr : row W6 g = #[.int .i64 id, .int .i64 o2, .int .i64 2, .int .i64 o4, .int .i64 lf] := gr
                have heq : eqO (id, o2, 2, o4, lf) (id, o2, 2, o4, lf) = true := by simp [eqO]
                clear hcond hrr
                go_wp2_with fail
                refine (awake_any W6).mono ?_
                rintro e w9 ⟨rfl, hb9⟩
                go_wp2
                go_ret
                exact ⟨rfl, nx hbw6 hb9⟩
end Go.Proofs.Ytfnmmknbjfmagaa.Bk
