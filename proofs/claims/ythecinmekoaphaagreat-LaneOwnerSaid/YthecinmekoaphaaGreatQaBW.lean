/- Package lane as it landed: Place, walked (written by gen_lwj.py). -/
import Derived.Test.YthecinmekoaphaaGreatQaBS
import Derived.Test.YthecinmekoaphaaGreatQaBR
import Derived.Test.YthecinmekoaphaaGreatQaBV
set_option linter.unusedVariables false
namespace Go.Proofs.YthecinmekoaphaaGreat.La
open Go.RowKit
open Go.Proofs.YthecinmekoaphaaGreat.Rw
open Go.Proofs.YthecinmekoaphaaGreat.Da
open Go.Proofs.YthecinmekoaphaaGreat.Le
open Go.Proofs.YthecinmekoaphaaGreat.Bk
open Go.Proofs.YthecinmekoaphaaGreat.Ac (Hd Pu HL pmay pmay_iff tot total giveE giveL takeE takeL)
theorem placeB_is {b : Bk} {ow s p q : Int} {rest : Bool} {c : Pl} (h : Hid (place b ow s p q rest = c)) (h1 : b.1.length ≤ 1000) (h2 : (flat b.1).length ≤ 1000) (h3 : b.2.1.length ≤ 1000) (h4 : (flat b.2.1).length ≤ 1000) (B : Bs) (v : Value) (w : World) (hb : BL B b v w) (hB : B.le w.heap.size) :
    Calls Tryz.prog 50 #[v, .int .i64 ow, .int .i64 s, .int .i64 p, .int .i64 q, .bool rest] w (PlR B c.1 c.2.1 c.2.2.1 c.2.2.2.1 c.2.2.2.2 w) := by
  rw [← h.out]
  refine (Bk.place_any B b v ow s p q rest w hb hB h1 h2 h3 h4).mono fun e w' h => ?_
  obtain ⟨bv, fv, rfl, hb, ⟨x, y, rfl, h1, h2⟩, h3⟩ := h
  obtain ⟨a1, c1, rfl⟩ := h1.len
  obtain ⟨a2, c2, rfl⟩ := h2.len
  obtain ⟨fa, fc, rfl⟩ := h3.len
  exact ⟨a1, _, c1, a2, _, c2, _, fa, _, fc, rfl, rfl, rfl, hb, h1, h2, h3⟩
theorem fin_set {l : Ln} {fr : List Hd} {ow s p L : Int} {C : Pl} {S : List Hd × Int × Int × Int} (hs : s = 1 ∨ s = 2) (hid : 0 ≤ C.2.2.2.1) (hL : L = if C.2.2.2.1 = 0 then 0 else C.2.2.1) (hp : S.2.1 = sumP s C.2.1) (hg : S.2.2.1 = sumG s C.2.1) :
    fin l fr ow s p C S = if setE l.1 l.2.1 ow s fr (ndN s p L + sumP s C.2.1) (sumG s C.2.1) = 0 then ((l.1, l.2.1, C.1, S.1), giveL (takeL fr (ow, ndA l.1 l.2.1 s) (ndN s p L + sumP s C.2.1)) (ow, ndA l.1 l.2.1 (othS s)) (sumG s C.2.1), C.2.1, C.2.2.2.1, 0) else (l, fr, [], 0, setE l.1 l.2.1 ow s fr (ndN s p L + sumP s C.2.1) (sumG s C.2.1)) := by
  have e1 : (if s = 2 then l.1 else l.2.1) = ndA l.1 l.2.1 s := by rcases hs with rfl | rfl <;> rfl
  have e2 : (if s = 2 then l.2.1 else l.1) = ndA l.1 l.2.1 (othS s) := by rcases hs with rfl | rfl <;> rfl
  have e3 : S.2.1 + (if 0 < C.2.2.2.1 then ndN s p C.2.2.1 else 0) = ndN s p L + sumP s C.2.1 := by
    rw [hp, hL]
    by_cases h0 : C.2.2.2.1 = 0
    · rw [if_pos h0, if_neg (by omega)]
      have : ndN s p 0 = 0 := by unfold ndN; split <;> simp
      omega
    · rw [if_neg h0, if_pos (by omega)]; omega
  unfold fin setE
  simp only
  rw [e1, e2, e3, hg]
  by_cases h1 : takeE fr (ow, ndA l.1 l.2.1 s) (ndN s p L + sumP s C.2.1) = 0
  · rw [if_pos h1, if_pos h1]
  · rw [if_neg h1, if_neg h1, if_neg h1]
set_option maxRecDepth 16000 in
set_option maxHeartbeats 32000000 in
theorem lplace_any (B : Bs) (l : Ln) (v : Value) (fr : List Hd) (fv : Value) (ow s p q : Int) (rest : Bool) (w : World) (h : LN B l v w) (hfr : HL B.lo fr fv w) (hB : B.le w.heap.size) (hs : Sm l) (hfm : fr.length ≤ 1000) :
    Calls Tryz.prog 16 #[v, fv, .int .i64 ow, .int .i64 s, .int .i64 p, .int .i64 q, .bool rest] w (PostPN B (placeN l fr ow s p q rest) w) := by
  have HSm := Lib.hid hs
  obtain ⟨R, hR⟩ : ∃ R, placeN l fr ow s p q rest = R := ⟨_, rfl⟩
  have HR := Lib.hid hR
  rw [hR]
  obtain ⟨r, hr⟩ : ∃ r, (rightN l && Ac.right fr) = r := ⟨_, rfl⟩
  have HR1 := Lib.hid hr
  have hm1 := hs.m1
  have hm2 := hs.m2
  have hm3 := hs.m3
  have hm4 := hs.m4
  have hm5 := hs.m5
  clear hR hr
  obtain ⟨lb, lq, ⟨bu, se, nn⟩, od⟩ := l
  simp only at hm1 hm2 hm3 hm4 hm5
  obtain ⟨a1, n1, c1, a2, n2, c2, a3, n3, c3, rfl, e1, e2, e3, hl1, hl2, hl3⟩ := h.open'
  simp only at e1 e2 e3 hl1 hl2 hl3
  obtain ⟨V, hV⟩ : ∃ V, V = (w.alloc (.cells (cN lb lq (.slice a1 n1 c1) (.slice a2 n2 c2) nn (.slice a3 n3 c3)) 28)).alloc (.cells (nilN 0 0 0) 28) := ⟨_, rfl⟩
  have hbV : Below w.heap.size w V := hV ▸ below2 w _ _
  have hx0 : LB B (lb, lq, (bu, se, nn), od) (.slice a1 n1 c1) (.slice a2 n2 c2) (.slice a3 n3 c3) w.heap.size V := by rw [hV]; exact (LB.made hl1 hl2 hl3 hB.1).stays (below1 _ _)
  have hg0 : V.heap[w.heap.size + 1]? = some (.cells (nilN 0 0 0) 28 (0, 0)) := by
    have := heap_alloc_new (w.alloc (.cells (cN lb lq (.slice a1 n1 c1) (.slice a2 n2 c2) nn (.slice a3 n3 c3)) 28)) (.cells (nilN 0 0 0) 28)
    rw [World.size_alloc] at this
    rw [hV]; exact this
  have HB := Lib.hid (show ∀ u, Below w.heap.size w u → B.le u.heap.size from fun u hu => hB.mono hu.size)
  have HSt0 := Lib.hid (show St0 B (lb, lq, (bu, se, nn), od) (.slice a1 n1 c1) (.slice a2 n2 c2) (.slice a3 n3 c3) w.heap.size fr fv w V from ⟨hx0, hg0, hl_stays hfr hbV, hbV⟩)
  obtain ⟨fa, fc, rfl⟩ := hl_slice hfr
  obtain ⟨fn, hfn⟩ : ∃ fn, fr.length = fn := ⟨_, rfl⟩
  rw [hfn] at HSt0 hfm ⊢
  have HFn := Lib.hid hfn
  have r0 := hx0.row
  simp only at r0
  rw [hV] at r0
  have HV := Lib.hid hV
  clear hx0 hg0 hl1 hl2 hl3 h hfr hB e1 e2 e3 hV hfn hs
  go_enter Tryz.func16, Tryz.ntmps16
  go_wp2_with fail
  rw [← HV.out]
  refine (areRight_is HR1 HSt0.out.lb.ln HSt0.out.fr (HB.out V hbV) HSm.out (by rw [HFn.out]; exact hfm)).mono ?_
  rintro e w1 ⟨rfl, hb1⟩
  have HSt1 := Lib.hid (HSt0.out.stays hb1)
  clear r0
  cases r
  · have HZ : Hid (R = ((lb, lq, (bu, se, nn), od), fr, [], 0, 1)) := Lib.hid (by rw [← HR.out]; unfold placeN; rw [HR1.out, if_neg (by decide)])
    have hrow := HSt1.out.lb.row
    simp only at hrow
    have hpl := HSt1.out.pl
    obtain ⟨z1, z2⟩ := HSt1.out.lt
    go_wp2
    refine bodyPost_ret (v := .tuple #[.agg (cN lb lq (.slice a1 n1 c1) (.slice a2 n2 c2) nn (.slice a3 n3 c3)), .slice fa fn fc, .slice none 0 0, .int .i64 0, .int .i64 1]) (ret_N5 Tryz.results16 _ _ rfl ?c1) rfl ⟨_, _, _, by rw [HZ.out], ?c2⟩
    case c1 => exact row_set _ hpl
    case c2 =>
      rw [HZ.out]
      obtain ⟨q1, q2, q3⟩ := HSt1.out.ret
      exact ⟨q1, q2, q3, Is.nil _ _ _ _⟩
  have hrr := HR1.out
  rw [Bool.and_eq_true] at hrr
  have hrt := rightN_iff.1 hrr.1
  have HRt := Lib.hid hrt
  obtain ⟨C, hC⟩ : ∃ C, place (bu, se, nn) ow s p q rest = C := ⟨_, rfl⟩
  have HC := Lib.hid hC
  have HPl : Hid (R = if C.2.2.2.2 = 0 then (if (stl lb lq s C.2.1 od 0 0).2.2.2 = 0 then fin (lb, lq, (bu, se, nn), od) fr ow s p C (stl lb lq s C.2.1 od 0 0) else ((lb, lq, (bu, se, nn), od), fr, [], 0, (stl lb lq s C.2.1 od 0 0).2.2.2)) else ((lb, lq, (bu, se, nn), od), fr, [], 0, C.2.2.2.2)) := Lib.hid (by
    rw [← HR.out]; unfold placeN; rw [HR1.out, if_pos rfl]; simp only; rw [hC])
  clear hrr hrt hC
  obtain ⟨_, _, r2, r3, r4, _⟩ := HSt1.out.lb.cells
  simp only at r2 r3 r4
  have z1 := HSt1.out.lt.1
  have hbw1 : Below w.heap.size w w1 := HSt1.out.bel
  go_wp2_with fail
  refine (placeB_is HC hm1 hm2 hm3 hm4 B _ w1 HSt1.out.lb.bl (HB.out w1 hbw1)).mono ?_
  rintro e w5 ⟨b1, k1, d1, b2, k2, d2, n', ga, gn, gc, rfl, hnn', hgn, hb5, hlb1, hlb2, hfl⟩
  clear r2 r3 r4 z1
  obtain ⟨lf, hlf⟩ : ∃ lf, C.2.2.1 = lf := ⟨_, rfl⟩
  obtain ⟨id, hid⟩ : ∃ id, C.2.2.2.1 = id := ⟨_, rfl⟩
  obtain ⟨er, her⟩ : ∃ er, C.2.2.2.2 = er := ⟨_, rfl⟩
  rw [hlf, hid, her]
  have HQ := Lib.hid (show C.2.2.1 = lf ∧ C.2.2.2.1 = id ∧ C.2.2.2.2 = er ∧ C.1.2.2 = n' ∧ C.2.1.length = gn from ⟨hlf, hid, her, hnn', hgn⟩)
  obtain ⟨M5, hM5⟩ : ∃ M, M = w5.alloc (.cells #[.slice b1 k1 d1, .slice b2 k2 d2, .int .i64 n'] 25) := ⟨_, rfl⟩
  have hbM5 : Below w5.heap.size w5 M5 := hM5 ▸ below1 w5 _
  have HSt5 := Lib.hid ((HSt1.out.stays hb5).stays hbM5)
  have hst5' := HSt1.out.stays hb5
  have HBk := Lib.hid (show ∀ u, Below M5.heap.size M5 u → u.heap[w5.heap.size]? = some (.cells #[.slice b1 k1 d1, .slice b2 k2 d2, .int .i64 n'] 25 (0, 0)) ∧ LL B C.1.1 (.slice b1 k1 d1) u ∧ LL B C.1.2.1 (.slice b2 k2 d2) u ∧ FL B C.2.1 (.slice ga gn gc) u from fun u hu => by
    have hb := nx hbM5 hu
    have hbk : M5.heap[w5.heap.size]? = some (.cells #[.slice b1 k1 d1, .slice b2 k2 d2, .int .i64 n'] 25 (0, 0)) := by rw [hM5]; exact heap_alloc_new w5 _
    refine ⟨(hu.block _ (Array.getElem?_eq_some_iff.1 hbk).1).trans hbk, Is.stays eL 98 hlb1 hb, Is.stays eL 98 hlb2 hb, Is.stays eFl 91 hfl hb⟩)
  have HZ5 := Lib.hid hst5'.lt.2
  have HM5 := Lib.hid hM5
  clear hlf hid her hnn' hgn hlb1 hlb2 hfl hM5 hst5'
  go_upto_region 4 with fail
  rw [← HM5.out]
  by_cases hne : er ≠ 0
  · have hde : (er != 0) = true := by simpa using hne
    have HZ : Hid (R = ((lb, lq, (bu, se, nn), od), fr, [], 0, er)) := Lib.hid (by rw [HPl.out, HQ.out.2.2.1, if_neg hne])
    clear hne
    have hrow := HSt5.out.lb.row
    simp only at hrow
    have hpl := HSt5.out.pl
    obtain ⟨z1, z2⟩ := HSt5.out.lt
    go_wp2
    refine bodyPost_ret (v := .tuple #[.agg (cN lb lq (.slice a1 n1 c1) (.slice a2 n2 c2) nn (.slice a3 n3 c3)), .slice fa fn fc, .slice none 0 0, .int .i64 0, .int .i64 er]) (ret_N5 Tryz.results16 _ _ rfl ?c1) rfl ⟨_, _, _, by rw [HZ.out], ?c2⟩
    case c1 => exact row_set _ hpl
    case c2 =>
      rw [HZ.out]
      obtain ⟨q1, q2, q3⟩ := HSt5.out.ret
      exact ⟨q1, q2, q3, Is.nil _ _ _ _⟩
  obtain rfl : 0 = er := by have : er = 0 := by simpa using hne
                            exact this.symm
  clear hne
  have hPN : PlN lb lq (bu, se, nn) ow s p C := by rw [← HC.out]; exact place_n HRt.out.book (by rw [HC.out]; exact HQ.out.2.2.1)
  have HPN := Lib.hid hPN
  obtain ⟨S, hS⟩ : ∃ S, stl lb lq s C.2.1 od 0 0 = S := ⟨_, rfl⟩
  have HS := Lib.hid hS
  have HP2 : Hid (R = if S.2.2.2 = 0 then fin (lb, lq, (bu, se, nn), od) fr ow s p C S else ((lb, lq, (bu, se, nn), od), fr, [], 0, S.2.2.2)) := Lib.hid (by rw [HPl.out, HQ.out.2.2.1, if_pos rfl, hS])
  have hrow := HSt5.out.lb.row
  simp only at hrow
  have z1 := HSt5.out.lt.1
  obtain ⟨M, hM⟩ : ∃ M, M = M5.alloc (.cells (cN lb lq (.slice a1 n1 c1) (.slice a2 n2 c2) nn (.slice a3 n3 c3)) 74) := ⟨_, rfl⟩
  have hbM : Below M5.heap.size M5 M := hM ▸ below1 M5 _
  have HStM := Lib.hid (HSt5.out.stays hbM)
  have HVB := Lib.hid (show VB B (lb, lq, (bu, se, nn), od) (.slice a1 n1 c1) (.slice a2 n2 c2) (.slice a3 n3 c3) M5.heap.size M from by rw [hM]; exact VB.made (l := (lb, lq, (bu, se, nn), od)) HSt5.out.lb.l1 HSt5.out.lb.l2 HSt5.out.lb.l3 (HB.out M5 HSt5.out.bel).1)
  have HM := Lib.hid hM
  clear hPN hS hM
  go_upto_region 7 with fail
  rw [← HM.out]
  clear hrow z1
  have hrow := HVB.out.row
  simp only at hrow
  have z1 := HVB.out.lt
  obtain ⟨es, hes⟩ : ∃ x, S.2.2.2 = x := ⟨_, rfl⟩
  have HEs := Lib.hid hes
  clear hes
  go_wp2_with fail
  refine (lowe_any B (lb, lq, (bu, se, nn), od) _ s C.2.1 _ M S HS.out HVB.out.ln (HB.out M HStM.out.bel) (HBk.out M hbM).2.2.2 (fun f hf => HPN.out.fills f hf) (Nat.le_trans HPN.out.cnt (by decide)) hm5).mono ?_
  rintro e w6 ⟨ax, nx', cx, rfl, hb6, hx6⟩
  rw [HEs.out] at hx6 ⊢
  have HSt6 := Lib.hid (HStM.out.stays hb6)
  have hb56 := nx hbM hb6
  by_cases hne : es ≠ 0
  · have hde : (es != 0) = true := by simpa using hne
    have HZ : Hid (R = ((lb, lq, (bu, se, nn), od), fr, [], 0, es)) := Lib.hid (by rw [HP2.out, HEs.out, if_neg hne])
    clear hne hrow z1
    have hrow := HSt6.out.lb.row
    simp only at hrow
    have hpl := HSt6.out.pl
    obtain ⟨z1, z2⟩ := HSt6.out.lt
    go_wp2
    refine bodyPost_ret (v := .tuple #[.agg (cN lb lq (.slice a1 n1 c1) (.slice a2 n2 c2) nn (.slice a3 n3 c3)), .slice fa fn fc, .slice none 0 0, .int .i64 0, .int .i64 es]) (ret_N5 Tryz.results16 _ _ rfl ?c1) rfl ⟨_, _, _, by rw [HZ.out], ?c2⟩
    case c1 => exact row_set _ hpl
    case c2 =>
      rw [HZ.out]
      obtain ⟨q1, q2, q3⟩ := HSt6.out.ret
      exact ⟨q1, q2, q3, Is.nil _ _ _ _⟩
  obtain rfl : 0 = es := by have : es = 0 := by simpa using hne
                            exact this.symm
  have HX6 := Lib.hid (hx6 rfl)
  have hStS : StS lb lq s C.2.1 od 0 0 S := by rw [← HS.out]; exact stl_ok HRt.out.owed (by rw [HS.out]; exact HEs.out)
  obtain ⟨L, hL⟩ : ∃ L, L = if id = 0 then 0 else lf := ⟨_, rfl⟩
  have hfin := fin_set (l := (lb, lq, (bu, se, nn), od)) (fr := fr) (ow := ow) (p := p) (S := S) (L := L) HPN.out.side HPN.out.id (by rw [HQ.out.2.1, HQ.out.1]; exact hL) (by have := hStS.pays; omega) (by have := hStS.gets; omega)
  simp only at hfin
  obtain ⟨E, hE⟩ : ∃ E, setE lb lq ow s fr (ndN s p L + sumP s C.2.1) (sumG s C.2.1) = E := ⟨_, rfl⟩
  rw [hE, HQ.out.2.1] at hfin
  have HE := Lib.hid hE
  have HP3 : Hid (R = if E = 0 then ((lb, lq, C.1, S.1), giveL (takeL fr (ow, ndA lb lq s) (ndN s p L + sumP s C.2.1)) (ow, ndA lb lq (othS s)) (sumG s C.2.1), C.2.1, id, 0) else ((lb, lq, (bu, se, nn), od), fr, [], 0, E)) := Lib.hid (by rw [HP2.out, HEs.out, if_pos rfl, hfin])
  have hlf := HPN.out.left
  rw [HQ.out.1] at hlf
  have hLb : 0 ≤ L ∧ L ≤ 1048576 := by rw [hL]; split <;> omega
  have HVB6 := Lib.hid (HVB.out.stays hb6)
  have HL := Lib.hid hL
  have hid0 := HPN.out.id
  rw [HQ.out.2.1] at hid0
  have hpr : 0 ≤ p ∧ p ≤ 1048576 := by have := HPN.out.price; omega
  obtain ⟨M7, hM7⟩ : ∃ M, M = w6.alloc (.cells #[.int .i64 0, .int .i64 ow, .int .i64 s, .int .i64 p, .int .i64 0] 70) := ⟨_, rfl⟩
  have hbM7 : Below w6.heap.size w6 M7 := hM7 ▸ below1 w6 _
  have hor7 : M7.heap[w6.heap.size]? = some (.cells #[.int .i64 0, .int .i64 ow, .int .i64 s, .int .i64 p, .int .i64 0] 70 (0, 0)) := by rw [hM7]; exact heap_alloc_new w6 _
  have HM7 := Lib.hid hM7
  have HOr7 := Lib.hid hor7
  clear hne hx6 hStS hL hE hfin hrow z1 hM7 hor7
  go_upto_region 11 with fail
  rw [← HM7.out]
  by_cases hi0 : id = 0
  · have hdi : (id != 0) = false := by simpa using hi0
    have hor : M7.heap[w6.heap.size]? = some (.cells #[.int .i64 0, .int .i64 ow, .int .i64 s, .int .i64 p, .int .i64 L] 70 (0, 0)) := by rw [HL.out, if_pos hi0]; exact HOr7.out
    obtain ⟨U, hU⟩ : ∃ U, U = M7 := ⟨_, rfl⟩
    have hb7 : Below w6.heap.size w6 U := hU ▸ hbM7
    rw [← hU] at hor
    have HU := Lib.hid hU
    clear hi0 hU
    go_upto_region 13 with fail
    rw [← HU.out]
    have HSt7 := Lib.hid (HSt6.out.stays hb7)
    have HVB7 := Lib.hid (HVB6.out.stays hb7)
    have hrow := HVB7.out.row
    simp only at hrow
    have z1 := HVB7.out.lt
    have ro : row U w6.heap.size = #[.int .i64 0, .int .i64 ow, .int .i64 s, .int .i64 p, .int .i64 L] := by unfold Rw.row; rw [hor]
    have zo := (Array.getElem?_eq_some_iff.1 hor).1
    have hb57 := nx hb56 hb7
    have hcall := Lib.hid (lsettle_any B (lb, lq, (bu, se, nn), od) _ fr _ 0 ow s p L C.2.1 _ U HVB7.out.ln HSt7.out.fr (HB.out U HSt7.out.bel) (HBk.out U hb57).2.2.2 (fun f hf => HPN.out.fills f hf) HPN.out.cnt (by rw [HFn.out]; exact hfm) HPN.out.side hpr hLb E HE.out)
    clear hor
    go_wp2_with fail
    refine hcall.out.mono ?_
    rintro e w8 ⟨a11, n11, c11, rfl, hb8, hf8⟩
    have HSt8 := Lib.hid (HSt7.out.stays hb8)
    by_cases hne2 : E ≠ 0
    · have hde2 : (E != 0) = true := by simpa using hne2
      have HZ : Hid (R = ((lb, lq, (bu, se, nn), od), fr, [], 0, E)) := Lib.hid (by rw [HP3.out, if_neg hne2])
      clear hne2 hrow z1 ro zo
      have hrow := HSt8.out.lb.row
      simp only at hrow
      have hpl := HSt8.out.pl
      obtain ⟨z1, z2⟩ := HSt8.out.lt
      go_wp2
      refine bodyPost_ret (v := .tuple #[.agg (cN lb lq (.slice a1 n1 c1) (.slice a2 n2 c2) nn (.slice a3 n3 c3)), .slice fa fn fc, .slice none 0 0, .int .i64 0, .int .i64 E]) (ret_N5 Tryz.results16 _ _ rfl ?c1) rfl ⟨_, _, _, by rw [HZ.out], ?c2⟩
      case c1 => exact row_set _ hpl
      case c2 =>
        rw [HZ.out]
        obtain ⟨q1, q2, q3⟩ := HSt8.out.ret
        exact ⟨q1, q2, q3, Is.nil _ _ _ _⟩
    obtain rfl : E = 0 := by simpa using hne2
    obtain ⟨ht0, hfl8⟩ := hf8 rfl
    obtain ⟨fin', hfin'⟩ : ∃ x, giveL (takeL fr (ow, ndA lb lq s) (ndN s p L + sumP s C.2.1)) (ow, ndA lb lq (othS s)) (sumG s C.2.1) = x := ⟨_, rfl⟩
    rw [hfin'] at hfl8
    have HZ : Hid (R = ((lb, lq, C.1, S.1), fin', C.2.1, id, 0)) := Lib.hid (by rw [HP3.out, if_pos rfl, hfin'])
    have hb68 := nx hb7 hb8
    have hb58 := nx hb56 hb68
    have hvb := HVB6.out.stays hb68
    have hbk := HBk.out w8 hb58
    have rb : row w8 w5.heap.size = #[.slice b1 k1 d1, .slice b2 k2 d2, .int .i64 n'] := by unfold Rw.row; rw [hbk.1]
    have zb := (Array.getElem?_eq_some_iff.1 hbk.1).1
    obtain ⟨m0, m1, m2, m3, m4, m5⟩ := hvb.cells
    simp only at m0 m1 m2 m3 m4 m5
    have mf2 := hvb.free 2
    have mf3 := hvb.free 3
    have mf4 := hvb.free 4
    have mf5 := hvb.free 5
    have zv := hvb.lt
    obtain ⟨Z1, hZ1⟩ : ∃ Z, Z = ((w8.setCell ⟨M5.heap.size, 2, none⟩ (.slice b1 k1 d1)).setCell ⟨M5.heap.size, 3, none⟩ (.slice b2 k2 d2)).setCell ⟨M5.heap.size, 4, none⟩ (.int .i64 n') := ⟨_, rfl⟩
    obtain ⟨j1, j2, j3, j4⟩ := hvb.book (bk' := C.1) (n' := n') hbk.2.1 hbk.2.2.1 HQ.out.2.2.2.1
    rw [← hZ1] at j1 j2 j3 j4
    have hloM := hvb.lo
    have hx8 := hl_keep (hl_stays HX6.out hb68) (j2 _ (by decide) (Bs.of B.lo) hloM)
    obtain ⟨i1, i2, i3, i4⟩ := j1.owed hx8
    obtain ⟨Z, hZ⟩ : ∃ Z, Z = Z1.setCell ⟨M5.heap.size, 5, none⟩ (.slice ax nx' cx) := ⟨_, rfl⟩
    rw [← hZ] at i1 i2 i3 i4
    have hv5 : w.heap.size + 1 < M5.heap.size := HSt5.out.lt.2
    have hgZ : Z.heap[w.heap.size + 1]? = some (.cells (nilN 0 0 0) 28 (0, 0)) := (i3 _ (by omega)).trans ((j3 _ (by omega)).trans HSt8.out.g)
    have hflZ := hl_keep (hl_keep hfl8 (j2 _ (by decide) (Bs.of B.lo) hloM)) (i2 _ (by decide) (Bs.of B.lo) hloM)
    have hfZ := Is.keep eFl 91 (Is.keep eFl 91 hbk.2.2.2 (j2 _ (by decide) B hloM)) (i2 _ (by decide) B hloM)
    have hbZ := (HSt8.out.bel.trans (j4 w.heap.size (by omega))).trans (i4 w.heap.size (by omega))
    have hrowZ := i1.row
    simp only at hrowZ
    rw [HQ.out.2.2.2.1] at hrowZ
    have zz := i1.lt
    have hplZ : plain 6 Z (w.heap.size + 1) = true := by simp [Rw.plain, hgZ]
    have zg := (Array.getElem?_eq_some_iff.1 hgZ).1
    have HZ1 := Lib.hid i1
    have HZ2 := Lib.hid hgZ
    have HZ3 := Lib.hid hflZ
    have HZ4 := Lib.hid hfZ
    have HZ5' := Lib.hid hbZ
    rw [hZ, hZ1] at hrowZ zz hplZ zg
    have HZe := Lib.hid hZ
    have HZe1 := Lib.hid hZ1
    clear i1 i2 i3 i4 j1 j2 j3 j4 hgZ hflZ hfZ hbZ hx8 hbk hvb hf8 ht0 hfl8 hZ hZ1 hv5 hrow z1 ro zo hfin' hloM hne2
    go_wp2
    rw [← HZe1.out, ← HZe.out]
    refine bodyPost_ret (v := .tuple #[.agg (cN lb lq (.slice b1 k1 d1) (.slice b2 k2 d2) n' (.slice ax nx' cx)), .slice a11 n11 c11, .slice ga gn gc, .int .i64 id, .int .i64 0]) (ret_N5 Tryz.results16 _ _ rfl ?c1) rfl ⟨_, _, _, by rw [HZ.out], ?c2⟩
    case c1 =>
      have hpl' : plain 6 Z (w.heap.size + 1) = true := by simp [Rw.plain, HZ2.out]
      exact row_set _ hpl'
    case c2 =>
      rw [HZ.out]
      have hlo1 : B.lo ≤ w.heap.size + 1 := by have := HSt5.out.lb.lo; omega
      have hkk : ∀ A : Bs, A.lo ≤ w.heap.size + 1 → ∀ ts, 28 ∉ ts → Da.Keeps A ts Z (Z.setRow (w.heap.size + 1) (cN lb lq (.slice b1 k1 d1) (.slice b2 k2 d2) n' (.slice ax nx' cx))) := fun A hA ts ht => keeps_setRow _ HZ2.out ht hA
      exact ⟨below_setRow HZ5'.out (by omega) _, ⟨.slice b1 k1 d1, .slice b2 k2 d2, .slice ax nx' cx, by rw [HQ.out.2.2.2.1], Is.keep eL 98 HZ1.out.l1 (hkk _ hlo1 _ (by decide)), Is.keep eL 98 HZ1.out.l2 (hkk _ hlo1 _ (by decide)), hl_keep HZ1.out.l3 (hkk (Bs.of B.lo) hlo1 _ (by decide))⟩, hl_keep HZ3.out (hkk (Bs.of B.lo) hlo1 _ (by decide)), Is.keep eFl 91 HZ4.out (hkk B hlo1 _ (by decide))⟩
  · have hdi : (id != 0) = true := by simpa using hi0
    obtain ⟨U, hU⟩ : ∃ U, U = M7.setCell ⟨w6.heap.size, 4, none⟩ (.int .i64 lf) := ⟨_, rfl⟩
    have hor : U.heap[w6.heap.size]? = some (.cells #[.int .i64 0, .int .i64 ow, .int .i64 s, .int .i64 p, .int .i64 L] 70 (0, 0)) := by
      rw [hU, HL.out, if_neg hi0]
      exact setN 4 (.int .i64 lf) HOr7.out
    have hb7 : Below w6.heap.size w6 U := by rw [hU]; exact hbM7.trans (low_setCell 4 _ (Nat.le_refl _))
    have hf4 : M7.frozen? ⟨w6.heap.size, 4, none⟩ = false := by have := HOr7.out; simp [World.frozen?, this]
    have hc4 : M7.cell? ⟨w6.heap.size, 4, none⟩ = some (.int .i64 0) := by have := HOr7.out; simp [World.cell?, this]
    have hz7 := (Array.getElem?_eq_some_iff.1 HOr7.out).1
    have HU := Lib.hid hU
    clear hi0 hU
    go_upto_region 13 with fail
    rw [← HU.out]
    clear hf4 hc4 hz7
    have HSt7 := Lib.hid (HSt6.out.stays hb7)
    have HVB7 := Lib.hid (HVB6.out.stays hb7)
    have hrow := HVB7.out.row
    simp only at hrow
    have z1 := HVB7.out.lt
    have ro : row U w6.heap.size = #[.int .i64 0, .int .i64 ow, .int .i64 s, .int .i64 p, .int .i64 L] := by unfold Rw.row; rw [hor]
    have zo := (Array.getElem?_eq_some_iff.1 hor).1
    have hb57 := nx hb56 hb7
    have hcall := Lib.hid (lsettle_any B (lb, lq, (bu, se, nn), od) _ fr _ 0 ow s p L C.2.1 _ U HVB7.out.ln HSt7.out.fr (HB.out U HSt7.out.bel) (HBk.out U hb57).2.2.2 (fun f hf => HPN.out.fills f hf) HPN.out.cnt (by rw [HFn.out]; exact hfm) HPN.out.side hpr hLb E HE.out)
    clear hor
    go_wp2_with fail
    refine hcall.out.mono ?_
    rintro e w8 ⟨a11, n11, c11, rfl, hb8, hf8⟩
    have HSt8 := Lib.hid (HSt7.out.stays hb8)
    by_cases hne2 : E ≠ 0
    · have hde2 : (E != 0) = true := by simpa using hne2
      have HZ : Hid (R = ((lb, lq, (bu, se, nn), od), fr, [], 0, E)) := Lib.hid (by rw [HP3.out, if_neg hne2])
      clear hne2 hrow z1 ro zo
      have hrow := HSt8.out.lb.row
      simp only at hrow
      have hpl := HSt8.out.pl
      obtain ⟨z1, z2⟩ := HSt8.out.lt
      go_wp2
      refine bodyPost_ret (v := .tuple #[.agg (cN lb lq (.slice a1 n1 c1) (.slice a2 n2 c2) nn (.slice a3 n3 c3)), .slice fa fn fc, .slice none 0 0, .int .i64 0, .int .i64 E]) (ret_N5 Tryz.results16 _ _ rfl ?c1) rfl ⟨_, _, _, by rw [HZ.out], ?c2⟩
      case c1 => exact row_set _ hpl
      case c2 =>
        rw [HZ.out]
        obtain ⟨q1, q2, q3⟩ := HSt8.out.ret
        exact ⟨q1, q2, q3, Is.nil _ _ _ _⟩
    obtain rfl : E = 0 := by simpa using hne2
    obtain ⟨ht0, hfl8⟩ := hf8 rfl
    obtain ⟨fin', hfin'⟩ : ∃ x, giveL (takeL fr (ow, ndA lb lq s) (ndN s p L + sumP s C.2.1)) (ow, ndA lb lq (othS s)) (sumG s C.2.1) = x := ⟨_, rfl⟩
    rw [hfin'] at hfl8
    have HZ : Hid (R = ((lb, lq, C.1, S.1), fin', C.2.1, id, 0)) := Lib.hid (by rw [HP3.out, if_pos rfl, hfin'])
    have hb68 := nx hb7 hb8
    have hb58 := nx hb56 hb68
    have hvb := HVB6.out.stays hb68
    have hbk := HBk.out w8 hb58
    have rb : row w8 w5.heap.size = #[.slice b1 k1 d1, .slice b2 k2 d2, .int .i64 n'] := by unfold Rw.row; rw [hbk.1]
    have zb := (Array.getElem?_eq_some_iff.1 hbk.1).1
    obtain ⟨m0, m1, m2, m3, m4, m5⟩ := hvb.cells
    simp only at m0 m1 m2 m3 m4 m5
    have mf2 := hvb.free 2
    have mf3 := hvb.free 3
    have mf4 := hvb.free 4
    have mf5 := hvb.free 5
    have zv := hvb.lt
    obtain ⟨Z1, hZ1⟩ : ∃ Z, Z = ((w8.setCell ⟨M5.heap.size, 2, none⟩ (.slice b1 k1 d1)).setCell ⟨M5.heap.size, 3, none⟩ (.slice b2 k2 d2)).setCell ⟨M5.heap.size, 4, none⟩ (.int .i64 n') := ⟨_, rfl⟩
    obtain ⟨j1, j2, j3, j4⟩ := hvb.book (bk' := C.1) (n' := n') hbk.2.1 hbk.2.2.1 HQ.out.2.2.2.1
    rw [← hZ1] at j1 j2 j3 j4
    have hloM := hvb.lo
    have hx8 := hl_keep (hl_stays HX6.out hb68) (j2 _ (by decide) (Bs.of B.lo) hloM)
    obtain ⟨i1, i2, i3, i4⟩ := j1.owed hx8
    obtain ⟨Z, hZ⟩ : ∃ Z, Z = Z1.setCell ⟨M5.heap.size, 5, none⟩ (.slice ax nx' cx) := ⟨_, rfl⟩
    rw [← hZ] at i1 i2 i3 i4
    have hv5 : w.heap.size + 1 < M5.heap.size := HSt5.out.lt.2
    have hgZ : Z.heap[w.heap.size + 1]? = some (.cells (nilN 0 0 0) 28 (0, 0)) := (i3 _ (by omega)).trans ((j3 _ (by omega)).trans HSt8.out.g)
    have hflZ := hl_keep (hl_keep hfl8 (j2 _ (by decide) (Bs.of B.lo) hloM)) (i2 _ (by decide) (Bs.of B.lo) hloM)
    have hfZ := Is.keep eFl 91 (Is.keep eFl 91 hbk.2.2.2 (j2 _ (by decide) B hloM)) (i2 _ (by decide) B hloM)
    have hbZ := (HSt8.out.bel.trans (j4 w.heap.size (by omega))).trans (i4 w.heap.size (by omega))
    have hrowZ := i1.row
    simp only at hrowZ
    rw [HQ.out.2.2.2.1] at hrowZ
    have zz := i1.lt
    have hplZ : plain 6 Z (w.heap.size + 1) = true := by simp [Rw.plain, hgZ]
    have zg := (Array.getElem?_eq_some_iff.1 hgZ).1
    have HZ1 := Lib.hid i1
    have HZ2 := Lib.hid hgZ
    have HZ3 := Lib.hid hflZ
    have HZ4 := Lib.hid hfZ
    have HZ5' := Lib.hid hbZ
    rw [hZ, hZ1] at hrowZ zz hplZ zg
    have HZe := Lib.hid hZ
    have HZe1 := Lib.hid hZ1
    clear i1 i2 i3 i4 j1 j2 j3 j4 hgZ hflZ hfZ hbZ hx8 hbk hvb hf8 ht0 hfl8 hZ hZ1 hv5 hrow z1 ro zo hfin' hloM hne2
    go_wp2
    rw [← HZe1.out, ← HZe.out]
    refine bodyPost_ret (v := .tuple #[.agg (cN lb lq (.slice b1 k1 d1) (.slice b2 k2 d2) n' (.slice ax nx' cx)), .slice a11 n11 c11, .slice ga gn gc, .int .i64 id, .int .i64 0]) (ret_N5 Tryz.results16 _ _ rfl ?c1) rfl ⟨_, _, _, by rw [HZ.out], ?c2⟩
    case c1 =>
      have hpl' : plain 6 Z (w.heap.size + 1) = true := by simp [Rw.plain, HZ2.out]
      exact row_set _ hpl'
    case c2 =>
      rw [HZ.out]
      have hlo1 : B.lo ≤ w.heap.size + 1 := by have := HSt5.out.lb.lo; omega
      have hkk : ∀ A : Bs, A.lo ≤ w.heap.size + 1 → ∀ ts, 28 ∉ ts → Da.Keeps A ts Z (Z.setRow (w.heap.size + 1) (cN lb lq (.slice b1 k1 d1) (.slice b2 k2 d2) n' (.slice ax nx' cx))) := fun A hA ts ht => keeps_setRow _ HZ2.out ht hA
      exact ⟨below_setRow HZ5'.out (by omega) _, ⟨.slice b1 k1 d1, .slice b2 k2 d2, .slice ax nx' cx, by rw [HQ.out.2.2.2.1], Is.keep eL 98 HZ1.out.l1 (hkk _ hlo1 _ (by decide)), Is.keep eL 98 HZ1.out.l2 (hkk _ hlo1 _ (by decide)), hl_keep HZ1.out.l3 (hkk (Bs.of B.lo) hlo1 _ (by decide))⟩, hl_keep HZ3.out (hkk (Bs.of B.lo) hlo1 _ (by decide)), Is.keep eFl 91 HZ4.out (hkk B hlo1 _ (by decide))⟩
end Go.Proofs.YthecinmekoaphaaGreat.La
