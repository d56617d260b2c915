/- BookCancels: walked. -/
import Derived.Test.YtfnmmknbjfmagaaBlO
import Derived.RegionTactic
namespace Go.Proofs.Ytfnmmknbjfmagaa.Bk
open Go.RowKit
set_option linter.unusedVariables false
open Go.Proofs.Ytfnmmknbjfmagaa.Rw
open Go.Proofs.Ytfnmmknbjfmagaa.Da
open Go.Proofs.Ytfnmmknbjfmagaa.Le
theorem ord_app {B : Bs} {n cg : Nat} {ag : Option Addr} {gs : List Od} {V : World} (o1 o2 o3 o4 o5 : Int) (hBn : B.le n) (hsz : n ≤ V.heap.size) (hown : OwnO B n gs (.slice ag gs.length cg) V) (hgl : gs.length ≤ 1000000) :
    ∃ v8 w8, appRun Try.prog 46 46 (.slice ag gs.length cg) (.slice (some ⟨V.heap.size, 0, none⟩) 1 1) (V.alloc (.cells #[.int .i64 o1, .int .i64 o2, .int .i64 o3, .int .i64 o4, .int .i64 o5] 31)) = .ok v8 w8 ∧ OwnO B n (gs ++ [(o1, o2, o3, o4, o5)]) v8 w8 ∧ Below n V w8 := by
  obtain ⟨U, hU⟩ : ∃ U, U = V.alloc (.cells #[.int .i64 o1, .int .i64 o2, .int .i64 o3, .int .i64 o4, .int .i64 o5] 31) := ⟨_, rfl⟩
  have hbU : Below V.heap.size V U := hU ▸ below1 V _
  have hzU : U.heap.size = V.heap.size + 1 := by rw [hU]; simp
  have hsrc : OL B [(o1, o2, o3, o4, o5)] (.slice (some ⟨V.heap.size, 0, none⟩) 1 1) U := by
    rw [hU]; exact Is.one (e := eO) (T := 31) (B := B) (x := (o1, o2, o3, o4, o5)) (cs := [.int .i64 o1, .int .i64 o2, .int .i64 o3, .int .i64 o4, .int .i64 o5]) (w := V) (hBn.mono (by omega)) rfl
  obtain ⟨v8, w8, hrun, hown8, _, hbl, _⟩ := Own.append elemO 46 typesO hBn (by omega) (Own.stays hown hbU) hsrc (by simp only [List.length_singleton]; omega) (by omega)
  rw [hU] at hrun
  exact ⟨v8, w8, hrun, hown8, (hbU.mono (by omega)).trans (hbl _ U (Nat.le_refl _) (Below.refl _ _))⟩
theorem filt_snoc {l : List Od} {k : Nat} (f : Od → Bool) (h : k < l.length) : (l.take (k + 1)).filter f = (l.take k).filter f ++ (if f l[k] = true then [l[k]] else []) := by
  rw [Da.take_snoc h, List.filter_append, List.filter_cons, List.filter_nil]
theorem fold_snoc {l : List Od} {k : Nat} {ow id w : Int} (h : k < l.length) : (l.take (k + 1)).foldl (wnt ow id) w = wnt ow id ((l.take k).foldl (wnt ow id) w) l[k] := by
  rw [Da.take_snoc h, List.foldl_append]; rfl
set_option maxRecDepth 8000 in
set_option maxHeartbeats 8000000 in
theorem walkCancels1 (ops : List Op5) (v : Value) (ow id : Int) (w : World) (h : PL (Bs.of w.heap.size) ops v w) (h80 : ops.length ≤ 80) :
    Calls Try.prog 7 #[v, .int .i64 ow, .int .i64 id] w fun e w' => e = .returned (.bool true) ∧ Below w.heap.size w w' := by
  obtain ⟨B, hB'⟩ : ∃ B, B = Bs.of w.heap.size := ⟨_, rfl⟩
  have hB : B.le w.heap.size := by rw [hB']; exact Bs.of_le _
  have HB := Lib.hid (show ∀ u, Below w.heap.size w u → B.le u.heap.size from fun u hu => hB.mono hu.size)
  have HPl := Lib.hid (played_any B (Bs.of w.heap.size) ops v w h hB h80)
  clear hB hB' h h80
  go_enter Try.func7, Try.ntmps7
  go_wp2_with fail
  refine HPl.out.mono ?_
  rintro e w1 ⟨a1, n1, c1, a2, n2, c2, n, rfl, hb1, hbl⟩
  obtain ⟨b, hb⟩ : ∃ b, playB ops = b := ⟨_, rfl⟩
  have hR : RightB b := by rw [← hb]; exact play_right _
  rw [hb] at hbl
  have hnb : b.2.2 = n := by
    obtain ⟨x, y, e, _, _⟩ := hbl
    simp only [Value.agg.injEq, Array.mk.injEq, List.cons.injEq, Value.int.injEq, and_true, true_and] at e
    exact e.2.2.symm
  obtain ⟨p, hp⟩ : ∃ p, p = w1.heap.size := ⟨_, rfl⟩
  obtain ⟨M, hM⟩ : ∃ M, M = w1.alloc (.cells #[.slice a1 n1 c1, .slice a2 n2 c2, .int .i64 n] 26) := ⟨_, rfl⟩
  have hbM := nx hb1 (hM ▸ below1 w1 _)
  have hx0 : Bx B b p #[.slice a1 n1 c1, .slice a2 n2 c2, .int .i64 n] M := by rw [hM, hp]; exact Bx.made hbl (HB.out w1 hb1).1
  have HM := Lib.hid hM
  have HX := Lib.hid hx0
  have HP := Lib.hid hp
  have HR := Lib.hid hR
  have HNb := Lib.hid hnb
  have hbn : (allB b).length ≤ 80 := by
    have := right_small hR
    unfold allB
    rw [List.length_append]; omega
  obtain ⟨all, hall⟩ : ∃ all, allB b = all := ⟨_, rfl⟩
  have HAll := Lib.hid hall
  rw [hall] at hbn
  have hF : ∀ u, Below M.heap.size M u → u.cell? ⟨p, 0, none⟩ = some (.slice a1 n1 c1) ∧ u.cell? ⟨p, 1, none⟩ = some (.slice a2 n2 c2) ∧ p < u.heap.size := fun u hu => by
    have g := (HX.out.stays hu)
    have gk := g.bk
    refine ⟨?_, ?_, g.lt⟩ <;> simp [World.cell?, gk]
  have HL := Lib.hid (show ∀ u, Below M.heap.size M u → LL B b.1 (.slice a1 n1 c1) u ∧ LL B b.2.1 (.slice a2 n2 c2) u from fun u hu => by
    obtain ⟨x, y, e, h1, h2⟩ := (HX.out.stays hu).bl
    simp only [Value.agg.injEq, Array.mk.injEq, List.cons.injEq, and_true] at e
    obtain ⟨rfl, rfl, _⟩ := e
    exact ⟨h1, h2⟩)
  clear hM hx0 hp hbl hb hR hnb hall HPl
  go_wp2
  rw [← HM.out, ← HP.out]
  refine Rh.region (fun u => Below M.heap.size M u) (fun u => Below M.heap.size M u) (fun _ _ h k => nx h k) (fun _ _ h k => nx h k) ((Below.refl _ _).drew) ((Below.refl _ _).drew) [0, 1, 3, 4, 2, 5, 6, 7] (by kernel_rfl) (by kernel_rfl) (by kernel_rfl) (fun _ _ d _ _ h => by cases d <;> exact h) ?_
  repeat (first | (refine Rh.Steps.skip (by rfl) (by kernel_rfl) (by rfl) ?_; simp only [Act.put, List.setIfInBounds_toArray, List.set_cons_zero, List.set_cons_succ]) | (refine Rh.Steps.pure (v := ?_) (by rfl) (by kernel_rfl) (by rfl) ?_ ?_; rotate_left; (intro w_ hS_; have hk_ := hF w_ hS_; go_simp <;> with_reducible rfl); simp only [Act.put, List.setIfInBounds_toArray, List.set_cons_zero, List.set_cons_succ]))
  refine Rh.Steps.forced (i := 2) (by kernel_rfl) ?_
  refine Rh.One.call (fun v u => OwnO B M.heap.size (flat b.1) v u) (fun v _ _ h k => h.stays k) (f := ?_) (args := ?_) (by rfl) (by rfl) ?_ ?_ ?_
  rotate_left 2
  · intro w_ hS_ hG_; go_simp <;> first | with_reducible rfl | (constructor <;> with_reducible rfl)
  · intro w_ hS_ hG_; (go_at_call 22; refine (ords_own B b.1 _ w_ (HL.out w_ hS_).1 (HB.out w_ (nx hbM hS_)) (Nat.le_trans (right_small HR.out).1 (by decide)) (Nat.le_trans (right_small HR.out).2.1 (by decide))).mono ?_; rintro e w' ⟨v, rfl, hb9, ho⟩; exact ⟨v, rfl, hb9, Own.lower ho hS_.size⟩)
  intro v1 u_ hv1
  simp only [Act.put, List.setIfInBounds_toArray, List.set_cons_zero, List.set_cons_succ]
  refine Rh.Steps.forced (i := 5) (by kernel_rfl) ?_
  refine Rh.One.call (fun v u => OwnO B M.heap.size (flat b.2.1) v u) (fun v _ _ h k => h.stays k) (f := ?_) (args := ?_) (by rfl) (by rfl) ?_ ?_ ?_
  rotate_left 2
  · intro w_ hS_ hG_; go_simp <;> first | with_reducible rfl | (constructor <;> with_reducible rfl)
  · intro w_ hS_ hG_; (go_at_call 22; refine (ords_own B b.2.1 _ w_ (HL.out w_ hS_).2 (HB.out w_ (nx hbM hS_)) (Nat.le_trans (right_small HR.out).2.2.1 (by decide)) (Nat.le_trans (right_small HR.out).2.2.2 (by decide))).mono ?_; rintro e w' ⟨v, rfl, hb9, ho⟩; exact ⟨v, rfl, hb9, Own.lower ho hS_.size⟩)
  intro v2 u_ hv2
  simp only [Act.put, List.setIfInBounds_toArray, List.set_cons_zero, List.set_cons_succ]
  refine Rh.Steps.forced (i := 6) (by kernel_rfl) ?_
  refine Rh.One.new (fun v u => Below M.heap.size M u ∧ OwnO B M.heap.size (allB b) v u) (fun v _ _ h k => ⟨nx h.1 k, h.2.stays k⟩) (by rfl) (by rfl) ?_ ?_
  · intro w_ hS_ hG_
    obtain ⟨v8, w8, hrun, hown8, _, hbl8, _⟩ := Own.append elemO 46 typesO (HB.out M hbM) hS_.size hG_.1.2 (hG_.2.is (by decide) (HB.out M hbM)) (by have := right_small HR.out; omega) (by omega)
    have hb8 := hbl8 _ _ (Nat.le_refl _) hS_
    refine ⟨v8, w8, ?_, hb8, hb8, hown8⟩
    go_simp
  intro v3 u3 hv3
  simp only [Act.put, List.setIfInBounds_toArray, List.set_cons_zero, List.set_cons_succ]
  repeat (first | (refine Rh.Steps.skip (by rfl) (by kernel_rfl) (by rfl) ?_; simp only [Act.put, List.setIfInBounds_toArray, List.set_cons_zero, List.set_cons_succ]) | (refine Rh.Steps.pure (v := ?_) (by rfl) (by kernel_rfl) (by rfl) ?_ ?_; rotate_left; (intro w_ hS_; have hk_ := hF w_ hS_; go_simp <;> with_reducible rfl); simp only [Act.put, List.setIfInBounds_toArray, List.set_cons_zero, List.set_cons_succ]))
  refine Rh.Steps.nil (by kernel_rfl) ?_
  rintro w2 hb2 hg2
  have HOwn := Lib.hid (show Below M.heap.size M w2 ∧ OwnO B M.heap.size all _ w2 from by rw [← HAll.out]; exact hg2)
  have hbw2 := nx hbM hb2
  obtain ⟨a9, c9, e9⟩ := (HOwn.out.2.is (by decide) (HB.out M hbM)).len
  obtain ⟨m, hm⟩ : ∃ m, m = all.length := ⟨_, rfl⟩
  rw [← hm] at e9 hbn
  subst e9
  have HMm := Lib.hid hm
  have HOl := Lib.hid (show OL B all (.slice a9 m c9) w2 by rw [HMm.out]; rw [HMm.out] at HOwn; exact HOwn.out.2.is (by decide) (HB.out M hbM))
  have HX2 := Lib.hid (HX.out.stays hb2)
  have r0 := HX2.out.row
  have z0 := HX2.out.lt
  obtain ⟨C, hC⟩ : ∃ C, cancel b ow id = C := ⟨_, rfl⟩
  have hRC : RightB C.1 := by rw [← hC]; exact cancel_right HR.out
  have hcs : CanS b ow id C := by rw [← hC]; exact can_spec ow id HR.out
  have HC := Lib.hid hC
  have HRC := Lib.hid hRC
  obtain ⟨qq, hqq⟩ : ∃ qq, C.2.1 = qq := ⟨_, rfl⟩
  have hcz := cO_size qq
  have h1c : oneAll (.agg (cO qq)) = true := by cases qq <;> exact one5 _ _ _ _ _
  obtain ⟨er, her⟩ : ∃ er, C.2.2 = er := ⟨_, rfl⟩
  have HQ := Lib.hid (show C.2.1 = qq ∧ C.2.2 = er from ⟨hqq, her⟩)
  have HCs := Lib.hid (show (all.foldl (wnt ow id) 8 = er) ∧ (∀ x ∈ all, x.1 = id → x.2.1 = ow → qq = some x) ∧ (er ≠ 0 → C.1 = b) ∧ (er = 0 → allB C.1 = all.filter (fun x => !hasId id x) ∧ C.1.2.2 = b.2.2) from by
    rw [← HAll.out, ← hqq, ← her]; exact ⟨hcs.wn, hcs.eq, hcs.no, hcs.yes⟩)
  clear hm hC hRC hqq her hcs hb2 hg2 hF HOwn HL
  go_wp2_with fail
  refine (cancel_is HC (small_right HR.out) B _ w2 HX2.out.bl (HB.out w2 hbw2)).mono ?_
  rintro e w3 ⟨a3, n3, c3, a4, n4, c4, m3, rfl, hm3, hd3, hbl3⟩
  rw [HQ.out.1, HQ.out.2]
  have HM3' := Lib.hid hm3
  have hbw3 := nx hbw2 hd3
  obtain ⟨M3, hM3⟩ : ∃ M, M = (w3.alloc (.cells #[.slice a3 n3 c3, .slice a4 n4 c4, .int .i64 m3] 26)).alloc (.cells (cO qq) 31) := ⟨_, rfl⟩
  have hbM3' : Below w3.heap.size w3 M3 := hM3 ▸ below2 w3 _ _
  have hz3 : M3.heap.size = w3.heap.size + 2 := by rw [hM3]; simp
  have hxr : Bx B C.1 w3.heap.size #[.slice a3 n3 c3, .slice a4 n4 c4, .int .i64 m3] M3 := by rw [hM3]; exact (Bx.made hbl3 (HB.out w3 hbw3).1).stays (below1 _ _)
  have hxo : M3.heap[w3.heap.size + 1]? = some (.cells (cO qq) 31 (0, 0)) := by
    have := heap_alloc_new (w3.alloc (.cells #[.slice a3 n3 c3, .slice a4 n4 c4, .int .i64 m3] 26)) (.cells (cO qq) 31)
    rw [World.size_alloc] at this
    rw [hM3]; exact this
  have hd3' := nx hd3 hbM3'
  have hbM3 := nx hbw3 hbM3'
  have HX3 := Lib.hid (HX2.out.stays hd3')
  have HXR := Lib.hid hxr
  have HXO := Lib.hid hxo
  have HOl3 := Lib.hid (Is.stays eO 31 HOl.out hd3')
  have HM3 := Lib.hid hM3
  clear hM3 hxr hxo hd3 hd3' hbM3' hbl3 hm3 r0 z0
  go_wp2
  rw [← HM3.out]
  go_loopw [13, 14, 44] (fun wn t i wr => ∃ k : Nat, k ≤ m ∧ i = .int .i64 k ∧ wn = .int .i64 ((all.take k).foldl (wnt ow id) 8) ∧ Below M3.heap.size M3 wr ∧ OwnO B M3.heap.size ((all.take k).filter (fun x => !hasId id x)) t wr) (fun _ _ i _ => m - (intOf i).toNat)
  case atStart => exact ⟨0, Nat.zero_le _, rfl, rfl, Below.refl _ _, Own.nil _ _ _⟩
  case round =>
    obtain ⟨k, hk, rfl, rfl, hb, hown⟩ := hrel
    obtain ⟨wn, hwn⟩ : ∃ wn, (all.take k).foldl (wnt ow id) 8 = wn := ⟨_, rfl⟩
    obtain ⟨lf, hlf⟩ : ∃ lf, (all.take k).filter (fun x => !hasId id x) = lf := ⟨_, rfl⟩
    have hlfl : lf.length ≤ k := by rw [← hlf]; have h1 := List.length_filter_le (fun x => !hasId id x) (all.take k); have h2 := List.length_take_le k all; omega
    rw [hwn]
    rw [hlf] at hown
    obtain ⟨a7, c7, e7⟩ := (hown.is (by decide) (HB.out M3 hbM3)).len
    obtain ⟨ln, hln⟩ : ∃ ln, ln = lf.length := ⟨_, rfl⟩
    subst e7
    have HOwn := Lib.hid hown
    have HWn := Lib.hid hwn
    have HLf := Lib.hid hlf
    have HLn := Lib.hid hln
    have hln80 : ln ≤ 80 := by omega
    rw [← hln]
    clear hwn hlf hown hln
    have hbw := nx hbM3 hb
    have hszw := hb.size
    by_cases hlt : k < m
    · have hlt2 : (k : Int) < m := by omega
      have hko : k < all.length := by rw [← HMm.out]; exact hlt
      have hol := Is.stays eO 31 HOl3.out hb
      rcases hol.cases with ⟨e, _⟩ | ⟨_, g, off, cc, e, hat⟩
      · rw [e] at hko; cases hko
      simp only [Value.slice.injEq] at e
      obtain ⟨rfl, _, rfl⟩ := e
      obtain ⟨q0, q1, q2, q3, q4⟩ := at5 hat k hko
      have hbb := hat.1
      have hmem : all[k] ∈ all := List.getElem_mem hko
      obtain ⟨⟨x1, x2, x3, x4, x5⟩, hx⟩ : ∃ x, all[k]'hko = x := ⟨_, rfl⟩
      rw [hx] at q0 q1 q2 q3 q4 hmem
      simp only at q0 q1 q2 q3 q4
      have HK := Lib.hid hx
      have HMem := Lib.hid hmem
      clear hx hat hol hmem
      obtain ⟨V, hV⟩ : ∃ V, V = wr.alloc (.cells #[.int .i64 x1, .int .i64 x2, .int .i64 x3, .int .i64 x4, .int .i64 x5] 31) := ⟨_, rfl⟩
      have hbV : Below wr.heap.size wr V := hV ▸ below1 wr _
      have hzV : V.heap.size = wr.heap.size + 1 := by rw [hV]; simp
      by_cases hid : x1 = id
      · have d1 : (x1 != id) = false := by simpa using hid
        by_cases how : x2 = ow
        · have d2 : (x2 == ow) = true := by simpa using how
          have hqx := HCs.out.2.1 _ HMem.out hid how
          have t1 : row wr (w3.heap.size + 1) = #[.int .i64 x1, .int .i64 x2, .int .i64 x3, .int .i64 x4, .int .i64 x5] := by
            unfold Rw.row
            rw [(hb.block _ (by omega)).trans HXO.out, hqx]; rfl
          have t2 : w3.heap.size + 1 < wr.heap.size := by omega
          have heq : eqO (x1, x2, x3, x4, x5) (x1, x2, x3, x4, x5) = true := by simp [eqO]
          have HSt : Hid ((all.take (k + 1)).foldl (wnt ow id) 8 = 0 ∧ (all.take (k + 1)).filter (fun x => !hasId id x) = lf) := Lib.hid (by
            rw [fold_snoc hko, filt_snoc _ hko, HK.out, HLf.out]
            exact ⟨(if_pos hid).trans (if_pos how), by rw [show (!hasId id (x1, x2, x3, x4, x5)) = false by simp [hasId, hid]]; simp⟩)
          clear hid how hqx hV
          go_wp2
          go_roundw
          case rel => exact ⟨k + 1, by omega, by go_num, by rw [HSt.out.1], nx hb (below1 _ _), by rw [HSt.out.2, HLn.out]; exact HOwn.out.stays (below1 _ _)⟩
          case measure => simp [intOf]; omega
        · have d2 : (x2 == ow) = false := by simpa using how
          have HSt : Hid ((all.take (k + 1)).foldl (wnt ow id) 8 = 9 ∧ (all.take (k + 1)).filter (fun x => !hasId id x) = lf) := Lib.hid (by
            rw [fold_snoc hko, filt_snoc _ hko, HK.out, HLf.out]
            exact ⟨(if_pos hid).trans (if_neg how), by rw [show (!hasId id (x1, x2, x3, x4, x5)) = false by simp [hasId, hid]]; simp⟩)
          clear hid how hV
          go_wp2
          go_roundw
          case rel => exact ⟨k + 1, by omega, by go_num, by rw [HSt.out.1], nx hb (below1 _ _), by rw [HSt.out.2, HLn.out]; exact HOwn.out.stays (below1 _ _)⟩
          case measure => simp [intOf]; omega
      · have d1 : (x1 != id) = true := by simpa using hid
        have HSt : Hid ((all.take (k + 1)).foldl (wnt ow id) 8 = wn ∧ (all.take (k + 1)).filter (fun x => !hasId id x) = lf ++ [(x1, x2, x3, x4, x5)]) := Lib.hid (by
          rw [fold_snoc hko, filt_snoc _ hko, HK.out, HLf.out, HWn.out]
          exact ⟨if_neg hid, by rw [show (!hasId id (x1, x2, x3, x4, x5)) = true by simp [hasId, hid]]; simp⟩)
        obtain ⟨v8, w8, hrun, hown8, hbl8⟩ := ord_app (B := B) (n := M3.heap.size) (V := V) x1 x2 x3 x4 x5 (HB.out M3 hbM3) (by have := hbV.size; omega) (HOwn.out.stays hbV) (by omega)
        have HOwn8 := Lib.hid hown8
        have HBl8 := Lib.hid ((hb.trans (hbV.mono hszw)).trans hbl8)
        rw [← HLn.out, hzV] at hrun
        rw [hV] at hrun
        clear hid hV hown8 hbl8
        go_wp2
        go_roundw
        case rel => exact ⟨k + 1, by omega, by go_num, by rw [HSt.out.1], HBl8.out, by rw [HSt.out.2]; exact HOwn8.out⟩
        case measure => simp [intOf]; omega
    · obtain rfl : k = m := by omega
      have hfull : all.take k = all := by rw [HMm.out, List.take_length]
      obtain rfl : wn = er := by rw [← HWn.out, hfull]; exact HCs.out.1
      have hle : all.filter (fun x => !hasId id x) = lf := by rw [← HLf.out, hfull]
      have HLe := Lib.hid hle
      have HXw := Lib.hid (HX3.out.stays hb)
      have HRw := Lib.hid (HXR.out.stays hb)
      clear hfull hle
      by_cases her : wn = 0
      · have hde : (wn != 0) = false := by simpa using her
        obtain ⟨hal, hnx⟩ := HCs.out.2.2.2 her
        have HEq := Lib.hid (show allB C.1 = lf from by rw [hal, HLe.out])
        have hmn : m3 = n := by rw [← HM3'.out, hnx, HNb.out]
        have HMn := Lib.hid hmn
        have hF : ∀ u, Below wr.heap.size wr u → u.cell? ⟨w3.heap.size, 0, none⟩ = some (.slice a3 n3 c3) ∧ u.cell? ⟨w3.heap.size, 1, none⟩ = some (.slice a4 n4 c4) ∧ w3.heap.size < u.heap.size := fun u hu => by
          have g := (HRw.out.stays hu)
          have gk := g.bk
          refine ⟨?_, ?_, g.lt⟩ <;> simp [World.cell?, gk]
        have HL := Lib.hid (show ∀ u, Below wr.heap.size wr u → LL B C.1.1 (.slice a3 n3 c3) u ∧ LL B C.1.2.1 (.slice a4 n4 c4) u from fun u hu => by
          obtain ⟨x, y, e, h1, h2⟩ := (HRw.out.stays hu).bl
          simp only [Value.agg.injEq, Array.mk.injEq, List.cons.injEq, and_true] at e
          obtain ⟨rfl, rfl, _⟩ := e
          exact ⟨h1, h2⟩)
        clear her hal hnx hmn
        go_wp2
        refine Rh.region (fun u => Below wr.heap.size wr u) (fun u => Below wr.heap.size wr u) (fun _ _ h k => nx h k) (fun _ _ h k => nx h k) ((Below.refl _ _).drew) ((Below.refl _ _).drew) [0, 1, 3, 4, 2, 5, 6, 7] (by kernel_rfl) (by kernel_rfl) (by kernel_rfl) (fun _ _ d _ _ h => by cases d <;> exact h) ?_
        repeat (first | (refine Rh.Steps.skip (by rfl) (by kernel_rfl) (by rfl) ?_; simp only [Act.put, List.setIfInBounds_toArray, List.set_cons_zero, List.set_cons_succ]) | (refine Rh.Steps.pure (v := ?_) (by rfl) (by kernel_rfl) (by rfl) ?_ ?_; rotate_left; (intro w_ hS_; have hk_ := hF w_ hS_; go_simp <;> with_reducible rfl); simp only [Act.put, List.setIfInBounds_toArray, List.set_cons_zero, List.set_cons_succ]))
        refine Rh.Steps.forced (i := 2) (by kernel_rfl) ?_
        refine Rh.One.call (fun v u => OwnO B wr.heap.size (flat C.1.1) v u) (fun v _ _ h k => h.stays k) (f := ?_) (args := ?_) (by rfl) (by rfl) ?_ ?_ ?_
        rotate_left 2
        · intro w_ hS_ hG_; go_simp <;> first | with_reducible rfl | (constructor <;> with_reducible rfl)
        · intro w_ hS_ hG_; (go_at_call 22; refine (ords_own B C.1.1 _ w_ (HL.out w_ hS_).1 (HB.out w_ (nx hbw hS_)) (Nat.le_trans (right_small HRC.out).1 (by decide)) (Nat.le_trans (right_small HRC.out).2.1 (by decide))).mono ?_; rintro e w' ⟨v, rfl, hb9, ho⟩; exact ⟨v, rfl, hb9, Own.lower ho hS_.size⟩)
        intro v1 u_ hv1
        simp only [Act.put, List.setIfInBounds_toArray, List.set_cons_zero, List.set_cons_succ]
        refine Rh.Steps.forced (i := 5) (by kernel_rfl) ?_
        refine Rh.One.call (fun v u => OwnO B wr.heap.size (flat C.1.2.1) v u) (fun v _ _ h k => h.stays k) (f := ?_) (args := ?_) (by rfl) (by rfl) ?_ ?_ ?_
        rotate_left 2
        · intro w_ hS_ hG_; go_simp <;> first | with_reducible rfl | (constructor <;> with_reducible rfl)
        · intro w_ hS_ hG_; (go_at_call 22; refine (ords_own B C.1.2.1 _ w_ (HL.out w_ hS_).2 (HB.out w_ (nx hbw hS_)) (Nat.le_trans (right_small HRC.out).2.2.1 (by decide)) (Nat.le_trans (right_small HRC.out).2.2.2 (by decide))).mono ?_; rintro e w' ⟨v, rfl, hb9, ho⟩; exact ⟨v, rfl, hb9, Own.lower ho hS_.size⟩)
        intro v2 u_ hv2
        simp only [Act.put, List.setIfInBounds_toArray, List.set_cons_zero, List.set_cons_succ]
        refine Rh.Steps.forced (i := 6) (by kernel_rfl) ?_
        refine Rh.One.new (fun v u => Below wr.heap.size wr u ∧ OwnO B wr.heap.size (allB C.1) v u) (fun v _ _ h k => ⟨nx h.1 k, h.2.stays k⟩) (by rfl) (by rfl) ?_ ?_
        · intro w_ hS_ hG_
          obtain ⟨v8, w8, hrun, hown8, _, hbl8, _⟩ := Own.append elemO 46 typesO (HB.out wr hbw) hS_.size hG_.1.2 (hG_.2.is (by decide) (HB.out wr hbw)) (by have := right_small HRC.out; omega) (by omega)
          have hb8 := hbl8 _ _ (Nat.le_refl _) hS_
          refine ⟨v8, w8, ?_, hb8, hb8, hown8⟩
          go_simp
        intro v3 u3 hv3
        simp only [Act.put, List.setIfInBounds_toArray, List.set_cons_zero, List.set_cons_succ]
        repeat (first | (refine Rh.Steps.skip (by rfl) (by kernel_rfl) (by rfl) ?_; simp only [Act.put, List.setIfInBounds_toArray, List.set_cons_zero, List.set_cons_succ]) | (refine Rh.Steps.pure (v := ?_) (by rfl) (by kernel_rfl) (by rfl) ?_ ?_; rotate_left; (intro w_ hS_; have hk_ := hF w_ hS_; go_simp <;> with_reducible rfl); simp only [Act.put, List.setIfInBounds_toArray, List.set_cons_zero, List.set_cons_succ]))
        refine Rh.Steps.nil (by kernel_rfl) ?_
        rintro w4 hb4 hg4
        have ho4 := hg4.2
        rw [HEq.out] at ho4
        have hol4 := ho4.is (by decide) (HB.out wr hbw)
        obtain ⟨a6, c6, e6⟩ := hol4.len
        rw [← HLn.out] at e6
        subst e6
        have hbw4 := nx hbw hb4
        have hol7 := (HOwn.out.stays hb4).is (by decide) (HB.out M3 hbM3)
        have HA4 := Lib.hid hol4
        have HA7 := Lib.hid hol7
        have hx4 := (HXw.out.stays hb4).bk
        have hr4 := (HRw.out.stays hb4).bk
        have HX4 := Lib.hid (HXw.out.stays hb4)
        have HR4 := Lib.hid (HRw.out.stays hb4)
        clear hF hg4 ho4 hol4 hol7 hx4 hr4
        have hll : ((ln : Int) != ln) = false := by simp
        go_wp2
        go_loopw [89] (fun i w5 => ∃ j : Nat, j ≤ ln ∧ i = .int .i64 j ∧ Below w4.heap.size w4 w5) (fun i _ => ln - (intOf i).toNat)
        case atStart => exact ⟨0, Nat.zero_le _, rfl, Below.refl _ _⟩
        case round =>
          obtain ⟨j, hj, rfl, hb9⟩ := hrel
          have hb9w := nx hbw4 hb9
          by_cases hlt : j < ln
          · have hlt3 : (j : Int) < ln := by omega
            have hjl : j < lf.length := by rw [← HLn.out]; exact hlt
            rcases (Is.stays eO 31 HA4.out hb9).cases with ⟨e, _⟩ | ⟨_, g, off, cc, e, hat⟩
            · rw [e] at hjl; cases hjl
            rcases (Is.stays eO 31 HA7.out hb9).cases with ⟨e', _⟩ | ⟨_, g2, off2, cc2, e', hat2⟩
            · rw [e'] at hjl; cases hjl
            simp only [Value.slice.injEq] at e e'
            obtain ⟨rfl, _, rfl⟩ := e
            obtain ⟨rfl, _, rfl⟩ := e'
            obtain ⟨p0, p1, p2, p3, p4⟩ := at5 hat j hjl
            obtain ⟨s0, s1, s2, s3, s4⟩ := at5 hat2 j hjl
            have hbb := hat.1
            have hbb2 := hat2.1
            obtain ⟨⟨x1, x2, x3, x4, x5⟩, hx⟩ : ∃ x, lf[j]'hjl = x := ⟨_, rfl⟩
            rw [hx] at p0 p1 p2 p3 p4 s0 s1 s2 s3 s4
            simp only at p0 p1 p2 p3 p4 s0 s1 s2 s3 s4
            have hG : ∀ u, Below wr.heap.size wr u → u.cell? ⟨g, off + j * 5, none⟩ = some (.int .i64 x1) ∧ u.cell? ⟨g, off + j * 5 + 1, none⟩ = some (.int .i64 x2) ∧ u.cell? ⟨g, off + j * 5 + 2, none⟩ = some (.int .i64 x3) ∧ u.cell? ⟨g, off + j * 5 + 3, none⟩ = some (.int .i64 x4) ∧ u.cell? ⟨g, off + j * 5 + 4, none⟩ = some (.int .i64 x5) ∧
                u.cell? ⟨g2, off2 + j * 5, none⟩ = some (.int .i64 x1) ∧ u.cell? ⟨g2, off2 + j * 5 + 1, none⟩ = some (.int .i64 x2) ∧ u.cell? ⟨g2, off2 + j * 5 + 2, none⟩ = some (.int .i64 x3) ∧ u.cell? ⟨g2, off2 + j * 5 + 3, none⟩ = some (.int .i64 x4) ∧ u.cell? ⟨g2, off2 + j * 5 + 4, none⟩ = some (.int .i64 x5) := fun u hu => by
              obtain ⟨c1, _⟩ := bcell hu
              simp only [c1 _ _ hbb, c1 _ _ hbb2]
              exact ⟨p0, p1, p2, p3, p4, s0, s1, s2, s3, s4⟩
            have heq : eqO (x1, x2, x3, x4, x5) (x1, x2, x3, x4, x5) = true := by simp [eqO]
            clear p0 p1 p2 p3 p4 s0 s1 s2 s3 s4 hat hat2 hx
            go_wp2
            refine Rf.region [0, 1, 2, 3, 4, 5, 6, 7, 8] (by kernel_rfl) (by kernel_rfl) (by kernel_rfl) (fun _ _ d _ _ h => by cases d <;> exact h) ?_
            repeat (first | (refine Rf.Steps.skip (by rfl) (by kernel_rfl) (by rfl) ?_; simp only [Act.put, List.setIfInBounds_toArray, List.set_cons_zero, List.set_cons_succ]) | (refine Rf.Steps.pure (v := ?_) (by rfl) (by kernel_rfl) (by rfl) ?_ ?_; rotate_left; (intro w_ hS_; have hk_ := hG w_ hS_; go_simp <;> with_reducible rfl); simp only [Act.put, List.setIfInBounds_toArray, List.set_cons_zero, List.set_cons_succ]))
            refine Rf.Steps.nil (by kernel_rfl) ?_
            intro w6 hb6
            go_wp2
            go_roundw
            case rel => exact ⟨j + 1, by omega, by go_num, nx hb9 hb6⟩
            case measure => simp [intOf]; omega
          · obtain rfl : j = ln := by omega
            have gx := (HX4.out.stays hb9)
            have gr := (HR4.out.stays hb9)
            have gxk := gx.bk
            have grk := gr.bk
            have k1 : wr.cell? ⟨w3.heap.size, 2, none⟩ = some (.int .i64 m3) := by simp [World.cell?, grk]
            have k2 : wr.cell? ⟨p, 2, none⟩ = some (.int .i64 n) := by simp [World.cell?, gxk]
            have z1 := gx.lt
            have z2 := gr.lt
            have hmn : (m3 == n) = true := by simpa using HMn.out
            clear gx gr gxk grk hlt
            go_wp2_with fail
            refine (awake_any wr).mono ?_
            rintro e w6 ⟨rfl, hb6⟩
            go_wp2
            go_ret
            exact ⟨rfl, nx hb9w hb6⟩
      · have hde : (wn != 0) = true := by simpa using her
        have hsm : Hid (sameB C.1 b = true) := Lib.hid (sameB_yes (HCs.out.2.2.1 her))
        have r1 := HRw.out.row
        have z1 := HRw.out.lt
        have r2 := HXw.out.row
        have z2 := HXw.out.lt
        clear her
        go_wp2_with fail
        refine (sameBk_is hsm B B _ _ wr HRw.out.bl HXw.out.bl (small_right HRC.out).1 (small_right HRC.out).2.1 (small_right HRC.out).2.2.1 (small_right HRC.out).2.2.2).mono ?_
        rintro e w4 ⟨rfl, hb4⟩
        clear r1 z1 r2 z2
        go_wp2_with fail
        refine (awake_any w4).mono ?_
        rintro e w5 ⟨rfl, hb5⟩
        go_wp2
        go_ret
        exact ⟨rfl, nx (nx hbw hb4) hb5⟩
set_option maxRecDepth 8000 in
set_option maxHeartbeats 1000000 in
theorem walkCancels (ops : List Op5) (v : Value) (ow id : Int) (w : World) (h : PL (Bs.of w.heap.size) ops v w) (_hw : wfPs ops) (_h1 : wfI ow) (_h2 : wfI id) :
    Calls Try.prog 7 #[v, .int .i64 ow, .int .i64 id] w fun e w' => e = .returned (.bool true) ∧ Below w.heap.size w w' := by
  by_cases h80 : ops.length ≤ 80
  · exact walkCancels1 ops v ow id w h h80
  · have HPl := Lib.hid (played_long (Bs.of w.heap.size) ops v w h h80)
    clear h h80
    go_enter Try.func7, Try.ntmps7
    go_wp2_with fail
    refine HPl.out.mono ?_
    rintro e w1 ⟨rfl, hb1⟩
    go_wp2_with fail
    refine (awake_any _).mono ?_
    rintro e w2 ⟨rfl, hb2⟩
    go_wp2
    go_ret
    exact ⟨rfl, nx (nx hb1 (below1 _ _)) hb2⟩
end Go.Proofs.Ytfnmmknbjfmagaa.Bk
