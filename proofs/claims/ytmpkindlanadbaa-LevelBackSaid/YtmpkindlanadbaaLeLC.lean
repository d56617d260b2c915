/- LevelCalls. -/
import Derived.Test.YtmpkindlanadbaaLeM
import Derived.Test.YtmpkindlanadbaaLeF
import Derived.Test.YtmpkindlanadbaaLeFr
namespace Go.Proofs.Ytmpkindlanadbaa.Le
open Go.RowKit
set_option linter.unusedVariables false
open Go.Proofs.Ytmpkindlanadbaa.Rw
open Go.Proofs.Ytmpkindlanadbaa.Da
theorem putL_len (s : Int) (o : Od) : ∀ (l : List Lv), (putL s o l).length ≤ l.length + 1
  | [] => by simp [putL]
  | v :: r => by
    rw [putL]
    split
    · simp
    · split
      · simp
      · have := putL_len s o r; simp; omega
theorem put_len (l : List Lv) (o : Od) : (put l o).length ≤ l.length + 1 := by
  unfold put
  split
  · exact putL_len _ _ _
  · omega
theorem flat_put_len (l : List Lv) (o : Od) : (flat (put l o)).length ≤ (flat l).length + 1 := by
  unfold put
  split
  · rw [(flat_put (s := o.2.2.1) (o := o) (l := l)).length_eq]; simp
  · omega
theorem flat_rem_len (id : Int) : ∀ (l : List Lv) (d : Bool), (flat (remL id l d)).length ≤ (flat l).length
  | [], d => by simp [remL]
  | v :: r, d => by
    rw [remL, flat_app, flat_cons, List.length_append, List.length_append]
    have h1 := flat_rem_len id r (d || v.2.any (hasId id))
    have h2 := remO_len id v.2 d
    have h3 : (flat (remS id v d)).length ≤ v.2.length := by
      unfold remS
      split
      · simp [flat]
      · rw [flat_cons, flat_nil, List.append_nil]; exact h2
    omega
theorem eqlC (r : Option Od) (w : World) : (binOp .eql 24 (.agg (cO r)) (.agg (cO r))).run Try.prog w = .ok (.bool true) w := by
  cases r
  · exact (eqlO _ _ _ _ _ _ _ _ _ _ w).trans (by simp [eqO])
  · exact (eqlO _ _ _ _ _ _ _ _ _ _ w).trans (by simp [eqO])
theorem guardC (op : BinOp) (p q : Operand) (r : Option Od) (w : World) : (eqGuard op 24 p q (.agg (cO r)) (.agg (cO r))).run Try.prog w = .ok () w := by
  cases r
  · exact guardO _ _ _ _ _ _ _ _ _ _ _ _ _ w
  · exact guardO _ _ _ _ _ _ _ _ _ _ _ _ _ w
attribute [go_sem ↓] eqlC guardC
theorem oneC (r : Option Od) : oneAll (.agg (cO r)) = true := by cases r <;> exact one5 _ _ _ _ _
theorem newbox {w : World} {r : Option Od} : ∀ u, Below (w.alloc (.cells (cO r) 24)).heap.size (w.alloc (.cells (cO r) 24)) u → row u w.heap.size = cO r ∧ w.heap.size < u.heap.size := by
  intro u hu
  have hz := hu.size
  rw [World.size_alloc] at hz
  refine ⟨?_, by omega⟩
  rw [(bcell hu).2.2.1 w.heap.size (by simp)]
  simp [go_sem]
set_option maxHeartbeats 4000000 in
theorem walkCalls (l : List Lv) (v : Value) (o1 o2 o3 o4 o5 sd : Int) (w : World) (h : LL (Bs.of w.heap.size) l v w) (hg : wfLs l) (_ : wfO (o1, o2, o3, o4, o5)) (_ : (Lit.int .i64 sd).wf = true) :
    Calls Try.prog 3 #[v, .agg #[.int .i64 o1, .int .i64 o2, .int .i64 o3, .int .i64 o4, .int .i64 o5], .int .i64 sd] w fun e w' => e = .returned (.bool true) ∧ Below w.heap.size w w' := by
  obtain ⟨B, hB⟩ : ∃ B, B = Bs.of w.heap.size := ⟨_, rfl⟩
  have hle : B.le w.heap.size := by rw [hB]; exact Bs.of_le _
  rw [← hB] at h
  clear hB
  have hbV := below1 w (.cells #[.int .i64 o1, .int .i64 o2, .int .i64 o3, .int .i64 o4, .int .i64 o5] 24)
  obtain ⟨V, hV⟩ : ∃ V, V = w.alloc (.cells #[.int .i64 o1, .int .i64 o2, .int .i64 o3, .int .i64 o4, .int .i64 o5] 24) := ⟨_, rfl⟩
  have hF : ∀ u, Below V.heap.size V u → u.cell? ⟨w.heap.size, 0, none⟩ = some (.int .i64 o1) ∧ row u w.heap.size = #[.int .i64 o1, .int .i64 o2, .int .i64 o3, .int .i64 o4, .int .i64 o5] ∧ w.heap.size < u.heap.size ∧ LL B l v u ∧ B.le u.heap.size ∧ Below w.heap.size w u := by
    intro u hu
    have hz := hu.size
    have hzV : V.heap.size = w.heap.size + 1 := by rw [hV]; simp
    rw [← hV] at hbV
    refine ⟨?_, ?_, by omega, Is.stays eL 50 h (nx hbV hu), hle.mono (by omega), nx hbV hu⟩
    · rw [hu.cell (p := ⟨w.heap.size, 0, none⟩) (by show w.heap.size < _; omega), hV]; simp [go_sem]
    · rw [(bcell hu).2.2.1 w.heap.size (by omega), hV]; simp [go_sem]
  have HF := Lib.hid hF
  have HG := Lib.hid hg.1
  have HV := Lib.hid hV
  clear hF h hle hbV hV hg
  obtain ⟨q, hq⟩ : ∃ q, far l = q := ⟨_, rfl⟩
  have HQ := Lib.hid hq
  clear hq
  go_enter Try.func3, Try.ntmps3
  go_wp2_with fail
  rw [← HV.out]
  have hF0 := HF.out V (Below.refl _ _)
  refine (far_any B l v V hF0.2.2.2.1 HG.out).mono ?_
  rintro e w1 ⟨rfl, hb1⟩
  rw [HQ.out]
  clear hF0
  have hF1 := HF.out w1 hb1
  cases q
  · obtain ⟨n1, n2⟩ := far_no HQ.out
    obtain ⟨r, hr⟩ : ∃ r, fnd (flat l) o1 = r := ⟨_, rfl⟩
    obtain ⟨r2, hr2⟩ : ∃ r, (flat l).head? = r := ⟨_, rfl⟩
    have HR := Lib.hid hr
    have HR2 := Lib.hid hr2
    have hcs := cO_size r
    have h1c := oneC r
    have hcs2 := cO_size r2
    have h1c2 := oneC r2
    clear hr hr2 hF1
    have HF1 := Lib.hid (show ∀ u, Below w1.heap.size w1 u → _ ∧ True from fun u hu => ⟨HF.out u (nx hb1 hu), trivial⟩)
    clear hb1
    have hX1 := HF1.out _ (Below.refl _ _)
    obtain ⟨m0, mr, mz⟩ : _ ∧ _ ∧ _ := ⟨hX1.1.1, hX1.1.2.1, hX1.1.2.2.1⟩
    go_wp2_with fail
    refine (put_any B l v o1 o2 o3 o4 o5 _ hX1.1.2.2.2.1 hX1.1.2.2.2.2.1 (by omega) (by omega)).mono ?_
    clear m0 mr mz hX1
    rintro e w2 ⟨va, rfl, hb2, hl2⟩
    have HF2 := Lib.hid (show ∀ u, Below w2.heap.size w2 u → _ ∧ _ ∧ _ from fun u hu => ⟨(HF1.out u (nx hb2 hu)).1, Is.stays eL 50 hl2 hu, (HF1.out u (nx hb2 hu)).2⟩)
    clear hb2 hl2 HF1
    have hX2 := HF2.out _ (Below.refl _ _)
    obtain ⟨m0, mr, mz⟩ : _ ∧ _ ∧ _ := ⟨hX2.1.1, hX2.1.2.1, hX2.1.2.2.1⟩
    go_wp2_with fail
    refine (rPut_any B l v o1 o2 o3 o4 o5 _ hX2.1.2.2.2.1 hX2.1.2.2.2.2.1 (by omega) (by omega)).mono ?_
    clear m0 mr mz hX2
    rintro e w3 ⟨vb, rfl, hb3, hl3⟩
    have HF3 := Lib.hid (show ∀ u, Below w3.heap.size w3 u → _ ∧ _ ∧ _ from fun u hu => ⟨(HF2.out u (nx hb3 hu)).1, Is.stays eL 50 hl3 hu, (HF2.out u (nx hb3 hu)).2⟩)
    clear hb3 hl3 HF2
    have hX3 := HF3.out _ (Below.refl _ _)
    obtain ⟨m0, mr, mz⟩ : _ ∧ _ ∧ _ := ⟨hX3.1.1, hX3.1.2.1, hX3.1.2.2.1⟩
    go_wp2_with fail
    refine (remove_any B l v o1 _ hX3.1.2.2.2.1 hX3.1.2.2.2.2.1 (by omega) (by omega)).mono ?_
    clear m0 mr mz hX3
    rintro e w4 ⟨vc, rfl, hb4, hl4⟩
    rw [HR.out]
    have hn4 := nx hb4 (below1 w4 (.cells (cO r) 24))
    have HF4 := Lib.hid (show ∀ u, Below (w4.alloc (.cells (cO r) 24)).heap.size (w4.alloc (.cells (cO r) 24)) u → _ ∧ _ ∧ _ ∧ _ from fun u hu => ⟨(HF3.out u (nx hn4 hu)).1, newbox u hu, Is.stays eL 50 hl4 (nx (below1 _ _) hu), (HF3.out u (nx hn4 hu)).2⟩)
    clear hb4 hl4 hn4 HF3
    have hX4 := HF4.out _ (Below.refl _ _)
    obtain ⟨m0, mr, mz⟩ : _ ∧ _ ∧ _ := ⟨hX4.1.1, hX4.1.2.1, hX4.1.2.2.1⟩
    go_wp2_with fail
    refine (rRemove_any B l v o1 _ hX4.1.2.2.2.1 hX4.1.2.2.2.2.1 (by omega) (by omega)).mono ?_
    clear m0 mr mz hX4
    rintro e w5 ⟨vd, rfl, hb5, hl5⟩
    rw [HR.out]
    have hn5 := nx hb5 (below1 w5 (.cells (cO r) 24))
    have HF5 := Lib.hid (show ∀ u, Below (w5.alloc (.cells (cO r) 24)).heap.size (w5.alloc (.cells (cO r) 24)) u → _ ∧ _ ∧ _ ∧ _ from fun u hu => ⟨(HF4.out u (nx hn5 hu)).1, newbox u hu, Is.stays eL 50 hl5 (nx (below1 _ _) hu), (HF4.out u (nx hn5 hu)).2⟩)
    clear hb5 hl5 hn5 HF4
    have hX5 := HF5.out _ (Below.refl _ _)
    obtain ⟨m0, mr, mz⟩ : _ ∧ _ ∧ _ := ⟨hX5.1.1, hX5.1.2.1, hX5.1.2.2.1⟩
    go_wp2_with fail
    refine (find_any B l v o1 _ hX5.1.2.2.2.1 hX5.1.2.2.2.2.1 (by omega) (by omega)).mono ?_
    clear m0 mr mz hX5
    rintro e w6 ⟨rfl, hb6⟩
    rw [fV_is, HR.out]
    have hn6 := nx hb6 (below1 w6 (.cells (cO r) 24))
    have HF6 := Lib.hid (show ∀ u, Below (w6.alloc (.cells (cO r) 24)).heap.size (w6.alloc (.cells (cO r) 24)) u → _ ∧ _ ∧ _ from fun u hu => ⟨(HF5.out u (nx hn6 hu)).1, newbox u hu, (HF5.out u (nx hn6 hu)).2⟩)
    clear hb6 hn6 HF5
    have hX6 := HF6.out _ (Below.refl _ _)
    obtain ⟨m0, mr, mz⟩ : _ ∧ _ ∧ _ := ⟨hX6.1.1, hX6.1.2.1, hX6.1.2.2.1⟩
    go_wp2_with fail
    refine (rFind_any B l v o1 _ hX6.1.2.2.2.1 (by omega) (by omega)).mono ?_
    clear m0 mr mz hX6
    rintro e w7 ⟨rfl, hb7⟩
    rw [fV_is, HR.out]
    have hn7 := nx hb7 (below1 w7 (.cells (cO r) 24))
    have HF7 := Lib.hid (show ∀ u, Below (w7.alloc (.cells (cO r) 24)).heap.size (w7.alloc (.cells (cO r) 24)) u → _ ∧ _ ∧ _ from fun u hu => ⟨(HF6.out u (nx hn7 hu)).1, newbox u hu, (HF6.out u (nx hn7 hu)).2⟩)
    clear hb7 hn7 HF6
    have hX7 := HF7.out _ (Below.refl _ _)
    obtain ⟨m0, mr, mz⟩ : _ ∧ _ ∧ _ := ⟨hX7.1.1, hX7.1.2.1, hX7.1.2.2.1⟩
    go_wp2_with fail
    refine (best_any B l v _ hX7.1.2.2.2.1 hX7.1.2.2.2.2.1 (by omega) (by omega)).mono ?_
    clear m0 mr mz hX7
    rintro e w8 ⟨rfl, hb8⟩
    rw [fV_is, HR2.out]
    have hn8 := nx hb8 (below1 w8 (.cells (cO r2) 24))
    have HF8 := Lib.hid (show ∀ u, Below (w8.alloc (.cells (cO r2) 24)).heap.size (w8.alloc (.cells (cO r2) 24)) u → _ ∧ _ ∧ _ from fun u hu => ⟨(HF7.out u (nx hn8 hu)).1, newbox u hu, (HF7.out u (nx hn8 hu)).2⟩)
    clear hb8 hn8 HF7
    have hX8 := HF8.out _ (Below.refl _ _)
    obtain ⟨m0, mr, mz⟩ : _ ∧ _ ∧ _ := ⟨hX8.1.1, hX8.1.2.1, hX8.1.2.2.1⟩
    go_wp2_with fail
    refine (rBest_any B l v _ hX8.1.2.2.2.1 (by omega) (by omega)).mono ?_
    clear m0 mr mz hX8
    rintro e w9 ⟨rfl, hb9⟩
    rw [fV_is, HR2.out]
    have hn9 := nx hb9 (below1 w9 (.cells (cO r2) 24))
    have HF9 := Lib.hid (show ∀ u, Below (w9.alloc (.cells (cO r2) 24)).heap.size (w9.alloc (.cells (cO r2) 24)) u → _ ∧ _ ∧ _ from fun u hu => ⟨(HF8.out u (nx hn9 hu)).1, newbox u hu, (HF8.out u (nx hn9 hu)).2⟩)
    clear hb9 hn9 HF8
    have hX9 := HF9.out _ (Below.refl _ _)
    go_wp2_with fail
    obtain ⟨C, hC⟩ : ∃ C, C = w9.alloc (.cells (cO r2) 24) := ⟨_, rfl⟩
    rw [← hC] at HF9 hX9 ⊢
    clear hC
    have hpl := put_len l (o1, o2, o3, o4, o5)
    have hpf := flat_put_len l (o1, o2, o3, o4, o5)
    have hrl := remL_len o1 l false
    have hrf := flat_rem_len o1 l false
    obtain ⟨_, _, _, _, _, _, lvd, _, lvc, lvb, lva, _⟩ := hX9
    refine (same_is (r := true) (Lib.hid (sameB_yes rfl)) B B va vb C lva lvb (by omega) (by omega)).mono ?_
    rintro e x1 ⟨rfl, hc1⟩
    clear lvd lvc lvb lva
    obtain ⟨_, _, _, _, _, _, lvd, _, lvc, _⟩ := HF9.out _ hc1
    go_wp2_with fail
    refine (same_is (r := true) (Lib.hid (sameB_yes rfl)) B B vc vd x1 lvc lvd (by show (rem l o1).length ≤ _; unfold rem; omega) (by show (flat (rem l o1)).length ≤ _; unfold rem; omega)).mono ?_
    rintro e x2 ⟨rfl, hd2⟩
    have hc2 := nx hc1 hd2
    clear lvd lvc hpl hpf hrl hrf hd2
    obtain ⟨root, ⟨r9, z9⟩, ⟨r8, z8⟩, ⟨r7, z7⟩, ⟨r6, z6⟩, ⟨r5, z5⟩, _, ⟨r4, z4⟩, _⟩ := HF9.out _ hc2
    go_wp2_with fail
    refine (right_any B l v sd x2 root.2.2.2.1 root.2.2.2.2.1 (by omega) (by omega)).mono ?_
    clear root r9 r8 r7 r6 r5 r4 z9 z8 z7 z6 z5 z4
    rintro e x3 ⟨rfl, hd3⟩
    have hc3 := nx hc2 hd3
    clear hd3
    obtain ⟨rr, hrr⟩ : ∃ q, rightL sd l = q := ⟨_, rfl⟩
    rw [hrr]
    have root := (HF9.out _ hc3).1
    go_wp2_with fail
    refine (rRight_any B l v sd _ root.2.2.2.1 root.2.2.2.2.1 (by omega) (by omega)).mono ?_
    rw [hrr]
    clear root
    rintro e x4 ⟨rfl, hd4⟩
    have hc4 := nx hc3 hd4
    clear hd4
    have root := (HF9.out _ hc4).1
    go_wp2_with fail
    refine (count_any B l v _ root.2.2.2.1 root.2.2.2.2.1 (by omega) (by omega)).mono ?_
    clear root
    rintro e x5 ⟨rfl, hd5⟩
    have hc5 := nx hc4 hd5
    clear hd5
    have root := (HF9.out _ hc5).1
    go_wp2_with fail
    refine (rCount_any B l v _ root.2.2.2.1 (by omega) (by omega)).mono ?_
    clear root
    rintro e x6 ⟨rfl, hd6⟩
    have hc6 := nx hc5 hd6
    clear hd6
    have root := (HF9.out _ hc6).1
    go_wp2_with fail
    refine (ords_any B l v _ root.2.2.2.1 root.2.2.2.2.1 (by omega) (by omega)).mono ?_
    clear root
    rintro e x7 ⟨p1, rfl, hd7, hp1⟩
    have hc7 := nx hc6 hd7
    clear hd7
    have root := (HF9.out _ hc7).1
    go_wp2_with fail
    refine (rOrders_any B l v _ root.2.2.2.1 root.2.2.2.2.1 (by omega) (by omega)).mono ?_
    clear root
    rintro e x8 ⟨p2, rfl, hd8, hp2⟩
    have hc8 := nx hc7 hd8
    have hp3 := Is.stays eO 24 hp1 hd8
    clear hd8 hp1
    go_wp2_with fail
    refine (orders_is (r := true) (Lib.hid (sameB_yes rfl)) B B p1 p2 _ hp3 hp2 (by omega)).mono ?_
    clear hp3 hp2
    rintro e x9 ⟨rfl, hd9⟩
    have hc9 := nx hc8 hd9
    clear hd9
    go_wp2_with fail
    refine (awake_any _).mono ?_
    rintro e x10 ⟨rfl, hd10⟩
    have hc10 := nx hc9 hd10
    clear hd10
    have HZ := Lib.hid (HF9.out _ hc10).1.2.2.2.2.2
    go_wp2
    go_ret
    exact ⟨rfl, HZ.out⟩
  · go_wp2_with fail
    refine (awake_any _).mono ?_
    rintro e w2 ⟨rfl, hb2⟩
    go_wp2
    go_ret
    exact ⟨rfl, nx hF1.2.2.2.2.2 hb2⟩
end Go.Proofs.Ytmpkindlanadbaa.Le
