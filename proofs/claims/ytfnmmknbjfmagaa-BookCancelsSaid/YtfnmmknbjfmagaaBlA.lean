/- Of the statements of layer 9: levels, fills. -/
import Derived.Test.YtfnmmknbjfmagaaBkJ
import Derived.Test.YtfnmmknbjfmagaaLeFr
namespace Go.Proofs.Ytfnmmknbjfmagaa.Bk
open Go.RowKit
set_option linter.unusedVariables false
open Go.Proofs.Ytfnmmknbjfmagaa.Rw
open Go.Proofs.Ytfnmmknbjfmagaa.Da
open Go.Proofs.Ytfnmmknbjfmagaa.Le
theorem fieldsFl : Try.prog.underlying 53 = some (.struct (Try.prog.fieldsOf 53)) := by kernel_rfl
def eqF (a b : Fl) : Bool := decide (a = b)
theorem eqF_iff {a b : Fl} : eqF a b = true ↔ a = b := by simp [eqF]
theorem runF (a b c d : Int) (e : Bool) (a' b' c' d' : Int) (e' : Bool) (w : World) : (Op.equalIn 10000 53 (.agg #[.int .i64 a, .int .i64 b, .int .i64 c, .int .i64 d, .bool e]) (.agg #[.int .i64 a', .int .i64 b', .int .i64 c', .int .i64 d', .bool e'])).run Try.prog w = .ok (eqF (a, b, c, d, e) (a', b', c', d', e')) w := by
  rw [run_equalIn_agg w 9999 _ _ _ fieldsFl (by kernel_rfl)]
  simp only [Program.fieldsOf, Try.underlying53]
  simp [Op.eqFields, go_sem]
  by_cases h1 : a = a' <;> by_cases h2 : b = b' <;> by_cases h3 : c = c' <;> by_cases h4 : d = d' <;> cases e <;> cases e' <;> simp [eqF, h1, h2, h3, h4]
theorem eqlF (a b c d : Int) (e : Bool) (a' b' c' d' : Int) (e' : Bool) (w : World) : (binOp .eql 53 (.agg #[.int .i64 a, .int .i64 b, .int .i64 c, .int .i64 d, .bool e]) (.agg #[.int .i64 a', .int .i64 b', .int .i64 c', .int .i64 d', .bool e'])).run Try.prog w = .ok (.bool (eqF (a, b, c, d, e) (a', b', c', d', e'))) w := by
  rw [run_eql_struct, runF]; rfl
theorem neqF (a b c d : Int) (e : Bool) (a' b' c' d' : Int) (e' : Bool) (w : World) : (binOp .neq 53 (.agg #[.int .i64 a, .int .i64 b, .int .i64 c, .int .i64 d, .bool e]) (.agg #[.int .i64 a', .int .i64 b', .int .i64 c', .int .i64 d', .bool e'])).run Try.prog w = .ok (.bool (!eqF (a, b, c, d, e) (a', b', c', d', e'))) w := by
  rw [run_neq_struct, runF]; rfl
theorem guardF (op : BinOp) (p q : Operand) (a b c d : Int) (e : Bool) (a' b' c' d' : Int) (e' : Bool) (w : World) : (eqGuard op 53 p q (.agg #[.int .i64 a, .int .i64 b, .int .i64 c, .int .i64 d, .bool e]) (.agg #[.int .i64 a', .int .i64 b', .int .i64 c', .int .i64 d', .bool e'])).run Try.prog w = .ok () w :=
  run_eqGuard_agg w op _ p q _ _ (by kernel_rfl)
attribute [go_sem ↓] eqlF neqF guardF
set_option maxHeartbeats 1600000 in
theorem fills_any (B B' : Bs) (l m : List Fl) (v x : Value) (w : World) (h : FL B l v w) (k : FL B' m x w) (hm : l.length ≤ 1000000) :
    Calls Try.prog 16 #[v, x] w fun e w' => e = .returned (.bool (sameB l m)) ∧ Below w.heap.size w w' := by
  obtain ⟨a1, c1, rfl, h1⟩ := h
  obtain ⟨a2, c2, rfl, h2⟩ := k
  have HA := Lib.hid h1
  have HB := Lib.hid h2
  clear h1 h2
  by_cases hlen : l.length = m.length
  · obtain ⟨n, hn⟩ : ∃ n, n = l.length := ⟨_, rfl⟩
    rw [← hlen, ← hn]
    rw [← hn] at hm
    have HN := Lib.hid hn
    have HN2 := Lib.hid (hn.trans hlen)
    clear hn hlen
    go_enter Try.func16, Try.ntmps16
    go_wp2
    go_loopw [13] (fun i wr => ∃ k : Nat, k ≤ n ∧ i = .int .i64 k ∧ Below w.heap.size w wr ∧ l.take k = m.take k) (fun i _ => n - (intOf i).toNat)
    case atStart => exact ⟨0, Nat.zero_le _, rfl, Below.refl _ _, rfl⟩
    case round =>
      obtain ⟨k, hk, rfl, hb, hsame⟩ := hrel
      have HS := Lib.hid hsame
      clear hsame
      by_cases hlt : k < n
      · have hlt2 : (k : Int) < n := by omega
        have hkl : k < l.length := by rw [← HN.out]; exact hlt
        have hkm : k < m.length := by rw [← HN2.out]; exact hlt
        rcases HA.out with ⟨e, _⟩ | ⟨b, off, rfl, hat⟩
        · rw [e] at hkl; cases hkl
        rcases HB.out with ⟨e, _⟩ | ⟨b2, off2, rfl, hat2⟩
        · rw [e] at hkm; cases hkm
        have hbb := hat.1
        have hbb2 := hat2.1
        obtain ⟨⟨x1, x2, x3, x4, x5⟩, hx⟩ : ∃ x, l[k] = x := ⟨_, rfl⟩
        obtain ⟨⟨y1, y2, y3, y4, y5⟩, hy⟩ : ∃ x, m[k] = x := ⟨_, rfl⟩
        have hc := atFl hat k hkl
        have hd := atFl hat2 k hkm
        rw [hx] at hc
        rw [hy] at hd
        simp only at hc hd
        obtain ⟨p0, p1, p2, p3, p4⟩ := hc
        obtain ⟨s0, s1, s2, s3, s4⟩ := hd
        have hF : ∀ u, Below wr.heap.size wr u → u.cell? ⟨b, off + k * 5, none⟩ = some (.int .i64 x1) ∧ u.cell? ⟨b, off + k * 5 + 1, none⟩ = some (.int .i64 x2) ∧ u.cell? ⟨b, off + k * 5 + 2, none⟩ = some (.int .i64 x3) ∧ u.cell? ⟨b, off + k * 5 + 3, none⟩ = some (.int .i64 x4) ∧ u.cell? ⟨b, off + k * 5 + 4, none⟩ = some (.bool x5) ∧
            u.cell? ⟨b2, off2 + k * 5, none⟩ = some (.int .i64 y1) ∧ u.cell? ⟨b2, off2 + k * 5 + 1, none⟩ = some (.int .i64 y2) ∧ u.cell? ⟨b2, off2 + k * 5 + 2, none⟩ = some (.int .i64 y3) ∧ u.cell? ⟨b2, off2 + k * 5 + 3, none⟩ = some (.int .i64 y4) ∧ u.cell? ⟨b2, off2 + k * 5 + 4, none⟩ = some (.bool y5) := fun u hu => by
          have hbu := nx hb hu
          obtain ⟨c1, _⟩ := bcell hbu
          simp only [c1 _ _ hbb, c1 _ _ hbb2]
          exact ⟨p0, p1, p2, p3, p4, s0, s1, s2, s3, s4⟩
        clear p0 p1 p2 p3 p4 s0 s1 s2 s3 s4 hat hat2
        have HX := Lib.hid hx
        have HY := Lib.hid hy
        clear hx hy
        by_cases he : ((x1, x2, x3, x4, x5) : Fl) = (y1, y2, y3, y4, y5)
        · have hq : eqF (x1, x2, x3, x4, x5) (y1, y2, y3, y4, y5) = true := eqF_iff.2 he
          have HS2 : Hid (l.take (k + 1) = m.take (k + 1)) := Lib.hid (take_eq hkl hkm HS.out (by rw [HX.out, HY.out]; exact he))
          clear he
          go_wp2
          refine Rf.region [0, 1, 2, 3, 4, 5, 6, 7, 8] (by kernel_rfl) (by kernel_rfl) (by kernel_rfl) (fun _ _ d _ _ h => by cases d <;> exact h) ?_
          repeat (first | (refine Rf.Steps.skip (by rfl) (by kernel_rfl) (by rfl) ?_; simp only [Act.put, List.setIfInBounds_toArray, List.set_cons_zero, List.set_cons_succ]) | (refine Rf.Steps.pure (v := ?_) (by rfl) (by kernel_rfl) (by rfl) ?_ ?_; rotate_left; (intro w_ hS_; have hk_ := hF w_ hS_; go_simp <;> with_reducible rfl); simp only [Act.put, List.setIfInBounds_toArray, List.set_cons_zero, List.set_cons_succ]))
          refine Rf.Steps.nil (by kernel_rfl) ?_
          intro w4 hb6
          go_wp2
          go_roundw
          case rel => exact ⟨k + 1, by omega, by go_num, nx hb hb6, HS2.out⟩
          case measure => simp [intOf]; omega
        · have hq : eqF (x1, x2, x3, x4, x5) (y1, y2, y3, y4, y5) = false := by
            cases e : eqF (x1, x2, x3, x4, x5) (y1, y2, y3, y4, y5)
            · rfl
            · exact absurd (eqF_iff.1 e) he
          have HZ : Hid (sameB l m = false) := Lib.hid (sameB_no (ne_at hkl hkm (by rw [HX.out, HY.out]; exact he)))
          clear he
          go_wp2
          refine Rf.region [0, 1, 2, 3, 4, 5, 6, 7, 8] (by kernel_rfl) (by kernel_rfl) (by kernel_rfl) (fun _ _ d _ _ h => by cases d <;> exact h) ?_
          repeat (first | (refine Rf.Steps.skip (by rfl) (by kernel_rfl) (by rfl) ?_; simp only [Act.put, List.setIfInBounds_toArray, List.set_cons_zero, List.set_cons_succ]) | (refine Rf.Steps.pure (v := ?_) (by rfl) (by kernel_rfl) (by rfl) ?_ ?_; rotate_left; (intro w_ hS_; have hk_ := hF w_ hS_; go_simp <;> with_reducible rfl); simp only [Act.put, List.setIfInBounds_toArray, List.set_cons_zero, List.set_cons_succ]))
          refine Rf.Steps.nil (by kernel_rfl) ?_
          intro w4 hb6
          go_wp2
          go_ret
          exact ⟨ret_bool HZ.out.symm, nx hb hb6⟩
      · obtain rfl : k = n := by omega
        have HZ : Hid (sameB l m = true) := Lib.hid (sameB_yes (by have := HS.out; rwa [HN.out, List.take_length, ← HN.out, HN2.out, List.take_length] at this))
        go_wp2
        go_ret
        exact ⟨ret_bool HZ.out.symm, hb⟩
  · have HZ : Hid (sameB l m = false) := Lib.hid (sameB_no (fun e => hlen (by rw [e])))
    have hd : ((l.length : Int) != m.length) = true := by simp; omega
    clear hlen
    go_enter Try.func16, Try.ntmps16
    go_wp2
    go_ret
    exact ⟨ret_bool HZ.out.symm, Below.refl _ _⟩
theorem fills_is {l m : List Fl} {r : Bool} (h : Hid (sameB l m = r)) (B B' : Bs) (v x : Value) (w : World) (h1 : FL B l v w) (h2 : FL B' m x w) (hm : l.length ≤ 1000000) :
    Calls Try.prog 16 #[v, x] w fun e w' => e = .returned (.bool r) ∧ Below w.heap.size w w' := by
  rw [← h.out]; exact fills_any B B' l m v x w h1 h2 hm
set_option maxHeartbeats 1600000 in
theorem levels_any (B B' : Bs) (l m : List Lv) (v x : Value) (w : World) (h : LL B l v w) (k : LL B' m x w) (hm : l.length ≤ 1000000) (hf : (flat l).length ≤ 1000000) :
    Calls Try.prog 31 #[v, x] w fun e w' => e = .returned (.bool (sameB l m)) ∧ Below w.heap.size w w' := by
  obtain ⟨a1, c1, rfl, h1⟩ := h
  obtain ⟨a2, c2, rfl, h2⟩ := k
  have HA := Lib.hid h1
  have HB := Lib.hid h2
  have HFl := Lib.hid hf
  clear h1 h2 hf
  by_cases hlen : l.length = m.length
  · obtain ⟨n, hn⟩ : ∃ n, n = l.length := ⟨_, rfl⟩
    rw [← hlen, ← hn]
    rw [← hn] at hm
    have HN := Lib.hid hn
    have HN2 := Lib.hid (hn.trans hlen)
    clear hn hlen
    go_enter Try.func31, Try.ntmps31
    go_wp2
    go_loopw [14] (fun i wr => ∃ k : Nat, k ≤ n ∧ i = .int .i64 k ∧ Below w.heap.size w wr ∧ l.take k = m.take k) (fun i _ => n - (intOf i).toNat)
    case atStart => exact ⟨0, Nat.zero_le _, rfl, Below.refl _ _, rfl⟩
    case round =>
      obtain ⟨wo, rfl⟩ : ∃ wo : World, wo = wr := ⟨_, rfl⟩
      obtain ⟨k, hk, rfl, hb, hsame⟩ := hrel
      have HS := Lib.hid hsame
      clear hsame
      by_cases hlt : k < n
      · have hlt2 : (k : Int) < n := by omega
        have hkl : k < l.length := by rw [← HN.out]; exact hlt
        have hkm : k < m.length := by rw [← HN2.out]; exact hlt
        rcases HA.out with ⟨e, _⟩ | ⟨b, off, rfl, hat⟩
        · rw [e] at hkl; cases hkl
        rcases HB.out with ⟨e, _⟩ | ⟨b2, off2, rfl, hat2⟩
        · rw [e] at hkm; cases hkm
        have hbb := hat.1
        have hbb2 := hat2.1
        obtain ⟨⟨x1, x2⟩, hx⟩ : ∃ x, l[k] = x := ⟨_, rfl⟩
        obtain ⟨⟨y1, y2⟩, hy⟩ : ∃ x, m[k] = x := ⟨_, rfl⟩
        obtain ⟨v1, p0, p1, hv1⟩ := atL hat k hkl
        obtain ⟨v2, s0, s1, hv2⟩ := atL hat2 k hkm
        have hle := flat_take_le l (k + 1)
        rw [flat_take_snoc hkl, List.length_append] at hle
        rw [hx] at p0 hv1 hle
        rw [hy] at s0 hv2
        simp only at p0 s0 hv1 hv2 hle
        have hs1 : x2.length ≤ 1000000 := by have := HFl.out; omega
        obtain ⟨a3, c3, rfl⟩ := hv1.len
        obtain ⟨a4, c4, rfl⟩ := hv2.len
        have hF : ∀ u, Below wo.heap.size wo u → u.cell? ⟨b, off + k * 2, none⟩ = some (.int .i64 x1) ∧ u.cell? ⟨b, off + k * 2 + 1, none⟩ = some (.slice a3 x2.length c3) ∧ u.cell? ⟨b2, off2 + k * 2, none⟩ = some (.int .i64 y1) ∧ u.cell? ⟨b2, off2 + k * 2 + 1, none⟩ = some (.slice a4 y2.length c4) := fun u hu => by
          have hbu := nx hb hu
          obtain ⟨c1, _⟩ := bcell hbu
          refine ⟨?_, ?_, ?_, ?_⟩
          · rw [c1 _ _ hbb]; exact p0
          · rw [c1 _ _ hbb]; exact p1
          · rw [c1 _ _ hbb2]; exact s0
          · rw [c1 _ _ hbb2]; exact s1
        have HV1 := Lib.hid (show ∀ u, Below wo.heap.size wo u → OL B x2 (.slice a3 x2.length c3) u from fun u hu => Is.stays eO 31 hv1 (nx hb hu))
        have HV2 := Lib.hid (show ∀ u, Below wo.heap.size wo u → OL B' y2 (.slice a4 y2.length c4) u from fun u hu => Is.stays eO 31 hv2 (nx hb hu))
        clear p0 p1 s0 s1 hat hat2 hv1 hv2 hle
        have HX := Lib.hid hx
        have HY := Lib.hid hy
        clear hx hy
        by_cases he : x1 = y1
        · have hd : (x1 != y1) = false := by simpa using he
          by_cases hl2 : x2.length = y2.length
          · have hd2 : ((x2.length : Int) != y2.length) = false := by simp; omega
            have hd2' : (x2.length != y2.length) = false := by simpa using hl2
            obtain ⟨n2, hn2⟩ : ∃ n2, n2 = x2.length := ⟨_, rfl⟩
            have hn3 : n2 = y2.length := hn2.trans hl2
            have HE := Lib.hid he
            rw [← hn2, ← hn3] at hd2 hd2'
            rw [← hn2] at hs1
            simp only [← hn2, ← hn3] at hF
            have HV1' := HV1.out
            have HV2' := HV2.out
            rw [← hn2] at HV1'
            rw [← hn3] at HV2'
            have HW1 := Lib.hid HV1'
            have HW2 := Lib.hid HV2'
            have HN3 := Lib.hid hn2
            have HN4 := Lib.hid hn3
            clear HV1 HV2 HV1' HV2' he hl2 hn2 hn3
            go_wp2
            refine Rf.region [0, 1, 2, 3, 4, 5, 6, 7, 8, 9, 10, 11, 12, 13, 14, 15, 16, 17, 18, 19, 20, 21, 22, 23, 24, 25] (by kernel_rfl) (by kernel_rfl) (by kernel_rfl) (fun _ _ d _ _ h => by cases d <;> exact h) ?_
            repeat (first | (refine Rf.Steps.skip (by rfl) (by kernel_rfl) (by rfl) ?_; simp only [Act.put, List.setIfInBounds_toArray, List.set_cons_zero, List.set_cons_succ]) | (refine Rf.Steps.pure (v := ?_) (by rfl) (by kernel_rfl) (by rfl) ?_ ?_; rotate_left; (intro w_ hS_; have hk_ := hF w_ hS_; go_simp <;> with_reducible rfl); simp only [Act.put, List.setIfInBounds_toArray, List.set_cons_zero, List.set_cons_succ]))
            refine Rf.Steps.nil (by kernel_rfl) ?_
            intro w4 hb6
            obtain ⟨f0, f1, f2, f3⟩ := hF w4 hb6
            have hbb4 : b < w4.heap.size := by have := hb6.size; have := hb.size; omega
            go_wp2
            clear f0 f1 f2 f3
            go_loopw [49] (fun i wr => ∃ j : Nat, j ≤ n2 ∧ i = .int .i64 j ∧ Below wo.heap.size wo wr ∧ x2.take j = y2.take j) (fun i _ => n2 - (intOf i).toNat)
            case atStart => exact ⟨0, Nat.zero_le _, rfl, hb6, rfl⟩
            case round =>
              obtain ⟨j, hj, rfl, hbi, hsj⟩ := hrel
              have HSj := Lib.hid hsj
              clear hsj
              by_cases hlt : j < n2
              · have hlt3 : (j : Int) < n2 := by omega
                have hjx : j < x2.length := by rw [← HN3.out]; exact hlt
                have hjy : j < y2.length := by rw [← HN4.out]; exact hlt
                rcases (HW1.out wr hbi).cases with ⟨e, _⟩ | ⟨_, b5, off5, c5, e5, hat5⟩
                · rw [e] at hjx; cases hjx
                rcases (HW2.out wr hbi).cases with ⟨e, _⟩ | ⟨_, b6, off6, c6, e6, hat6⟩
                · rw [e] at hjy; cases hjy
                simp only [Value.slice.injEq] at e5 e6
                obtain ⟨rfl, _, rfl⟩ := e5
                obtain ⟨rfl, _, rfl⟩ := e6
                have hb5 := hat5.1
                have hb6' := hat6.1
                obtain ⟨⟨z1, z2, z3, z4, z5⟩, hz⟩ : ∃ x, x2[j] = x := ⟨_, rfl⟩
                obtain ⟨⟨t1, t2, t3, t4, t5⟩, ht⟩ : ∃ x, y2[j] = x := ⟨_, rfl⟩
                have hc := at5 hat5 j hjx
                have hd := at5 hat6 j hjy
                rw [hz] at hc
                rw [ht] at hd
                simp only at hc hd
                obtain ⟨p0, p1, p2, p3, p4⟩ := hc
                obtain ⟨s0, s1, s2, s3, s4⟩ := hd
                have hbi2 : b < wr.heap.size := by have := hbi.size; have := hb.size; omega
                have hbi3 : b2 < wr.heap.size := by have := hbi.size; have := hb.size; omega
                have hG : ∀ u, Below wr.heap.size wr u → (u.cell? ⟨b5, off5 + j * 5, none⟩ = some (.int .i64 z1) ∧ u.cell? ⟨b5, off5 + j * 5 + 1, none⟩ = some (.int .i64 z2) ∧ u.cell? ⟨b5, off5 + j * 5 + 2, none⟩ = some (.int .i64 z3) ∧ u.cell? ⟨b5, off5 + j * 5 + 3, none⟩ = some (.int .i64 z4) ∧ u.cell? ⟨b5, off5 + j * 5 + 4, none⟩ = some (.int .i64 z5) ∧
                    u.cell? ⟨b6, off6 + j * 5, none⟩ = some (.int .i64 t1) ∧ u.cell? ⟨b6, off6 + j * 5 + 1, none⟩ = some (.int .i64 t2) ∧ u.cell? ⟨b6, off6 + j * 5 + 2, none⟩ = some (.int .i64 t3) ∧ u.cell? ⟨b6, off6 + j * 5 + 3, none⟩ = some (.int .i64 t4) ∧ u.cell? ⟨b6, off6 + j * 5 + 4, none⟩ = some (.int .i64 t5)) ∧
                    (u.cell? ⟨b, off + k * 2 + 1, none⟩ = some (.slice (some ⟨b5, off5, none⟩) n2 c3) ∧ u.cell? ⟨b2, off2 + k * 2 + 1, none⟩ = some (.slice (some ⟨b6, off6, none⟩) n2 c4)) := fun u hu => by
                  obtain ⟨c1, _⟩ := bcell hu
                  obtain ⟨_, f1, _, f3⟩ := hF u (nx hbi hu)
                  simp only [c1 _ _ hb5, c1 _ _ hb6']
                  exact ⟨⟨p0, p1, p2, p3, p4, s0, s1, s2, s3, s4⟩, f1, f3⟩
                clear p0 p1 p2 p3 p4 s0 s1 s2 s3 s4 hat5 hat6
                have HX2 := Lib.hid hz
                have HY2 := Lib.hid ht
                clear hz ht
                by_cases he : ((z1, z2, z3, z4, z5) : Od) = (t1, t2, t3, t4, t5)
                · have hq : eqO (z1, z2, z3, z4, z5) (t1, t2, t3, t4, t5) = true := eqO_iff.2 he
                  have HS2 : Hid (x2.take (j + 1) = y2.take (j + 1)) := Lib.hid (take_eq hjx hjy HSj.out (by rw [HX2.out, HY2.out]; exact he))
                  clear he
                  go_wp2
                  refine Rf.region [0, 1, 2, 3, 4, 5, 6, 7, 8, 9, 10, 11, 12, 13, 14, 15, 16] (by kernel_rfl) (by kernel_rfl) (by kernel_rfl) (fun _ _ d _ _ h => by cases d <;> exact h) ?_
                  repeat (first | (refine Rf.Steps.skip (by rfl) (by kernel_rfl) (by rfl) ?_; simp only [Act.put, List.setIfInBounds_toArray, List.set_cons_zero, List.set_cons_succ]) | (refine Rf.Steps.pure (v := ?_) (by rfl) (by kernel_rfl) (by rfl) ?_ ?_; rotate_left; (intro w_ hS_; have hk_ := hG w_ hS_; go_simp <;> with_reducible rfl); simp only [Act.put, List.setIfInBounds_toArray, List.set_cons_zero, List.set_cons_succ]))
                  refine Rf.Steps.nil (by kernel_rfl) ?_
                  intro w5 hb7
                  go_wp2
                  go_roundw
                  case rel => exact ⟨j + 1, by omega, by go_num, nx hbi hb7, HS2.out⟩
                  case measure => simp [intOf]; omega
                · have hq : eqO (z1, z2, z3, z4, z5) (t1, t2, t3, t4, t5) = false := by
                    cases e : eqO (z1, z2, z3, z4, z5) (t1, t2, t3, t4, t5)
                    · rfl
                    · exact absurd (eqO_iff.1 e) he
                  have HZ : Hid (sameB l m = false) := Lib.hid (sameB_no (ne_at hkl hkm (by rw [HX.out, HY.out]; intro e; exact ne_at hjx hjy (by rw [HX2.out, HY2.out]; exact he) (Prod.mk.inj e).2)))
                  clear he
                  go_wp2
                  refine Rf.region [0, 1, 2, 3, 4, 5, 6, 7, 8, 9, 10, 11, 12, 13, 14, 15, 16] (by kernel_rfl) (by kernel_rfl) (by kernel_rfl) (fun _ _ d _ _ h => by cases d <;> exact h) ?_
                  repeat (first | (refine Rf.Steps.skip (by rfl) (by kernel_rfl) (by rfl) ?_; simp only [Act.put, List.setIfInBounds_toArray, List.set_cons_zero, List.set_cons_succ]) | (refine Rf.Steps.pure (v := ?_) (by rfl) (by kernel_rfl) (by rfl) ?_ ?_; rotate_left; (intro w_ hS_; have hk_ := hG w_ hS_; go_simp <;> with_reducible rfl); simp only [Act.put, List.setIfInBounds_toArray, List.set_cons_zero, List.set_cons_succ]))
                  refine Rf.Steps.nil (by kernel_rfl) ?_
                  intro w5 hb7
                  go_wp2
                  go_ret
                  exact ⟨ret_bool HZ.out.symm, nx hb (nx hbi hb7)⟩
              · obtain rfl : j = n2 := by omega
                have hx2 : x2 = y2 := by have := HSj.out; rwa [HN3.out, List.take_length, ← HN3.out, HN4.out, List.take_length] at this
                have HS2 : Hid (l.take (k + 1) = m.take (k + 1)) := Lib.hid (take_eq hkl hkm HS.out (by rw [HX.out, HY.out, HE.out, hx2]))
                clear hx2
                go_wp2
                go_roundw
                case rel => exact ⟨k + 1, by omega, by go_num, nx hb hbi, HS2.out⟩
                case measure => simp [intOf]; omega
          · have hd2 : ((x2.length : Int) != y2.length) = true := by simp; omega
            have hd2' : (x2.length != y2.length) = true := by simpa using hl2
            have HZ : Hid (sameB l m = false) := Lib.hid (sameB_no (ne_at hkl hkm (by rw [HX.out, HY.out]; intro e; exact hl2 (by rw [(Prod.mk.inj e).2]))))
            clear he
            go_wp2
            refine Rf.region [0, 1, 2, 3, 4, 5, 6, 7, 8, 9, 10, 11, 12, 13, 14, 15, 16, 17, 18, 19, 20, 21, 22, 23, 24, 25] (by kernel_rfl) (by kernel_rfl) (by kernel_rfl) (fun _ _ d _ _ h => by cases d <;> exact h) ?_
            repeat (first | (refine Rf.Steps.skip (by rfl) (by kernel_rfl) (by rfl) ?_; simp only [Act.put, List.setIfInBounds_toArray, List.set_cons_zero, List.set_cons_succ]) | (refine Rf.Steps.pure (v := ?_) (by rfl) (by kernel_rfl) (by rfl) ?_ ?_; rotate_left; (intro w_ hS_; have hk_ := hF w_ hS_; go_simp <;> with_reducible rfl); simp only [Act.put, List.setIfInBounds_toArray, List.set_cons_zero, List.set_cons_succ]))
            refine Rf.Steps.nil (by kernel_rfl) ?_
            intro w4 hb6
            go_wp2
            go_ret
            exact ⟨ret_bool HZ.out.symm, nx hb hb6⟩
        · have hd : (x1 != y1) = true := by simpa using he
          have HZ : Hid (sameB l m = false) := Lib.hid (sameB_no (ne_at hkl hkm (by rw [HX.out, HY.out]; intro e; exact he (Prod.mk.inj e).1)))
          clear he
          go_wp2
          refine Rf.region [0, 1, 2, 3, 4, 5, 6, 7, 8, 9, 10, 11, 12, 13, 14, 15, 16, 17, 18, 19, 20, 21, 22, 23, 24, 25] (by kernel_rfl) (by kernel_rfl) (by kernel_rfl) (fun _ _ d _ _ h => by cases d <;> exact h) ?_
          repeat (first | (refine Rf.Steps.skip (by rfl) (by kernel_rfl) (by rfl) ?_; simp only [Act.put, List.setIfInBounds_toArray, List.set_cons_zero, List.set_cons_succ]) | (refine Rf.Steps.pure (v := ?_) (by rfl) (by kernel_rfl) (by rfl) ?_ ?_; rotate_left; (intro w_ hS_; have hk_ := hF w_ hS_; go_simp <;> with_reducible rfl); simp only [Act.put, List.setIfInBounds_toArray, List.set_cons_zero, List.set_cons_succ]))
          refine Rf.Steps.nil (by kernel_rfl) ?_
          intro w4 hb6
          go_wp2
          go_ret
          exact ⟨ret_bool HZ.out.symm, nx hb hb6⟩
      · obtain rfl : k = n := by omega
        have HZ : Hid (sameB l m = true) := Lib.hid (sameB_yes (by have := HS.out; rwa [HN.out, List.take_length, ← HN.out, HN2.out, List.take_length] at this))
        go_wp2
        go_ret
        exact ⟨ret_bool HZ.out.symm, hb⟩
  · have HZ : Hid (sameB l m = false) := Lib.hid (sameB_no (fun e => hlen (by rw [e])))
    have hd : ((l.length : Int) != m.length) = true := by simp; omega
    clear hlen
    go_enter Try.func31, Try.ntmps31
    go_wp2
    go_ret
    exact ⟨ret_bool HZ.out.symm, Below.refl _ _⟩
theorem levels_is {l m : List Lv} {r : Bool} (h : Hid (sameB l m = r)) (B B' : Bs) (v x : Value) (w : World) (h1 : LL B l v w) (h2 : LL B' m x w) (hm : l.length ≤ 1000000) (hf : (flat l).length ≤ 1000000) :
    Calls Try.prog 31 #[v, x] w fun e w' => e = .returned (.bool r) ∧ Below w.heap.size w w' := by
  rw [← h.out]; exact levels_any B B' l m v x w h1 h2 hm hf
end Go.Proofs.Ytfnmmknbjfmagaa.Bk
