/- Of the statements of layer 9: played. -/
import Derived.Test.YtfnmmknbjfmagaaBlD
namespace Go.Proofs.Ytfnmmknbjfmagaa.Bk
open Go.RowKit
set_option linter.unusedVariables false
open Go.Proofs.Ytfnmmknbjfmagaa.Rw
open Go.Proofs.Ytfnmmknbjfmagaa.Da
open Go.Proofs.Ytfnmmknbjfmagaa.Le
def eP : Enc Op5 := Enc.flat 5 (fun o => [.int .i64 o.1, .int .i64 o.2.1, .int .i64 o.2.2.1, .int .i64 o.2.2.2.1, .int .i64 o.2.2.2.2]) (fun _ => rfl) (fun o u hu => by simp at hu; rcases hu with rfl | rfl | rfl | rfl | rfl <;> rfl)
abbrev PL (B : Bs) (l : List Op5) (v : Value) (w : World) : Prop := Is eP 29 B l v w
theorem atP {B : Bs} {l : List Op5} {b off : Nat} {w : World} (h : Lies eP 29 B l b off w) (i : Nat) (hi : i < l.length) :
    w.cell? ⟨b, off + i * 5, none⟩ = some (.int .i64 l[i].1) ∧ w.cell? ⟨b, off + i * 5 + 1, none⟩ = some (.int .i64 l[i].2.1) ∧ w.cell? ⟨b, off + i * 5 + 2, none⟩ = some (.int .i64 l[i].2.2.1) ∧ w.cell? ⟨b, off + i * 5 + 3, none⟩ = some (.int .i64 l[i].2.2.2.1) ∧ w.cell? ⟨b, off + i * 5 + 4, none⟩ = some (.int .i64 l[i].2.2.2.2) := by
  obtain ⟨cs, rfl, hu⟩ := h.at i hi
  exact ⟨hu 0 _ rfl, hu 1 _ rfl, hu 2 _ rfl, hu 3 _ rfl, hu 4 _ rfl⟩
theorem ret_BT {fn : Func} {p q : Tmp} (h : fn.results = #[.cell p 26, .tmp q]) (tmps : Array Value) (w : World) {cs : Array Value} (hs : cs.size = 3) (hr : rowOf w (tmps.getD p undef) = cs) : (results fn tmps).run Try.prog w = .ok (.tuple #[.agg cs, tmps.getD q undef]) w := by
  obtain ⟨b, e, hl⟩ := read_cell (P := Try.prog) (T := 26) (n := 2) Try.underlying26 rfl (by kernel_rfl) hr hs
  have hp : tmps[p]?.getD undef = .pointer (some ⟨b, 0, none⟩) := by simpa using e
  simp [results, h, hp, asAddr, hl]
theorem play_take {ops : List Op5} {k : Nat} (h : k < ops.length) : playB (ops.take (k + 1)) = step (playB (ops.take k)) ops[k] := by rw [Da.take_snoc h, play_snoc]
set_option maxRecDepth 8000 in
set_option maxHeartbeats 4000000 in
theorem played_any (B B' : Bs) (ops : List Op5) (v : Value) (w : World) (h : PL B' ops v w) (hB : B.le w.heap.size) (h80 : ops.length ≤ 80) :
    Calls Try.prog 19 #[v] w fun e w' => ∃ a1 n1 c1 a2 n2 c2 n, e = .returned (.tuple #[.agg #[.slice a1 n1 c1, .slice a2 n2 c2, .int .i64 n], .bool true]) ∧ Below w.heap.size w w' ∧ BL B (playB ops) (.agg #[.slice a1 n1 c1, .slice a2 n2 c2, .int .i64 n]) w' := by
  obtain ⟨a0, c0, rfl, hel⟩ := h
  obtain ⟨N, hn⟩ : ∃ N, N = ops.length := ⟨_, rfl⟩
  rw [← hn] at h80 ⊢
  have HE := Lib.hid hel
  have HN := Lib.hid hn
  have hd : decide ((80 : Int) < N) = false := decide_eq_false (by omega)
  have hd' : decide (80 < N) = false := decide_eq_false (by omega)
  obtain ⟨s, hs⟩ : ∃ s, s = w.heap.size := ⟨_, rfl⟩
  obtain ⟨U, hU⟩ : ∃ U, U = w.alloc (.cells #[.slice none 0 0, .slice none 0 0, .int .i64 0] 26) := ⟨_, rfl⟩
  have hbU : Below w.heap.size w U := hU ▸ below1 w _
  have hzU : U.heap.size = s + 1 := by rw [hU, hs]; simp
  have hsU : U.heap[s]? = some (.cells #[.slice none 0 0, .slice none 0 0, .int .i64 0] 26 (0, 0)) := by rw [hU, hs]; exact heap_alloc_new w _
  have hlo : B.lo ≤ s := by rw [hs]; exact hB.1
  have HB := Lib.hid (show ∀ u, Below w.heap.size w u → B.le u.heap.size from fun u hu => hB.mono hu.size)
  have HU := Lib.hid hU
  have HS := Lib.hid hs
  have HSU := Lib.hid hsU
  clear hel hn hU hsU hB
  go_enter Try.func19, Try.ntmps19
  go_wp2_with fail
  rw [← HU.out, ← HS.out]
  refine (new_any U).mono ?_
  rintro e w1 ⟨rfl, hb1⟩
  obtain ⟨p, hp⟩ : ∃ p, p = w1.heap.size := ⟨_, rfl⟩
  have hb1w := nx hbU hb1
  have hz1 := hb1.size
  obtain ⟨M, hM⟩ : ∃ M, M = w1.alloc (.cells #[.slice none 0 0, .slice none 0 0, .int .i64 1] 26) := ⟨_, rfl⟩
  have hbM := nx hb1w (hM ▸ below1 w1 _)
  have hx0 : Bx B bk0 p #[.slice none 0 0, .slice none 0 0, .int .i64 1] M := by rw [hM, hp]; exact Bx.made (bl_new w1) (HB.out w1 hb1w).1
  have hs0 : M.heap[s]? = some (.cells #[.slice none 0 0, .slice none 0 0, .int .i64 0] 26 (0, 0)) := ((nx hb1 (hM ▸ below1 w1 _)).block _ (by omega)).trans HSU.out
  have hsp : s + 1 ≤ p := by omega
  have HM := Lib.hid hM
  have HX := Lib.hid hx0
  have HS0 := Lib.hid hs0
  have HP := Lib.hid hp
  clear hM hx0 hs0 hp
  go_wp2
  rw [← HM.out, ← HP.out]
  go_loopw [14] (fun i wr => ∃ k : Nat, k ≤ N ∧ i = .int .i64 k ∧ Below w.heap.size w wr ∧ wr.heap[s]? = some (.cells #[.slice none 0 0, .slice none 0 0, .int .i64 0] 26 (0, 0)) ∧ ∃ a1 n1 c1 a2 n2 c2 n, Bx B (playB (ops.take k)) p #[.slice a1 n1 c1, .slice a2 n2 c2, .int .i64 n] wr) (fun i _ => N - (intOf i).toNat)
  case atStart => exact ⟨0, Nat.zero_le _, rfl, hbM, HS0.out, none, 0, 0, none, 0, 0, 1, HX.out⟩
  case round =>
    obtain ⟨k, hk, rfl, hb, hsb, a1, n1, c1, a2, n2, c2, n, hbx⟩ := hrel
    obtain ⟨b, hbk⟩ : ∃ b, playB (ops.take k) = b := ⟨_, rfl⟩
    have hR : RightB b := by rw [← hbk]; exact play_right _
    have HR := Lib.hid hR
    rw [hbk] at hbx
    have HX := Lib.hid hbx
    have HBk := Lib.hid hbk
    have HSb := Lib.hid hsb
    have r0 := hbx.row
    have z0 := hbx.lt
    clear hbx hbk hsb hR
    by_cases hlt : k < N
    · have hlt2 : (k : Int) < N := by omega
      have hko : k < ops.length := by rw [← HN.out]; exact hlt
      rcases HE.out with ⟨e, _⟩ | ⟨bo, off, rfl, hat⟩
      · rw [e] at hko; cases hko
      obtain ⟨q0, q1, q2, q3, q4⟩ := atP (Lies.keep eP 29 hat (Keeps.of_below hb)) k hko
      have hbb : bo < wr.heap.size := Nat.lt_of_lt_of_le hat.1 hb.size
      obtain ⟨⟨o1, o2, o3, o4, o5⟩, ho⟩ : ∃ x, ops[k]'hko = x := ⟨_, rfl⟩
      rw [ho] at q0 q1 q2 q3 q4
      simp only at q0 q1 q2 q3 q4
      have HO := Lib.hid ho
      obtain ⟨V, hV⟩ : ∃ V, V = wr.alloc (.cells #[.int .i64 o1, .int .i64 o2, .int .i64 o3, .int .i64 o4, .int .i64 o5] 29) := ⟨_, rfl⟩
      have hbV : Below wr.heap.size wr V := hV ▸ below1 wr _
      have HV := Lib.hid hV
      have hbVw := nx hb hbV
      have HXV := Lib.hid (HX.out.stays hbV)
      have hsw : s < wr.heap.size := (Array.getElem?_eq_some_iff.1 HSb.out).1
      clear ho hat hV
      by_cases hk2 : o1 = 2
      · have hd2 : (o1 == 2) = true := by simpa using hk2
        have HSt : Hid (playB (ops.take (k + 1)) = (cancel b o2 o4).1) := Lib.hid (by rw [play_take hko, HBk.out, HO.out]; exact if_pos hk2)
        clear hk2
        go_wp2_with fail
        rw [← HV.out]
        refine (cancel_is (c := cancel b o2 o4) (Lib.hid rfl) (small_right HR.out) B _ V HXV.out.bl (HB.out V hbVw)).mono ?_
        rintro e w2 ⟨a3, n3, c3, a4, n4, c4, m, rfl, -, hd9, hbl⟩
        have hx2 := HXV.out.stays hd9
        have hb2 := nx hbVw hd9
        have hbw2 : Below wr.heap.size wr w2 := nx hbV hd9
        have p0 := hx2.plain
        have z2 := hx2.lt
        have HX2 := Lib.hid (hx2.set hbl)
        have HS2 := Lib.hid ((setRow_other w2 p s #[.slice a3 n3 c3, .slice a4 n4 c4, .int .i64 m] (by omega)).trans ((hbw2.block s hsw).trans HSb.out))
        have hcs := cO_size (cancel b o2 o4).2.1
        obtain ⟨qq, hqq⟩ : ∃ qq, (cancel b o2 o4).2.1 = qq := ⟨_, rfl⟩
        obtain ⟨er, her⟩ : ∃ er, (cancel b o2 o4).2.2 = er := ⟨_, rfl⟩
        rw [hqq] at hcs
        have h1c : oneAll (.agg (cO qq)) = true := by cases qq <;> exact one5 _ _ _ _ _
        rw [hqq, her]
        clear hx2 hbl hd9 hqq her
        go_wp2
        go_roundw
        case rel => exact ⟨k + 1, by omega, by go_num, below_setRow hb2 (by have := HS.out; omega) _, HS2.out, _, _, _, _, _, _, _, by rw [HSt.out]; exact HX2.out⟩
        case measure => simp [intOf]; omega
      · have hd2 : (o1 == 2) = false := by simpa using hk2
        obtain ⟨rs, hrs⟩ : ∃ rs, (o1 != 1) = rs := ⟨_, rfl⟩
        have HSt : Hid (playB (ops.take (k + 1)) = (place b o2 o3 o4 o5 rs).1) := Lib.hid (by rw [play_take hko, HBk.out, HO.out, ← hrs]; exact if_neg hk2)
        clear hk2
        go_wp2_with fail
        rw [← HV.out]
        refine (place_is (c := place b o2 o3 o4 o5 rs) (Lib.hid rfl) (small_right HR.out) B _ V HXV.out.bl (HB.out V hbVw)).mono ?_
        rintro e w2 ⟨a3, n3, c3, a4, n4, c4, m, fa, fn, fc, rfl, -, -, hd9, hbl, -⟩
        have hx2 := HXV.out.stays hd9
        have hb2 := nx hbVw hd9
        have hbw2 : Below wr.heap.size wr w2 := nx hbV hd9
        have p0 := hx2.plain
        have z2 := hx2.lt
        have HX2 := Lib.hid (hx2.set hbl)
        have HS2 := Lib.hid ((setRow_other w2 p s #[.slice a3 n3 c3, .slice a4 n4 c4, .int .i64 m] (by omega)).trans ((hbw2.block s hsw).trans HSb.out))
        clear hx2 hbl hd9
        go_wp2
        go_roundw
        case rel => exact ⟨k + 1, by omega, by go_num, below_setRow hb2 (by have := HS.out; omega) _, HS2.out, _, _, _, _, _, _, _, by rw [HSt.out]; exact HX2.out⟩
        case measure => simp [intOf]; omega
    · obtain rfl : k = N := by omega
      have hfin : b = playB ops := by rw [← HBk.out, HN.out, List.take_length]
      have p0 : plain 3 wr s = true := by simp [Rw.plain, HSb.out]
      have hsw : s < wr.heap.size := (Array.getElem?_eq_some_iff.1 HSb.out).1
      have HF := Lib.hid hfin
      have hrow : row (wr.setRow s #[.slice a1 n1 c1, .slice a2 n2 c2, .int .i64 n]) s = #[.slice a1 n1 c1, .slice a2 n2 c2, .int .i64 n] := by unfold Rw.row; rw [setRow_heap wr s _ _ _ _ HSb.out]
      have hfl : Below w.heap.size w (wr.setRow s #[.slice a1 n1 c1, .slice a2 n2 c2, .int .i64 n]) ∧ BL B b (.agg #[.slice a1 n1 c1, .slice a2 n2 c2, .int .i64 n]) (wr.setRow s #[.slice a1 n1 c1, .slice a2 n2 c2, .int .i64 n]) := ⟨below_setRow hb (by have := HS.out; omega) _, HX.out.bl.keep (keeps_setRow _ HSb.out (by decide) hlo)⟩
      rw [HS.out] at p0 hsw hrow hfl
      have HRow := Lib.hid hrow
      have HFl := Lib.hid hfl
      clear hfin hrow hfl
      go_wp2
      refine bodyPost_ret (v := .tuple #[.agg #[.slice a1 n1 c1, .slice a2 n2 c2, .int .i64 n], .bool true]) (ret_BT Try.results19 _ _ rfl ?c1) rfl ?c3
      case c1 => first | exact HRow.out | (simp only [go_sem]; exact HRow.out)
      case c3 => exact ⟨_, _, _, _, _, _, _, rfl, HFl.out.1, by rw [← HF.out]; exact HFl.out.2⟩
set_option maxHeartbeats 1000000 in
theorem played_long (B' : Bs) (ops : List Op5) (v : Value) (w : World) (h : PL B' ops v w) (h80 : ¬ ops.length ≤ 80) :
    Calls Try.prog 19 #[v] w fun e w' => e = .returned (.tuple #[.agg #[.slice none 0 0, .slice none 0 0, .int .i64 1], .bool false]) ∧ Below w.heap.size w w' := by
  obtain ⟨a0, c0, rfl, hel⟩ := h
  obtain ⟨N, hn⟩ : ∃ N, N = ops.length := ⟨_, rfl⟩
  rw [← hn] at h80 ⊢
  have hd : decide ((80 : Int) < N) = true := decide_eq_true (by omega)
  have hd' : decide (80 < N) = true := decide_eq_true (by omega)
  obtain ⟨s, hs⟩ : ∃ s, s = w.heap.size := ⟨_, rfl⟩
  obtain ⟨U, hU⟩ : ∃ U, U = w.alloc (.cells #[.slice none 0 0, .slice none 0 0, .int .i64 0] 26) := ⟨_, rfl⟩
  have hbU : Below w.heap.size w U := hU ▸ below1 w _
  have hzU : U.heap.size = s + 1 := by rw [hU, hs]; simp
  have hsU : U.heap[s]? = some (.cells #[.slice none 0 0, .slice none 0 0, .int .i64 0] 26 (0, 0)) := by rw [hU, hs]; exact heap_alloc_new w _
  have HU := Lib.hid hU
  have HS := Lib.hid hs
  have HSU := Lib.hid hsU
  clear hel hn hU hsU
  go_enter Try.func19, Try.ntmps19
  go_wp2_with fail
  rw [← HU.out, ← HS.out]
  refine (new_any U).mono ?_
  rintro e w1 ⟨rfl, hb1⟩
  have hb1w := nx hbU hb1
  have hz1 := hb1.size
  have hs1 := (hb1.block s (by omega)).trans HSU.out
  have p0 : plain 3 w1 s = true := by simp [Rw.plain, hs1]
  have hsw : s < w1.heap.size := by omega
  have hrow : row ((w1.setRow s #[.slice none 0 0, .slice none 0 0, .int .i64 1]).alloc (.cells #[.slice none 0 0, .slice none 0 0, .int .i64 1] 26)) s = #[.slice none 0 0, .slice none 0 0, .int .i64 1] := by unfold Rw.row; rw [(below1 (w1.setRow s #[.slice none 0 0, .slice none 0 0, .int .i64 1]) _).block s (by rw [setRow_size]; exact hsw), setRow_heap w1 s _ _ _ _ hs1]
  have hfl : Below w.heap.size w ((w1.setRow s #[.slice none 0 0, .slice none 0 0, .int .i64 1]).alloc (.cells #[.slice none 0 0, .slice none 0 0, .int .i64 1] 26)) := (below_setRow hb1w (by omega) _).alloc (by rw [setRow_size]; have := hb1w.size; omega) _
  rw [HS.out] at p0 hsw hrow hfl
  have HRow := Lib.hid hrow
  have HFl := Lib.hid hfl
  clear hs1 hrow hfl
  go_wp2
  refine bodyPost_ret (v := .tuple #[.agg #[.slice none 0 0, .slice none 0 0, .int .i64 1], .bool false]) (ret_BT Try.results19 _ _ rfl ?c1) rfl ?c3
  case c1 => first | exact HRow.out | (simp only [go_sem]; exact HRow.out)
  case c3 => exact ⟨rfl, HFl.out⟩
end Go.Proofs.Ytfnmmknbjfmagaa.Bk
