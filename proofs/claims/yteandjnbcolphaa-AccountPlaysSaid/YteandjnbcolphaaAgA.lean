/- The landed package account: which purses may be, Get, Of. -/
import Derived.Test.YteandjnbcolphaaAcE
namespace Go.Proofs.Yteandjnbcolphaa.Ac
open Go.RowKit
set_option linter.unusedVariables false
open Go.Proofs.Yteandjnbcolphaa.Rw
open Go.Proofs.Yteandjnbcolphaa.Sl
set_option maxHeartbeats 400000 in
theorem purse_any (a b : Int) (w : World) :
    Calls Try.prog 29 #[.agg #[.int .i64 a, .int .i64 b]] w fun e w' => e = .returned (.bool (pmay (a, b))) ∧ Below w.heap.size w w' := by
  by_cases h0 : 0 ≤ a
  · by_cases h1 : a < 64
    · by_cases h2 : 0 ≤ b
      · by_cases h3 : b < 8
        · have H : Hid (pmay (a, b) = true) := Lib.hid (pmay_iff.2 ⟨h0, h1, h2, h3⟩)
          go_enter Try.func29, Try.ntmps29
          go_wp2
          go_ret
          exact ⟨by rw [H.out]; simp, below1 _ _⟩
        · have H : Hid (pmay (a, b) = false) := Lib.hid (by unfold pmay; simp; omega)
          have hd : decide (b < 8) = false := by simp; omega
          go_enter Try.func29, Try.ntmps29
          go_wp2
          go_ret
          exact ⟨by rw [H.out]; simp, below1 _ _⟩
      · have H : Hid (pmay (a, b) = false) := Lib.hid (by unfold pmay; simp; omega)
        have hd : decide (0 ≤ b) = false := by simp; omega
        clear h2
        go_enter Try.func29, Try.ntmps29
        go_wp2
        go_ret
        exact ⟨by rw [H.out]; simp, below1 _ _⟩
    · have H : Hid (pmay (a, b) = false) := Lib.hid (by unfold pmay; simp; omega)
      have hd : decide (a < 64) = false := by simp; omega
      clear h1
      go_enter Try.func29, Try.ntmps29
      go_wp2
      go_ret
      exact ⟨by rw [H.out]; simp, below1 _ _⟩
  · have H : Hid (pmay (a, b) = false) := Lib.hid (by unfold pmay; simp; omega)
    have hd : decide (0 ≤ a) = false := by simp; omega
    clear h0
    go_enter Try.func29, Try.ntmps29
    go_wp2
    go_ret
    exact ⟨by rw [H.out]; simp, below1 _ _⟩
theorem own_made (w : World) : Own w.heap.size [] (.slice (some ⟨w.heap.size, 0, none⟩) 0 0) (w.alloc (.cells #[] 50)) :=
  World.ownsRow_made (base := w.heap.size) (e := 50) (size := 3) w #[] 0 (Nat.le_refl _) (by unfold maxLen; omega) rfl
theorem purse_is {a b : Int} {r : Bool} (h : Hid (pmay (a, b) = r)) (w : World) :
    Calls Try.prog 29 #[.agg #[.int .i64 a, .int .i64 b]] w fun e w' => e = .returned (.bool r) ∧ Below w.heap.size w w' := by
  rw [← h.out]; exact purse_any a b w
set_option maxHeartbeats 800000 in
theorem get_any (l : List Hd) (v : Value) (p q : Int) (w : World) (h : HL l v w) (hm : l.length ≤ 1000000) :
    Calls Try.prog 14 #[v, .agg #[.int .i64 p, .int .i64 q]] w fun e w' => e = .returned (.int .i64 (get l (p, q))) ∧ Below w.heap.size w w' := by
  rcases h.cases with ⟨rfl, a, c, rfl⟩ | ⟨hne, b, off, c, rfl, hat⟩
  · clear h
    go_enter Try.func14, Try.ntmps14
    go_wp2
    go_loopw [9] (fun i wr => i = .int .i64 0 ∧ Below w.heap.size w wr) (fun i _ => 0)
    case atStart => exact ⟨rfl, below1 _ _⟩
    case round =>
      obtain ⟨rfl, hb⟩ := hrel
      go_wp2
      go_ret
      exact ⟨rfl, hb⟩
  · have hbw := hat.1
    have HA := Lib.hid hat
    obtain ⟨n, hn⟩ : ∃ n, n = l.length := ⟨_, rfl⟩
    rw [← hn] at hm ⊢
    have HN := Lib.hid hn
    clear h hat hn hne
    go_enter Try.func14, Try.ntmps14
    go_wp2
    obtain ⟨W, hW⟩ : ∃ W, W = w.alloc (.cells #[.int .i64 p, .int .i64 q] 24) := ⟨_, rfl⟩
    have k0 : W.cell? ⟨w.heap.size, 0, none⟩ = some (.int .i64 p) := by rw [hW]; simp [go_sem]
    have k1 : W.cell? ⟨w.heap.size, 1, none⟩ = some (.int .i64 q) := by rw [hW]; simp [go_sem]
    have hb0 : Below w.heap.size w W := hW ▸ below1 w _
    have hz : w.heap.size < W.heap.size := by rw [hW]; simp
    have hzb : b < W.heap.size := by omega
    have HW := Lib.hid (HA.out.stays enc 3 hb0)
    rw [← hW]
    clear hW HA
    go_loopw [9] (fun i wr => ∃ k : Nat, k ≤ n ∧ i = .int .i64 k ∧ Below W.heap.size W wr ∧ get (l.drop k) (p, q) = get l (p, q)) (fun i _ => n - (intOf i).toNat)
    case atStart => exact ⟨0, Nat.zero_le _, rfl, Below.refl _ _, rfl⟩
    case round =>
      obtain ⟨k, hk, rfl, hb, hrest⟩ := hrel
      have HR := Lib.hid hrest
      clear hrest
      by_cases hlt : k < n
      · have hlt2 : (k : Int) < n := by omega
        have hkl : k < l.length := by rw [← HN.out]; exact hlt
        obtain ⟨⟨x, y, z⟩, hx⟩ : ∃ x, l[k] = x := ⟨_, rfl⟩
        have hc := at3 HW.out k hkl
        have hg := get_drop hkl (p, q)
        rw [hx] at hc hg
        simp only at hc
        obtain ⟨q0, q1, q2⟩ := hc
        obtain ⟨c1, f1, r1, p1⟩ := bcell hb
        have hzw : w.heap.size < wr.heap.size := by have := hb.size; omega
        have HG : Hid (get (l.drop k) (p, q) = if eqP (x, y) (p, q) = true then z else get (l.drop (k + 1)) (p, q)) := Lib.hid (by rw [hg]; simp only [eqP_iff]; rfl)
        clear hg hx
        cases he : eqP (x, y) (p, q)
        · rw [he] at HG
          go_wp2
          go_roundw
          case rel => exact ⟨k + 1, by omega, by go_num, nx hb (below1 _ _), by rw [← HR.out, HG.out]; rfl⟩
          case measure => simp [intOf]; omega
        · rw [he] at HG
          go_wp2
          go_ret
          exact ⟨ret_int (by rw [← HR.out, HG.out]; rfl), nx hb0 (nx hb (below1 _ _))⟩
      · obtain rfl : k = n := by omega
        have hz0 : get l (p, q) = 0 := by rw [← HR.out, HN.out, List.drop_length]; rfl
        have HZ := Lib.hid hz0
        clear hz0
        go_wp2
        go_ret
        exact ⟨ret_int HZ.out.symm, nx hb0 hb⟩
set_option maxHeartbeats 1600000 in
theorem of_any (l : List Hd) (v : Value) (a : Int) (w : World) (h : HL l v w) (hm : l.length ≤ 1000000) :
    Calls Try.prog 18 #[v, .int .i64 a] w (Post (HL (ofL l a)) w) := by
  rcases h.cases with ⟨rfl, p, c, rfl⟩ | ⟨hne, b, off, c, rfl, hat⟩
  · clear h
    go_enter Try.func18, Try.ntmps18
    go_wp2
    go_loopw [5, 11] (fun t i wr => i = .int .i64 0 ∧ t = .slice (some ⟨w.heap.size, 0, none⟩) 0 0 ∧ Below w.heap.size w wr) (fun _ i _ => 0)
    case atStart => exact ⟨rfl, rfl, below1 _ _⟩
    case round =>
      obtain ⟨rfl, rfl, hb⟩ := hrel
      go_wp2
      go_ret
      exact ⟨_, rfl, hb, SL.empty enc 3 _ _ _⟩
  · have HA := Lib.hid hat
    obtain ⟨i0, hi, hz0, hz1, hz2⟩ := info_parts infoH
    have hbb : b < w.heap.size := hat.1
    obtain ⟨n, hn⟩ : ∃ n, n = l.length := ⟨_, rfl⟩
    rw [← hn] at hm ⊢
    have HN := Lib.hid hn
    clear h hat hn hne
    have HMd : Hid (Own w.heap.size [] (.slice (some ⟨w.heap.size, 0, none⟩) 0 0) (w.alloc (.cells #[] 50))) := Lib.hid (own_made w)
    go_enter Try.func18, Try.ntmps18
    go_wp2
    go_loopw [5, 11] (fun t i wr => ∃ k : Nat, k ≤ n ∧ i = .int .i64 k ∧ Below w.heap.size w wr ∧ Own w.heap.size (ofL (l.take k) a) t wr) (fun _ i _ => n - (intOf i).toNat)
    case atStart => exact ⟨0, Nat.zero_le _, rfl, below1 _ _, HMd.out⟩
    case round =>
      obtain ⟨k, hk, rfl, hb, hown⟩ := hrel
      have HO := Lib.hid hown
      clear hown
      by_cases hlt : k < n
      · have hlt2 : (k : Int) < n := by omega
        have hkl : k < l.length := by rw [← HN.out]; exact hlt
        obtain ⟨⟨x, y, z⟩, hx⟩ : ∃ x, l[k] = x := ⟨_, rfl⟩
        have hc := at3 HA.out k hkl
        have ht := ofL_take hkl a
        rw [hx] at hc ht
        simp only at hc
        obtain ⟨q0, q1, q2⟩ := hc
        obtain ⟨c1, f1, r1, p1⟩ := bcell hb
        have HTk : Hid (ofL (l.take (k + 1)) a = ofL (l.take k) a ++ (if x = a then [(x, y, z)] else [])) := Lib.hid ht
        clear hx ht
        by_cases he : x = a
        · have HE := Lib.hid he
          have hd : (x == a) = true := by simpa using he
          clear he
          have hsz := hb.size
          have hlen := ofL_len (l.take k) a
          have hlen2 : (l.take k).length ≤ k := List.length_take_le _ _
          have hbA := (hb.alloc (by omega) (.cells #[.int .i64 x, .int .i64 y, .int .i64 z] 50)).alloc (by simp; omega) (.cells #[.int .i64 x, .int .i64 y, .int .i64 z] 50)
          go_wp2_with (at_builtin; refine wpList_append_own _ rfl _ _ 22 rfl (w.heap.size) 50 i0 (.agg #[.int .i64 0, .int .i64 0, .int .i64 0]) 3 24 Try.underlying22 hi hz0 hz1 hz2 rfl (by decide) _ _ _ rfl (HO.out.alloc _ |>.alloc _) (⟨wr.heap.size + 1, 0, none⟩) 1 1 (enc (x, y, z)) rfl rfl ?c1 ?c2 ?c3 ?c4 ?c5 ?_)
          case c1 => intro j u hj; rcases j with _ | _ | _ | _ | _ | _ <;> simp [enc] at hj <;> subst hj <;> simp [Addr.add, go_sem]
          case c2 => intro u hu; simp [enc] at hu; rcases hu with rfl | rfl | rfl <;> rfl
          case c3 => unfold maxLen; omega
          case c4 => omega
          case c5 => have := (hbA).size; simp at this ⊢; omega
          intro v2 w2 hown2 hg_ _
          have hb2 := (hbA).grown hg_ (by have := (hbA).size; simp at this ⊢; omega) (fun k_ hk_ => ((HO.out).lt k_ hk_).1)
          clear hg_
          have HO2 : Hid (Own w.heap.size (ofL (l.take (k + 1)) a) v2 w2) := Lib.hid (by rw [HTk.out, if_pos HE.out]; exact Own.snoc hown2)
          clear hown2 hbA
          go_wp2
          go_roundw
          case rel => exact ⟨k + 1, by omega, by go_num, hb2, HO2.out⟩
          case measure => simp [intOf]; omega
        · have HE := Lib.hid he
          have hd : (x == a) = false := by simpa using he
          clear he
          have HO2 : Hid (Own w.heap.size (ofL (l.take (k + 1)) a) u5 (wr.alloc (.cells #[.int .i64 x, .int .i64 y, .int .i64 z] 50))) := Lib.hid (by rw [HTk.out, if_neg HE.out, List.append_nil]; exact HO.out.alloc _)
          have hsz := hb.size
          go_wp2
          go_roundw
          case rel => exact ⟨k + 1, by omega, by go_num, hb.alloc hsz _, HO2.out⟩
          case measure => simp [intOf]; omega
      · obtain rfl : k = n := by omega
        have HZ : Hid (Own w.heap.size (ofL l a) u5 wr) := Lib.hid (by have := HO.out; rwa [HN.out, List.take_length] at this)
        go_wp2
        go_ret
        exact ⟨_, rfl, hb, HZ.out.hl⟩
end Go.Proofs.Yteandjnbcolphaa.Ac
