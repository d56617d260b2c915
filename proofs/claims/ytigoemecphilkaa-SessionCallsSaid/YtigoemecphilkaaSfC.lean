/- Package session as it landed: Right. -/
import Derived.Test.YtigoemecphilkaaSfA
import Derived.WalkMore
import Derived.Deep.LoopGhost
namespace Go.Proofs.Ytigoemecphilkaa.Se
open Go.RowKit
set_option linter.unusedVariables false
open Go.Proofs.Ytigoemecphilkaa.Rw
open Go.Proofs.Ytigoemecphilkaa.Da
/-- Behind the first k sessions: the client that is looked for next. -/
def nxt (l : List Sn) (k : Nat) : Int := if k = 0 then 0 else (l.getD (k - 1) z7).1 + 1
structure RSt (l : List Sn) (k : Nat) (c : Int) : Prop where
  ok : rightTo l k = true
  c0 : 0 ≤ c
  c1 : c ≤ 64
  is : c = nxt l k
theorem okS_isB {s : Sn} : okS s = true ↔ 0 ≤ s.1 ∧ s.1 < 64 ∧ isB s s.1 = true := by simp [okS, isB]
theorem RSt.no {l : List Sn} {k : Nat} {c : Int} (h : RSt l k c) (hk : k < l.length) (hn : ∀ x, c ≤ x → x < 64 → isB l[k] x = false) : right l = false := by
  refine right_no k hk ?_
  have e : l.getD k z7 = l[k] := by simp [List.getD, hk]
  cases hok : okAt l k
  · rfl
  · exfalso
    unfold okAt at hok
    rw [e, Bool.and_eq_true, Bool.or_eq_true, okS_isB] at hok
    obtain ⟨⟨p1, p2, p3⟩, p4⟩ := hok
    have hc : c ≤ l[k].1 := by
      rw [h.is]; unfold nxt
      split
      · exact p1
      · rename_i h0
        rcases p4 with q | q
        · exact absurd (of_decide_eq_true q) h0
        · have := of_decide_eq_true q; omega
    rw [hn _ hc p2] at p3; cases p3
theorem RSt.yes {l : List Sn} {k : Nat} {c d : Int} (h : RSt l k c) (hk : k < l.length) (hd : c ≤ d) (hd2 : d < 64) (hb : isB l[k] d = true) : RSt l (k + 1) (d + 1) := by
  have e : l.getD k z7 = l[k] := by simp [List.getD, hk]
  have e1 : l[k].1 = d := (of_decide_eq_true hb).1
  have c0 := h.c0
  refine ⟨?_, by omega, by omega, ?_⟩
  · rw [rightTo_succ, h.ok, Bool.true_and]
    unfold okAt
    rw [e, Bool.and_eq_true, Bool.or_eq_true, okS_isB]
    refine ⟨⟨by omega, by omega, by rw [e1]; exact hb⟩, ?_⟩
    have := h.is
    unfold nxt at this
    split at this
    · rename_i h0; exact .inl (decide_eq_true h0)
    · exact .inr (decide_eq_true (by omega))
  · unfold nxt
    rw [if_neg (by omega), Nat.add_sub_cancel, e, e1]
set_option maxHeartbeats 2000000 in
theorem right_any (B : Bs) (l : List Sn) (v : Value) (w : World) (h : NL B l v w) (hm : l.length ≤ 1000000) :
    Calls Try.prog 12 #[v] w fun e w' => e = .returned (.bool (right l)) ∧ Below w.heap.size w w' := by
  obtain ⟨a, cp, rfl, hel⟩ := h
  obtain ⟨n, hn⟩ : ∃ n, n = l.length := ⟨_, rfl⟩
  obtain ⟨r, hr⟩ : ∃ r, right l = r := ⟨_, rfl⟩
  rw [← hn] at hm ⊢
  rw [hr]
  have HN := Lib.hid hn
  have HR := Lib.hid hr
  have HE := Lib.hid hel
  clear hn hr hel
  go_enter Try.func12, Try.ntmps12
  go_wp2
  go_step3
  go_wp2
  go_step3
  go_wp2
  go_loopg [3, 8] n (fun g s3 s8 wr => ∃ (k : Nat) (c : Int), k + g = n ∧ s8 = .int .i64 k ∧ s3 = .int .i64 c ∧ RSt l k c ∧ Below w.heap.size w wr)
  case atStart => exact ⟨0, 0, by omega, rfl, rfl, ⟨rfl, by omega, by omega, rfl⟩, Below.refl _ _⟩
  case round =>
    obtain ⟨k, c, hkg, rfl, rfl, hst, hb⟩ := hrel
    have HS := Lib.hid hst
    have hc0 := hst.c0
    have hc1 := hst.c1
    clear hst
    cases gk with
    | zero =>
      obtain rfl : k = n := by omega
      have HZ : Hid (r = true) := Lib.hid (by rw [← HR.out]; unfold right; rw [← HN.out]; exact HS.out.ok)
      go_wp2
      try rw [Exit.noGoto_ret]
      go_ret
      exact ⟨ret_bool HZ.out.symm, hb⟩
    | succ g =>
      have hlt2 : (k : Int) < n := by omega
      have hkl : k < l.length := by rw [← HN.out]; omega
      rcases HE.out with ⟨e, _⟩ | ⟨b, off, rfl, hat⟩
      · rw [e] at hkl; cases hkl
      · have hat3 := Lies.keep eS 42 hat (Keeps.of_below hb)
        have hc := at7 hat3 k hkl
        have hb3 := hat3.1
        obtain ⟨⟨s1, s2, s3, s4, s5, s6, s7⟩, hs⟩ : ∃ s, l[k] = s := ⟨_, rfl⟩
        rw [hs] at hc
        simp only at hc
        obtain ⟨c0, c1, c2, c3, c4, c5, c6⟩ := hc
        have HK := Lib.hid hs
        clear hat hat3 hs
        go_wp2
        obtain ⟨V, hV⟩ : ∃ V, V = wr.alloc (.cells #[.int .i64 s1, .int .i64 s2, .int .i64 s3, .int .i64 s4, .int .i64 s5, .int .i64 s6, .int .i64 s7] 42) := ⟨_, rfl⟩
        have hbV : Below wr.heap.size wr V := hV ▸ below1 wr _
        have hz : wr.heap.size < V.heap.size := by rw [hV]; simp
        have hrow : row V wr.heap.size = #[.int .i64 s1, .int .i64 s2, .int .i64 s3, .int .i64 s4, .int .i64 s5, .int .i64 s6, .int .i64 s7] := by rw [hV]; simp [go_sem]
        rw [← hV]
        have hbw := nx hb hbV
        obtain ⟨q, hq⟩ : ∃ q, wr.heap.size = q := ⟨_, rfl⟩
        rw [hq] at hz hrow
        rw [hq]
        have HV := Lib.hid hrow
        clear hV hrow hq hbV hb c0 c1 c2 c3 c4 c5 c6
        go_loopg [3] (64 - c).toNat (fun g2 s3' wx => ∃ d : Int, d + g2 = 64 ∧ c ≤ d ∧ s3' = .int .i64 d ∧ (∀ x, c ≤ x → x < d → isB (s1, s2, s3, s4, s5, s6, s7) x = false) ∧ Below V.heap.size V wx)
        case atStart => exact ⟨c, by omega, by omega, rfl, fun x h1 h2 => by omega, Below.refl _ _⟩
        case round =>
          obtain ⟨d, hdg, hcd, rfl, hno, hbx⟩ := hrel
          have HO := Lib.hid hno
          clear hno
          cases gk with
          | zero =>
            have hdd : ¬ (d < 64) := by omega
            have HZ : Hid (r = false) := Lib.hid (by rw [← HR.out]; exact HS.out.no hkl (by rw [HK.out]; intro x h1 h2; exact HO.out x h1 (by omega)))
            go_wp2
            try rw [Exit.noGoto_ret]
            go_ret
            exact ⟨ret_bool HZ.out.symm, nx hbw hbx⟩
          | succ g2 =>
            have hdd : d < 64 := by omega
            have hrx : row wr q = #[.int .i64 s1, .int .i64 s2, .int .i64 s3, .int .i64 s4, .int .i64 s5, .int .i64 s6, .int .i64 s7] := by rw [(bcell hbx).2.2.1 _ hz]; exact HV.out
            obtain ⟨t, ht⟩ : ∃ t, isB (s1, s2, s3, s4, s5, s6, s7) d = t := ⟨_, rfl⟩
            have HT := Lib.hid ht
            clear ht
            cases t
            · go_wp2_with fail
              refine (isOf_is HT _).mono ?_
              rintro e w1 ⟨rfl, hb1⟩
              go_wp2
              go_roundg g2
              case measure => omega
              case rel => exact ⟨d + 1, by omega, by omega, by go_num, fun x h1 h2 => by
                by_cases e : x = d
                · rw [e]; exact HT.out
                · exact HO.out x h1 (by omega), nx hbx hb1⟩
            · have HY := Lib.hid (HS.out.yes hkl hcd hdd (by rw [HK.out]; exact HT.out))
              go_wp2_with fail
              refine (isOf_is HT _).mono ?_
              rintro e w1 ⟨rfl, hb1⟩
              go_wp2
              go_roundg g
              case measure => omega
              case rel => exact ⟨k + 1, d + 1, by omega, by go_num, by go_num, HY.out, nx hbw (nx hbx hb1)⟩
end Go.Proofs.Ytigoemecphilkaa.Se
