/- own; same of the statements. -/
import Derived.Test.YteandjnbcolphaaAcE
namespace Go.Proofs.Yteandjnbcolphaa.Ac
open Go.RowKit
set_option linter.unusedVariables false
open Go.Proofs.Yteandjnbcolphaa.Rw
open Go.Proofs.Yteandjnbcolphaa.Sl
theorem flat_inv (l : List Hd) : ∀ (j : Nat) (u : Value), (l.flatMap enc)[j]? = some u → ∃ i x j', l[i]? = some x ∧ (enc x)[j']? = some u ∧ j = i * 3 + j' := by
  induction l with
  | nil => intro j u h; simp at h
  | cons y l ih =>
    intro j u h
    rw [List.flatMap_cons] at h
    by_cases hj : j < 3
    · rw [List.getElem?_append_left (by rw [enc_len]; exact hj)] at h
      exact ⟨0, y, j, rfl, h, by omega⟩
    · rw [List.getElem?_append_right (by rw [enc_len]; omega), enc_len] at h
      obtain ⟨i, x, j', h1, h2, h3⟩ := ih _ _ h
      exact ⟨i + 1, x, j', by simpa using h1, h2, by omega⟩
theorem at_flat {l : List Hd} {b off : Nat} {w : World} (h : At enc 3 l b off w) (j : Nat) (u : Value) (hu : (l.flatMap enc)[j]? = some u) : w.cell? ((⟨b, off, none⟩ : Addr).add j) = some u := by
  obtain ⟨i, x, j', h1, h2, rfl⟩ := flat_inv l j u hu
  have := h.2 i x h1 j' u h2
  have e : (⟨b, off, none⟩ : Addr).add (i * 3 + j') = ⟨b, off + i * 3 + j', none⟩ := by
    unfold Addr.add
    split
    · rename_i h; rw [Nat.add_assoc, h]; rfl
    · simp [Nat.add_assoc]
  rw [e]; exact this
theorem flat_one (l : List Hd) : ∀ u ∈ l.flatMap enc, u.oneCell' = true := by
  intro u hu
  obtain ⟨x, _, hx⟩ := List.mem_flatMap.1 hu
  simp [enc] at hx
  rcases hx with rfl | rfl | rfl <;> rfl
theorem flat3 (l : List Hd) : (l.flatMap enc).length = l.length * 3 := flat_len enc 3 enc_len
set_option maxHeartbeats 1600000 in
theorem own_any (l : List Hd) (v : Value) (w : World) (h : HL l v w) (hm : l.length ≤ 1000000) :
    Calls Try.prog 24 #[v] w (Post (HL l) w) := by
  rcases h.cases with ⟨rfl, a, c, rfl⟩ | ⟨hne, b, off, c, rfl, hat⟩
  · clear h
    cases a
    · go_enter Try.func24, Try.ntmps24
      go_wp2
      go_ret
      exact ⟨_, rfl, below1 _ _, SL.empty enc 3 _ _ _⟩
    · go_enter Try.func24, Try.ntmps24
      go_wp2
      go_ret
      exact ⟨_, rfl, below1 _ _, SL.empty enc 3 _ _ _⟩
  · have HA := Lib.hid hat
    obtain ⟨i0, hi, hz0, hz1, hz2⟩ := info_parts infoH
    obtain ⟨n, hn⟩ : ∃ n, n = l.length := ⟨_, rfl⟩
    rw [← hn] at hm ⊢
    have HN := Lib.hid hn
    have hf := flat3 l
    rw [← hn] at hf
    have HF := Lib.hid hf
    have h1 := Lib.hid (flat_one l)
    clear h hat hn hne hf
    go_enter Try.func24, Try.ntmps24
    have HB := Lib.hid (HA.out.stays enc 3 (below1 w (.cells #[] 50)))
    have hmade := World.ownsRow_made (base := w.heap.size) (e := 50) (size := 3) w #[] 0 (Nat.le_refl _) (by unfold maxLen; omega) rfl
    have HMd := Lib.hid hmade
    clear hmade
    go_wp2_with (at_builtin; refine wpList_append_own _ rfl _ _ 22 rfl w.heap.size 50 i0 (.agg #[.int .i64 0, .int .i64 0, .int .i64 0]) 3 24 Try.underlying22 hi hz0 hz1 hz2 rfl (by decide) _ _ _ rfl HMd.out ⟨b, off, none⟩ n c (l.flatMap enc) rfl HF.out (at_flat HB.out) h1.out ?c3 ?c4 ?c5 ?_)
    case c3 => unfold maxLen; omega
    case c4 => omega
    case c5 => simp
    intro v2 w2 hown hg _
    have hb2 : Below w.heap.size w w2 := (below1 w (.cells #[] 50)).grown hg (by simp) (fun k hk => ((HMd.out).lt k hk).1)
    have HO : Hid (Own w.heap.size l v2 w2) := Lib.hid (by unfold Own; rw [← HN.out]; simpa using hown)
    clear hown hg
    go_wp2
    go_ret
    exact ⟨_, rfl, hb2, HO.out.hl⟩
set_option maxHeartbeats 1600000 in
theorem same_any (l m : List Hd) (v x : Value) (w : World) (h : HL l v w) (k : HL m x w) (hm : l.length ≤ 1000000) :
    Calls Try.prog 11 #[v, x] w fun e w' => e = .returned (.bool (decide (l = m))) ∧ Below w.heap.size w w' := by
  by_cases hlen : l.length = m.length
  · rcases h.cases with ⟨rfl, a, c, rfl⟩ | ⟨hne, b, off, c, rfl, hat⟩
    · have em : m = [] := List.eq_nil_of_length_eq_zero hlen.symm
      subst em
      obtain ⟨a2, c2, rfl⟩ : ∃ a2 c2, x = .slice a2 0 c2 := by
        obtain ⟨a2, c2, e, _⟩ := k; exact ⟨a2, c2, e⟩
      clear h k hlen
      go_enter Try.func11, Try.ntmps11
      go_wp2
      go_loopw [13] (fun i wr => i = .int .i64 0 ∧ Below w.heap.size w wr) (fun i _ => 0)
      case atStart => exact ⟨rfl, Below.refl _ _⟩
      case round =>
        obtain ⟨rfl, hb⟩ := hrel
        go_wp2
        go_ret
        exact ⟨by simp, hb⟩
    · rcases k.cases with ⟨rfl, _⟩ | ⟨hne2, b2, off2, c2, rfl, hat2⟩
      · exact absurd (List.eq_nil_of_length_eq_zero hlen) hne
      · have HA := Lib.hid hat
        have HB := Lib.hid hat2
        have hbb := hat.1
        have hbb2 := hat2.1
        obtain ⟨n, hn⟩ : ∃ n, n = l.length := ⟨_, rfl⟩
        rw [← hlen, ← hn]
        have HN := Lib.hid hn
        have HN2 := Lib.hid (hn.trans hlen)
        rw [← hn] at hm
        clear h k hat hat2 hn hne hne2 hlen
        go_enter Try.func11, Try.ntmps11
        go_wp2
        go_loopw [13] (fun i wr => ∃ k : Nat, k ≤ n ∧ i = .int .i64 k ∧ Below w.heap.size w wr ∧ l.take k = m.take k) (fun i _ => n - (intOf i).toNat)
        case atStart => exact ⟨0, Nat.zero_le _, rfl, Below.refl _ _, rfl⟩
        case round =>
          obtain ⟨k, hk, rfl, hb, hsame⟩ := hrel
          have HS := Lib.hid hsame
          clear hsame
          by_cases hlt : k < n
          · have hlt2 : (k : Int) < n := by omega
            have hkl : k < l.length := by rw [← HN.out]; exact hlt
            have hkm : k < m.length := by rw [← HN2.out]; exact hlt
            obtain ⟨⟨x1, x2, x3⟩, hx⟩ : ∃ x, l[k] = x := ⟨_, rfl⟩
            obtain ⟨⟨y1, y2, y3⟩, hy⟩ : ∃ x, m[k] = x := ⟨_, rfl⟩
            have hc := at3 HA.out k hkl
            have hd := at3 HB.out k hkm
            rw [hx] at hc
            rw [hy] at hd
            simp only at hc hd
            obtain ⟨q0, q1, q2⟩ := hc
            obtain ⟨s0, s1, s2⟩ := hd
            obtain ⟨c1, f1, r1, p1⟩ := bcell hb
            cases he : eqH (x1, x2, x3) (y1, y2, y3)
            · have HZ : Hid (decide (l = m) = false) := Lib.hid (by
                rw [decide_eq_false_iff_not]
                intro e
                subst e
                rw [hx] at hy
                rw [hy] at he
                rw [eqH_iff.2 rfl] at he; cases he)
              clear hx hy
              go_wp2
              go_quiet (fail)
              go_wp2
              go_ret
              exact ⟨ret_bool HZ.out.symm, below_drewN hb _⟩
            · have HZ : Hid (l.take (k + 1) = m.take (k + 1)) := Lib.hid (by rw [take_snoc hkl, take_snoc hkm, HS.out, hx, hy, eqH_iff.1 he])
              clear hx hy
              go_wp2
              go_quiet (fail)
              go_wp2
              go_roundw
              case rel => exact ⟨k + 1, by omega, by go_num, below_drewN hb _, HZ.out⟩
              case measure => simp [intOf]; omega
          · obtain rfl : k = n := by omega
            have HZ : Hid (decide (l = m) = true) := Lib.hid (by
              have := HS.out
              rw [HN.out, List.take_length, ← HN.out, HN2.out, List.take_length] at this
              simpa using this)
            go_wp2
            go_ret
            exact ⟨ret_bool HZ.out.symm, hb⟩
  · have HZ : Hid (decide (l = m) = false) := Lib.hid (by rw [decide_eq_false_iff_not]; exact fun e => hlen (by rw [e]))
    obtain ⟨a, c, rfl, _⟩ := h
    obtain ⟨a2, c2, rfl, _⟩ := k
    have hd : ((l.length : Int) != m.length) = true := by rw [bne_iff_ne]; omega
    go_enter Try.func11, Try.ntmps11
    go_wp2
    go_ret
    exact ⟨ret_bool HZ.out.symm, Below.refl _ _⟩
end Go.Proofs.Yteandjnbcolphaa.Ac
