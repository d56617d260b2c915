/- The document's own: Of, own; same of the statements. -/
import Derived.Test.YteandjnbcolphaaAcD
namespace Go.Proofs.Yteandjnbcolphaa.Ac
open Go.RowKit
set_option linter.unusedVariables false
open Go.Proofs.Yteandjnbcolphaa.Rw
open Go.Proofs.Yteandjnbcolphaa.Sl
def Post (F : Value → World → Prop) (w : World) (e : Ending) (w' : World) : Prop := ∃ v, e = .returned v ∧ Below w.heap.size w w' ∧ F v w'
def ofL (l : List Hd) (a : Int) : List Hd := l.filter fun h => h.1 == a
theorem infoH : (Try.prog.info? 50).map (fun i => (i.zero, i.size, i.bytes)) = some (some (.agg #[.int .i64 0, .int .i64 0, .int .i64 0]), 3, 24) := by kernel_rfl
/-- A list of the call's own, made from block B on. -/
abbrev Own (B : Nat) (l : List Hd) (v : Value) (w : World) : Prop := w.ownsRow B 50 3 v l.length (l.flatMap enc)
theorem Own.hl {B : Nat} {l : List Hd} {v : Value} {w : World} (h : Own B l v w) : HL l v w := (SL.own enc 3 enc_len (by decide) h).2
theorem Own.nil (B : Nat) (w : World) : Own B [] (.slice none 0 0) w := World.ownsRow_nil w B _ 3
theorem Own.snoc {B : Nat} {l : List Hd} {h : Hd} {v : Value} {w : World} (k : w.ownsRow B 50 3 v (l.length + 1) (l.flatMap enc ++ enc h)) : Own B (l ++ [h]) v w := by
  unfold Own; rw [flat_snoc, List.length_append]; exact k
theorem ofL_take {l : List Hd} {k : Nat} (h : k < l.length) (a : Int) : ofL (l.take (k + 1)) a = ofL (l.take k) a ++ (if l[k].1 = a then [l[k]] else []) := by
  unfold ofL
  rw [take_snoc h, List.filter_append]
  by_cases e : l[k].1 = a
  · rw [if_pos e, List.filter_cons_of_pos (by simpa using e)]; rfl
  · rw [if_neg e, List.filter_cons_of_neg (by simpa using e)]; rfl
theorem ofL_len (l : List Hd) (a : Int) : (ofL l a).length ≤ l.length := List.length_filter_le _ _
set_option maxHeartbeats 1600000 in
theorem rOf_any (l : List Hd) (v : Value) (a : Int) (w : World) (h : HL l v w) (hm : l.length ≤ 1000000) :
    Calls Try.prog 19 #[v, .int .i64 a] w (Post (HL (ofL l a)) w) := by
  rcases h.cases with ⟨rfl, p, c, rfl⟩ | ⟨hne, b, off, c, rfl, hat⟩
  · clear h
    go_enter Try.func19, Try.ntmps19
    go_wp2
    go_loopw [5, 10] (fun t i wr => i = .int .i64 0 ∧ t = .slice none 0 0 ∧ Below w.heap.size w wr) (fun _ i _ => 0)
    case atStart => exact ⟨rfl, rfl, Below.refl _ _⟩
    case round =>
      obtain ⟨rfl, rfl, hb⟩ := hrel
      go_wp2
      go_ret
      exact ⟨_, rfl, hb, SL.nil enc 3 _⟩
  · have HA := Lib.hid hat
    obtain ⟨i0, hi, hz0, hz1, hz2⟩ := info_parts infoH
    have hbb : b < w.heap.size := hat.1
    obtain ⟨n, hn⟩ : ∃ n, n = l.length := ⟨_, rfl⟩
    rw [← hn] at hm ⊢
    have HN := Lib.hid hn
    clear h hat hn hne
    go_enter Try.func19, Try.ntmps19
    go_wp2
    go_loopw [5, 10] (fun t i wr => ∃ k : Nat, k ≤ n ∧ i = .int .i64 k ∧ Below w.heap.size w wr ∧ Own w.heap.size (ofL (l.take k) a) t wr) (fun _ i _ => n - (intOf i).toNat)
    case atStart => exact ⟨0, Nat.zero_le _, rfl, Below.refl _ _, Own.nil _ _⟩
    case round =>
      obtain ⟨k, hk, rfl, hb, hown⟩ := hrel
      have HO := Lib.hid hown
      clear hown
      by_cases hlt : k < n
      · have hlt2 : (k : Int) < n := by omega
        have hkl : k < l.length := by rw [← HN.out]; exact hlt
        obtain ⟨⟨x, y, z⟩, hx⟩ : ∃ x, l[k] = x := ⟨_, rfl⟩
        have hc := at3 HA.out k hkl
        have ht := ofL_take hkl a
        rw [hx] at hc ht
        simp only at hc
        obtain ⟨q0, q1, q2⟩ := hc
        obtain ⟨c1, f1, r1, p1⟩ := bcell hb
        have HTk : Hid (ofL (l.take (k + 1)) a = ofL (l.take k) a ++ (if x = a then [(x, y, z)] else [])) := Lib.hid ht
        clear hx ht
        by_cases he : x = a
        · have HE := Lib.hid he
          have hd : (x == a) = true := by simpa using he
          clear he
          have hsz := hb.size
          have hlen := ofL_len (l.take k) a
          have hlen2 : (l.take k).length ≤ k := List.length_take_le _ _
          have hbA := (hb.alloc (by omega) (.cells #[.int .i64 x, .int .i64 y, .int .i64 z] 50)).alloc (by simp; omega) (.cells #[.int .i64 x, .int .i64 y, .int .i64 z] 50)
          go_wp2_with (at_builtin; refine wpList_append_own _ rfl _ _ 22 rfl (w.heap.size) 50 i0 (.agg #[.int .i64 0, .int .i64 0, .int .i64 0]) 3 24 Try.underlying22 hi hz0 hz1 hz2 rfl (by decide) _ _ _ rfl (HO.out.alloc _ |>.alloc _) (⟨wr.heap.size + 1, 0, none⟩) 1 1 (enc (x, y, z)) rfl rfl ?c1 ?c2 ?c3 ?c4 ?c5 ?_)
          case c1 => intro j u hj; rcases j with _ | _ | _ | _ | _ | _ <;> simp [enc] at hj <;> subst hj <;> simp [Addr.add, go_sem]
          case c2 => intro u hu; simp [enc] at hu; rcases hu with rfl | rfl | rfl <;> rfl
          case c3 => unfold maxLen; omega
          case c4 => omega
          case c5 => have := (hbA).size; simp at this ⊢; omega
          intro v2 w2 hown2 hg_ _
          have hb2 := (hbA).grown hg_ (by have := (hbA).size; simp at this ⊢; omega) (fun k_ hk_ => ((HO.out).lt k_ hk_).1)
          clear hg_
          have HO2 : Hid (Own w.heap.size (ofL (l.take (k + 1)) a) v2 w2) := Lib.hid (by rw [HTk.out, if_pos HE.out]; exact Own.snoc hown2)
          clear hown2 hbA
          go_wp2
          go_roundw
          case rel => exact ⟨k + 1, by omega, by go_num, hb2, HO2.out⟩
          case measure => simp [intOf]; omega
        · have HE := Lib.hid he
          have hd : (x == a) = false := by simpa using he
          clear he
          have HO2 : Hid (Own w.heap.size (ofL (l.take (k + 1)) a) u5 (wr.alloc (.cells #[.int .i64 x, .int .i64 y, .int .i64 z] 50))) := Lib.hid (by rw [HTk.out, if_neg HE.out, List.append_nil]; exact HO.out.alloc _)
          have hsz := hb.size
          go_wp2
          go_roundw
          case rel => exact ⟨k + 1, by omega, by go_num, hb.alloc hsz _, HO2.out⟩
          case measure => simp [intOf]; omega
      · obtain rfl : k = n := by omega
        have HZ : Hid (Own w.heap.size (ofL l a) u5 wr) := Lib.hid (by have := HO.out; rwa [HN.out, List.take_length] at this)
        go_wp2
        go_ret
        exact ⟨_, rfl, hb, HZ.out.hl⟩
end Go.Proofs.Yteandjnbcolphaa.Ac
