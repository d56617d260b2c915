/- byPurse of the landed package account. -/
import Derived.Test.YteandjnbcolphaaAgM
namespace Go.Proofs.Yteandjnbcolphaa.Ac
open Go.RowKit Go.Maps
open Go.Proofs.Yteandjnbcolphaa.Rw
open Go.Proofs.Yteandjnbcolphaa.Sl
theorem get_snoc {a : List Hd} {h : Hd} (hn : ∀ k ∈ a, key k ≠ key h) (p : Pu) : get (a ++ [h]) p = if key h = p then amt h else get a p := by
  induction a with
  | nil => rfl
  | cons x a ih =>
    rw [List.cons_append, get, ih (fun k hk => hn k (List.mem_cons_of_mem _ hk)), get]
    by_cases e : key x = p
    · rw [if_pos e, if_pos e, if_neg (fun e2 => hn x List.mem_cons_self (e.trans e2.symm))]
    · rw [if_neg e, if_neg e]
theorem get_take {l : List Hd} (hr : Right l) {k : Nat} (h : k < l.length) (p : Pu) : get (l.take (k + 1)) p = if key l[k] = p then amt l[k] else get (l.take k) p := by
  rw [take_snoc h]
  refine get_snoc (fun x hx e => ?_) p
  obtain ⟨i, hi, rfl⟩ := List.getElem_of_mem hx
  rw [List.length_take] at hi
  have := List.pairwise_iff_getElem.1 hr.2 i k (by omega) h (by omega)
  rw [List.getElem_take] at e
  rw [e, pless_irrefl] at this; cases this
def MapPost (g : Pu → Int) (m : Nat) (w : World) (e : Ending) (w' : World) : Prop := ∃ (b n : Nat) (D : DataW Unit), e = .returned (.map (some b)) ∧ n ≤ m ∧ MQ g b n D w' ∧ w.heap.size ≤ b ∧ Below w.heap.size w w'
set_option maxHeartbeats 1000000 in
theorem byPurse_any (l : List Hd) (v : Value) (w : World) (h : HL l v w) (hr : Right l) (hm : l.length ≤ 1000000) :
    Calls Try.prog 33 #[v] w (MapPost (get l) l.length w) := by
  have hmm := @run_makeMap Try.prog
  have HRt := Lib.hid hr
  have HMd := Lib.hid (MQ.made w)
  clear hr
  rcases h.cases with ⟨rfl, a, c, rfl⟩ | ⟨hne, b, off, c, rfl, hat⟩
  · clear h
    go_enter Try.func33, Try.ntmps33
    go_wp2
    go_loopw [9] (fun i wr => i = .int .i64 0 ∧ wr = w.alloc (.map #[] 0)) (fun i _ => 0)
    case atStart => exact ⟨rfl, rfl⟩
    case round =>
      obtain ⟨rfl, rfl⟩ := hrel
      go_wp2
      go_ret
      exact ⟨_, _, _, rfl, Nat.le_refl _, HMd.out, Nat.le_refl _, below1 _ _⟩
  · have HA := Lib.hid hat
    have hbb : b < w.heap.size := hat.1
    obtain ⟨n, hn⟩ : ∃ n, n = l.length := ⟨_, rfl⟩
    rw [← hn] at hm ⊢
    have HN := Lib.hid hn
    clear h hat hn hne
    go_enter Try.func33, Try.ntmps33
    go_wp2
    go_loopw [9] (fun i wr => ∃ (k : Nat) (D : DataW Unit), k ≤ n ∧ i = .int .i64 k ∧ Below w.heap.size w wr ∧ MQ (get (l.take k)) w.heap.size k D wr) (fun i _ => n - (intOf i).toNat)
    case atStart => exact ⟨0, _, Nat.zero_le _, rfl, below1 _ _, HMd.out⟩
    case round =>
      obtain ⟨k, D, hk, rfl, hb, hM⟩ := hrel
      have HM := Lib.hid hM
      clear hM
      by_cases hlt : k < n
      · have hlt2 : (k : Int) < n := by omega
        have hkl : k < l.length := by rw [← HN.out]; exact hlt
        obtain ⟨⟨x, y, z⟩, hx⟩ : ∃ x, l[k] = x := ⟨_, rfl⟩
        have hc := at3 HA.out k hkl
        have ht := get_take HRt.out hkl
        have hg := HRt.out.1 l[k] (List.getElem_mem hkl)
        rw [hx] at hc ht hg
        simp only at hc
        obtain ⟨q0, q1, q2⟩ := hc
        obtain ⟨c1, f1, r1, p1⟩ := bcell hb
        have hg2 := good_iff.1 hg
        obtain ⟨D2, w2, hput, hM2, hgr⟩ := MQ.put (HM.out.stays (below1 wr (.cells #[.int .i64 x, .int .i64 y, .int .i64 z] 50))) (g := get (l.take (k + 1))) (by unfold maxLen; omega) (p := x) (q := y) hg2.1 (c := z) (Go.WalkArith.wf_i64 (by have := hg2.2; simp only [amt] at this; omega)) (by rw [ht]; exact if_pos rfl) (fun u hu => by rw [ht]; exact if_neg (fun e => hu e.symm))
        have HM2 := Lib.hid hM2
        have hsz := hb.size
        have HB2 : Hid (Below w.heap.size w w2) := Lib.hid ((hb.alloc hsz _).grown hgr (by simp; omega) (fun k e => by cases e; exact Nat.le_refl _))
        clear hM2 hgr ht hg hg2 hx
        go_wp2
        go_roundw
        case rel => exact ⟨k + 1, _, by omega, by go_num, HB2.out, HM2.out⟩
        case measure => simp [intOf]; omega
      · obtain rfl : k = n := by omega
        have e1 : l.take k = l := by rw [HN.out, List.take_length]
        have hz := HM.out
        rw [e1] at hz
        have HZ := Lib.hid hz
        clear hz e1
        go_wp2
        go_ret
        exact ⟨_, _, _, rfl, Nat.le_refl _, HZ.out, Nat.le_refl _, hb⟩
end Go.Proofs.Yteandjnbcolphaa.Ac
