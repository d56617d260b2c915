/- The document's own: Orders, own. -/
import Derived.Test.YtmpkindlanadbaaLeC
import Derived.Test.YtmpkindlanadbaaAp
namespace Go.Proofs.Ytmpkindlanadbaa.Le
open Go.RowKit
set_option linter.unusedVariables false
open Go.Proofs.Ytmpkindlanadbaa.Rw
open Go.Proofs.Ytmpkindlanadbaa.Da
def Post (F : Value → World → Prop) (w : World) (e : Ending) (w' : World) : Prop := ∃ v, e = .returned v ∧ Below w.heap.size w w' ∧ F v w'
theorem infoO : (Try.prog.info? 24).map (fun i => (i.zero, i.size, i.bytes)) = some (some (.agg #[.int .i64 0, .int .i64 0, .int .i64 0, .int .i64 0, .int .i64 0]), 5, 40) := by kernel_rfl
theorem infoL : (Try.prog.info? 50).map (fun i => (i.zero, i.size, i.bytes)) = some (some (.agg #[.int .i64 0, .slice none 0 0]), 2, 32) := by kernel_rfl
theorem elemO : Elem Try.prog 39 24 eO.k 40 := elem_of Try.underlying39 infoO rfl (by decide)
theorem elemL : Elem Try.prog 22 50 eL.k 32 := elem_of Try.underlying22 infoL rfl (by decide)
abbrev OwnO (B : Bs) (Bo : Nat) (l : List Od) (v : Value) (w : World) : Prop := Own eO 24 B Bo l v w
abbrev OwnL (B : Bs) (Bo : Nat) (l : List Lv) (v : Value) (w : World) : Prop := Own eL 50 B Bo l v w
theorem flat_take_snoc {l : List Lv} {k : Nat} (h : k < l.length) : flat (l.take (k + 1)) = flat (l.take k) ++ l[k].2 := by
  rw [take_snoc h, flat_app, flat_cons, flat_nil, List.append_nil]
set_option maxHeartbeats 2000000 in
theorem rOrders_any (B : Bs) (l : List Lv) (v : Value) (w : World) (h : LL B l v w) (hB : B.le w.heap.size) (hm : l.length ≤ 1000000) (hf : (flat l).length ≤ 1000000) :
    Calls Try.prog 23 #[v] w (Post (OL B (flat l)) w) := by
  rcases h.cases with ⟨rfl, a, c, rfl⟩ | ⟨hne, b, off, c, rfl, hat⟩
  · clear h
    go_enter Try.func23, Try.ntmps23
    go_wp2
    go_loopw [3, 8] (fun t i wr => i = .int .i64 0 ∧ t = .slice none 0 0 ∧ Below w.heap.size w wr) (fun _ i _ => 0)
    case atStart => exact ⟨rfl, rfl, Below.refl _ _⟩
    case round =>
      obtain ⟨rfl, rfl, hb⟩ := hrel
      go_wp2
      go_ret
      exact ⟨_, rfl, hb, Is.nil _ _ _ _⟩
  · have hbb : b < w.heap.size := hat.1
    have HA := Lib.hid hat
    have HF := Lib.hid hf
    obtain ⟨n, hn⟩ : ∃ n, n = l.length := ⟨_, rfl⟩
    rw [← hn] at hm ⊢
    have HN := Lib.hid hn
    clear h hat hn hne hf
    go_enter Try.func23, Try.ntmps23
    go_wp2
    go_loopw [3, 8] (fun t i wr => ∃ k : Nat, k ≤ n ∧ i = .int .i64 k ∧ Below w.heap.size w wr ∧ OwnO B w.heap.size (flat (l.take k)) t wr) (fun _ i _ => n - (intOf i).toNat)
    case atStart => exact ⟨0, Nat.zero_le _, rfl, Below.refl _ _, Own.nil _ _ _⟩
    case round =>
      obtain ⟨k, hk, rfl, hb, hown⟩ := hrel
      have HO := Lib.hid hown
      clear hown
      by_cases hlt : k < n
      · have hlt2 : (k : Int) < n := by omega
        have hkl : k < l.length := by rw [← HN.out]; exact hlt
        obtain ⟨x, q0, q1, hx⟩ := atL HA.out k hkl
        obtain ⟨c1, f1, r1, p1⟩ := bcell hb
        obtain ⟨⟨pr, os⟩, hlk⟩ : ∃ y, l[k] = y := ⟨_, rfl⟩
        have ht := flat_take_snoc hkl
        have hle := flat_take_le l (k + 1)
        rw [hlk] at q0 hx ht
        simp only at q0 hx ht
        have HT := Lib.hid ht
        have hs : (flat (l.take k)).length + os.length ≤ 1000000 := by rw [ht, List.length_append] at hle; have := HF.out; omega
        clear ht hle hlk
        obtain ⟨a2, c2, rfl⟩ := hx.len
        obtain ⟨V, hV⟩ : ∃ V, V = wr.alloc (.cells #[.int .i64 pr, .slice a2 os.length c2] 50) := ⟨_, rfl⟩
        have hbV : Below wr.heap.size wr V := hV ▸ below1 wr _
        have hsz := hb.size
        have hzV : wr.heap.size < V.heap.size := by rw [hV]; simp
        have hbw := nx hb hbV
        have HX := Lib.hid (Is.stays eO 24 (Is.stays eO 24 hx hb) hbV)
        obtain ⟨v2, w2, hrun, hown2, _, hbl, _⟩ := Own.append elemO 39 typesO hB (by omega) (HO.out.stays hbV) HX.out (by omega)  (by omega)
        have HO3 : Hid (OwnO B w.heap.size (flat (l.take (k + 1))) v2 w2) := Lib.hid (by rw [HT.out]; exact hown2)
        have hb2 := hbl _ _ (Nat.le_refl _) hbw
        rw [hV] at hrun
        clear hown2 hbl hV
        go_wp2
        go_roundw
        case rel => exact ⟨k + 1, by omega, by go_num, hb2, HO3.out⟩
        case measure => simp [intOf]; omega
      · obtain rfl : k = n := by omega
        have e1 : l.take k = l := by rw [HN.out, List.take_length]
        have ho := HO.out
        rw [e1] at ho
        have HZ := Lib.hid ho
        clear ho e1
        go_wp2
        go_ret
        exact ⟨_, rfl, hb, HZ.out.is (by decide) hB⟩
end Go.Proofs.Ytmpkindlanadbaa.Le
