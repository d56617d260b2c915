/- The document's own: Find, Best. -/
import Derived.Test.YtmpkindlanadbaaLeB
namespace Go.Proofs.Ytmpkindlanadbaa.Le
open Go.RowKit
set_option linter.unusedVariables false
open Go.Proofs.Ytmpkindlanadbaa.Rw
open Go.Proofs.Ytmpkindlanadbaa.Da
/-- An order and true, or the zero order and false. -/
def fV : Option Od → Value
  | some o => .tuple #[.agg #[.int .i64 o.1, .int .i64 o.2.1, .int .i64 o.2.2.1, .int .i64 o.2.2.2.1, .int .i64 o.2.2.2.2], .bool true]
  | none => .tuple #[.agg #[.int .i64 0, .int .i64 0, .int .i64 0, .int .i64 0, .int .i64 0], .bool false]
theorem drop_cons {α : Type} {l : List α} {k : Nat} (h : k < l.length) : l.drop k = l[k] :: l.drop (k + 1) := List.drop_eq_getElem_cons h
theorem flat_drop {l : List Lv} {k : Nat} (h : k < l.length) : flat (l.drop k) = l[k].2 ++ flat (l.drop (k + 1)) := by rw [drop_cons h, flat_cons]
theorem fnd_drop {l m : List Od} {k : Nat} (h : k < l.length) (id : Int) : fnd (l.drop k ++ m) id = if l[k].1 = id then some l[k] else fnd (l.drop (k + 1) ++ m) id := by
  rw [drop_cons h, List.cons_append]
  unfold fnd
  rw [List.find?_cons]
  by_cases e : l[k].1 = id
  · rw [if_pos e]; simp [hasId, e]
  · rw [if_neg e]
    have : hasId id l[k] = false := by simpa [hasId] using e
    rw [this]
theorem zero5 (w : World) : (zeroValue 24).run Try.prog w = .ok (.agg #[.int .i64 0, .int .i64 0, .int .i64 0, .int .i64 0, .int .i64 0]) w := by kernel_rfl
set_option maxHeartbeats 2000000 in
theorem rFind_any (B : Bs) (l : List Lv) (v : Value) (id : Int) (w : World) (h : LL B l v w) (hm : l.length ≤ 1000000) (hf : (flat l).length ≤ 1000000) :
    Calls Try.prog 13 #[v, .int .i64 id] w fun e w' => e = .returned (fV (fnd (flat l) id)) ∧ Below w.heap.size w w' := by
  rcases h.cases with ⟨rfl, a, c, rfl⟩ | ⟨hne, b, off, c, rfl, hat⟩
  · clear h
    go_enter Try.func13, Try.ntmps13
    go_wp2
    go_loopw [12] (fun i wr => i = .int .i64 0 ∧ wr = w.alloc (.cells #[.int .i64 0, .int .i64 0, .int .i64 0, .int .i64 0, .int .i64 0] 24)) (fun i _ => 0)
    case atStart => exact ⟨rfl, rfl⟩
    case round =>
      obtain ⟨rfl, rfl⟩ := hrel
      go_wp2
      exact bodyPost_ret (v := fV none) (by simp [results, Try.results13, go_sem, fV]) rfl ⟨rfl, (below1 _ _)⟩
  · have hbb : b < w.heap.size := hat.1
    have HA := Lib.hid hat
    have HF := Lib.hid hf
    obtain ⟨n, hn⟩ : ∃ n, n = l.length := ⟨_, rfl⟩
    obtain ⟨r, hr⟩ : ∃ r, fnd (flat l) id = r := ⟨_, rfl⟩
    rw [← hn] at hm ⊢
    rw [hr]
    have HN := Lib.hid hn
    have HR := Lib.hid hr
    clear h hat hn hne hf hr
    go_enter Try.func13, Try.ntmps13
    go_wp2
    obtain ⟨W, hW⟩ : ∃ W, W = w.alloc (.cells #[.int .i64 0, .int .i64 0, .int .i64 0, .int .i64 0, .int .i64 0] 24) := ⟨_, rfl⟩
    have hbW : Below w.heap.size w W := hW ▸ below1 w _
    have hz : w.heap.size < W.heap.size := by rw [hW]; simp
    have hbz : b < W.heap.size := by omega
    have hpz : plain 5 W w.heap.size = true := by rw [hW]; simp [go_sem]
    have HW := Lib.hid (Lies.keep eL 50 HA.out (Keeps.of_below hbW))
    rw [← hW]
    clear hW HA
    have HPz := Lib.hid hpz
    clear hpz
    go_loopw [12] (fun i wr => ∃ k : Nat, k ≤ n ∧ i = .int .i64 k ∧ Below W.heap.size W wr ∧ fnd (flat (l.drop k)) id = r) (fun i _ => n - (intOf i).toNat)
    case atStart => exact ⟨0, Nat.zero_le _, rfl, Below.refl _ _, HR.out⟩
    case round =>
      obtain ⟨wo, rfl⟩ : ∃ wo : World, wo = wr := ⟨_, rfl⟩
      obtain ⟨k, hk, rfl, hb, hrest⟩ := hrel
      have HT := Lib.hid hrest
      clear hrest
      by_cases hlt : k < n
      · have hlt2 : (k : Int) < n := by omega
        have hkl : k < l.length := by rw [← HN.out]; exact hlt
        obtain ⟨x, q0, q1, hx⟩ := atL HW.out k hkl
        have hx2 := Is.stays eO 24 hx hb
        obtain ⟨c1, f1, r1, p1⟩ := bcell hb
        have hfl := flat_drop hkl
        obtain ⟨⟨pr, os⟩, hlk⟩ : ∃ y, l[k] = y := ⟨_, rfl⟩
        rw [hlk] at q0 hx2 hfl
        simp only at q0 hx2 hfl
        have hos : os.length ≤ 1000000 := by
          have h1 := flat_take_le l (k + 1)
          have h2 := count_take hkl
          rw [hlk] at h2
          simp only at h2
          have := HF.out
          omega
        have HFl : Hid (fnd (os ++ flat (l.drop (k + 1))) id = r) := Lib.hid (by rw [← hfl]; exact HT.out)
        obtain ⟨a2, c2, rfl, hel⟩ := hx2
        have HE := Lib.hid hel
        obtain ⟨m, hmm⟩ : ∃ m, m = os.length := ⟨_, rfl⟩
        rw [← hmm] at hos q1
        have HMm := Lib.hid hmm
        clear hfl hlk hx hel hmm
        go_wp2
        obtain ⟨V, hV⟩ : ∃ V, V = wo.alloc (.cells #[.int .i64 pr, .slice a2 m c2] 50) := ⟨_, rfl⟩
        have hbV : Below wo.heap.size wo V := hV ▸ below1 wo _
        rw [← hV]
        clear hV c1 f1 r1 p1 q0 q1
        go_loopw [19] (fun i wr => ∃ j : Nat, j ≤ m ∧ i = .int .i64 j ∧ Below V.heap.size V wr ∧ fnd (os.drop j ++ flat (l.drop (k + 1))) id = r) (fun i _ => m - (intOf i).toNat)
        case atStart => exact ⟨0, Nat.zero_le _, rfl, Below.refl _ _, HFl.out⟩
        case round =>
          obtain ⟨j, hj, rfl, hbi, hrj⟩ := hrel
          have hbw := nx hb (nx hbV hbi)
          by_cases hjm : j < m
          · have hjm2 : (j : Int) < m := by omega
            have hjo : j < os.length := by rw [← HMm.out]; exact hjm
            rcases HE.out with ⟨e, _⟩ | ⟨b2, off2, rfl, hat2⟩
            · rw [e] at hjo; cases hjo
            · have hk := nx hbV hbi
              have hat3 := Lies.keep eO 24 hat2 (Keeps.of_below hk)
              have hc5 := at5 hat3 j hjo
              have hb2 := hat3.1
              have hfd := fnd_drop (m := flat (l.drop (k + 1))) hjo id
              obtain ⟨⟨o1, o2, o3, o4, o5⟩, ho⟩ : ∃ o, os[j] = o := ⟨_, rfl⟩
              rw [ho] at hc5 hfd
              simp only at hc5 hfd
              obtain ⟨s0, s1, s2, s3, s4⟩ := hc5
              rw [hfd] at hrj
              by_cases he : o1 = id
              · have hd : (o1 == id) = true := by simpa using he
                have HZ : Hid (r = some (o1, o2, o3, o4, o5)) := Lib.hid (by rw [← hrj, if_pos he])
                have hz2 : w.heap.size < wr.heap.size := by have := hbw.size; omega
                have hpi : plain 5 wr w.heap.size = true := by rw [(bcell hbw).2.2.2 _ _ hz]; exact HPz.out
                clear hrj hfd ho hat2 hat3 he
                go_wp2
                refine bodyPost_ret (v := fV (some (o1, o2, o3, o4, o5))) (ret_O2 Try.results13 _ _ rfl ?c1) rfl ⟨by rw [HZ.out], ?c2⟩
                case c1 => exact (row_past _ _ _ (by rw [setRow_size]; exact hz2)).trans (row_set _ hpi)
                case c2 => exact (below_setRow (nx hbW hbw) (Nat.le_refl _) _).alloc (by rw [setRow_size]; omega) _
              · have hd : (o1 == id) = false := by simpa using he
                have HRj : Hid (fnd (os.drop (j + 1) ++ flat (l.drop (k + 1))) id = r) := Lib.hid (by rw [← hrj, if_neg he])
                clear hrj hfd ho hat2 hat3 he
                go_wp2
                go_roundw
                case rel => exact ⟨j + 1, by omega, by go_num, nx hbi (below1 _ _), HRj.out⟩
                case measure => simp [intOf]; omega
          · obtain rfl : j = m := by omega
            have HRk : Hid (fnd (flat (l.drop (k + 1))) id = r) := Lib.hid (by rw [← hrj, HMm.out, List.drop_length]; rfl)
            clear hrj
            go_wp2
            go_roundw
            case rel => exact ⟨k + 1, by omega, by go_num, hbw, HRk.out⟩
            case measure => simp [intOf]; omega
      · obtain rfl : k = n := by omega
        have HZ : Hid (r = none) := Lib.hid (by rw [← HT.out, HN.out, List.drop_length]; rfl)
        have hz2 : w.heap.size < wo.heap.size := by have := hb.size; omega
        have hpr : plain 5 wo w.heap.size = true := by rw [(bcell hb).2.2.2 _ _ hz]; exact HPz.out
        go_wp2
        refine bodyPost_ret (v := fV none) (ret_O2 Try.results13 _ _ rfl ?c3) rfl ⟨by rw [HZ.out], ?c4⟩
        case c3 => exact row_set _ hpr
        case c4 => exact below_setRow (nx hbW hb) (Nat.le_refl _) _
set_option maxHeartbeats 2000000 in
theorem rBest_any (B : Bs) (l : List Lv) (v : Value) (w : World) (h : LL B l v w) (hm : l.length ≤ 1000000) (hf : (flat l).length ≤ 1000000) :
    Calls Try.prog 15 #[v] w fun e w' => e = .returned (fV ((flat l).head?)) ∧ Below w.heap.size w w' := by
  rcases h.cases with ⟨rfl, a, c, rfl⟩ | ⟨hne, b, off, c, rfl, hat⟩
  · clear h
    go_enter Try.func15, Try.ntmps15
    go_wp2
    go_loopw [10] (fun i wr => i = .int .i64 0 ∧ wr = w.alloc (.cells #[.int .i64 0, .int .i64 0, .int .i64 0, .int .i64 0, .int .i64 0] 24)) (fun i _ => 0)
    case atStart => exact ⟨rfl, rfl⟩
    case round =>
      obtain ⟨rfl, rfl⟩ := hrel
      go_wp2
      exact bodyPost_ret (v := fV none) (by simp [results, Try.results15, go_sem, fV]) rfl ⟨rfl, (below1 _ _)⟩
  · have hbb : b < w.heap.size := hat.1
    have HA := Lib.hid hat
    have HF := Lib.hid hf
    obtain ⟨n, hn⟩ : ∃ n, n = l.length := ⟨_, rfl⟩
    obtain ⟨r, hr⟩ : ∃ r, (flat l).head? = r := ⟨_, rfl⟩
    rw [← hn] at hm ⊢
    rw [hr]
    have HN := Lib.hid hn
    have HR := Lib.hid hr
    clear h hat hn hne hf hr
    go_enter Try.func15, Try.ntmps15
    go_wp2
    obtain ⟨W, hW⟩ : ∃ W, W = w.alloc (.cells #[.int .i64 0, .int .i64 0, .int .i64 0, .int .i64 0, .int .i64 0] 24) := ⟨_, rfl⟩
    have hbW : Below w.heap.size w W := hW ▸ below1 w _
    have hz : w.heap.size < W.heap.size := by rw [hW]; simp
    have hbz : b < W.heap.size := by omega
    have hpz : plain 5 W w.heap.size = true := by rw [hW]; simp [go_sem]
    have HW := Lib.hid (Lies.keep eL 50 HA.out (Keeps.of_below hbW))
    rw [← hW]
    clear hW HA
    have HPz := Lib.hid hpz
    clear hpz
    go_loopw [10] (fun i wr => ∃ k : Nat, k ≤ n ∧ i = .int .i64 k ∧ Below W.heap.size W wr ∧ (flat (l.drop k)).head? = r) (fun i _ => n - (intOf i).toNat)
    case atStart => exact ⟨0, Nat.zero_le _, rfl, Below.refl _ _, HR.out⟩
    case round =>
      obtain ⟨wo, rfl⟩ : ∃ wo : World, wo = wr := ⟨_, rfl⟩
      obtain ⟨k, hk, rfl, hb, hrest⟩ := hrel
      have HT := Lib.hid hrest
      clear hrest
      by_cases hlt : k < n
      · have hlt2 : (k : Int) < n := by omega
        have hkl : k < l.length := by rw [← HN.out]; exact hlt
        obtain ⟨x, q0, q1, hx⟩ := atL HW.out k hkl
        have hx2 := Is.stays eO 24 hx hb
        obtain ⟨c1, f1, r1, p1⟩ := bcell hb
        have hfl := flat_drop hkl
        obtain ⟨⟨pr, os⟩, hlk⟩ : ∃ y, l[k] = y := ⟨_, rfl⟩
        rw [hlk] at q0 hx2 hfl
        simp only at q0 hx2 hfl
        have hos : os.length ≤ 1000000 := by
          have h1 := flat_take_le l (k + 1)
          have h2 := count_take hkl
          rw [hlk] at h2
          simp only at h2
          have := HF.out
          omega
        have HFl : Hid ((os ++ flat (l.drop (k + 1))).head? = r) := Lib.hid (by rw [← hfl]; exact HT.out)
        obtain ⟨a2, c2, rfl, hel⟩ := hx2
        have HE := Lib.hid hel
        obtain ⟨m, hmm⟩ : ∃ m, m = os.length := ⟨_, rfl⟩
        rw [← hmm] at hos q1
        have HMm := Lib.hid hmm
        clear hfl hlk hx hel hmm
        go_wp2
        obtain ⟨V, hV⟩ : ∃ V, V = wo.alloc (.cells #[.int .i64 pr, .slice a2 m c2] 50) := ⟨_, rfl⟩
        have hbV : Below wo.heap.size wo V := hV ▸ below1 wo _
        rw [← hV]
        clear hV c1 f1 r1 p1 q0 q1
        go_loopw [17] (fun i wr => ∃ j : Nat, j ≤ m ∧ i = .int .i64 j ∧ Below V.heap.size V wr ∧ (os.drop j ++ flat (l.drop (k + 1))).head? = r) (fun i _ => m - (intOf i).toNat)
        case atStart => exact ⟨0, Nat.zero_le _, rfl, Below.refl _ _, HFl.out⟩
        case round =>
          obtain ⟨j, hj, rfl, hbi, hrj⟩ := hrel
          have hbw := nx hb (nx hbV hbi)
          by_cases hjm : j < m
          · have hjm2 : (j : Int) < m := by omega
            have hjo : j < os.length := by rw [← HMm.out]; exact hjm
            rcases HE.out with ⟨e, _⟩ | ⟨b2, off2, rfl, hat2⟩
            · rw [e] at hjo; cases hjo
            · have hk := nx hbV hbi
              have hat3 := Lies.keep eO 24 hat2 (Keeps.of_below hk)
              have hc5 := at5 hat3 j hjo
              have hb2 := hat3.1
              obtain ⟨⟨o1, o2, o3, o4, o5⟩, ho⟩ : ∃ o, os[j] = o := ⟨_, rfl⟩
              rw [drop_cons hjo, ho, List.cons_append, List.head?_cons] at hrj
              rw [ho] at hc5
              simp only at hc5
              obtain ⟨s0, s1, s2, s3, s4⟩ := hc5
              have HZ : Hid (r = some (o1, o2, o3, o4, o5)) := Lib.hid hrj.symm
              have hz2 : w.heap.size < wr.heap.size := by have := hbw.size; omega
              have hpi : plain 5 wr w.heap.size = true := by rw [(bcell hbw).2.2.2 _ _ hz]; exact HPz.out
              clear hrj ho hat2 hat3
              go_wp2
              refine bodyPost_ret (v := fV (some (o1, o2, o3, o4, o5))) (ret_O2 Try.results15 _ _ rfl ?c1) rfl ⟨by rw [HZ.out], ?c2⟩
              case c1 => exact (row_past _ _ _ (by rw [setRow_size]; exact hz2)).trans (row_set _ hpi)
              case c2 => exact (below_setRow (nx hbW hbw) (Nat.le_refl _) _).alloc (by rw [setRow_size]; omega) _
          · obtain rfl : j = m := by omega
            have HRk : Hid ((flat (l.drop (k + 1))).head? = r) := Lib.hid (by rw [← hrj, HMm.out, List.drop_length]; rfl)
            clear hrj
            go_wp2
            go_roundw
            case rel => exact ⟨k + 1, by omega, by go_num, hbw, HRk.out⟩
            case measure => simp [intOf]; omega
      · obtain rfl : k = n := by omega
        have HZ : Hid (r = none) := Lib.hid (by rw [← HT.out, HN.out, List.drop_length]; rfl)
        have hz2 : w.heap.size < wo.heap.size := by have := hb.size; omega
        have hpr : plain 5 wo w.heap.size = true := by rw [(bcell hb).2.2.2 _ _ hz]; exact HPz.out
        go_wp2
        refine bodyPost_ret (v := fV none) (ret_O2 Try.results15 _ _ rfl ?c3) rfl ⟨by rw [HZ.out], ?c4⟩
        case c3 => exact row_set _ hpr
        case c4 => exact below_setRow (nx hbW hb) (Nat.le_refl _) _
end Go.Proofs.Ytmpkindlanadbaa.Le
