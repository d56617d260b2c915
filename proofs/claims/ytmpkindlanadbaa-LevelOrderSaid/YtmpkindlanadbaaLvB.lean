/- Package level as it landed: isLevel, Orders, Count. -/
import Derived.Test.YtmpkindlanadbaaLvA
namespace Go.Proofs.Ytmpkindlanadbaa.Le
open Go.RowKit
set_option linter.unusedVariables false
open Go.Proofs.Ytmpkindlanadbaa.Rw
open Go.Proofs.Ytmpkindlanadbaa.Da
def okO (s p : Int) (o : Od) : Bool := omay o s && decide (opr o = p)
def lvB (s p : Int) (os : List Od) : Bool := os.all (okO s p) && !os.isEmpty
def lvR (s p : Int) (os : List Od) (e : Bool) : Bool := os.all (okO s p) && !e
theorem lvR_cons {s p : Int} {os : List Od} {e : Bool} {j : Nat} (h : j < os.length) : lvR s p (os.drop j) e = (okO s p os[j] && lvR s p (os.drop (j + 1)) e) := by
  unfold lvR; rw [drop_cons h, List.all_cons, Bool.and_assoc]
set_option maxHeartbeats 2000000 in
theorem isLevel_any (B : Bs) (p s : Int) (os : List Od) (x : Value) (w : World) (h : OL B os x w) (hm : os.length ≤ 1000000) :
    Calls Try.prog 38 #[.agg #[.int .i64 p, x], .int .i64 s] w fun e w' => e = .returned (.bool (lvB s p os)) ∧ Below w.heap.size w w' := by
  obtain ⟨a2, c2, rfl, hel⟩ := h
  obtain ⟨r, hr⟩ : ∃ r, lvR s p (os.drop 0) os.isEmpty = r := ⟨_, rfl⟩
  obtain ⟨m, hmm⟩ : ∃ m, m = os.length := ⟨_, rfl⟩
  have HE := Lib.hid hel
  have HG : Hid (lvB s p os = r) := Lib.hid (by rw [← hr]; rfl)
  have HR := Lib.hid hr
  rw [← hmm] at hm ⊢
  have HM := Lib.hid hmm
  have HN : Hid (os.isEmpty = decide (m = 0)) := Lib.hid (by rw [hmm]; cases os <;> simp)
  clear hel hr hmm
  go_enter Try.func38, Try.ntmps38
  go_wp2
  obtain ⟨V, hV⟩ : ∃ V, V = w.alloc (.cells #[.int .i64 p, .slice a2 m c2] 50) := ⟨_, rfl⟩
  have hbV : Below w.heap.size w V := hV ▸ below1 w _
  have hz : w.heap.size < V.heap.size := by rw [hV]; simp
  have HF := Lib.hid (show ∀ u, Below V.heap.size V u → u.cell? ⟨w.heap.size, 0, none⟩ = some (.int .i64 p) ∧ u.cell? ⟨w.heap.size, 1, none⟩ = some (.slice a2 m c2) ∧ w.heap.size < u.heap.size from fun u hu => by
    refine ⟨?_, ?_, Nat.lt_of_lt_of_le hz hu.size⟩
    · rw [hu.cell (p := ⟨w.heap.size, 0, none⟩) hz, hV]; simp [go_sem]
    · rw [hu.cell (p := ⟨w.heap.size, 1, none⟩) hz, hV]; simp [go_sem])
  rw [← hV]
  clear hV
  go_loopw [10] (fun i wr => ∃ j : Nat, j ≤ m ∧ i = .int .i64 j ∧ Below V.heap.size V wr ∧ lvR s p (os.drop j) os.isEmpty = r) (fun i _ => m - (intOf i).toNat)
  case atStart => exact ⟨0, Nat.zero_le _, rfl, Below.refl _ _, HR.out⟩
  case round =>
    obtain ⟨j, hj, rfl, hb, hrj⟩ := hrel
    obtain ⟨k0, k1, k2⟩ := HF.out _ hb
    have HT := Lib.hid hrj
    clear hrj
    by_cases hjm : j < m
    · have hjm2 : (j : Int) < m := by omega
      have hjo : j < os.length := by rw [← HM.out]; exact hjm
      rcases HE.out with ⟨e, _⟩ | ⟨b2, off2, rfl, hat2⟩
      · rw [e] at hjo; cases hjo
      · have hat3 := Lies.keep eO 24 hat2 (Keeps.of_below (nx hbV hb))
        have hc5 := at5 hat3 j hjo
        have hb2 := hat3.1
        have hcons := lvR_cons (s := s) (p := p) (e := os.isEmpty) hjo
        obtain ⟨⟨o1, o2, o3, o4, o5⟩, ho⟩ : ∃ o, os[j] = o := ⟨_, rfl⟩
        rw [ho] at hc5 hcons
        simp only at hc5
        obtain ⟨s0, s1, s2, s3, s4⟩ := hc5
        have HC : Hid ((okO s p (o1, o2, o3, o4, o5) && lvR s p (os.drop (j + 1)) os.isEmpty) = r) := Lib.hid (by rw [← hcons]; exact HT.out)
        clear hcons ho hat2 hat3
        obtain ⟨q, hq⟩ : ∃ q, omay (o1, o2, o3, o4, o5) s = q := ⟨_, rfl⟩
        have HQ := Lib.hid hq
        clear hq
        have hbx := below1 wr (.cells #[.int .i64 o1, .int .i64 o2, .int .i64 o3, .int .i64 o4, .int .i64 o5] 24)
        cases q
        · have HZ : Hid (r = false) := Lib.hid (by rw [← HC.out]; unfold okO; rw [HQ.out]; rfl)
          go_wp2_with fail
          refine (mayRest_is HQ _).mono ?_
          rintro e w' ⟨rfl, hb1⟩
          have hb3 := nx hbx hb1
          go_wp2
          go_ret
          exact ⟨ret_bool (by rw [HG.out, HZ.out]), nx hbV (nx hb hb3)⟩
        · by_cases hp : o4 = p
          · have hd : (o4 == p) = true := by simpa using hp
            have hd' : (o4 != p) = false := by simpa using hp
            have HZ : Hid (lvR s p (os.drop (j + 1)) os.isEmpty = r) := Lib.hid (by rw [← HC.out]; unfold okO opr; rw [HQ.out]; simp [hp])
            clear hp
            go_wp2_with fail
            refine (mayRest_is HQ _).mono ?_
            rintro e w' ⟨rfl, hb1⟩
            have hb3 := nx hbx hb1
            obtain ⟨c1, f1, r1, p1⟩ := bcell hb1
            obtain ⟨k3, k4, k5⟩ := HF.out _ (nx hb hb3)
            go_wp2
            go_roundw
            case rel => exact ⟨j + 1, by omega, by go_num, nx hb hb3, HZ.out⟩
            case measure => simp [intOf]; omega
          · have hd : (o4 == p) = false := by simpa using hp
            have hd' : (o4 != p) = true := by simpa using hp
            have HZ : Hid (r = false) := Lib.hid (by rw [← HC.out]; unfold okO opr; simp [hp])
            clear hp
            go_wp2_with fail
            refine (mayRest_is HQ _).mono ?_
            rintro e w' ⟨rfl, hb1⟩
            have hb3 := nx hbx hb1
            obtain ⟨c1, f1, r1, p1⟩ := bcell hb1
            obtain ⟨k3, k4, k5⟩ := HF.out _ (nx hb hb3)
            go_wp2
            go_ret
            exact ⟨ret_bool (by rw [HG.out, HZ.out]), nx hbV (nx hb hb3)⟩
    · obtain rfl : j = m := by omega
      have HZ : Hid (r = !decide (j = 0)) := Lib.hid (by rw [← HT.out, ← HN.out, HM.out, List.drop_length]; rfl)
      clear hjm
      go_wp2_with fail
      refine (isEmpty_any _ _ _ _ hm _).mono ?_
      rintro e w' ⟨rfl, hb1⟩
      go_wp2
      go_ret
      exact ⟨ret_bool (by rw [HG.out, HZ.out]), nx hbV (nx hb hb1)⟩
theorem isLevel_is {B : Bs} {p s : Int} {os : List Od} {x : Value} {w : World} {r : Bool} (hr : Hid (lvB s p os = r)) (h : OL B os x w) (hm : os.length ≤ 1000000) :
    Calls Try.prog 38 #[.agg #[.int .i64 p, x], .int .i64 s] w fun e w' => e = .returned (.bool r) ∧ Below w.heap.size w w' := by
  rw [← hr.out]; exact isLevel_any B p s os x w h hm
set_option maxHeartbeats 2000000 in
theorem ords_big (B : Bs) (l : List Lv) (v : Value) (w : World) (h : LL B l v w) (hB : B.le w.heap.size) (hm : l.length ≤ 1000000) (hf : (flat l).length ≤ 1000000) :
    Calls Try.prog 22 #[v] w (Post (OL B (flat l)) w) := by
  rcases h.cases with ⟨rfl, a, c, rfl⟩ | ⟨hne, b, off, c, rfl, hat⟩
  · clear h
    have hd : decide ((0 : Int) < 0) = false := by decide
    go_enter Try.func22, Try.ntmps22
    go_wp2
    go_loopw [3, 9] (fun t i wr => i = .int .i64 0 ∧ t = .slice (some ⟨w.heap.size, 0, none⟩) 0 0 ∧ Below w.heap.size w wr) (fun _ i _ => 0)
    case atStart => exact ⟨rfl, rfl, below1 _ _⟩
    case round =>
      obtain ⟨rfl, rfl, hb⟩ := hrel
      go_wp2
      go_ret
      exact ⟨_, rfl, hb, Is.empty _ _ _ _ _ _⟩
  · have hbb : b < w.heap.size := hat.1
    have HA := Lib.hid hat
    have HF := Lib.hid hf
    obtain ⟨n, hn⟩ : ∃ n, n = l.length := ⟨_, rfl⟩
    rw [← hn] at hm ⊢
    have HN := Lib.hid hn
    clear h hat hn hne hf
    go_enter Try.func22, Try.ntmps22
    go_wp2
    go_loopw [3, 9] (fun t i wr => ∃ k : Nat, k ≤ n ∧ i = .int .i64 k ∧ Below w.heap.size w wr ∧ OwnO B w.heap.size (flat (l.take k)) t wr) (fun _ i _ => n - (intOf i).toNat)
    case atStart => exact ⟨0, Nat.zero_le _, rfl, below1 _ _, Own.made _ _ _ (Nat.le_refl _)⟩
    case round =>
      obtain ⟨k, hk, rfl, hb, hown⟩ := hrel
      have HO := Lib.hid hown
      clear hown
      by_cases hlt : k < n
      · have hlt2 : (k : Int) < n := by omega
        have hkl : k < l.length := by rw [← HN.out]; exact hlt
        obtain ⟨x, q0, q1, hx⟩ := atL HA.out k hkl
        obtain ⟨c1, f1, r1, p1⟩ := bcell hb
        obtain ⟨⟨pr, os⟩, hlk⟩ : ∃ y, l[k] = y := ⟨_, rfl⟩
        have ht := flat_take_snoc hkl
        have hle := flat_take_le l (k + 1)
        rw [hlk] at q0 hx ht
        simp only at q0 hx ht
        have HT := Lib.hid ht
        have hs : (flat (l.take k)).length + os.length ≤ 1000000 := by rw [ht, List.length_append] at hle; have := HF.out; omega
        clear ht hle hlk
        obtain ⟨a2, c2, rfl⟩ := hx.len
        obtain ⟨V, hV⟩ : ∃ V, V = wr.alloc (.cells #[.int .i64 pr, .slice a2 os.length c2] 50) := ⟨_, rfl⟩
        have hbV : Below wr.heap.size wr V := hV ▸ below1 wr _
        have hsz := hb.size
        have hzV : wr.heap.size < V.heap.size := by rw [hV]; simp
        have hbw := nx hb hbV
        have HX := Lib.hid (Is.stays eO 24 (Is.stays eO 24 hx hb) hbV)
        obtain ⟨v2, w2, hrun, hown2, _, hbl, _⟩ := Own.append elemO 39 typesO hB (by omega) (HO.out.stays hbV) HX.out (by omega)  (by omega)
        have HO3 : Hid (OwnO B w.heap.size (flat (l.take (k + 1))) v2 w2) := Lib.hid (by rw [HT.out]; exact hown2)
        have hb2 := hbl _ _ (Nat.le_refl _) hbw
        rw [hV] at hrun
        clear hown2 hbl hV
        go_wp2
        go_roundw
        case rel => exact ⟨k + 1, by omega, by go_num, hb2, HO3.out⟩
        case measure => simp [intOf]; omega
      · obtain rfl : k = n := by omega
        have e1 : l.take k = l := by rw [HN.out, List.take_length]
        have ho := HO.out
        rw [e1] at ho
        have HZ := Lib.hid ho
        clear ho e1
        go_wp2
        go_ret
        exact ⟨_, rfl, hb, HZ.out.is (by decide) hB⟩
set_option maxHeartbeats 800000 in
theorem count_big (B : Bs) (l : List Lv) (v : Value) (w : World) (h : LL B l v w) (hm : l.length ≤ 1000000) (hf : (flat l).length ≤ 1000000) :
    Calls Try.prog 19 #[v] w fun e w' => e = .returned (.int .i64 ((flat l).length : Nat)) ∧ Below w.heap.size w w' := by
  rcases h.cases with ⟨rfl, a, c, rfl⟩ | ⟨hne, b, off, c, rfl, hat⟩
  · clear h
    go_enter Try.func19, Try.ntmps19
    go_wp2
    go_loopw [3, 8] (fun t i wr => i = .int .i64 0 ∧ t = .int .i64 0 ∧ Below w.heap.size w wr) (fun _ i _ => 0)
    case atStart => exact ⟨rfl, rfl, Below.refl _ _⟩
    case round =>
      obtain ⟨rfl, rfl, hb⟩ := hrel
      go_wp2
      go_ret
      exact ⟨rfl, hb⟩
  · have hbb : b < w.heap.size := hat.1
    have HA := Lib.hid hat
    have HF := Lib.hid hf
    obtain ⟨n, hn⟩ : ∃ n, n = l.length := ⟨_, rfl⟩
    rw [← hn] at hm ⊢
    have HN := Lib.hid hn
    clear h hat hn hne hf
    go_enter Try.func19, Try.ntmps19
    go_wp2
    go_loopw [3, 8] (fun t i wr => ∃ k : Nat, k ≤ n ∧ i = .int .i64 k ∧ t = .int .i64 ((flat (l.take k)).length : Nat) ∧ Below w.heap.size w wr) (fun _ i _ => n - (intOf i).toNat)
    case atStart => exact ⟨0, Nat.zero_le _, rfl, rfl, Below.refl _ _⟩
    case round =>
      obtain ⟨k, hk, rfl, rfl, hb⟩ := hrel
      by_cases hlt : k < n
      · have hlt2 : (k : Int) < n := by omega
        have hkl : k < l.length := by rw [← HN.out]; exact hlt
        obtain ⟨x, q0, q1, hx⟩ := atL HA.out k hkl
        obtain ⟨a, cc, rfl⟩ := hx.len
        have ht := count_take hkl
        have hle := flat_take_le l (k + 1)
        obtain ⟨m, hmm⟩ : ∃ m, l[k].2.length = m := ⟨_, rfl⟩
        rw [hmm] at ht q1
        have hs : (flat (l.take k)).length + m ≤ 1000000 := by have := HF.out; omega
        have HT := Lib.hid ht
        obtain ⟨c1, f1, r1, p1⟩ := bcell hb
        clear ht hle hmm hx
        go_wp2
        go_roundw
        case rel => exact ⟨k + 1, by omega, by go_num, by rw [HT.out]; go_num, nx hb (below1 _ _)⟩
        case measure => simp [intOf]; omega
      · obtain rfl : k = n := by omega
        have HZ : Hid ((flat (l.take k)).length = (flat l).length) := Lib.hid (by rw [HN.out, List.take_length])
        go_wp2
        go_ret
        exact ⟨ret_int (by rw [HZ.out]), hb⟩
end Go.Proofs.Ytmpkindlanadbaa.Le
