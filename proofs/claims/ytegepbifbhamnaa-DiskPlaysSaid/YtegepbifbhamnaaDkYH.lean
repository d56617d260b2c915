/- The document's own of layer 14: Crash. -/
import Derived.Test.YtegepbifbhamnaaDkYG
namespace Go.Proofs.Ytegepbifbhamnaa.Dk
open Go.RowKit
set_option linter.unusedVariables false
open Go.Proofs.Ytegepbifbhamnaa.Rw
open Go.Proofs.Ytegepbifbhamnaa.Da
set_option maxRecDepth 8000
set_option maxHeartbeats 16000000
theorem rCrash_any (n : Nat) (d : Ds) (v : Value) (keep torn : Int) (w : World) (h : DV n d v w) (hn : n ≤ w.heap.size) (hk : Ok 1000000 1000 d) :
    Calls Try.prog 14 #[v, .int .i64 keep, .int .i64 torn] w (PostD n (craP d keep torn) w) := by
  obtain ⟨o, rfl, hO, hc⟩ := h
  obtain ⟨a, b, l, c, f, dn⟩ := d
  simp only at hO ⊢
  have hlc : l.length ≤ 1000 := hk.len
  have hw1 : a.size + b.size + wl l ≤ 1000000 := hk.wt
  obtain ⟨k, hkk⟩ : ∃ q : Nat, lim keep l.length = q := ⟨(lim keep l.length).toNat, by have := lim_bd keep l.length (by omega); omega⟩
  have hkl : k ≤ l.length := by have := lim_bd keep l.length (by omega); omega
  have hcut := Is.cutHi (e := eO) (T := 52) hO hkl
  obtain ⟨a1, c1, rfl, hcap⟩ := capOk_len hO hc
  obtain ⟨n1, hn1⟩ : ∃ q, l.length = q := ⟨_, rfl⟩
  have hre := fun h => reach_at (torn := torn) hkk h
  have hre2 := fun h => reach_end (torn := torn) hkk h
  obtain ⟨a2, c2, hq⟩ := hcut.len
  rw [hq] at hcut
  have htl : (l.take k).length = k := by rw [List.length_take]; omega
  rw [htl] at hq hcut
  rw [hn1] at hO hkk hkl hcap hq hc ⊢
  have hq : cutHi 3 k (.slice a1 n1 c1) = .slice a2 k c2 := hq
  have HN := Lib.hid hn1
  have HRE := Lib.hid hre
  have HRE2 := Lib.hid hre2
  have HTL := Lib.hid htl
  have HO := Lib.hid (show ∀ u, Below w.heap.size w u → OL n l (.slice a1 n1 c1) u from fun u hu => hO.stays hu)
  have HCUT := Lib.hid (show ∀ u, Below w.heap.size w u → OL n (l.take k) (.slice a2 k c2) u from fun u hu => OL.stays hcut hu)
  obtain ⟨yy, hyy⟩ : ∃ q, (if (n1 : Int) < keep then (n1 : Int) else keep) = q := ⟨_, rfl⟩
  have hy2 : (if (0 : Int) < yy then yy else 0) = (k : Int) := by rw [← hyy, ← hkk]; unfold lim; split <;> split <;> omega
  obtain ⟨⟨u1, u2⟩, hu⟩ : ∃ q, fin (a, b) (reach l keep torn) = q := ⟨_, rfl⟩
  have HU := Lib.hid hu
  have HP : Hid (craP ⟨a, b, l, c, f, dn⟩ keep torn = ⟨u1, u2, [], c, -1, true⟩) := Lib.hid (by simp only [craP]; rw [hu])
  have hk0 : (0 : Int) ≤ k := by omega
  have hkc : k ≤ c1 := by omega
  have hki : (k : Int) ≤ n1 := by omega
  have hn1b : n1 ≤ 1000 := by omega
  obtain ⟨V, hV⟩ : ∃ Q_ : World, (w.alloc (.cells #[.string a, .string b, .slice a1 n1 c1, .int .i64 c, .int .i64 f, .bool dn] 28)).alloc (.cells #[.string ⟨#[]⟩, .string ⟨#[]⟩, .slice none 0 0, .int .i64 0, .int .i64 0, .bool false] 28) = Q_ := ⟨_, rfl⟩
  have bV : Below w.heap.size w V := hV ▸ below2 _ _ _
  obtain ⟨B0, B1⟩ : Bx V w.heap.size #[.string a, .string b, .slice a1 n1 c1, .int .i64 c, .int .i64 f, .bool dn] 28 ∧ Bx V (w.heap.size + 1) #[.string ⟨#[]⟩, .string ⟨#[]⟩, .slice none 0 0, .int .i64 0, .int .i64 0, .bool false] 28 := hV ▸ bx2 w _ _ _ _
  have HA : Hid (Bx V w.heap.size #[.string (fin (a, b) (l.take 0)).1, .string (fin (a, b) (l.take 0)).2, .slice a1 n1 c1, .int .i64 c, .int .i64 f, .bool dn] 28 ∧ Bx V (w.heap.size + 1) #[.string ⟨#[]⟩, .string ⟨#[]⟩, .slice none 0 0, .int .i64 0, .int .i64 0, .bool false] 28 ∧ Below w.heap.size w V) := Lib.hid ⟨B0, B1, bV⟩
  obtain ⟨q1, q2, q3, ⟨q4, q5, q6, q7, q8, q9⟩, _⟩ := B0.d6
  clear hk hn1 hre hre2 hcut htl hkk hu hO hc hlc B0 B1 bV
  go_enter Try.func14, Try.ntmps14
  go_wp2
  go_loopw [21] (fun i wr => ∃ j : Nat, j ≤ k ∧ i = .int .i64 j ∧ Bx wr w.heap.size #[.string (fin (a, b) (l.take j)).1, .string (fin (a, b) (l.take j)).2, .slice a1 n1 c1, .int .i64 c, .int .i64 f, .bool dn] 28 ∧ Bx wr (w.heap.size + 1) #[.string ⟨#[]⟩, .string ⟨#[]⟩, .slice none 0 0, .int .i64 0, .int .i64 0, .bool false] 28 ∧ Below w.heap.size w wr) (fun i _ => k - (intOf i).toNat)
  case atStart => exact ⟨0, Nat.zero_le _, rfl, HA.out⟩
  case round =>
    clear q1 q2 q3 q4 q5 q6 q7 q8 q9 hV HA
    obtain ⟨j, hj, rfl, B0, B1, hb⟩ := hrel
    obtain ⟨⟨s1, s2⟩, hS⟩ : ∃ q, fin (a, b) (l.take j) = q := ⟨_, rfl⟩
    rw [hS] at B0
    have HS := Lib.hid hS
    have j0 := B0.lt
    have j1 := B1.lt
    by_cases hlt : j < k
    · have hlt2 : (j : Int) < k := by omega
      have hkl2 : j < (l.take k).length := by rw [HTL.out]; exact hlt
      have hjl : j < l.length := by rw [HN.out]; omega
      have hsn : fin (a, b) (l.take (j + 1)) = done (fin (a, b) (l.take j)) l[j] := take_snoc' hjl
      have hsz : (fin (a, b) (l.take j)).1.size + (fin (a, b) (l.take j)).2.size ≤ a.size + b.size + wl (l.take j) := fin_wt (l.take j) (a, b)
      have hwk : wl (l.take j) + l[j].2.1.size ≤ wl l := by
        have h1 := wl_take l (j + 1)
        rw [Da.take_snoc hjl, wl_append] at h1
        have h2 : wl [l[j]] = l[j].2.1.size := by simp [wl]
        omega
      have hge : (l.take k)[j] = l[j] := List.getElem_take
      rcases (HCUT.out wr hb).cases with ⟨e, _⟩ | ⟨_, bb, off, cc, e, hat⟩
      · rw [e] at hkl2; cases hkl2
      simp only [Value.slice.injEq] at e
      obtain ⟨rfl, -, rfl⟩ := e
      obtain ⟨y0, y1, y2⟩ := at3 hat j hkl2
      rw [hge] at y0 y1 y2
      obtain ⟨⟨z, x, er⟩, hz⟩ : ∃ q, l[j] = q := ⟨_, rfl⟩
      rw [hz] at hsn y0 y1 y2 hwk
      rw [hS] at hsn hsz
      simp only at y0 y1 y2 hwk hsz
      obtain ⟨⟨r1, r2⟩, hr⟩ : ∃ q, done (s1, s2) (z, x, er) = q := ⟨_, rfl⟩
      rw [hr] at hsn
      have HR := Lib.hid hr
      have HSN := Lib.hid hsn
      obtain ⟨zz, hzz⟩ : ∃ q, zi z = q := ⟨_, rfl⟩
      rw [hzz] at y0
      have HZ := Lib.hid hzz
      have hbd : s1.size + s2.size + x.size ≤ 1000000 := by omega
      clear hS hsn hsz hwk hat hz hr hzz hge hkl2 hjl
      obtain ⟨W, hW⟩ : ∃ Q_ : World, wr.alloc (.cells #[.int .i64 zz, .string x, .bool er] 52) = Q_ := ⟨_, rfl⟩
      have aW : Below wr.heap.size wr W := hW ▸ below1 _ _
      have B8 : Bx W (wr.heap.size) #[.int .i64 zz, .string x, .bool er] 52 := hW ▸ Bx.at (by first | rfl | omega) _ _
      replace B0 := B0.stays aW
      replace B1 := B1.stays aW
      have bW := nx hb aW
      obtain ⟨q1l, q1r, q1p, ⟨q1c0, q1c1, q1c2, q1c3, q1c4, q1c5⟩, ⟨q1f0, q1f1, q1f2, q1f3, q1f4, q1f5⟩⟩ := B0.d6
      obtain ⟨q2l, q2r, q2p, ⟨q2c0, q2c1, q2c2⟩, ⟨q2f0, q2f1, q2f2⟩⟩ := B8.d3
      go_wp2_with fail
      with_reducible refine (rDone_is HR HZ.out _ hbd).mono ?_
      rintro e w1 ⟨rfl, hb1⟩
      simp only
      clear q1l q1r q1p q1c0 q1c1 q1c2 q1c3 q1c4 q1c5 q1f0 q1f1 q1f2 q1f3 q1f4 q1f5
      clear q2l q2r q2p q2c0 q2c1 q2c2 q2f0 q2f1 q2f2
      replace B0 := B0.stays hb1
      replace B1 := B1.stays hb1
      replace B8 := B8.stays hb1
      have bw1 := nx bW hb1
      have j8 := B8.lt
      obtain ⟨q3l, q3r, q3p, ⟨q3c0, q3c1, q3c2, q3c3, q3c4, q3c5⟩, ⟨q3f0, q3f1, q3f2, q3f3, q3f4, q3f5⟩⟩ := B0.d6
      obtain ⟨X1, hX1⟩ : ∃ Q_ : World, w1.setCell ⟨w.heap.size, 0, none⟩ (.string r1) = Q_ := ⟨_, rfl⟩
      have bX1 : Below w.heap.size w X1 := hX1 ▸ (bw1).trans (low_setCell _ _ (by omega))
      replace B1 : Bx X1 (w.heap.size + 1) #[.string ⟨#[]⟩, .string ⟨#[]⟩, .slice none 0 0, .int .i64 0, .int .i64 0, .bool false] 28 := hX1 ▸ B1.set' (by omega) _ _
      replace B8 : Bx X1 (wr.heap.size) #[.int .i64 zz, .string x, .bool er] 52 := hX1 ▸ B8.set' (by omega) _ _
      replace B0 : Bx X1 (w.heap.size) #[.string r1, .string s2, .slice a1 n1 c1, .int .i64 c, .int .i64 f, .bool dn] 28 := hX1 ▸ (show Bx (w1.setCell ⟨w.heap.size, 0, none⟩ (.string r1)) (w.heap.size) #[.string r1, .string s2, .slice a1 n1 c1, .int .i64 c, .int .i64 f, .bool dn] 28 from B0.set 0 (.string r1))
      obtain ⟨q4l, q4r, q4p, ⟨q4c0, q4c1, q4c2, q4c3, q4c4, q4c5⟩, ⟨q4f0, q4f1, q4f2, q4f3, q4f4, q4f5⟩⟩ := B0.d6
      obtain ⟨X2, hX2⟩ : ∃ Q_ : World, X1.setCell ⟨w.heap.size, 1, none⟩ (.string r2) = Q_ := ⟨_, rfl⟩
      have bX2 : Below w.heap.size w X2 := hX2 ▸ (bX1).trans (low_setCell _ _ (by omega))
      replace B1 : Bx X2 (w.heap.size + 1) #[.string ⟨#[]⟩, .string ⟨#[]⟩, .slice none 0 0, .int .i64 0, .int .i64 0, .bool false] 28 := hX2 ▸ B1.set' (by omega) _ _
      replace B8 : Bx X2 (wr.heap.size) #[.int .i64 zz, .string x, .bool er] 52 := hX2 ▸ B8.set' (by omega) _ _
      replace B0 : Bx X2 (w.heap.size) #[.string r1, .string r2, .slice a1 n1 c1, .int .i64 c, .int .i64 f, .bool dn] 28 := hX2 ▸ (show Bx (X1.setCell ⟨w.heap.size, 1, none⟩ (.string r2)) (w.heap.size) #[.string r1, .string r2, .slice a1 n1 c1, .int .i64 c, .int .i64 f, .bool dn] 28 from B0.set 1 (.string r2))
      have HX := Lib.hid (show Bx X2 w.heap.size #[.string (fin (a, b) (l.take (j + 1))).1, .string (fin (a, b) (l.take (j + 1))).2, .slice a1 n1 c1, .int .i64 c, .int .i64 f, .bool dn] 28 ∧ Bx X2 (w.heap.size + 1) #[.string ⟨#[]⟩, .string ⟨#[]⟩, .slice none 0 0, .int .i64 0, .int .i64 0, .bool false] 28 ∧ Below w.heap.size w X2 from by rw [HSN.out]; exact ⟨B0, B1, bX2⟩)
      go_wp2
      go_roundw
      case rel => first | exact ⟨j + 1, by omega, by go_num, HX.out⟩ | ((repeat apply Exists.intro); exact ⟨⟨j + 1, by omega, by go_num, HX.out⟩, rfl⟩)
      case measure => simp [intOf]; omega
    · obtain rfl : j = k := by omega
      have HQ2 := Lib.hid hq
      clear hlt
      by_cases hlt : j < n1
      · have hlt2 : (j : Int) < n1 := by omega
        have hjl : j < l.length := by rw [HN.out]; exact hlt
        rcases (HO.out wr hb).cases with ⟨e, _⟩ | ⟨_, bb, off, cc, e, hat⟩
        · rw [e] at hjl; cases hjl
        simp only [Value.slice.injEq] at e
        obtain ⟨rfl, -, rfl⟩ := e
        obtain ⟨y0, y1, y2⟩ := at3 hat j hjl
        have hr := HRE.out hjl
        have hsz : (fin (a, b) (l.take j)).1.size + (fin (a, b) (l.take j)).2.size ≤ a.size + b.size + wl (l.take j) := fin_wt (l.take j) (a, b)
        have hwk : wl (l.take j) + l[j].2.1.size ≤ wl l := by
          have h1 := wl_take l (j + 1)
          rw [Da.take_snoc hjl, wl_append] at h1
          have h2 : wl [l[j]] = l[j].2.1.size := by simp [wl]
          omega
        obtain ⟨⟨z, x, er⟩, hz⟩ : ∃ q, l[j] = q := ⟨_, rfl⟩
        rw [hz] at y0 y1 y2 hr hwk
        rw [hS] at hsz
        simp only at y0 y1 y2 hr hwk hsz
        have hS2 := HS.out
        clear hz hat hjl hS
        cases er
        · have hsd : done (s1, s2) (z, cut x torn, false) = (u1, u2) := by
            have h9 := HU.out
            rw [hr] at h9
            simp only [Bool.false_eq_true, if_false] at h9
            rw [fin_snoc, hS2] at h9
            exact h9
          have HR := Lib.hid hsd
          have hlb2 := lim_bd torn x.size (by omega)
          obtain ⟨m, hm⟩ : ∃ m : Nat, lim torn x.size = m := ⟨(lim torn x.size).toNat, by omega⟩
          have hmx : m ≤ x.size := by omega
          have HX := Lib.hid (show cut x torn = x.extract 0 m by unfold cut; rw [hm, Int.toNat_natCast])
          obtain ⟨ty, hty⟩ : ∃ q, (if (x.size : Int) < torn then (x.size : Int) else torn) = q := ⟨_, rfl⟩
          have hty2 : (if (0 : Int) < ty then ty else 0) = (m : Int) := by rw [← hty, ← hm]; unfold lim; split <;> split <;> omega
          have m0 : (0 : Int) ≤ m := by omega
          have m1 : (m : Int) ≤ x.size := by omega
          obtain ⟨y, hy⟩ : ∃ q, x.extract 0 m = q := ⟨_, rfl⟩
          have HY := Lib.hid hy
          obtain ⟨zz, hzz⟩ : ∃ q, zi z = q := ⟨_, rfl⟩
          rw [hzz] at y0
          have HZ := Lib.hid hzz
          have HR2 : Hid (done (s1, s2) (z, y, false) = (u1, u2)) := Lib.hid (by rw [← HY.out, ← HX.out]; exact HR.out)
          have hyz : y.size ≤ x.size := by rw [← hy, ByteArray.size_extract]; omega
          have hbd : s1.size + s2.size + y.size ≤ 1000000 := by omega
          clear hsd hr hS2 hlb2 hm hzz hsz hwk hyz
          obtain ⟨q1l, q1r, q1p, ⟨q1c0, q1c1, q1c2, q1c3, q1c4, q1c5⟩, ⟨q1f0, q1f1, q1f2, q1f3, q1f4, q1f5⟩⟩ := B0.d6
          obtain ⟨W, hW⟩ : ∃ Q_ : World, wr.alloc (.cells #[.int .i64 zz, .string x, .bool false] 52) = Q_ := ⟨_, rfl⟩
          have aW : Below wr.heap.size wr W := hW ▸ below1 _ _
          have B9 : Bx W (wr.heap.size) #[.int .i64 zz, .string x, .bool false] 52 := hW ▸ Bx.at (by first | rfl | omega) _ _
          replace B0 := B0.stays aW
          replace B1 := B1.stays aW
          have bW := nx hb aW
          obtain ⟨q2l, q2r, q2p, ⟨q2c0, q2c1, q2c2, q2c3, q2c4, q2c5⟩, ⟨q2f0, q2f1, q2f2, q2f3, q2f4, q2f5⟩⟩ := B0.d6
          obtain ⟨q3l, q3r, q3p, ⟨q3c0, q3c1, q3c2⟩, ⟨q3f0, q3f1, q3f2⟩⟩ := B9.d3
          obtain ⟨W2, hW2⟩ : ∃ Q_ : World, W.setCell ⟨wr.heap.size, 1, none⟩ (.string y) = Q_ := ⟨_, rfl⟩
          have bW2 : Below w.heap.size w W2 := hW2 ▸ (bW).trans (low_setCell _ _ (by omega))
          replace B0 : Bx W2 (w.heap.size) #[.string s1, .string s2, .slice (some ⟨bb, off, none⟩) n1 c1, .int .i64 c, .int .i64 f, .bool dn] 28 := hW2 ▸ B0.set' (by omega) _ _
          replace B1 : Bx W2 (w.heap.size + 1) #[.string ⟨#[]⟩, .string ⟨#[]⟩, .slice none 0 0, .int .i64 0, .int .i64 0, .bool false] 28 := hW2 ▸ B1.set' (by omega) _ _
          replace B9 : Bx W2 (wr.heap.size) #[.int .i64 zz, .string y, .bool false] 52 := hW2 ▸ (show Bx (W.setCell ⟨wr.heap.size, 1, none⟩ (.string y)) (wr.heap.size) #[.int .i64 zz, .string y, .bool false] 52 from B9.set 1 (.string y))
          obtain ⟨q4l, q4r, q4p, ⟨q4c0, q4c1, q4c2, q4c3, q4c4, q4c5⟩, ⟨q4f0, q4f1, q4f2, q4f3, q4f4, q4f5⟩⟩ := B0.d6
          obtain ⟨q5l, q5r, q5p, ⟨q5c0, q5c1, q5c2⟩, ⟨q5f0, q5f1, q5f2⟩⟩ := B9.d3
          go_wp2_with fail
          with_reducible refine (rDone_is HR2 HZ.out _ hbd).mono ?_
          rintro e w1 ⟨rfl, hb1⟩
          simp only
          clear q1l q1r q1p q1c0 q1c1 q1c2 q1c3 q1c4 q1c5 q1f0 q1f1 q1f2 q1f3 q1f4 q1f5
          clear q2l q2r q2p q2c0 q2c1 q2c2 q2c3 q2c4 q2c5 q2f0 q2f1 q2f2 q2f3 q2f4 q2f5
          clear q3l q3r q3p q3c0 q3c1 q3c2 q3f0 q3f1 q3f2
          clear q4l q4r q4p q4c0 q4c1 q4c2 q4c3 q4c4 q4c5 q4f0 q4f1 q4f2 q4f3 q4f4 q4f5
          clear q5l q5r q5p q5c0 q5c1 q5c2 q5f0 q5f1 q5f2
          replace B0 := B0.stays hb1
          replace B1 := B1.stays hb1
          replace B9 := B9.stays hb1
          have bw1 := nx bW2 hb1
          have j9 := B9.lt
          obtain ⟨q6l, q6r, q6p, ⟨q6c0, q6c1, q6c2, q6c3, q6c4, q6c5⟩, ⟨q6f0, q6f1, q6f2, q6f3, q6f4, q6f5⟩⟩ := B0.d6
          obtain ⟨X1, hX1⟩ : ∃ Q_ : World, w1.setCell ⟨w.heap.size, 0, none⟩ (.string u1) = Q_ := ⟨_, rfl⟩
          have bX1 : Below w.heap.size w X1 := hX1 ▸ (bw1).trans (low_setCell _ _ (by omega))
          replace B1 : Bx X1 (w.heap.size + 1) #[.string ⟨#[]⟩, .string ⟨#[]⟩, .slice none 0 0, .int .i64 0, .int .i64 0, .bool false] 28 := hX1 ▸ B1.set' (by omega) _ _
          replace B0 : Bx X1 (w.heap.size) #[.string u1, .string s2, .slice (some ⟨bb, off, none⟩) n1 c1, .int .i64 c, .int .i64 f, .bool dn] 28 := hX1 ▸ (show Bx (w1.setCell ⟨w.heap.size, 0, none⟩ (.string u1)) (w.heap.size) #[.string u1, .string s2, .slice (some ⟨bb, off, none⟩) n1 c1, .int .i64 c, .int .i64 f, .bool dn] 28 from B0.set 0 (.string u1))
          obtain ⟨q7l, q7r, q7p, ⟨q7c0, q7c1, q7c2, q7c3, q7c4, q7c5⟩, ⟨q7f0, q7f1, q7f2, q7f3, q7f4, q7f5⟩⟩ := B0.d6
          obtain ⟨X2, hX2⟩ : ∃ Q_ : World, X1.setCell ⟨w.heap.size, 1, none⟩ (.string u2) = Q_ := ⟨_, rfl⟩
          have bX2 : Below w.heap.size w X2 := hX2 ▸ (bX1).trans (low_setCell _ _ (by omega))
          replace B1 : Bx X2 (w.heap.size + 1) #[.string ⟨#[]⟩, .string ⟨#[]⟩, .slice none 0 0, .int .i64 0, .int .i64 0, .bool false] 28 := hX2 ▸ B1.set' (by omega) _ _
          replace B0 : Bx X2 (w.heap.size) #[.string u1, .string u2, .slice (some ⟨bb, off, none⟩) n1 c1, .int .i64 c, .int .i64 f, .bool dn] 28 := hX2 ▸ (show Bx (X1.setCell ⟨w.heap.size, 1, none⟩ (.string u2)) (w.heap.size) #[.string u1, .string u2, .slice (some ⟨bb, off, none⟩) n1 c1, .int .i64 c, .int .i64 f, .bool dn] 28 from B0.set 1 (.string u2))
          obtain ⟨q8l, q8r, q8p, ⟨q8c0, q8c1, q8c2, q8c3, q8c4, q8c5⟩, ⟨q8f0, q8f1, q8f2, q8f3, q8f4, q8f5⟩⟩ := B0.d6
          obtain ⟨Y1, hY1⟩ : ∃ Q_ : World, X2.setCell ⟨w.heap.size, 2, none⟩ (.slice none 0 0) = Q_ := ⟨_, rfl⟩
          have bY1 : Below w.heap.size w Y1 := hY1 ▸ (bX2).trans (low_setCell _ _ (by omega))
          replace B1 : Bx Y1 (w.heap.size + 1) #[.string ⟨#[]⟩, .string ⟨#[]⟩, .slice none 0 0, .int .i64 0, .int .i64 0, .bool false] 28 := hY1 ▸ B1.set' (by omega) _ _
          replace B0 : Bx Y1 (w.heap.size) #[.string u1, .string u2, .slice none 0 0, .int .i64 c, .int .i64 f, .bool dn] 28 := hY1 ▸ (show Bx (X2.setCell ⟨w.heap.size, 2, none⟩ (.slice none 0 0)) (w.heap.size) #[.string u1, .string u2, .slice none 0 0, .int .i64 c, .int .i64 f, .bool dn] 28 from B0.set 2 (.slice none 0 0))
          obtain ⟨q9l, q9r, q9p, ⟨q9c0, q9c1, q9c2, q9c3, q9c4, q9c5⟩, ⟨q9f0, q9f1, q9f2, q9f3, q9f4, q9f5⟩⟩ := B0.d6
          obtain ⟨Y2, hY2⟩ : ∃ Q_ : World, Y1.setCell ⟨w.heap.size, 4, none⟩ (.int .i64 (-1)) = Q_ := ⟨_, rfl⟩
          have bY2 : Below w.heap.size w Y2 := hY2 ▸ (bY1).trans (low_setCell _ _ (by omega))
          replace B1 : Bx Y2 (w.heap.size + 1) #[.string ⟨#[]⟩, .string ⟨#[]⟩, .slice none 0 0, .int .i64 0, .int .i64 0, .bool false] 28 := hY2 ▸ B1.set' (by omega) _ _
          replace B0 : Bx Y2 (w.heap.size) #[.string u1, .string u2, .slice none 0 0, .int .i64 c, .int .i64 (-1), .bool dn] 28 := hY2 ▸ (show Bx (Y1.setCell ⟨w.heap.size, 4, none⟩ (.int .i64 (-1))) (w.heap.size) #[.string u1, .string u2, .slice none 0 0, .int .i64 c, .int .i64 (-1), .bool dn] 28 from B0.set 4 (.int .i64 (-1)))
          obtain ⟨q10l, q10r, q10p, ⟨q10c0, q10c1, q10c2, q10c3, q10c4, q10c5⟩, ⟨q10f0, q10f1, q10f2, q10f3, q10f4, q10f5⟩⟩ := B0.d6
          obtain ⟨Y3, hY3⟩ : ∃ Q_ : World, Y2.setCell ⟨w.heap.size, 5, none⟩ (.bool true) = Q_ := ⟨_, rfl⟩
          have bY3 : Below w.heap.size w Y3 := hY3 ▸ (bY2).trans (low_setCell _ _ (by omega))
          replace B1 : Bx Y3 (w.heap.size + 1) #[.string ⟨#[]⟩, .string ⟨#[]⟩, .slice none 0 0, .int .i64 0, .int .i64 0, .bool false] 28 := hY3 ▸ B1.set' (by omega) _ _
          replace B0 : Bx Y3 (w.heap.size) #[.string u1, .string u2, .slice none 0 0, .int .i64 c, .int .i64 (-1), .bool true] 28 := hY3 ▸ (show Bx (Y2.setCell ⟨w.heap.size, 5, none⟩ (.bool true)) (w.heap.size) #[.string u1, .string u2, .slice none 0 0, .int .i64 c, .int .i64 (-1), .bool true] 28 from B0.set 5 (.bool true))
          obtain ⟨q11l, q11r, q11p, ⟨q11c0, q11c1, q11c2, q11c3, q11c4, q11c5⟩, ⟨q11f0, q11f1, q11f2, q11f3, q11f4, q11f5⟩⟩ := B0.d6
          obtain ⟨q12l, q12r, q12p, ⟨q12c0, q12c1, q12c2, q12c3, q12c4, q12c5⟩, ⟨q12f0, q12f1, q12f2, q12f3, q12f4, q12f5⟩⟩ := B1.d6
          obtain ⟨U, hU⟩ : ∃ Q_ : World, Y3.setRow (w.heap.size + 1) #[.string u1, .string u2, .slice none 0 0, .int .i64 c, .int .i64 (-1), .bool true] = Q_ := ⟨_, rfl⟩
          have bU : Below w.heap.size w U := hU ▸ (bY3).trans (low_setRow _ (by omega))
          replace B0 : Bx U (w.heap.size) #[.string u1, .string u2, .slice none 0 0, .int .i64 c, .int .i64 (-1), .bool true] 28 := hU ▸ B0.put' (by omega) _
          replace B1 : Bx U (w.heap.size + 1) #[.string u1, .string u2, .slice none 0 0, .int .i64 c, .int .i64 (-1), .bool true] 28 := hU ▸ B1.put _
          obtain ⟨q13l, q13r, q13p, ⟨q13c0, q13c1, q13c2, q13c3, q13c4, q13c5⟩, ⟨q13f0, q13f1, q13f2, q13f3, q13f4, q13f5⟩⟩ := B1.d6
          go_wp2
          refine bodyPost_ret (v := .agg #[.string u1, .string u2, .slice none 0 0, .int .i64 c, .int .i64 (-1), .bool true]) (ret_D1 Try.results14 _ _ rfl ?_) rfl (PostD.intro HP bU (DV.mk (Is.nil _ _ _ _) (Nat.le_refl 0)))
          simp [go_sem, *]
        · have hsd : (s1, s2) = (u1, u2) := by
            have h9 := HU.out
            rw [hr] at h9
            simp only [if_true] at h9
            rw [hS2] at h9
            exact h9
          obtain ⟨rfl, rfl⟩ := Prod.mk.inj hsd
          clear hsd hr hS2
          obtain ⟨q1l, q1r, q1p, ⟨q1c0, q1c1, q1c2, q1c3, q1c4, q1c5⟩, ⟨q1f0, q1f1, q1f2, q1f3, q1f4, q1f5⟩⟩ := B0.d6
          obtain ⟨q2l, q2r, q2p, ⟨q2c0, q2c1, q2c2, q2c3, q2c4, q2c5⟩, ⟨q2f0, q2f1, q2f2, q2f3, q2f4, q2f5⟩⟩ := B0.d6
          obtain ⟨Y1, hY1⟩ : ∃ Q_ : World, wr.setCell ⟨w.heap.size, 2, none⟩ (.slice none 0 0) = Q_ := ⟨_, rfl⟩
          have bY1 : Below w.heap.size w Y1 := hY1 ▸ (hb).trans (low_setCell _ _ (by omega))
          replace B1 : Bx Y1 (w.heap.size + 1) #[.string ⟨#[]⟩, .string ⟨#[]⟩, .slice none 0 0, .int .i64 0, .int .i64 0, .bool false] 28 := hY1 ▸ B1.set' (by omega) _ _
          replace B0 : Bx Y1 (w.heap.size) #[.string s1, .string s2, .slice none 0 0, .int .i64 c, .int .i64 f, .bool dn] 28 := hY1 ▸ (show Bx (wr.setCell ⟨w.heap.size, 2, none⟩ (.slice none 0 0)) (w.heap.size) #[.string s1, .string s2, .slice none 0 0, .int .i64 c, .int .i64 f, .bool dn] 28 from B0.set 2 (.slice none 0 0))
          obtain ⟨q3l, q3r, q3p, ⟨q3c0, q3c1, q3c2, q3c3, q3c4, q3c5⟩, ⟨q3f0, q3f1, q3f2, q3f3, q3f4, q3f5⟩⟩ := B0.d6
          obtain ⟨Y2, hY2⟩ : ∃ Q_ : World, Y1.setCell ⟨w.heap.size, 4, none⟩ (.int .i64 (-1)) = Q_ := ⟨_, rfl⟩
          have bY2 : Below w.heap.size w Y2 := hY2 ▸ (bY1).trans (low_setCell _ _ (by omega))
          replace B1 : Bx Y2 (w.heap.size + 1) #[.string ⟨#[]⟩, .string ⟨#[]⟩, .slice none 0 0, .int .i64 0, .int .i64 0, .bool false] 28 := hY2 ▸ B1.set' (by omega) _ _
          replace B0 : Bx Y2 (w.heap.size) #[.string s1, .string s2, .slice none 0 0, .int .i64 c, .int .i64 (-1), .bool dn] 28 := hY2 ▸ (show Bx (Y1.setCell ⟨w.heap.size, 4, none⟩ (.int .i64 (-1))) (w.heap.size) #[.string s1, .string s2, .slice none 0 0, .int .i64 c, .int .i64 (-1), .bool dn] 28 from B0.set 4 (.int .i64 (-1)))
          obtain ⟨q4l, q4r, q4p, ⟨q4c0, q4c1, q4c2, q4c3, q4c4, q4c5⟩, ⟨q4f0, q4f1, q4f2, q4f3, q4f4, q4f5⟩⟩ := B0.d6
          obtain ⟨Y3, hY3⟩ : ∃ Q_ : World, Y2.setCell ⟨w.heap.size, 5, none⟩ (.bool true) = Q_ := ⟨_, rfl⟩
          have bY3 : Below w.heap.size w Y3 := hY3 ▸ (bY2).trans (low_setCell _ _ (by omega))
          replace B1 : Bx Y3 (w.heap.size + 1) #[.string ⟨#[]⟩, .string ⟨#[]⟩, .slice none 0 0, .int .i64 0, .int .i64 0, .bool false] 28 := hY3 ▸ B1.set' (by omega) _ _
          replace B0 : Bx Y3 (w.heap.size) #[.string s1, .string s2, .slice none 0 0, .int .i64 c, .int .i64 (-1), .bool true] 28 := hY3 ▸ (show Bx (Y2.setCell ⟨w.heap.size, 5, none⟩ (.bool true)) (w.heap.size) #[.string s1, .string s2, .slice none 0 0, .int .i64 c, .int .i64 (-1), .bool true] 28 from B0.set 5 (.bool true))
          obtain ⟨q5l, q5r, q5p, ⟨q5c0, q5c1, q5c2, q5c3, q5c4, q5c5⟩, ⟨q5f0, q5f1, q5f2, q5f3, q5f4, q5f5⟩⟩ := B0.d6
          obtain ⟨q6l, q6r, q6p, ⟨q6c0, q6c1, q6c2, q6c3, q6c4, q6c5⟩, ⟨q6f0, q6f1, q6f2, q6f3, q6f4, q6f5⟩⟩ := B1.d6
          obtain ⟨U, hU⟩ : ∃ Q_ : World, Y3.setRow (w.heap.size + 1) #[.string s1, .string s2, .slice none 0 0, .int .i64 c, .int .i64 (-1), .bool true] = Q_ := ⟨_, rfl⟩
          have bU : Below w.heap.size w U := hU ▸ (bY3).trans (low_setRow _ (by omega))
          replace B0 : Bx U (w.heap.size) #[.string s1, .string s2, .slice none 0 0, .int .i64 c, .int .i64 (-1), .bool true] 28 := hU ▸ B0.put' (by omega) _
          replace B1 : Bx U (w.heap.size + 1) #[.string s1, .string s2, .slice none 0 0, .int .i64 c, .int .i64 (-1), .bool true] 28 := hU ▸ B1.put _
          obtain ⟨q7l, q7r, q7p, ⟨q7c0, q7c1, q7c2, q7c3, q7c4, q7c5⟩, ⟨q7f0, q7f1, q7f2, q7f3, q7f4, q7f5⟩⟩ := B1.d6
          go_wp2
          refine bodyPost_ret (v := .agg #[.string s1, .string s2, .slice none 0 0, .int .i64 c, .int .i64 (-1), .bool true]) (ret_D1 Try.results14 _ _ rfl ?_) rfl (PostD.intro HP bU (DV.mk (Is.nil _ _ _ _) (Nat.le_refl 0)))
          simp [go_sem, *]
      · obtain rfl : j = n1 := by omega
        have hsd : (s1, s2) = (u1, u2) := by
          have h9 := HU.out
          rw [HRE2.out (by rw [HN.out]; omega), hS] at h9
          exact h9
        obtain ⟨rfl, rfl⟩ := Prod.mk.inj hsd
        clear hsd hS
        obtain ⟨q1l, q1r, q1p, ⟨q1c0, q1c1, q1c2, q1c3, q1c4, q1c5⟩, ⟨q1f0, q1f1, q1f2, q1f3, q1f4, q1f5⟩⟩ := B0.d6
        obtain ⟨q2l, q2r, q2p, ⟨q2c0, q2c1, q2c2, q2c3, q2c4, q2c5⟩, ⟨q2f0, q2f1, q2f2, q2f3, q2f4, q2f5⟩⟩ := B0.d6
        obtain ⟨Y1, hY1⟩ : ∃ Q_ : World, wr.setCell ⟨w.heap.size, 2, none⟩ (.slice none 0 0) = Q_ := ⟨_, rfl⟩
        have bY1 : Below w.heap.size w Y1 := hY1 ▸ (hb).trans (low_setCell _ _ (by omega))
        replace B1 : Bx Y1 (w.heap.size + 1) #[.string ⟨#[]⟩, .string ⟨#[]⟩, .slice none 0 0, .int .i64 0, .int .i64 0, .bool false] 28 := hY1 ▸ B1.set' (by omega) _ _
        replace B0 : Bx Y1 (w.heap.size) #[.string s1, .string s2, .slice none 0 0, .int .i64 c, .int .i64 f, .bool dn] 28 := hY1 ▸ (show Bx (wr.setCell ⟨w.heap.size, 2, none⟩ (.slice none 0 0)) (w.heap.size) #[.string s1, .string s2, .slice none 0 0, .int .i64 c, .int .i64 f, .bool dn] 28 from B0.set 2 (.slice none 0 0))
        obtain ⟨q3l, q3r, q3p, ⟨q3c0, q3c1, q3c2, q3c3, q3c4, q3c5⟩, ⟨q3f0, q3f1, q3f2, q3f3, q3f4, q3f5⟩⟩ := B0.d6
        obtain ⟨Y2, hY2⟩ : ∃ Q_ : World, Y1.setCell ⟨w.heap.size, 4, none⟩ (.int .i64 (-1)) = Q_ := ⟨_, rfl⟩
        have bY2 : Below w.heap.size w Y2 := hY2 ▸ (bY1).trans (low_setCell _ _ (by omega))
        replace B1 : Bx Y2 (w.heap.size + 1) #[.string ⟨#[]⟩, .string ⟨#[]⟩, .slice none 0 0, .int .i64 0, .int .i64 0, .bool false] 28 := hY2 ▸ B1.set' (by omega) _ _
        replace B0 : Bx Y2 (w.heap.size) #[.string s1, .string s2, .slice none 0 0, .int .i64 c, .int .i64 (-1), .bool dn] 28 := hY2 ▸ (show Bx (Y1.setCell ⟨w.heap.size, 4, none⟩ (.int .i64 (-1))) (w.heap.size) #[.string s1, .string s2, .slice none 0 0, .int .i64 c, .int .i64 (-1), .bool dn] 28 from B0.set 4 (.int .i64 (-1)))
        obtain ⟨q4l, q4r, q4p, ⟨q4c0, q4c1, q4c2, q4c3, q4c4, q4c5⟩, ⟨q4f0, q4f1, q4f2, q4f3, q4f4, q4f5⟩⟩ := B0.d6
        obtain ⟨Y3, hY3⟩ : ∃ Q_ : World, Y2.setCell ⟨w.heap.size, 5, none⟩ (.bool true) = Q_ := ⟨_, rfl⟩
        have bY3 : Below w.heap.size w Y3 := hY3 ▸ (bY2).trans (low_setCell _ _ (by omega))
        replace B1 : Bx Y3 (w.heap.size + 1) #[.string ⟨#[]⟩, .string ⟨#[]⟩, .slice none 0 0, .int .i64 0, .int .i64 0, .bool false] 28 := hY3 ▸ B1.set' (by omega) _ _
        replace B0 : Bx Y3 (w.heap.size) #[.string s1, .string s2, .slice none 0 0, .int .i64 c, .int .i64 (-1), .bool true] 28 := hY3 ▸ (show Bx (Y2.setCell ⟨w.heap.size, 5, none⟩ (.bool true)) (w.heap.size) #[.string s1, .string s2, .slice none 0 0, .int .i64 c, .int .i64 (-1), .bool true] 28 from B0.set 5 (.bool true))
        obtain ⟨q5l, q5r, q5p, ⟨q5c0, q5c1, q5c2, q5c3, q5c4, q5c5⟩, ⟨q5f0, q5f1, q5f2, q5f3, q5f4, q5f5⟩⟩ := B0.d6
        obtain ⟨q6l, q6r, q6p, ⟨q6c0, q6c1, q6c2, q6c3, q6c4, q6c5⟩, ⟨q6f0, q6f1, q6f2, q6f3, q6f4, q6f5⟩⟩ := B1.d6
        obtain ⟨U, hU⟩ : ∃ Q_ : World, Y3.setRow (w.heap.size + 1) #[.string s1, .string s2, .slice none 0 0, .int .i64 c, .int .i64 (-1), .bool true] = Q_ := ⟨_, rfl⟩
        have bU : Below w.heap.size w U := hU ▸ (bY3).trans (low_setRow _ (by omega))
        replace B0 : Bx U (w.heap.size) #[.string s1, .string s2, .slice none 0 0, .int .i64 c, .int .i64 (-1), .bool true] 28 := hU ▸ B0.put' (by omega) _
        replace B1 : Bx U (w.heap.size + 1) #[.string s1, .string s2, .slice none 0 0, .int .i64 c, .int .i64 (-1), .bool true] 28 := hU ▸ B1.put _
        obtain ⟨q7l, q7r, q7p, ⟨q7c0, q7c1, q7c2, q7c3, q7c4, q7c5⟩, ⟨q7f0, q7f1, q7f2, q7f3, q7f4, q7f5⟩⟩ := B1.d6
        go_wp2
        refine bodyPost_ret (v := .agg #[.string s1, .string s2, .slice none 0 0, .int .i64 c, .int .i64 (-1), .bool true]) (ret_D1 Try.results14 _ _ rfl ?_) rfl (PostD.intro HP bU (DV.mk (Is.nil _ _ _ _) (Nat.le_refl 0)))
        simp [go_sem, *]
end Go.Proofs.Ytegepbifbhamnaa.Dk
