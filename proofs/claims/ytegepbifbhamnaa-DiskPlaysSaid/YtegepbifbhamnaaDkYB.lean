/- The document's own of layer 14: now. -/
import Derived.Test.YtegepbifbhamnaaDkYA
namespace Go.Proofs.Ytegepbifbhamnaa.Dk
open Go.RowKit
set_option linter.unusedVariables false
open Go.Proofs.Ytegepbifbhamnaa.Rw
open Go.Proofs.Ytegepbifbhamnaa.Da
set_option maxRecDepth 8000 in
set_option maxHeartbeats 4000000 in
theorem rNow_any (n : Nat) (d : Ds) (v : Value) (w : World) (h : DV n d v w) (hw : d.wt ≤ 1000000) (hl : d.l.length ≤ 1000000) :
    Calls Try.prog 29 #[v] w fun e w' => e = .returned (.agg #[.string d.now.1, .string d.now.2]) ∧ Below w.heap.size w w' := by
  obtain ⟨o, rfl, hO, hc⟩ := h
  obtain ⟨a, b, l, c, f, dn⟩ := d
  simp only at hO hl ⊢
  have hw2 : a.size + b.size + wl l ≤ 1000000 := hw
  obtain ⟨a1, c1, rfl⟩ := hO.len
  obtain ⟨n1, hn1⟩ : ∃ q, l.length = q := ⟨_, rfl⟩
  rw [hn1] at hO hc hl ⊢
  have HN := Lib.hid hn1
  obtain ⟨V, hV⟩ : ∃ Q_ : World, ((w.alloc (.cells #[.string a, .string b, .slice a1 n1 c1, .int .i64 c, .int .i64 f, .bool dn] 28)).alloc (.cells #[.string ⟨#[]⟩, .string ⟨#[]⟩] 25)).alloc (.cells #[.string a, .string b] 25) = Q_ := ⟨_, rfl⟩
  have bV : Below w.heap.size w V := hV ▸ below3 w _ _ _
  obtain ⟨B0, B1, B2⟩ : Bx V w.heap.size #[.string a, .string b, .slice a1 n1 c1, .int .i64 c, .int .i64 f, .bool dn] 28 ∧ Bx V (w.heap.size + 1) #[.string ⟨#[]⟩, .string ⟨#[]⟩] 25 ∧ Bx V (w.heap.size + 2) #[.string a, .string b] 25 := hV ▸ bx3 w _ _ _ _ _ _
  have HA : Hid (Bx V (w.heap.size + 1) #[.string ⟨#[]⟩, .string ⟨#[]⟩] 25 ∧ Bx V (w.heap.size + 2) #[.string (fin (a, b) (l.take 0)).1, .string (fin (a, b) (l.take 0)).2] 25 ∧ Below w.heap.size w V) := Lib.hid ⟨B1, B2, bV⟩
  have HL := Lib.hid (show ∀ u, Below w.heap.size w u → OL n l (.slice a1 n1 c1) u from fun u hu => hO.stays hu)
  obtain ⟨_, _, _, ⟨q0, q1, q2, _⟩, _⟩ := B0.d6
  clear hn1 B0 B1 B2 hO bV hw
  go_enter Try.func29, Try.ntmps29
  go_wp2
  go_loopw [11] (fun i wr => ∃ k : Nat, k ≤ n1 ∧ i = .int .i64 k ∧ Bx wr (w.heap.size + 1) #[.string ⟨#[]⟩, .string ⟨#[]⟩] 25 ∧ Bx wr (w.heap.size + 2) #[.string (fin (a, b) (l.take k)).1, .string (fin (a, b) (l.take k)).2] 25 ∧ Below w.heap.size w wr) (fun i _ => n1 - (intOf i).toNat)
  case atStart => exact ⟨0, Nat.zero_le _, rfl, HA.out⟩
  case round =>
    obtain ⟨k, hk, rfl, B1, B2, hb⟩ := hrel
    obtain ⟨⟨s1, s2⟩, hS⟩ : ∃ q, fin (a, b) (l.take k) = q := ⟨_, rfl⟩
    rw [hS] at B2
    have HS := Lib.hid hS
    have j2 := B2.lt
    by_cases hlt : k < n1
    · have hlt2 : (k : Int) < n1 := by omega
      have hkl : k < l.length := by rw [HN.out]; exact hlt
      have hsn : fin (a, b) (l.take (k + 1)) = done (fin (a, b) (l.take k)) l[k] := take_snoc' hkl
      have hsz : (fin (a, b) (l.take k)).1.size + (fin (a, b) (l.take k)).2.size ≤ a.size + b.size + wl (l.take k) := fin_wt (l.take k) (a, b)
      have hwk : wl (l.take k) + l[k].2.1.size ≤ wl l := by
        have h1 := wl_take l (k + 1)
        rw [Da.take_snoc hkl, wl_append] at h1
        have h2 : wl [l[k]] = l[k].2.1.size := by simp [wl]
        omega
      rcases (HL.out wr hb).cases with ⟨e, _⟩ | ⟨_, bb, off, cc, e, hat⟩
      · rw [e] at hkl; cases hkl
      simp only [Value.slice.injEq] at e
      obtain ⟨rfl, -, rfl⟩ := e
      obtain ⟨y0, y1, y2⟩ := at3 hat k hkl
      obtain ⟨⟨z, x, er⟩, hz⟩ : ∃ q, l[k] = q := ⟨_, rfl⟩
      rw [hz] at hsn y0 y1 y2 hwk
      rw [hS] at hsn hsz
      simp only at y0 y1 y2 hwk hsz
      obtain ⟨⟨r1, r2⟩, hr⟩ : ∃ q, done (s1, s2) (z, x, er) = q := ⟨_, rfl⟩
      rw [hr] at hsn
      have HR := Lib.hid hr
      have HSN := Lib.hid hsn
      obtain ⟨zz, hzz⟩ : ∃ q, zi z = q := ⟨_, rfl⟩
      rw [hzz] at y0
      have HZ := Lib.hid hzz
      have hbd : s1.size + s2.size + x.size ≤ 1000000 := by omega
      clear hS hsn hsz hwk hat hz hr hzz
      obtain ⟨W, hW⟩ : ∃ Q_ : World, wr.alloc (.cells #[.int .i64 zz, .string x, .bool er] 52) = Q_ := ⟨_, rfl⟩
      have aW : Below wr.heap.size wr W := hW ▸ below1 _ _
      have B5 : Bx W (wr.heap.size) #[.int .i64 zz, .string x, .bool er] 52 := hW ▸ Bx.at (by first | rfl | omega) _ _
      replace B1 := B1.stays aW
      replace B2 := B2.stays aW
      have bW := nx hb aW
      obtain ⟨q1l, q1r, q1p, ⟨q1c0, q1c1⟩, ⟨q1f0, q1f1⟩⟩ := B2.d2
      obtain ⟨q2l, q2r, q2p, ⟨q2c0, q2c1, q2c2⟩, ⟨q2f0, q2f1, q2f2⟩⟩ := B5.d3
      go_wp2_with fail
      with_reducible refine (rDone_is HR HZ.out _ hbd).mono ?_
      rintro e w1 ⟨rfl, hb1⟩
      simp only
      clear q1l q1r q1p q1c0 q1c1 q1f0 q1f1
      clear q2l q2r q2p q2c0 q2c1 q2c2 q2f0 q2f1 q2f2
      replace B1 := B1.stays hb1
      replace B2 := B2.stays hb1
      replace B5 := B5.stays hb1
      have bw1 := nx bW hb1
      obtain ⟨q3l, q3r, q3p, ⟨q3c0, q3c1⟩, ⟨q3f0, q3f1⟩⟩ := B2.d2
      obtain ⟨X, hX⟩ : ∃ Q_ : World, w1.setRow (w.heap.size + 2) #[.string r1, .string r2] = Q_ := ⟨_, rfl⟩
      have bX : Below w.heap.size w X := hX ▸ (bw1).trans (low_setRow _ (by omega))
      replace B1 : Bx X (w.heap.size + 1) #[.string ⟨#[]⟩, .string ⟨#[]⟩] 25 := hX ▸ B1.put' (by omega) _
      replace B5 : Bx X (wr.heap.size) #[.int .i64 zz, .string x, .bool er] 52 := hX ▸ B5.put' (by omega) _
      replace B2 : Bx X (w.heap.size + 2) #[.string r1, .string r2] 25 := hX ▸ B2.put _
      have HX := Lib.hid (show Bx X (w.heap.size + 1) #[.string ⟨#[]⟩, .string ⟨#[]⟩] 25 ∧ Bx X (w.heap.size + 2) #[.string r1, .string r2] 25 ∧ Below w.heap.size w X from ⟨B1, B2, bX⟩)
      go_wp2
      go_roundw
      case rel => first | exact ⟨k + 1, by omega, by go_num, by rw [HSN.out]; exact HX.out⟩ | ((repeat apply Exists.intro); exact ⟨⟨k + 1, by omega, by go_num, by rw [HSN.out]; exact HX.out⟩, rfl⟩)
      case measure => simp [intOf]; omega
    · obtain rfl : k = n1 := by omega
      have HF : Hid ((s1, s2) = Ds.now ⟨a, b, l, c, f, dn⟩) := Lib.hid (by rw [← HS.out, ← HN.out, List.take_length]; rfl)
      clear hS
      obtain ⟨q1l, q1r, q1p, ⟨q1c0, q1c1⟩, ⟨q1f0, q1f1⟩⟩ := B2.d2
      obtain ⟨q2l, q2r, q2p, ⟨q2c0, q2c1⟩, ⟨q2f0, q2f1⟩⟩ := B1.d2
      obtain ⟨X, hX⟩ : ∃ Q_ : World, wr.setRow (w.heap.size + 1) #[.string s1, .string s2] = Q_ := ⟨_, rfl⟩
      have bX : Below w.heap.size w X := hX ▸ (hb).trans (low_setRow _ (by omega))
      replace B2 : Bx X (w.heap.size + 2) #[.string s1, .string s2] 25 := hX ▸ B2.put' (by omega) _
      replace B1 : Bx X (w.heap.size + 1) #[.string s1, .string s2] 25 := hX ▸ B1.put _
      obtain ⟨q3l, q3r, q3p, ⟨q3c0, q3c1⟩, ⟨q3f0, q3f1⟩⟩ := B1.d2
      go_wp2
      refine bodyPost_ret (v := .agg #[.string s1, .string s2]) (ret_Z1 Try.results29 _ _ rfl ?_) rfl ⟨by rw [← HF.out], bX⟩
      simp [go_sem, *]
theorem rNow_is {d : Ds} {s : Pz} (H : Hid (d.now = s)) {n : Nat} {v : Value} {w : World} (h : DV n d v w) (hw : d.wt ≤ 1000000) (hl : d.l.length ≤ 1000000) :
    Calls Try.prog 29 #[v] w fun e w' => e = .returned (.agg #[.string s.1, .string s.2]) ∧ Below w.heap.size w w' := by
  rw [← H.out]; exact rNow_any n d v w h hw hl
end Go.Proofs.Ytegepbifbhamnaa.Dk
