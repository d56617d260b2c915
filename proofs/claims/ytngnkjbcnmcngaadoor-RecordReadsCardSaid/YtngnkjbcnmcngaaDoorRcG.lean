/- The document's own of layer 16: PutValue. -/
import Derived.Test.YtngnkjbcnmcngaaDoorRcF
import Derived.Test.YtngnkjbcnmcngaaDoorCmI
namespace Go.Proofs.YtngnkjbcnmcngaaDoor.Rc
open Go.RowKit
set_option linter.unusedVariables false
open Go.Proofs.YtngnkjbcnmcngaaDoor.Rw
open Go.Proofs.YtngnkjbcnmcngaaDoor.Fx (enc enc_size putV fB wB)
open Go.Proofs.YtngnkjbcnmcngaaDoor.Cm (chkB chkE writeS numF catS)
theorem put_ok {x : Int} {k : Nat} (h : Fit (x, k)) (hk : 1 ≤ k ∧ k ≤ 7) : putV x k = .tuple #[.string (enc x k), .int .i64 0] := by
  obtain ⟨u, hu, hf⟩ := h
  have hu : x = u := hu
  have h1 : wB k = true := by simp [wB]; omega
  have h2 : fB x k = true := by
    unfold fB
    rw [Int.toNat_natCast]
    simp only [decide_eq_true_eq]
    have h4 : (256 : Int) ^ k = ((256 ^ k : Nat) : Int) := by rw [Int.natCast_pow]; rfl
    have hf : u < 256 ^ k := hf
    omega
  unfold putV; rw [h1, h2, Int.toNat_natCast]; rfl
theorem rWrite_yes {c : Nat → Int} {x : ByteArray} (h : Hid (chkB c = true)) (hx : Hid (cat (cmdF c) = x)) (w : World) :
    Calls Tryd.prog 27 #[.agg (Cm.fc c)] w fun e w' => e = .returned (.tuple #[.string x, .int .i64 0]) ∧ Below w.heap.size w w' := by
  have k := Cm.rWrite_any c w
  have e1 : writeS c = x := by unfold writeS; rw [h.out, if_pos rfl, ← hx.out, cmd_cat]
  rw [e1, chk_yes h.out] at k; exact k
theorem depF_snoc (d : Nat → Int) (k : Nat) : cat (depF d (k + 1)) = cat (depF d k) ++ enc (d k) 2 := by
  unfold depF
  rw [List.range_succ, List.map_append, cat_append]
  simp [cat]
@[go_sem] theorem indexAt_mid (b o : Nat) (i : Int) (h0 : 0 ≤ i) (h7 : i < 7) (w : World) : (Instr.indexAt 29 (.pointer (some ⟨b, o, none⟩)) (.int .i64 i)).run Tryd.prog w = .ok (.pointer (some ⟨b, o + i.toNat, none⟩)) w := by
  have h : (0 : Int) ≤ i ∧ i < (7 : Nat) := ⟨h0, h7⟩
  have ha : (⟨b, o, none⟩ : Addr).add i.toNat = ⟨b, o + i.toNat, none⟩ := by unfold Addr.add; split <;> simp_all
  simp only [Instr.indexAt, asIntOf, Instr.sureAddr, run_underlying Tryd.underlying29, Sem.run_bind, Sem.run_pure, Result.andThen]
  rw [if_pos h]
  simp only [Sem.run_bind, Result.andThen, Tryd.sizeOf3, Nat.mul_one, Sem.run_pure, ha]
theorem dep_at (c : Nat → Int) (q : Int) (d : Nat → Int) (k : Nat) (hk : k < 7) : (cv c q d)[10 + k]? = some (.int .i64 (d k)) := by
  match k, hk with
  | 0, _ => rfl
  | 1, _ => rfl
  | 2, _ => rfl
  | 3, _ => rfl
  | 4, _ => rfl
  | 5, _ => rfl
  | 6, _ => rfl
set_option maxRecDepth 8000 in
set_option maxHeartbeats 4000000 in
theorem rPutValue_any (c : Nat → Int) (q : Int) (d : Nat → Int) (n : Int) (w : World) :
    Calls Tryd.prog 10 #[.agg (cv c q d), .int .i64 n] w fun e w' => e = .returned (.tuple #[.string (if okV c q d n then cat (valF c q d n.toNat) else ByteArray.empty), .int .i64 (if okV c q d n then 0 else 1)]) ∧ Below w.heap.size w w' := by
  obtain ⟨V, hV⟩ : ∃ Q_ : World, w.alloc (.cells (cv c q d) 31) = Q_ := ⟨_, rfl⟩
  have bV : Below w.heap.size w V := hV ▸ below1 _ _
  have hr0 : row V w.heap.size = cv c q d := hV ▸ row_new _ _ _ _ rfl
  have hl0 : w.heap.size < V.heap.size := by rw [← hV]; simp
  have HK := Lib.hid (show ∀ u, Below V.heap.size V u → row u w.heap.size = cv c q d ∧ u.cell? ⟨w.heap.size, 9, none⟩ = some (.int .i64 q) ∧ (∀ k, k < 7 → u.cell? ⟨w.heap.size, 10 + k, none⟩ = some (.int .i64 (d k))) ∧ w.heap.size < u.heap.size from fun u hu => by
    have h1 := row_stays hr0 hl0 hu
    refine ⟨h1, ?_, fun k hk => ?_, Nat.lt_of_lt_of_le hl0 hu.size⟩
    · rw [cell_row (n := 16) u w.heap.size 9 (by rw [h1]; rfl), h1]; rfl
    · rw [cell_row (n := 16) u w.heap.size (10 + k) (by rw [h1]; rfl), h1]; exact dep_at c q d k hk)
  cases h1 : okV c q d n with
  | false =>
    have H1 := Lib.hid h1
    clear h1
    go_enter Tryd.func10, Tryd.ntmps10
    go_wp2_with fail
    refine (rValue_is H1 _).mono ?_
    rintro e w1 ⟨rfl, hb1⟩
    go_wp2
    go_ret2
    exact ⟨rfl, nx bV hb1⟩
  | true =>
    have H1 := Lib.hid h1
    obtain ⟨k1, k2, k3, k4⟩ := okV_iff.1 h1
    obtain ⟨k5, k6⟩ := Ve.rightB_iff.1 k4
    obtain ⟨N, hN⟩ : ∃ N : Nat, n = N := ⟨n.toNat, by omega⟩
    subst hN
    have hN7 : N ≤ 7 := by omega
    obtain ⟨x0, hx0⟩ : ∃ x, cat (cmdF c) = x := ⟨_, rfl⟩
    have HW := Lib.hid hx0
    have HC := Lib.hid k1
    have HQ := Lib.hid (put_ok (k := 4) (fit_of 4294967296 ⟨k2, by omega⟩ (by decide)) ⟨by omega, by omega⟩)
    have HD := Lib.hid (show ∀ k, k < N → putV (d k) 2 = .tuple #[.string (enc (d k) 2), .int .i64 0] from fun k hk => by
      have h7 := Ve.okAt_iff.1 (k6 k (by omega))
      exact put_ok (k := 2) (fit_of 65536 ⟨h7.1, by omega⟩ (by decide)) ⟨by omega, by omega⟩)
    have hx0s : x0.size = 30 := by rw [← hx0, cat_size]; rfl
    have HV : Hid (cat (valF c q d N) = x0 ++ enc q 4 ++ cat (depF d N)) := Lib.hid (by rw [valF, cat_append, hx0, cat, ByteArray.append_assoc])
    obtain ⟨y, hy⟩ : ∃ y, enc q 4 = y := ⟨_, rfl⟩
    have hys : y.size = 4 := by rw [← hy, enc_size]
    rw [hy] at HQ HV
    clear h1 k1 k4 k6 hx0 hy k2 k3
    go_enter Tryd.func10, Tryd.ntmps10
    go_wp2_with fail
    clear hr0
    refine (rValue_is H1 _).mono ?_
    rintro e w1 ⟨rfl, hb1⟩
    obtain ⟨m1, m2, m3, m4⟩ := HK.out w1 hb1
    go_wp2_with fail
    clear m1 m2 m3 m4
    refine (rWrite_yes HC HW _).mono ?_
    rintro e w2 ⟨rfl, hb2⟩
    have b2 := nx hb1 hb2
    obtain ⟨m1, m2, m3, m4⟩ := HK.out w2 b2
    go_wp2_with fail
    clear m1 m2 m3 m4
    refine (Cm.rPut_is HQ _).mono ?_
    rintro e w3 ⟨rfl, hb3⟩
    have b3 := nx b2 hb3
    go_wp2
    go_loopw [6, 31] (fun t j wr => ∃ (k : Nat), k ≤ N ∧ j = .int .i64 k ∧ t = .string (x0 ++ y ++ cat (depF d k)) ∧ Below V.heap.size V wr) (fun _ j _ => N - (intOf j).toNat)
    case atStart => exact ⟨0, Nat.zero_le _, rfl, by simp [depF, cat], b3⟩
    case round =>
      obtain ⟨k, hk, rfl, rfl, hb⟩ := hrel
      obtain ⟨z, hz⟩ : ∃ z, x0 ++ y ++ cat (depF d k) = z := ⟨_, rfl⟩
      have hzs : z.size ≤ 100 := by rw [← hz, ByteArray.size_append, ByteArray.size_append, cat_size, depF_w, wid_rep]; omega
      by_cases hlt : k < N
      · have hlt2 : (k : Int) < N := by omega
        have hP := Lib.hid (HD.out k hlt)
        obtain ⟨m1, m2, m3, m4⟩ := HK.out wr hb
        have m5 := m3 k (by omega)
        have hk7 : (k : Int) < 7 := by omega
        obtain ⟨p, hp⟩ : ∃ p, enc (d k) 2 = p := ⟨_, rfl⟩
        have hps : p.size = 2 := by rw [← hp, enc_size]
        rw [hp] at hP
        have HZ : Hid (x0 ++ y ++ cat (depF d (k + 1)) = z ++ p) := Lib.hid (by rw [depF_snoc, hp, ← hz]; exact ByteArray.append_assoc.symm)
        rw [hz]
        clear hz m3 hp
        go_wp2_with fail
        clear m1 m2 m4 m5
        refine (Cm.rPut_is hP _).mono ?_
        rintro e w4 ⟨rfl, hb4⟩
        go_wp2
        go_roundw
        case rel => exact ⟨k + 1, by omega, by go_num, by rw [HZ.out], nx hb hb4⟩
        case measure => simp [intOf]; omega
      · obtain rfl : k = N := by omega
        have HZ : Hid (cat (valF c q d k) = z) := Lib.hid (by rw [HV.out, hz])
        rw [hz]
        clear hz
        go_wp2
        go_ret2
        exact ⟨by rw [← HZ.out]; rfl, nx bV hb⟩
end Go.Proofs.YtngnkjbcnmcngaaDoor.Rc
