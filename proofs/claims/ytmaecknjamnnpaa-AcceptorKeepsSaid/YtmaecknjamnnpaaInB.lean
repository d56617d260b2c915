/- Layer 18: package instance's Known, Right. -/
import Derived.Test.YtmaecknjamnnpaaInA
import Derived.Test.YtmaecknjamnnpaaRg
namespace Go.Proofs.Ytmaecknjamnnpaa.In
open Go.RowKit
set_option linter.unusedVariables false
open Go.Proofs.Ytmaecknjamnnpaa.Rw
open Go.Proofs.Ytmaecknjamnnpaa.Da
open Go.Proofs.Ytmaecknjamnnpaa.Bv
open Go.Proofs.Ytmaecknjamnnpaa.Rc (Ins ci zeroI okI)
open Go.Proofs.Ytmaecknjamnnpaa.St
/-- A number of the vector, by a number that is within bounds. -/
def dAt (i : Ins) (r : Int) : Int := i.d r.toNat
theorem ci_dep (i : Ins) (r : Int) (h0 : 0 ≤ r) (h7 : r < 7) : (ci i)[17 + r.toNat]? = some (.int .i64 (dAt i r)) := by
  obtain ⟨k, rfl⟩ : ∃ k : Nat, r = k := ⟨r.toNat, by omega⟩
  have hk : k < 7 := by omega
  unfold dAt
  rw [Int.toNat_natCast]
  match k, hk with
  | 0, _ => rfl
  | 1, _ => rfl
  | 2, _ => rfl
  | 3, _ => rfl
  | 4, _ => rfl
  | 5, _ => rfl
  | 6, _ => rfl
theorem indexAt_mid (b o : Nat) (i : Int) (h0 : 0 ≤ i) (h7 : i < 7) (w : World) : (Instr.indexAt 30 (.pointer (some ⟨b, o, none⟩)) (.int .i64 i)).run Try.prog w = .ok (.pointer (some ⟨b, o + i.toNat, none⟩)) w := by
  have h : (0 : Int) ≤ i ∧ i < (7 : Nat) := ⟨h0, h7⟩
  have ha : (⟨b, o, none⟩ : Addr).add i.toNat = ⟨b, o + i.toNat, none⟩ := by unfold Addr.add; split <;> simp_all
  simp only [Instr.indexAt, asIntOf, Instr.sureAddr, run_underlying Try.underlying30, Sem.run_bind, Sem.run_pure, Result.andThen]
  rw [if_pos h]
  simp only [Sem.run_bind, Result.andThen, Try.sizeOf3, Nat.mul_one, Sem.run_pure, ha]
attribute [go_sem] indexAt_mid
theorem ext_two {cs : Array Value} {o : Nat} {x : Ins} (h : cs.extract o (o + 25) = ci x) : cs.extract o (o + 2) = #[.int .i64 x.pr, .int .i64 x.ps] := by
  have h2 : (cs.extract o (o + 25)).extract 0 2 = cs.extract o (o + 2) := by
    rw [Array.extract_extract]; congr 1 <;> omega
  rw [← h2, h]; rfl
/-- What lies at a place of a list, in all later worlds. -/
theorem TI.all {n : Nat} {l : List Ins} {a : Option Addr} {m c : Nat} {w wr : World} (h : TI n l (.slice a m c) w) (hb : Below w.heap.size w wr) {k : Nat} (hk : k < l.length) :
    ∃ b off, a = some ⟨b, off, none⟩ ∧ b < wr.heap.size ∧ ∀ u, Below wr.heap.size wr u → (row u b).extract (off + k * 25) (off + k * 25 + 25) = ci l[k] ∧ (row u b).extract (off + k * 25) (off + k * 25 + 2) = #[.int .i64 l[k].pr, .int .i64 l[k].ps] := by
  obtain ⟨b, off, c2, e, _, _, hbb⟩ := TI.get h hb hk
  simp only [Value.slice.injEq] at e
  obtain ⟨rfl, -, -⟩ := e
  refine ⟨b, off, rfl, hbb, fun u hu => ?_⟩
  obtain ⟨b2, off2, c3, e2, h1, _⟩ := TI.get h (nx hb hu) hk
  simp only [Value.slice.injEq, Option.some.injEq, Addr.mk.injEq] at e2
  obtain ⟨⟨rfl, rfl, _⟩, _, _⟩ := e2
  exact ⟨h1, ext_two h1⟩
set_option maxRecDepth 8000 in
set_option maxHeartbeats 4000000 in
theorem right_any (q : Nat) (l : List Ins) (v : Value) (n : Int) (w : World) (h : TI q l v w) (hm : l.length ≤ 1000000) :
    Calls Try.prog 15 #[v, .int .i64 n] w fun e w' => e = .returned (.bool (rightT l n)) ∧ Below w.heap.size w w' := by
  obtain ⟨a1, c1, rfl⟩ := h.len
  have H := Lib.hid h
  obtain ⟨m, hmm⟩ : ∃ m, l.length = m := ⟨_, rfl⟩
  have HN := Lib.hid hmm
  rw [hmm] at hm ⊢
  obtain ⟨g, hg⟩ : ∃ g, rightT l n = g := ⟨_, rfl⟩
  have HG := Lib.hid hg
  rw [hg]
  clear h hmm hg
  by_cases h1 : 1 ≤ n
  case neg =>
    have d1 : decide (n < 1) = true := decide_eq_true (by omega)
    have HF : Hid (g = false) := Lib.hid (by rw [← HG.out]; exact rightT_no (by omega))
    go_enter Try.func15, Try.ntmps15
    go_wp2
    go_ret
    exact ⟨by rw [HF.out]; rfl, Below.refl _ _⟩
  by_cases h7 : n ≤ 7
  case neg =>
    have d1 : decide (n < 1) = false := decide_eq_false (by omega)
    have d7 : decide (n > 7) = true := decide_eq_true (by omega)
    have HF : Hid (g = false) := Lib.hid (by rw [← HG.out]; exact rightT_no (by omega))
    go_enter Try.func15, Try.ntmps15
    go_wp2
    go_ret
    exact ⟨by rw [HF.out]; rfl, Below.refl _ _⟩
  have d1 : decide (n < 1) = false := decide_eq_false (by omega)
  have d7 : decide (n > 7) = false := decide_eq_false (by omega)
  go_enter Try.func15, Try.ntmps15
  go_wp2
  go_loopw [15] (fun x wr => ∃ k : Nat, k ≤ m ∧ x = .int .i64 k ∧ (∀ j (h : j < l.length), j < k → okI l[j] n = true) ∧ (∀ j (h : j + 1 < l.length), j + 1 < k → lessI l[j] l[j + 1] = true) ∧ Below w.heap.size w wr) (fun x _ => m - (intOf x).toNat)
  case atStart => exact ⟨0, Nat.zero_le _, rfl, fun j _ h => absurd h (Nat.not_lt_zero _), fun j _ h => absurd h (Nat.not_lt_zero _), Below.refl _ _⟩
  case round =>
    obtain ⟨k, hk, rfl, ho, hs, hb⟩ := hrel
    have HO := Lib.hid ho
    have HS := Lib.hid hs
    clear ho hs
    have hsz := hb.size
    by_cases hlt : k < m
    · have hkl : k < l.length := by rw [HN.out]; exact hlt
      have hlt2 : (k : Int) < m := by omega
      obtain ⟨b, off, rfl, hbb, hK⟩ := TI.all H.out hb hkl
      have hx := (hK wr (Below.refl _ _)).1
      obtain ⟨x, hxx⟩ : ∃ x, l[k] = x := ⟨_, rfl⟩
      have HX := Lib.hid hxx
      rw [hxx] at hx
      clear hxx hK
      obtain ⟨V, hV⟩ : ∃ Q_ : World, (wr.alloc (.cells (ci zeroI) 37)).setRow wr.heap.size (ci x) = Q_ := ⟨_, rfl⟩
      have xV : Bx V wr.heap.size (ci x) 37 := hV ▸ Bx.put (Bx.new _ _ _) _
      have bV : Below wr.heap.size wr V := hV ▸ below_setRow (below1 _ _) (Nat.le_refl _) _
      have hplain := (Bx.new wr (ci zeroI) 37).plain (n := 25) rfl
      have bw := nx hb bV
      cases hok : okI x n with
      | false =>
        have HOK := Lib.hid hok
        have HF : Hid (g = false) := Lib.hid (by rw [← HG.out]; exact rightT_no fun h => by have := h.2.1 x (by rw [← HX.out]; exact List.getElem_mem hkl); rw [hok] at this; cases this)
        have hK : ∀ u, Below V.heap.size V u → row u wr.heap.size = ci x := fun u hu => (xV.stays hu).row
        clear hok
        go_wp2
        refine Rg.region (by kernel_rfl) (by kernel_rfl) (by kernel_rfl) (fun _ _ d _ _ h => by cases d <;> exact h) _ rfl ?_
        repeat (first | (refine Rg.Seq.skip (by rfl) ?_; simp only [Act.put, List.setIfInBounds_toArray, List.set_cons_zero, List.set_cons_succ]) | (refine Rg.Seq.pure (v := ?_) (by rfl) ?_ ?_; rotate_left; (intro w_ hS_; have hk_ := hK w_ hS_; go_simp <;> with_reducible rfl); simp only [Act.put, List.setIfInBounds_toArray, List.set_cons_zero, List.set_cons_succ]) | (refine Rg.Seq.call (v := ?_) (f := ?_) (args := ?_) (by rfl) ?_ ?_ ?_; rotate_left 3; (intro w_ hS_; have hk_ := hK w_ hS_; go_simp <;> first | with_reducible rfl | (constructor <;> with_reducible rfl)); (intro w_ hS_; first | (go_at_call 34; refine (Rc.right_is HOK _).mono ?_; rintro e w_ ⟨rfl, hb_⟩; refine ⟨?_, nx hS_ hb_⟩; with_reducible rfl)); simp only [Act.put, List.setIfInBounds_toArray, List.set_cons_zero, List.set_cons_succ]))
        intro w1 hb1
        go_wp2
        go_ret
        exact ⟨by rw [HF.out]; rfl, nx bw hb1⟩
      | true =>
        have HOK := Lib.hid hok
        have HO2 : Hid (∀ j (h : j < l.length), j < k + 1 → okI l[j] n = true) := Lib.hid fun j h hj => by
          by_cases e : j = k
          · subst e; rw [HX.out]; exact hok
          · exact HO.out j h (by omega)
        clear hok
        by_cases hk0 : k = 0
        · subst hk0
          rw [Nat.zero_mul, Nat.add_zero] at hx
          have hK : ∀ u, Below V.heap.size V u → row u wr.heap.size = ci x := fun u hu => (xV.stays hu).row
          go_wp2
          refine Rg.region (by kernel_rfl) (by kernel_rfl) (by kernel_rfl) (fun _ _ d _ _ h => by cases d <;> exact h) _ rfl ?_
          repeat (first | (refine Rg.Seq.skip (by rfl) ?_; simp only [Act.put, List.setIfInBounds_toArray, List.set_cons_zero, List.set_cons_succ]) | (refine Rg.Seq.pure (v := ?_) (by rfl) ?_ ?_; rotate_left; (intro w_ hS_; have hk_ := hK w_ hS_; go_simp <;> with_reducible rfl); simp only [Act.put, List.setIfInBounds_toArray, List.set_cons_zero, List.set_cons_succ]) | (refine Rg.Seq.call (v := ?_) (f := ?_) (args := ?_) (by rfl) ?_ ?_ ?_; rotate_left 3; (intro w_ hS_; have hk_ := hK w_ hS_; go_simp <;> first | with_reducible rfl | (constructor <;> with_reducible rfl)); (intro w_ hS_; first | (go_at_call 34; refine (Rc.right_is HOK _).mono ?_; rintro e w_ ⟨rfl, hb_⟩; refine ⟨?_, nx hS_ hb_⟩; with_reducible rfl)); simp only [Act.put, List.setIfInBounds_toArray, List.set_cons_zero, List.set_cons_succ]))
          intro w1 hb1
          go_wp2
          go_roundw
          case rel => exact ⟨1, by omega, by go_num, HO2.out, fun j _ h => absurd h (by omega), nx bw hb1⟩
          case measure => simp [intOf]; omega
        · obtain ⟨j, rfl⟩ : ∃ j, k = j + 1 := ⟨k - 1, by omega⟩
          have hjl : j < l.length := by omega
          obtain ⟨b2, off2, e2, hbb2, hK2⟩ := TI.all H.out bw hjl
          simp only [Option.some.injEq, Addr.mk.injEq] at e2
          obtain ⟨rfl, rfl, _⟩ := e2
          obtain ⟨y, hyy⟩ : ∃ y, l[j] = y := ⟨_, rfl⟩
          have HY := Lib.hid hyy
          rw [hyy] at hK2
          clear hyy
          have hj0 : decide (((j + 1 : Nat) : Int) > 0) = true := decide_eq_true (by omega)
          have hj1 : wrap64 (((j + 1 : Nat) : Int) - 1) = (j : Int) := by rw [IntWalk.wrap64_in _ (by omega)]; omega
          have hj3 : IntKind.i64.wrap (j : Int) = j := IntWalk.i64_in _ (by omega)
          have hj2 : ((j + 1 : Nat) : Int) - 1 = (j : Int) := by omega
          have hjm : (j : Int) < m := by omega
          have hK : ∀ u, Below V.heap.size V u → row u wr.heap.size = ci x ∧ (row u b).extract (off + j * 25) (off + j * 25 + 2) = #[.int .i64 y.pr, .int .i64 y.ps] := fun u hu => ⟨(xV.stays hu).row, (hK2 u hu).2⟩
          cases hl : lessI y x with
          | true =>
            have HL : Hid (lessP y.pr y.ps x.pr x.ps = true) := Lib.hid hl
            have HS2 : Hid (∀ i (h : i + 1 < l.length), i + 1 < j + 1 + 1 → lessI l[i] l[i + 1] = true) := Lib.hid fun i h hi => by
              by_cases e : i = j
              · subst e; rw [HX.out, HY.out]; exact hl
              · exact HS.out i h (by omega)
            clear hl hK2
            go_wp2
            refine Rg.region (by kernel_rfl) (by kernel_rfl) (by kernel_rfl) (fun _ _ d _ _ h => by cases d <;> exact h) _ rfl ?_
            repeat (first | (refine Rg.Seq.skip (by rfl) ?_; simp only [Act.put, List.setIfInBounds_toArray, List.set_cons_zero, List.set_cons_succ]) | (refine Rg.Seq.pure (v := ?_) (by rfl) ?_ ?_; rotate_left; (intro w_ hS_; have hk_ := hK w_ hS_; go_simp <;> with_reducible rfl); simp only [Act.put, List.setIfInBounds_toArray, List.set_cons_zero, List.set_cons_succ]) | (refine Rg.Seq.call (v := ?_) (f := ?_) (args := ?_) (by rfl) ?_ ?_ ?_; rotate_left 3; (intro w_ hS_; have hk_ := hK w_ hS_; go_simp <;> first | with_reducible rfl | (constructor <;> with_reducible rfl)); (intro w_ hS_; first | (go_at_call 34; refine (Rc.right_is HOK _).mono ?_; rintro e w_ ⟨rfl, hb_⟩; refine ⟨?_, nx hS_ hb_⟩; with_reducible rfl) | (go_at_call 35; refine (less_is HL _).mono ?_; rintro e w_ ⟨rfl, hb_⟩; refine ⟨?_, nx hS_ hb_⟩; with_reducible rfl)); simp only [Act.put, List.setIfInBounds_toArray, List.set_cons_zero, List.set_cons_succ]))
            intro w1 hb1
            go_wp2
            go_roundw
            case rel => exact ⟨j + 1 + 1, by omega, by go_num, HO2.out, HS2.out, nx bw hb1⟩
            case measure => simp [intOf]; omega
          | false =>
            have HL : Hid (lessP y.pr y.ps x.pr x.ps = false) := Lib.hid hl
            have HF : Hid (g = false) := Lib.hid (by
              rw [← HG.out]
              refine rightT_no fun h => ?_
              have := srt_two h.2.2 hjl hkl (by omega)
              rw [HX.out, HY.out, hl] at this; cases this)
            clear hl hK2
            go_wp2
            refine Rg.region (by kernel_rfl) (by kernel_rfl) (by kernel_rfl) (fun _ _ d _ _ h => by cases d <;> exact h) _ rfl ?_
            repeat (first | (refine Rg.Seq.skip (by rfl) ?_; simp only [Act.put, List.setIfInBounds_toArray, List.set_cons_zero, List.set_cons_succ]) | (refine Rg.Seq.pure (v := ?_) (by rfl) ?_ ?_; rotate_left; (intro w_ hS_; have hk_ := hK w_ hS_; go_simp <;> with_reducible rfl); simp only [Act.put, List.setIfInBounds_toArray, List.set_cons_zero, List.set_cons_succ]) | (refine Rg.Seq.call (v := ?_) (f := ?_) (args := ?_) (by rfl) ?_ ?_ ?_; rotate_left 3; (intro w_ hS_; have hk_ := hK w_ hS_; go_simp <;> first | with_reducible rfl | (constructor <;> with_reducible rfl)); (intro w_ hS_; first | (go_at_call 34; refine (Rc.right_is HOK _).mono ?_; rintro e w_ ⟨rfl, hb_⟩; refine ⟨?_, nx hS_ hb_⟩; with_reducible rfl) | (go_at_call 35; refine (less_is HL _).mono ?_; rintro e w_ ⟨rfl, hb_⟩; refine ⟨?_, nx hS_ hb_⟩; with_reducible rfl)); simp only [Act.put, List.setIfInBounds_toArray, List.set_cons_zero, List.set_cons_succ]))
            intro w1 hb1
            go_wp2
            go_ret
            exact ⟨by rw [HF.out]; rfl, nx bw hb1⟩
    · obtain rfl : k = m := by omega
      have HF : Hid (g = true) := Lib.hid (by
        rw [← HG.out]
        refine rightT_iff.2 ⟨⟨h1, h7⟩, fun i hi => ?_, srt_next fun j h => HS.out j h (by rw [← HN.out]; exact h)⟩
        obtain ⟨j, hj, rfl⟩ := List.getElem_of_mem hi
        exact HO.out j hj (by rw [← HN.out]; exact hj))
      go_wp2
      go_ret
      exact ⟨by rw [HF.out]; rfl, hb⟩
theorem right_is {q : Nat} {l : List Ins} {n : Int} {g : Bool} (H : Hid (rightT l n = g)) (v : Value) (w : World) (h : TI q l v w) (hm : l.length ≤ 1000000) :
    Calls Try.prog 15 #[v, .int .i64 n] w fun e w' => e = .returned (.bool g) ∧ Below w.heap.size w w' := by
  rw [← H.out]; exact right_any q l v n w h hm
end Go.Proofs.Ytmaecknjamnnpaa.In
