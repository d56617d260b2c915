/- Layer 19: the document's own Less, Get, Right, Depends of layer 18. -/
import Derived.Test.YtmaecknjamnnpaaInD
import Derived.Test.YtmaecknjamnnpaaRcF
import Derived.Test.YtmaecknjamnnpaaRcK
namespace Go.Proofs.Ytmaecknjamnnpaa.An
open Go.RowKit
set_option linter.unusedVariables false
open Go.Proofs.Ytmaecknjamnnpaa.Rw
open Go.Proofs.Ytmaecknjamnnpaa.Da
open Go.Proofs.Ytmaecknjamnnpaa.Bv
open Go.Proofs.Ytmaecknjamnnpaa.In
open Go.Proofs.Ytmaecknjamnnpaa.Rc (Ins ci zeroI okI)
open Go.Proofs.Ytmaecknjamnnpaa.St
open Go.Proofs.Ytmaecknjamnnpaa.Cm (meetB)
open Go.Proofs.Ytmaecknjamnnpaa.Ve (zeroV raiseV)
set_option maxHeartbeats 800000 in
theorem rLess_any (a b c d : Int) (w : World) : Calls Try.prog 45 #[.agg #[.int .i64 a, .int .i64 b], .agg #[.int .i64 c, .int .i64 d]] w fun e w' => e = .returned (.bool (lessP a b c d)) ∧ Below w.heap.size w w' := by
  by_cases h : a = c
  · have h1 : (a != c) = false := by simpa using h
    have H : Hid (lessP a b c d = decide (b < d)) := Lib.hid (by
      rw [Bool.eq_iff_iff, lessP_iff, decide_eq_true_eq]; omega)
    rw [H.out]
    clear h
    go_enter Try.func45, Try.ntmps45
    go_wp2
    go_ret
    exact ⟨rfl, below2 _ _ _⟩
  · have h1 : (a != c) = true := by simpa using h
    have H : Hid (lessP a b c d = decide (a < c)) := Lib.hid (by
      rw [Bool.eq_iff_iff, lessP_iff, decide_eq_true_eq]; omega)
    rw [H.out]
    clear h
    go_enter Try.func45, Try.ntmps45
    go_wp2
    go_ret
    exact ⟨rfl, below2 _ _ _⟩
theorem rLess_is {a b c d : Int} {x : Bool} (H : Hid (lessP a b c d = x)) (w : World) : Calls Try.prog 45 #[.agg #[.int .i64 a, .int .i64 b], .agg #[.int .i64 c, .int .i64 d]] w fun e w' => e = .returned (.bool x) ∧ Below w.heap.size w w' := by
  rw [← H.out]; exact rLess_any a b c d w
set_option maxRecDepth 8000 in
set_option maxHeartbeats 4000000 in
theorem rGet_any (q : Nat) (l : List Ins) (v : Value) (r s : Int) (w : World) (h : TI q l v w) (hm : l.length ≤ 1000000) :
    Calls Try.prog 27 #[v, .agg #[.int .i64 r, .int .i64 s]] w fun e w' => e = .returned (.tuple #[.agg (ci (gotI l r s)), .bool (hasI l r s)]) ∧ Below w.heap.size w w' := by
  obtain ⟨a1, c1, rfl⟩ := h.len
  have H := Lib.hid h
  obtain ⟨m, hmm⟩ : ∃ m, l.length = m := ⟨_, rfl⟩
  have HN := Lib.hid hmm
  rw [hmm] at hm ⊢
  obtain ⟨g, hg⟩ : ∃ g, gotI l r s = g := ⟨_, rfl⟩
  obtain ⟨is, hi⟩ : ∃ g, hasI l r s = g := ⟨_, rfl⟩
  have HG := Lib.hid hg
  have HI := Lib.hid hi
  rw [hg, hi]
  obtain ⟨X, hX⟩ : ∃ Q_ : World, w.alloc (.cells #[.int .i64 r, .int .i64 s] 24) = Q_ := ⟨_, rfl⟩
  have bX : Below w.heap.size w X := hX ▸ below1 w _
  have xX : Bx X w.heap.size #[.int .i64 r, .int .i64 s] 24 := hX ▸ Bx.new _ _ _
  obtain ⟨U, hU⟩ : ∃ Q_ : World, X.alloc (.cells (ci zeroI) 37) = Q_ := ⟨_, rfl⟩
  have bU : Below w.heap.size w U := nx bX (hU ▸ below1 X _)
  have xU : Bx U w.heap.size #[.int .i64 r, .int .i64 s] 24 := xX.stays (hU ▸ below1 X _)
  have oU : Bx U X.heap.size (ci zeroI) 37 := hU ▸ Bx.new _ _ _
  have hwX : w.heap.size < X.heap.size := xX.lt
  have hXU : X.heap.size < U.heap.size := oU.lt
  have HwX := Lib.hid hwX
  clear h hmm hg hi
  go_enter Try.func27, Try.ntmps27
  go_wp2
  go_loopw [10] (fun x wr => ∃ k : Nat, k ≤ m ∧ x = .int .i64 k ∧ (∀ j (h : j < l.length), j < k → atP l[j] r s = false) ∧ Below U.heap.size U wr) (fun x _ => m - (intOf x).toNat)
  case atStart => exact ⟨0, Nat.zero_le _, rfl, fun j _ h => absurd h (Nat.not_lt_zero _), Below.refl _ _⟩
  case round =>
    obtain ⟨k, hk, rfl, h0, hb⟩ := hrel
    have H0 := Lib.hid h0
    clear h0
    have xr := xU.low hb (by omega)
    have or := oU.low hb hXU
    have bw := nx bU hb
    have rx := xr.row
    have po := or.plain (n := 25) rfl
    have hsz := hb.size
    by_cases hlt : k < m
    · have hkl : k < l.length := by rw [HN.out]; exact hlt
      have hlt2 : (k : Int) < m := by omega
      obtain ⟨b, off, c, e, hx, _, hbb⟩ := TI.get H.out bw hkl
      rw [HN.out] at e
      simp only [Value.slice.injEq] at e
      obtain ⟨rfl, -, rfl⟩ := e
      obtain ⟨x, hxx⟩ : ∃ x, l[k] = x := ⟨_, rfl⟩
      have HX := Lib.hid hxx
      rw [hxx] at hx
      clear hxx
      obtain ⟨V, hV⟩ : ∃ Q_ : World, (wr.alloc (.cells (ci zeroI) 37)).setRow wr.heap.size (ci x) = Q_ := ⟨_, rfl⟩
      have xV : Bx V wr.heap.size (ci x) 37 := hV ▸ Bx.put (Bx.new _ _ _) _
      have bV : Below wr.heap.size wr V := hV ▸ below_setRow (below1 _ _) (Nat.le_refl _) _
      have hplain := (Bx.new wr (ci zeroI) 37).plain (n := 25) rfl
      have r1 := xV.row
      have r2 := (xr.stays bV).row
      have o2 := or.stays bV
      have p2 := o2.plain (n := 25) rfl
      cases hat : atP x r s with
      | true =>
        have hq : (x.pr == r && x.ps == s) = true := hat
        have HR := Lib.hid (got_at hkl H0.out (by rw [HX.out]; exact hat))
        rw [HG.out, HI.out, HX.out] at HR
        clear hat
        go_wp2
        exact bodyPost_ret (v := .tuple #[.agg (ci x), .bool true]) (Rc.ret_I2 Try.results27 _ _ x (o2.put (ci x)).row) rfl ⟨by rw [HR.out.1, HR.out.2], below_setRow (nx bw bV) (Nat.le_of_lt hwX) _⟩
      | false =>
        have hq : (x.pr == r && x.ps == s) = false := hat
        have HE : Hid (∀ j (h : j < l.length), j < k + 1 → atP l[j] r s = false) := Lib.hid fun j h hj => by
          by_cases e : j = k
          · subst e; rw [HX.out]; exact hat
          · exact H0.out j h (by omega)
        clear hat
        go_wp2
        go_roundw
        case rel => exact ⟨k + 1, by omega, by go_num, HE.out, hb.trans (bV.mono hsz)⟩
        case measure => simp [intOf]; omega
    · obtain rfl : k = m := by omega
      have HR := Lib.hid (got_no fun j hj => H0.out j hj (by rw [← HN.out]; exact hj))
      rw [HG.out, HI.out] at HR
      go_wp2
      exact bodyPost_ret (v := .tuple #[.agg (ci (placeI r s)), .bool false]) (Rc.ret_I2 Try.results27 _ _ (placeI r s) (or.put (ci (placeI r s))).row) rfl ⟨by rw [HR.out.1, HR.out.2], below_setRow bw (Nat.le_of_lt hwX) _⟩
theorem rGet_is {q : Nat} {l : List Ins} {r s : Int} {g : Ins} {b : Bool} (H : Hid (gotI l r s = g ∧ hasI l r s = b)) (v : Value) (w : World) (h : TI q l v w) (hm : l.length ≤ 1000000) :
    Calls Try.prog 27 #[v, .agg #[.int .i64 r, .int .i64 s]] w fun e w' => e = .returned (.tuple #[.agg (ci g), .bool b]) ∧ Below w.heap.size w w' := by
  rw [← H.out.1, ← H.out.2]; exact rGet_any q l v r s w h hm
set_option maxRecDepth 8000 in
set_option maxHeartbeats 4000000 in
theorem rRightL_any (q : Nat) (l : List Ins) (v : Value) (n : Int) (w : World) (h : TI q l v w) (hm : l.length ≤ 1000000) :
    Calls Try.prog 28 #[v, .int .i64 n] w fun e w' => e = .returned (.bool (rightT l n)) ∧ Below w.heap.size w w' := by
  obtain ⟨a1, c1, rfl⟩ := h.len
  have H := Lib.hid h
  obtain ⟨m, hmm⟩ : ∃ m, l.length = m := ⟨_, rfl⟩
  have HN := Lib.hid hmm
  rw [hmm] at hm ⊢
  obtain ⟨g, hg⟩ : ∃ g, rightT l n = g := ⟨_, rfl⟩
  have HG := Lib.hid hg
  rw [hg]
  clear h hmm hg
  go_enter Try.func28, Try.ntmps28
  go_wp2
  go_loopw [9] (fun x wr => ∃ k : Nat, k ≤ m ∧ x = .int .i64 k ∧ (∀ j (h : j < l.length), j < k → okI l[j] n = true) ∧ (∀ j (h : j + 1 < l.length), j + 1 < k → lessI l[j] l[j + 1] = true) ∧ Below w.heap.size w wr) (fun x _ => m - (intOf x).toNat)
  case atStart => exact ⟨0, Nat.zero_le _, rfl, fun j _ h => absurd h (Nat.not_lt_zero _), fun j _ h => absurd h (Nat.not_lt_zero _), Below.refl _ _⟩
  case round =>
    obtain ⟨k, hk, rfl, ho, hs, hb⟩ := hrel
    have HO := Lib.hid ho
    have HS := Lib.hid hs
    clear ho hs
    have hsz := hb.size
    by_cases hlt : k < m
    · have hkl : k < l.length := by rw [HN.out]; exact hlt
      have hlt2 : (k : Int) < m := by omega
      obtain ⟨b, off, rfl, hbb, hK⟩ := TI.all H.out hb hkl
      have hx := (hK wr (Below.refl _ _)).1
      obtain ⟨x, hxx⟩ : ∃ x, l[k] = x := ⟨_, rfl⟩
      have HX := Lib.hid hxx
      rw [hxx] at hx
      clear hxx hK
      obtain ⟨V, hV⟩ : ∃ Q_ : World, (wr.alloc (.cells (ci zeroI) 37)).setRow wr.heap.size (ci x) = Q_ := ⟨_, rfl⟩
      have xV : Bx V wr.heap.size (ci x) 37 := hV ▸ Bx.put (Bx.new _ _ _) _
      have bV : Below wr.heap.size wr V := hV ▸ below_setRow (below1 _ _) (Nat.le_refl _) _
      have hplain := (Bx.new wr (ci zeroI) 37).plain (n := 25) rfl
      have bw := nx hb bV
      cases hok : okI x n with
      | false =>
        have HOK := Lib.hid hok
        have HF : Hid (g = false) := Lib.hid (by rw [← HG.out]; exact rightT_no fun h => by have := h.2.1 x (by rw [← HX.out]; exact List.getElem_mem hkl); rw [hok] at this; cases this)
        have hK : ∀ u, Below V.heap.size V u → row u wr.heap.size = ci x := fun u hu => (xV.stays hu).row
        clear hok
        go_wp2
        refine Rg.region (by kernel_rfl) (by kernel_rfl) (by kernel_rfl) (fun _ _ d _ _ h => by cases d <;> exact h) _ rfl ?_
        repeat (first | (refine Rg.Seq.skip (by rfl) ?_; simp only [Act.put, List.setIfInBounds_toArray, List.set_cons_zero, List.set_cons_succ]) | (refine Rg.Seq.pure (v := ?_) (by rfl) ?_ ?_; rotate_left; (intro w_ hS_; have hk_ := hK w_ hS_; go_simp <;> with_reducible rfl); simp only [Act.put, List.setIfInBounds_toArray, List.set_cons_zero, List.set_cons_succ]) | (refine Rg.Seq.call (v := ?_) (f := ?_) (args := ?_) (by rfl) ?_ ?_ ?_; rotate_left 3; (intro w_ hS_; have hk_ := hK w_ hS_; go_simp <;> first | with_reducible rfl | (constructor <;> with_reducible rfl)); (intro w_ hS_; first | (go_at_call 29; refine (Rc.rRight_is HOK _).mono ?_; rintro e w_ ⟨rfl, hb_⟩; refine ⟨?_, nx hS_ hb_⟩; with_reducible rfl)); simp only [Act.put, List.setIfInBounds_toArray, List.set_cons_zero, List.set_cons_succ]))
        intro w1 hb1
        go_wp2
        go_ret
        exact ⟨by rw [HF.out]; rfl, nx bw hb1⟩
      | true =>
        have HOK := Lib.hid hok
        have HO2 : Hid (∀ j (h : j < l.length), j < k + 1 → okI l[j] n = true) := Lib.hid fun j h hj => by
          by_cases e : j = k
          · subst e; rw [HX.out]; exact hok
          · exact HO.out j h (by omega)
        clear hok
        by_cases hk0 : k = 0
        · subst hk0
          rw [Nat.zero_mul, Nat.add_zero] at hx
          have hK : ∀ u, Below V.heap.size V u → row u wr.heap.size = ci x := fun u hu => (xV.stays hu).row
          go_wp2
          refine Rg.region (by kernel_rfl) (by kernel_rfl) (by kernel_rfl) (fun _ _ d _ _ h => by cases d <;> exact h) _ rfl ?_
          repeat (first | (refine Rg.Seq.skip (by rfl) ?_; simp only [Act.put, List.setIfInBounds_toArray, List.set_cons_zero, List.set_cons_succ]) | (refine Rg.Seq.pure (v := ?_) (by rfl) ?_ ?_; rotate_left; (intro w_ hS_; have hk_ := hK w_ hS_; go_simp <;> with_reducible rfl); simp only [Act.put, List.setIfInBounds_toArray, List.set_cons_zero, List.set_cons_succ]) | (refine Rg.Seq.call (v := ?_) (f := ?_) (args := ?_) (by rfl) ?_ ?_ ?_; rotate_left 3; (intro w_ hS_; have hk_ := hK w_ hS_; go_simp <;> first | with_reducible rfl | (constructor <;> with_reducible rfl)); (intro w_ hS_; first | (go_at_call 29; refine (Rc.rRight_is HOK _).mono ?_; rintro e w_ ⟨rfl, hb_⟩; refine ⟨?_, nx hS_ hb_⟩; with_reducible rfl)); simp only [Act.put, List.setIfInBounds_toArray, List.set_cons_zero, List.set_cons_succ]))
          intro w1 hb1
          go_wp2
          go_roundw
          case rel => exact ⟨1, by omega, by go_num, HO2.out, fun j _ h => absurd h (by omega), nx bw hb1⟩
          case measure => simp [intOf]; omega
        · obtain ⟨j, rfl⟩ : ∃ j, k = j + 1 := ⟨k - 1, by omega⟩
          have hjl : j < l.length := by omega
          obtain ⟨b2, off2, e2, hbb2, hK2⟩ := TI.all H.out bw hjl
          simp only [Option.some.injEq, Addr.mk.injEq] at e2
          obtain ⟨rfl, rfl, _⟩ := e2
          obtain ⟨y, hyy⟩ : ∃ y, l[j] = y := ⟨_, rfl⟩
          have HY := Lib.hid hyy
          rw [hyy] at hK2
          clear hyy
          have hj0 : decide (((j + 1 : Nat) : Int) > 0) = true := decide_eq_true (by omega)
          have hj1 : wrap64 (((j + 1 : Nat) : Int) - 1) = (j : Int) := by rw [IntWalk.wrap64_in _ (by omega)]; omega
          have hj3 : IntKind.i64.wrap (j : Int) = j := IntWalk.i64_in _ (by omega)
          have hj2 : ((j + 1 : Nat) : Int) - 1 = (j : Int) := by omega
          have hjm : (j : Int) < m := by omega
          have hK : ∀ u, Below V.heap.size V u → row u wr.heap.size = ci x ∧ (row u b).extract (off + j * 25) (off + j * 25 + 2) = #[.int .i64 y.pr, .int .i64 y.ps] := fun u hu => ⟨(xV.stays hu).row, (hK2 u hu).2⟩
          cases hl : lessI y x with
          | true =>
            have HL : Hid (lessP y.pr y.ps x.pr x.ps = true) := Lib.hid hl
            have HS2 : Hid (∀ i (h : i + 1 < l.length), i + 1 < j + 1 + 1 → lessI l[i] l[i + 1] = true) := Lib.hid fun i h hi => by
              by_cases e : i = j
              · subst e; rw [HX.out, HY.out]; exact hl
              · exact HS.out i h (by omega)
            clear hl hK2
            go_wp2
            refine Rg.region (by kernel_rfl) (by kernel_rfl) (by kernel_rfl) (fun _ _ d _ _ h => by cases d <;> exact h) _ rfl ?_
            repeat (first | (refine Rg.Seq.skip (by rfl) ?_; simp only [Act.put, List.setIfInBounds_toArray, List.set_cons_zero, List.set_cons_succ]) | (refine Rg.Seq.pure (v := ?_) (by rfl) ?_ ?_; rotate_left; (intro w_ hS_; have hk_ := hK w_ hS_; go_simp <;> with_reducible rfl); simp only [Act.put, List.setIfInBounds_toArray, List.set_cons_zero, List.set_cons_succ]) | (refine Rg.Seq.call (v := ?_) (f := ?_) (args := ?_) (by rfl) ?_ ?_ ?_; rotate_left 3; (intro w_ hS_; have hk_ := hK w_ hS_; go_simp <;> first | with_reducible rfl | (constructor <;> with_reducible rfl)); (intro w_ hS_; first | (go_at_call 29; refine (Rc.rRight_is HOK _).mono ?_; rintro e w_ ⟨rfl, hb_⟩; refine ⟨?_, nx hS_ hb_⟩; with_reducible rfl) | (go_at_call 45; refine (rLess_is HL _).mono ?_; rintro e w_ ⟨rfl, hb_⟩; refine ⟨?_, nx hS_ hb_⟩; with_reducible rfl)); simp only [Act.put, List.setIfInBounds_toArray, List.set_cons_zero, List.set_cons_succ]))
            intro w1 hb1
            go_wp2
            go_roundw
            case rel => exact ⟨j + 1 + 1, by omega, by go_num, HO2.out, HS2.out, nx bw hb1⟩
            case measure => simp [intOf]; omega
          | false =>
            have HL : Hid (lessP y.pr y.ps x.pr x.ps = false) := Lib.hid hl
            have HF : Hid (g = false) := Lib.hid (by
              rw [← HG.out]
              refine rightT_no fun h => ?_
              have := srt_two h.2.2 hjl hkl (by omega)
              rw [HX.out, HY.out, hl] at this; cases this)
            clear hl hK2
            go_wp2
            refine Rg.region (by kernel_rfl) (by kernel_rfl) (by kernel_rfl) (fun _ _ d _ _ h => by cases d <;> exact h) _ rfl ?_
            repeat (first | (refine Rg.Seq.skip (by rfl) ?_; simp only [Act.put, List.setIfInBounds_toArray, List.set_cons_zero, List.set_cons_succ]) | (refine Rg.Seq.pure (v := ?_) (by rfl) ?_ ?_; rotate_left; (intro w_ hS_; have hk_ := hK w_ hS_; go_simp <;> with_reducible rfl); simp only [Act.put, List.setIfInBounds_toArray, List.set_cons_zero, List.set_cons_succ]) | (refine Rg.Seq.call (v := ?_) (f := ?_) (args := ?_) (by rfl) ?_ ?_ ?_; rotate_left 3; (intro w_ hS_; have hk_ := hK w_ hS_; go_simp <;> first | with_reducible rfl | (constructor <;> with_reducible rfl)); (intro w_ hS_; first | (go_at_call 29; refine (Rc.rRight_is HOK _).mono ?_; rintro e w_ ⟨rfl, hb_⟩; refine ⟨?_, nx hS_ hb_⟩; with_reducible rfl) | (go_at_call 45; refine (rLess_is HL _).mono ?_; rintro e w_ ⟨rfl, hb_⟩; refine ⟨?_, nx hS_ hb_⟩; with_reducible rfl)); simp only [Act.put, List.setIfInBounds_toArray, List.set_cons_zero, List.set_cons_succ]))
            intro w1 hb1
            go_wp2
            go_ret
            exact ⟨by rw [HF.out]; rfl, nx bw hb1⟩
    · obtain rfl : k = m := by omega
      have HA := Lib.hid (And.intro (fun (i : Ins) (hi : i ∈ l) => by
        obtain ⟨j, hj, rfl⟩ := List.getElem_of_mem hi
        exact HO.out j hj (by rw [← HN.out]; exact hj) : ∀ i ∈ l, okI i n = true) (srt_next fun j h => HS.out j h (by rw [← HN.out]; exact h)))
      by_cases h1 : 1 ≤ n
      · have d1 : decide (n ≥ 1) = true := decide_eq_true h1
        obtain ⟨b, hb7⟩ : ∃ b, decide (n ≤ 7) = b := ⟨_, rfl⟩
        have HF : Hid (g = b) := Lib.hid (by
          rw [← HG.out, ← hb7]
          by_cases h7 : n ≤ 7
          · rw [decide_eq_true h7]; exact rightT_iff.2 ⟨⟨h1, h7⟩, HA.out.1, HA.out.2⟩
          · rw [decide_eq_false h7]; exact rightT_no fun e => h7 e.1.2)
        clear h1
        go_wp2
        go_ret
        exact ⟨by rw [HF.out]; rfl, hb⟩
      · have d1 : decide (n ≥ 1) = false := decide_eq_false (by omega)
        have HF : Hid (g = false) := Lib.hid (by rw [← HG.out]; exact rightT_no fun e => h1 e.1.1)
        clear h1
        go_wp2
        go_ret
        exact ⟨by rw [HF.out]; rfl, hb⟩
theorem rRightL_is {q : Nat} {l : List Ins} {n : Int} {g : Bool} (H : Hid (rightT l n = g)) (v : Value) (w : World) (h : TI q l v w) (hm : l.length ≤ 1000000) :
    Calls Try.prog 28 #[v, .int .i64 n] w fun e w' => e = .returned (.bool g) ∧ Below w.heap.size w w' := by
  rw [← H.out]; exact rRightL_any q l v n w h hm
theorem rMeets_is {a b : Nat → Int} {r : Bool} (h : Hid (meetB a b = r)) (w : World) :
    Calls Try.prog 60 #[.agg (Cm.fc a), .agg (Cm.fc b)] w fun e w' => e = .returned (.bool r) ∧ Below w.heap.size w w' := by
  rw [← h.out]; exact Cm.rMeets_any a b w
theorem rRaise_is {v : Nat → Int} {r s : Int} {x : Nat → Int} (h : Hid (raiseV v r s = x)) (w : World) :
    Calls Try.prog 61 #[.agg (Ve.fc v), .agg #[.int .i64 r, .int .i64 s]] w fun e w' => e = .returned (.agg (Ve.fc x)) ∧ Below w.heap.size w w' := by
  rw [← h.out]; exact Ve.rRaise_any v r s w
set_option maxRecDepth 16000 in
set_option maxHeartbeats 8000000 in
theorem rDepends_any (q : Nat) (l : List Ins) (v : Value) (c : Nat → Int) (r s : Int) (w : World) (h : TI q l v w) (hm : l.length ≤ 1000000) :
    Calls Try.prog 49 #[v, .agg (Cm.fc c), .agg #[.int .i64 r, .int .i64 s]] w fun e w' => e = .returned (.tuple #[.int .i64 (depN l c r s), .agg (Ve.fc (depV l c r s))]) ∧ Below w.heap.size w w' := by
  obtain ⟨a1, c1, rfl⟩ := h.len
  have H := Lib.hid h
  obtain ⟨m, hmm⟩ : ∃ m, l.length = m := ⟨_, rfl⟩
  have HN := Lib.hid hmm
  rw [hmm] at hm ⊢
  obtain ⟨gn, hgn⟩ : ∃ g, depN l c r s = g := ⟨_, rfl⟩
  obtain ⟨gv, hgv⟩ : ∃ g, depV l c r s = g := ⟨_, rfl⟩
  have HGn := Lib.hid hgn
  have HGv := Lib.hid hgv
  rw [hgn, hgv]
  obtain ⟨C, hC⟩ : ∃ Q_ : World, w.alloc (.cells (Cm.fc c) 28) = Q_ := ⟨_, rfl⟩
  have bC : Below w.heap.size w C := hC ▸ below1 w _
  have xC : Bx C w.heap.size (Cm.fc c) 28 := hC ▸ Bx.new _ _ _
  obtain ⟨X, hX⟩ : ∃ Q_ : World, C.alloc (.cells #[.int .i64 r, .int .i64 s] 24) = Q_ := ⟨_, rfl⟩
  have bX : Below C.heap.size C X := hX ▸ below1 C _
  have pX : Bx X C.heap.size #[.int .i64 r, .int .i64 s] 24 := hX ▸ Bx.new _ _ _
  obtain ⟨R, hR⟩ : ∃ Q_ : World, X.alloc (.cells (Ve.fc zeroV) 30) = Q_ := ⟨_, rfl⟩
  have bR : Below X.heap.size X R := hR ▸ below1 X _
  have rR : Bx R X.heap.size (Ve.fc zeroV) 30 := hR ▸ Bx.new _ _ _
  have pR := pX.stays bR
  have xR := (xC.stays bX).stays bR
  have hwR := nx (nx bC bX) bR
  have l1 : w.heap.size < C.heap.size := xC.lt
  have l2 : C.heap.size < X.heap.size := pX.lt
  have l3 : X.heap.size < R.heap.size := rR.lt
  have L1 := Lib.hid l1
  have L2 := Lib.hid l2
  have L3 := Lib.hid l3
  have kc : R.cell? ⟨w.heap.size, 2, none⟩ = some (.int .i64 (c 2)) := by rw [xR.cell]; exact Cm.fc_at c 2 (by decide)
  have rp := bx_vplain rR (Ve.fc_size _)
  clear h hmm hgn hgv xC pX bC bX bR
  obtain ⟨Z, hZ⟩ : ∃ Q_ : World, R.alloc (.cells (Ve.fc zeroV) 30) = Q_ := ⟨_, rfl⟩
  have zZ : Bx Z R.heap.size (Ve.fc zeroV) 30 := hZ ▸ Bx.new _ _ _
  have bZ : Below R.heap.size R Z := hZ ▸ below1 _ _
  have hRZ : R.heap.size < Z.heap.size := zZ.lt
  have rZ := rR.stays bZ
  have kcZ : Z.cell? ⟨w.heap.size, 2, none⟩ = some (.int .i64 (c 2)) := by rw [(xR.stays bZ).cell]; exact Cm.fc_at c 2 (by decide)
  by_cases h0 : c 2 = 0
  · have e0 : (c 2 == 0) = true := by simpa using h0
    have HF : Hid (gn = 0 ∧ gv = zeroV) := Lib.hid ⟨by rw [← HGn.out]; unfold depN; rw [if_pos h0], by rw [← HGv.out]; unfold depV; rw [if_pos h0]⟩
    clear h0 kc rp
    have hdZ : Below Z.heap.size Z Z.drew := (Below.refl _ _).drew
    have rZd := rZ.stays hdZ
    have rpZ := bx_vplain rZ (Ve.fc_size _)
    have rzZ := bx_vrow zZ
    have hbZ := (nx hwR bZ).trans (hdZ.mono (by have := L1.out; have := L2.out; have := L3.out; omega))
    go_enter Try.func49, Try.ntmps49
    go_wp2
    go_region
    go_wp2
    exact bodyPost_ret (v := .tuple #[.int .i64 0, .agg (Ve.fc zeroV)]) (ret_QD Try.results49 _ _ (rZd.put (Ve.fc zeroV)).row) rfl ⟨by rw [HF.out.1, HF.out.2], below_setRow hbZ (by have := L1.out; have := L2.out; omega) _⟩
  have e0 : (c 2 == 0) = false := by simpa using h0
  have HF0 := Lib.hid h0
  clear h0 kc rp rZ
  go_enter Try.func49, Try.ntmps49
  go_wp2
  go_loopw [8, 18] (fun n x wr => ∃ k : Nat, k ≤ m ∧ x = .int .i64 k ∧ n = .int .i64 (grQ (l.take k) c r s) ∧ Bx wr R.heap.size (Ve.fc (grD (l.take k) c r s)) 30 ∧ Below R.heap.size R wr) (fun _ x _ => m - (intOf x).toNat)
  case atStart => exact ⟨0, Nat.zero_le _, rfl, rfl, zZ, bZ⟩
  case round =>
    obtain ⟨k, hk, rfl, rfl, hd, hb⟩ := hrel
    have bw := nx hwR hb
    have hsz : R.heap.size < wr.heap.size := hd.lt
    have xr := xR.low hb (by have := L1.out; have := L2.out; have := L3.out; omega)
    have pr := pR.low hb (by have := L2.out; have := L3.out; omega)
    have rr := rR.low hb L3.out
    obtain ⟨n, hn⟩ : ∃ n, grQ (l.take k) c r s = n := ⟨_, rfl⟩
    obtain ⟨d, hdd⟩ : ∃ d, grD (l.take k) c r s = d := ⟨_, rfl⟩
    have hnb := grQ_bd (l.take k) c r s
    rw [hn] at hnb ⊢
    rw [hdd] at hd
    have HNn := Lib.hid hn
    have HDd := Lib.hid hdd
    have hn0 := hnb.1
    have hn1 := hnb.2
    clear hn hdd hnb
    by_cases hlt : k < m
    · have hkl : k < l.length := by rw [HN.out]; exact hlt
      have hlt2 : (k : Int) < m := by omega
      obtain ⟨b, off, rfl, hbb, hK0⟩ := TI.all H.out bw hkl
      have hx := (hK0 wr (Below.refl _ _)).1
      have hqt := grQ_take hkl c r s
      have hdt := grD_take hkl c r s
      rw [HNn.out] at hqt
      rw [HDd.out] at hdt
      obtain ⟨x, hxx⟩ : ∃ x, l[k] = x := ⟨_, rfl⟩
      rw [hxx] at hx hqt hdt
      have HQT := Lib.hid hqt
      have HDT := Lib.hid hdt
      clear hxx hK0 hqt hdt
      obtain ⟨V, hV⟩ : ∃ Q_ : World, (wr.alloc (.cells (ci zeroI) 37)).setRow wr.heap.size (ci x) = Q_ := ⟨_, rfl⟩
      have xV : Bx V wr.heap.size (ci x) 37 := hV ▸ Bx.put (Bx.new _ _ _) _
      have bV : Below wr.heap.size wr V := hV ▸ below_setRow (below1 _ _) (Nat.le_refl _) _
      have hplain := (Bx.new wr (ci zeroI) 37).plain (n := 25) rfl
      have rx := xV.row
      have cV := xr.stays bV
      have pV := pr.stays bV
      have dV := hd.stays bV
      have rc := cV.row
      have rp2 := pV.row
      have rd := bx_vrow dV
      have k6 : V.cell? ⟨wr.heap.size, 6, none⟩ = some (.int .i64 x.st) := xV.cell 6
      have hbV := hb.trans (bV.mono (Nat.le_of_lt hsz))
      have bwV := nx bw bV
      -- not one that counts
      have skip : consB c r s x = false → grQ (l.take (k + 1)) c r s = n ∧ grD (l.take (k + 1)) c r s = d := fun e => by
        rw [HQT.out, HDT.out]; unfold stepQ stepD; rw [e]; exact ⟨rfl, rfl⟩
      cases hat : atP x r s with
      | true =>
        have hq : (x.pr == r && x.ps == s) = true := hat
        have HS := Lib.hid (skip (by unfold consB; rw [hat]; rfl))
        clear skip hat
        go_wp2
        go_roundw
        case rel => exact ⟨k + 1, by omega, by go_num, by rw [HS.out.1], by rw [HS.out.2]; exact dV, hbV⟩
        case measure => simp [intOf]; omega
      | false =>
        have hq : (x.pr == r && x.ps == s) = false := hat
        by_cases hst : 1 ≤ x.st
        · have hs1 : decide (x.st ≥ 1) = true := decide_eq_true (by omega)
          have rc2 := Bx.row cV
          cases hmt : meetB x.c c with
          | false =>
            have HM := Lib.hid hmt
            have HS := Lib.hid (skip (by unfold consB; rw [hmt]; simp))
            clear skip hat hmt hst
            go_wp2_with fail
            refine (rMeets_is HM _).mono ?_
            rintro e w1 ⟨rfl, hb1⟩
            have d1 := dV.stays hb1
            have hb2 := hbV.trans (hb1.mono (by have := bV.size; omega))
            go_wp2
            go_roundw
            case rel => exact ⟨k + 1, by omega, by go_num, by rw [HS.out.1], by rw [HS.out.2]; exact d1, hb2⟩
            case measure => simp [intOf]; omega
          | true =>
            have HM := Lib.hid hmt
            obtain ⟨y, hy⟩ : ∃ y, (if (1073741823 : Int) < x.q then 1073741823 else x.q) = y := ⟨_, rfl⟩
            obtain ⟨n2, hn2⟩ : ∃ n2, (if n < y then y else n) = n2 := ⟨_, rfl⟩
            obtain ⟨d2, hd2⟩ : ∃ d2, raiseV d x.pr x.ps = d2 := ⟨_, rfl⟩
            have HR2 := Lib.hid hd2
            have HS : Hid (grQ (l.take (k + 1)) c r s = n2 ∧ grD (l.take (k + 1)) c r s = d2) := Lib.hid (by
              have hc : consB c r s x = true := consB_iff.2 ⟨hat, hst, hmt⟩
              rw [HQT.out, HDT.out]; unfold stepQ stepD; rw [if_pos hc, if_pos hc]
              refine ⟨?_, hd2⟩
              rw [← hn2, ← hy]
              split <;> split <;> omega)
            clear skip hat hmt hst hd2
            go_wp2_with fail
            refine (rMeets_is HM _).mono ?_
            rintro e w1 ⟨rfl, hb1⟩
            have x1 := xV.stays hb1
            have d1 := dV.stays hb1
            have rx1 := x1.row
            have rd1 := bx_vrow d1
            have k16 : w1.cell? ⟨wr.heap.size, 16, none⟩ = some (.int .i64 x.q) := x1.cell 16
            have sz1 := hb1.size
            have szV := bV.size
            have hb2 := hbV.trans (hb1.mono (by omega))
            clear rd rx rc rp2 rc2
            go_wp2_with fail
            refine (rRaise_is HR2 _).mono ?_
            rintro e w2 ⟨rfl, hb22⟩
            have d2b := d1.stays hb22
            have dp := bx_vplain d2b (Ve.fc_size _)
            have sz2 := hb22.size
            have hb3 := hb2.trans (hb22.mono (by omega))
            have HD3 := Lib.hid (d2b.put (Ve.fc d2))
            go_wp2
            go_roundw
            case rel => exact ⟨k + 1, by omega, by go_num, by rw [HS.out.1], by rw [HS.out.2]; exact HD3.out, below_setRow hb3 (Nat.le_refl _) _⟩
            case measure => simp [intOf]; omega
        · have hs1 : decide (x.st ≥ 1) = false := decide_eq_false (by omega)
          have HS := Lib.hid (skip (by unfold consB; rw [decide_eq_false hst]; simp))
          clear skip hat hst
          go_wp2
          go_roundw
          case rel => exact ⟨k + 1, by omega, by go_num, by rw [HS.out.1], by rw [HS.out.2]; exact dV, hbV⟩
          case measure => simp [intOf]; omega
    · obtain rfl : k = m := by omega
      have HE : Hid (gn = n + 1 ∧ gv = d) := Lib.hid (by
        rw [← HGn.out, ← HGv.out, ← HNn.out, ← HDd.out, ← HN.out, List.take_length]
        unfold depN depV
        rw [if_neg HF0.out, if_neg HF0.out]
        exact ⟨rfl, rfl⟩)
      have rd := bx_vrow hd
      have rpl := bx_vplain rr (Ve.fc_size _)
      have rd2 : ∀ cs, Ve.row wr.drew R.heap.size = cs ↔ Ve.row wr R.heap.size = cs := fun cs => by rw [Ve.row_drew]
      clear rd2
      have hdr : Below wr.heap.size wr wr.drew := (Below.refl _ _).drew
      have rrd := rr.stays hdr
      have hbd := bw.trans (hdr.mono (by have := bw.size; exact this))
      go_wp2
      go_region
      go_wp2
      exact bodyPost_ret (v := .tuple #[.int .i64 (n + 1), .agg (Ve.fc d)]) (ret_QD Try.results49 _ _ (rrd.put (Ve.fc d)).row) rfl ⟨by rw [HE.out.1, HE.out.2], below_setRow hbd (by have := L1.out; have := L2.out; omega) _⟩
end Go.Proofs.Ytmaecknjamnnpaa.An
