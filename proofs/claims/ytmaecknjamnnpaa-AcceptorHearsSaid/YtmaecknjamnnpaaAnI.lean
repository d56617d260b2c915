/- Layer 19: the document's own Hear. -/
import Derived.Test.YtmaecknjamnnpaaAnH
namespace Go.Proofs.Ytmaecknjamnnpaa.An
open Go.RowKit
set_option linter.unusedVariables false
open Go.Proofs.Ytmaecknjamnnpaa.Rw
open Go.Proofs.Ytmaecknjamnnpaa.Bv
open Go.Proofs.Ytmaecknjamnnpaa.In
open Go.Proofs.Ytmaecknjamnnpaa.St
open Go.Proofs.Ytmaecknjamnnpaa.Rc (Ins ci cv zeroI okI eqVal)
open Go.Proofs.Ytmaecknjamnnpaa.Ba (lessB latN latR)
open Go.Proofs.Ytmaecknjamnnpaa.Ve (zeroV maxV)
theorem hear_case {l : List Ins} {n : Int} {m : Msg} {j : Ins} {k : Int} (h1 : rightT l n = true) (h2 : okI (takenI m 1) n = true) (h3 : m.k = 1 ∨ m.k = 3 ∨ m.k = 5 ∨ m.k = 6) (h4 : reactR l (gotI l m.pr m.ps) m = (j, k)) :
    hearR l n m = if k = 0 then ⟨j, zeroM, false, 0⟩ else ⟨j, respM m k j, true, 0⟩ := by
  rw [hear_ok h1 (may_iff.2 ⟨h3, h2⟩)]
  unfold hearOk
  rw [h4]
theorem back_nack (m : Msg) (i : Ins) : { backM m 8 zeroI with bn := i.bn, br := i.br, tn := m.bn, tr := m.br } = respM m 8 i := rfl
set_option maxRecDepth 16000 in
set_option maxHeartbeats 32000000 in
theorem rHear_is {q : Nat} {l : List Ins} {n : Int} {m : Msg} {x : Ins} {r : Msg} {b : Bool} {c : Int} (H : Hid (hearR l n m = ⟨x, r, b, c⟩)) (v : Value) (w : World) (h : TI q l v w) (hm : l.length ≤ 1000000) :
    Calls Try.prog 10 #[v, .int .i64 n, .agg (cg m)] w fun e w' => e = .returned (.tuple #[.agg (ci x), .agg (cg r), .bool b, .int .i64 c]) ∧ Below w.heap.size w w' := by
  have HT := Lib.hid h
  clear h
  obtain ⟨W1, eW1⟩ : ∃ Q_ : World, w.alloc (.cells (cg m) 34) = Q_ := ⟨_, rfl⟩
  have bW1 : Below w.heap.size w W1 := eW1 ▸ below1 _ _
  have hM : Gx W1 w.heap.size m := ⟨eW1 ▸ Bx.new _ _ _⟩
  have lW1 : w.heap.size < W1.heap.size := hM.bx.lt
  have bw : Below w.heap.size w W1 := bW1
  obtain ⟨W2, eW2⟩ : ∃ Q_ : World, W1.alloc (.cells (ci zeroI) 37) = Q_ := ⟨_, rfl⟩
  have bW2 : Below W1.heap.size W1 W2 := eW2 ▸ below1 _ _
  replace hM := hM.stays bW2
  have hR6 : Ix W2 W1.heap.size zeroI := ⟨eW2 ▸ Bx.new _ _ _⟩
  have lW2 : W1.heap.size < W2.heap.size := hR6.bx.lt
  replace bw := nx bw bW2
  obtain ⟨W3, eW3⟩ : ∃ Q_ : World, W2.alloc (.cells (cg zeroM) 34) = Q_ := ⟨_, rfl⟩
  have bW3 : Below W2.heap.size W2 W3 := eW3 ▸ below1 _ _
  replace hM := hM.stays bW3
  replace hR6 := hR6.stays bW3
  have hR7 : Gx W3 W2.heap.size zeroM := ⟨eW3 ▸ Bx.new _ _ _⟩
  have lW3 : W2.heap.size < W3.heap.size := hR7.bx.lt
  replace bw := nx bw bW3
  obtain ⟨fM_row_W3, -, -, -, -, -, -, -, -⟩ := hM.facts
  obtain ⟨g, hg⟩ : ∃ g, gotI l m.pr m.ps = g := ⟨_, rfl⟩
  obtain ⟨gb, hgb⟩ : ∃ g, hasI l m.pr m.ps = g := ⟨_, rfl⟩
  have HG := Lib.hid (And.intro hg hgb)
  obtain ⟨rt, hrt⟩ : ∃ g, rightT l n = g := ⟨_, rfl⟩
  have HRt := Lib.hid hrt
  obtain ⟨xo, hxo⟩ : ∃ g, okI (takenI m 1) n = g := ⟨_, rfl⟩
  have HXo : Hid (okI ⟨m.pr, m.ps, m.bn, m.br, m.bn, m.br, 1, m.c, m.q, m.d, false⟩ n = xo) := Lib.hid hxo
  obtain ⟨k, hk⟩ : ∃ k, m.k = k := ⟨_, rfl⟩
  have HK := Lib.hid hk
  clear hg hgb hrt hxo hk
  cases rt with
  | false =>
    have HE : Hid (x = g ∧ r = zeroM ∧ b = false ∧ c = 1) := Lib.hid (by
      have := H.out
      rw [hear_no (by rw [HRt.out]; simp), HG.out.1] at this
      injection this with a1 a2 a3 a4
      exact ⟨a1.symm, a2.symm, a3.symm, a4.symm⟩)
    obtain ⟨rfl, rfl, rfl, rfl⟩ := HE.out
    go_enter Try.func10, Try.ntmps10
    go_wp2_with fail
    refine (rGet_is HG v W3 (HT.out.stays bw) hm).mono ?_
    rintro e v4 ⟨rfl, bv4⟩
    clear fM_row_W3
    replace hM := hM.stays bv4
    replace hR6 := hR6.stays bv4
    replace hR7 := hR7.stays bv4
    have lv4 : W3.heap.size ≤ v4.heap.size := bv4.size
    replace bw := nx bw bv4
    obtain ⟨W5, eW5⟩ : ∃ Q_ : World, (v4.alloc (.cells (ci zeroI) 37)).setRow v4.heap.size (ci x) = Q_ := ⟨_, rfl⟩
    have bW5 : Below v4.heap.size v4 W5 := eW5 ▸ below_setRow (below1 _ _) (Nat.le_refl _) _
    have pW5 := (Bx.new v4 (ci zeroI) 37).plain (n := 25) rfl
    replace hM := hM.stays bW5
    replace hR6 := hR6.stays bW5
    replace hR7 := hR7.stays bW5
    have hK : Ix W5 v4.heap.size x := ⟨eW5 ▸ Bx.put (Bx.new _ _ _) _⟩
    have lW5 : v4.heap.size < W5.heap.size := hK.bx.lt
    replace bw := nx bw bW5
    obtain ⟨fM_row_W5, -, -, -, -, -, -, -, -⟩ := hM.facts
    obtain ⟨W6, eW6⟩ : ∃ Q_ : World, (W5.alloc (.cells (ci zeroI) 37)).setRow W5.heap.size (ci (⟨m.pr, m.ps, m.bn, m.br, m.bn, m.br, 1, m.c, m.q, m.d, false⟩ : Ins)) = Q_ := ⟨_, rfl⟩
    have bW6 : Below W5.heap.size W5 W6 := eW6 ▸ below_setRow (below1 _ _) (Nat.le_refl _) _
    have pW6 := (Bx.new W5 (ci zeroI) 37).plain (n := 25) rfl
    replace hM := hM.stays bW6
    replace hR6 := hR6.stays bW6
    replace hR7 := hR7.stays bW6
    replace hK := hK.stays bW6
    have hX : Ix W6 W5.heap.size (⟨m.pr, m.ps, m.bn, m.br, m.bn, m.br, 1, m.c, m.q, m.d, false⟩ : Ins) := ⟨eW6 ▸ Bx.put (Bx.new _ _ _) _⟩
    have lW6 : W5.heap.size < W6.heap.size := hX.bx.lt
    replace bw := nx bw bW6
    go_wp2_with fail
    refine (rRightL_is HRt v W6 (HT.out.stays bw) hm).mono ?_
    rintro e v7 ⟨rfl, bv7⟩
    clear fM_row_W5
    replace hM := hM.stays bv7
    replace hR6 := hR6.stays bv7
    replace hR7 := hR7.stays bv7
    replace hK := hK.stays bv7
    replace hX := hX.stays bv7
    have lv7 : W6.heap.size ≤ v7.heap.size := bv7.size
    replace bw := nx bw bv7
    obtain ⟨fK_row_v7, -, -, -, -, -⟩ := hK.facts
    obtain ⟨-, -, -, -, fR6_plain_v7, -⟩ := hR6.facts
    obtain ⟨W8, eW8⟩ : ∃ Q_ : World, v7.setRow (W1.heap.size) (ci (x)) = Q_ := ⟨_, rfl⟩
    replace hM : Gx W8 (w.heap.size) (m) := ⟨eW8 ▸ hM.bx.put' (by omega) _⟩
    replace hR7 : Gx W8 (W2.heap.size) (zeroM) := ⟨eW8 ▸ hR7.bx.put' (by omega) _⟩
    replace hK : Ix W8 (v4.heap.size) (x) := ⟨eW8 ▸ hK.bx.put' (by omega) _⟩
    replace hX : Ix W8 (W5.heap.size) ((⟨m.pr, m.ps, m.bn, m.br, m.bn, m.br, 1, m.c, m.q, m.d, false⟩ : Ins)) := ⟨eW8 ▸ hX.bx.put' (by omega) _⟩
    replace hR6 : Ix W8 (W1.heap.size) (x) := ⟨eW8 ▸ hR6.bx.put _⟩
    have lW8 : v7.heap.size ≤ W8.heap.size := eW8 ▸ (low_setRow (n := 0) _ (Nat.zero_le _)).size
    replace bw : Below w.heap.size w W8 := eW8 ▸ bw.trans (low_setRow _ (by omega))
    obtain ⟨-, -, -, -, -, -, -, fR7_plain_W8, -⟩ := hR7.facts
    go_wp2
    exact bodyPost_ret (v := .tuple #[.agg (ci x), .agg (cg zeroM), .bool false, .int .i64 1]) (ret_IG4 Try.results10 _ _ x zeroM (hR6.bx.put' (by omega) _).row (hR7.bx.put _).row) rfl ⟨rfl, bw.trans (low_setRow _ (by omega))⟩
  | true =>
  cases xo with
  | false =>
    have HE : Hid (x = g ∧ r = zeroM ∧ b = false ∧ c = 1) := Lib.hid (by
      have := H.out
      rw [hear_no (fun e => by have h1 := (may_iff.1 e.2).2; have h2 : okI (takenI m 1) n = false := HXo.out; rw [h2] at h1; cases h1), HG.out.1] at this
      injection this with a1 a2 a3 a4
      exact ⟨a1.symm, a2.symm, a3.symm, a4.symm⟩)
    obtain ⟨rfl, rfl, rfl, rfl⟩ := HE.out
    go_enter Try.func10, Try.ntmps10
    go_wp2_with fail
    refine (rGet_is HG v W3 (HT.out.stays bw) hm).mono ?_
    rintro e v4 ⟨rfl, bv4⟩
    clear fM_row_W3
    replace hM := hM.stays bv4
    replace hR6 := hR6.stays bv4
    replace hR7 := hR7.stays bv4
    have lv4 : W3.heap.size ≤ v4.heap.size := bv4.size
    replace bw := nx bw bv4
    obtain ⟨W5, eW5⟩ : ∃ Q_ : World, (v4.alloc (.cells (ci zeroI) 37)).setRow v4.heap.size (ci x) = Q_ := ⟨_, rfl⟩
    have bW5 : Below v4.heap.size v4 W5 := eW5 ▸ below_setRow (below1 _ _) (Nat.le_refl _) _
    have pW5 := (Bx.new v4 (ci zeroI) 37).plain (n := 25) rfl
    replace hM := hM.stays bW5
    replace hR6 := hR6.stays bW5
    replace hR7 := hR7.stays bW5
    have hK : Ix W5 v4.heap.size x := ⟨eW5 ▸ Bx.put (Bx.new _ _ _) _⟩
    have lW5 : v4.heap.size < W5.heap.size := hK.bx.lt
    replace bw := nx bw bW5
    obtain ⟨fM_row_W5, -, -, -, -, -, -, -, -⟩ := hM.facts
    obtain ⟨W6, eW6⟩ : ∃ Q_ : World, (W5.alloc (.cells (ci zeroI) 37)).setRow W5.heap.size (ci (⟨m.pr, m.ps, m.bn, m.br, m.bn, m.br, 1, m.c, m.q, m.d, false⟩ : Ins)) = Q_ := ⟨_, rfl⟩
    have bW6 : Below W5.heap.size W5 W6 := eW6 ▸ below_setRow (below1 _ _) (Nat.le_refl _) _
    have pW6 := (Bx.new W5 (ci zeroI) 37).plain (n := 25) rfl
    replace hM := hM.stays bW6
    replace hR6 := hR6.stays bW6
    replace hR7 := hR7.stays bW6
    replace hK := hK.stays bW6
    have hX : Ix W6 W5.heap.size (⟨m.pr, m.ps, m.bn, m.br, m.bn, m.br, 1, m.c, m.q, m.d, false⟩ : Ins) := ⟨eW6 ▸ Bx.put (Bx.new _ _ _) _⟩
    have lW6 : W5.heap.size < W6.heap.size := hX.bx.lt
    replace bw := nx bw bW6
    go_wp2_with fail
    refine (rRightL_is HRt v W6 (HT.out.stays bw) hm).mono ?_
    rintro e v7 ⟨rfl, bv7⟩
    clear fM_row_W5
    replace hM := hM.stays bv7
    replace hR6 := hR6.stays bv7
    replace hR7 := hR7.stays bv7
    replace hK := hK.stays bv7
    replace hX := hX.stays bv7
    have lv7 : W6.heap.size ≤ v7.heap.size := bv7.size
    replace bw := nx bw bv7
    obtain ⟨fX_row_v7, -, -, -, -, -⟩ := hX.facts
    go_wp2_with fail
    refine (Rc.rRight_is HXo v7).mono ?_
    rintro e v8 ⟨rfl, bv8⟩
    clear fX_row_v7
    replace hM := hM.stays bv8
    replace hR6 := hR6.stays bv8
    replace hR7 := hR7.stays bv8
    replace hK := hK.stays bv8
    replace hX := hX.stays bv8
    have lv8 : v7.heap.size ≤ v8.heap.size := bv8.size
    replace bw := nx bw bv8
    obtain ⟨fK_row_v8, -, -, -, -, -⟩ := hK.facts
    obtain ⟨-, -, -, -, fR6_plain_v8, -⟩ := hR6.facts
    obtain ⟨W9, eW9⟩ : ∃ Q_ : World, v8.setRow (W1.heap.size) (ci (x)) = Q_ := ⟨_, rfl⟩
    replace hM : Gx W9 (w.heap.size) (m) := ⟨eW9 ▸ hM.bx.put' (by omega) _⟩
    replace hR7 : Gx W9 (W2.heap.size) (zeroM) := ⟨eW9 ▸ hR7.bx.put' (by omega) _⟩
    replace hK : Ix W9 (v4.heap.size) (x) := ⟨eW9 ▸ hK.bx.put' (by omega) _⟩
    replace hX : Ix W9 (W5.heap.size) ((⟨m.pr, m.ps, m.bn, m.br, m.bn, m.br, 1, m.c, m.q, m.d, false⟩ : Ins)) := ⟨eW9 ▸ hX.bx.put' (by omega) _⟩
    replace hR6 : Ix W9 (W1.heap.size) (x) := ⟨eW9 ▸ hR6.bx.put _⟩
    have lW9 : v8.heap.size ≤ W9.heap.size := eW9 ▸ (low_setRow (n := 0) _ (Nat.zero_le _)).size
    replace bw : Below w.heap.size w W9 := eW9 ▸ bw.trans (low_setRow _ (by omega))
    obtain ⟨-, -, -, -, -, -, -, fR7_plain_W9, -⟩ := hR7.facts
    go_wp2
    exact bodyPost_ret (v := .tuple #[.agg (ci x), .agg (cg zeroM), .bool false, .int .i64 1]) (ret_IG4 Try.results10 _ _ x zeroM (hR6.bx.put' (by omega) _).row (hR7.bx.put _).row) rfl ⟨rfl, bw.trans (low_setRow _ (by omega))⟩
  | true =>
  have HC := Lib.hid fun (j : Ins) (k2 : Int) (h3 : m.k = 1 ∨ m.k = 3 ∨ m.k = 5 ∨ m.k = 6) (h4 : reactR l (gotI l m.pr m.ps) m = (j, k2)) => hear_case (n := n) HRt.out HXo.out h3 h4
  by_cases h5 : k = 5
  · subst h5
    by_cases h3 : g.st = 3
    · have HS3 : Hid ((g.st == 3) = true) := Lib.hid (by simpa using h3)
      have HE : Hid (x = g ∧ r = zeroM ∧ b = false ∧ c = 0) := Lib.hid (by
        have := H.out
        rw [HC.out g 0 (by rw [HK.out]; decide) (by rw [HG.out.1]; unfold reactR commitI; rw [if_pos HK.out, if_pos h3]), if_pos rfl] at this
        injection this with a1 a2 a3 a4
        exact ⟨a1.symm, a2.symm, a3.symm, a4.symm⟩)
      obtain ⟨rfl, rfl, rfl, rfl⟩ := HE.out
      clear h3
      go_enter Try.func10, Try.ntmps10
      go_wp2_with fail
      refine (rGet_is HG v W3 (HT.out.stays bw) hm).mono ?_
      rintro e v4 ⟨rfl, bv4⟩
      clear fM_row_W3
      replace hM := hM.stays bv4
      replace hR6 := hR6.stays bv4
      replace hR7 := hR7.stays bv4
      have lv4 : W3.heap.size ≤ v4.heap.size := bv4.size
      replace bw := nx bw bv4
      obtain ⟨W5, eW5⟩ : ∃ Q_ : World, (v4.alloc (.cells (ci zeroI) 37)).setRow v4.heap.size (ci x) = Q_ := ⟨_, rfl⟩
      have bW5 : Below v4.heap.size v4 W5 := eW5 ▸ below_setRow (below1 _ _) (Nat.le_refl _) _
      have pW5 := (Bx.new v4 (ci zeroI) 37).plain (n := 25) rfl
      replace hM := hM.stays bW5
      replace hR6 := hR6.stays bW5
      replace hR7 := hR7.stays bW5
      have hK : Ix W5 v4.heap.size x := ⟨eW5 ▸ Bx.put (Bx.new _ _ _) _⟩
      have lW5 : v4.heap.size < W5.heap.size := hK.bx.lt
      replace bw := nx bw bW5
      obtain ⟨fM_row_W5, -, -, -, -, -, -, -, -⟩ := hM.facts
      obtain ⟨W6, eW6⟩ : ∃ Q_ : World, (W5.alloc (.cells (ci zeroI) 37)).setRow W5.heap.size (ci (⟨m.pr, m.ps, m.bn, m.br, m.bn, m.br, 1, m.c, m.q, m.d, false⟩ : Ins)) = Q_ := ⟨_, rfl⟩
      have bW6 : Below W5.heap.size W5 W6 := eW6 ▸ below_setRow (below1 _ _) (Nat.le_refl _) _
      have pW6 := (Bx.new W5 (ci zeroI) 37).plain (n := 25) rfl
      replace hM := hM.stays bW6
      replace hR6 := hR6.stays bW6
      replace hR7 := hR7.stays bW6
      replace hK := hK.stays bW6
      have hX : Ix W6 W5.heap.size (⟨m.pr, m.ps, m.bn, m.br, m.bn, m.br, 1, m.c, m.q, m.d, false⟩ : Ins) := ⟨eW6 ▸ Bx.put (Bx.new _ _ _) _⟩
      have lW6 : W5.heap.size < W6.heap.size := hX.bx.lt
      replace bw := nx bw bW6
      go_wp2_with fail
      refine (rRightL_is HRt v W6 (HT.out.stays bw) hm).mono ?_
      rintro e v7 ⟨rfl, bv7⟩
      clear fM_row_W5
      replace hM := hM.stays bv7
      replace hR6 := hR6.stays bv7
      replace hR7 := hR7.stays bv7
      replace hK := hK.stays bv7
      replace hX := hX.stays bv7
      have lv7 : W6.heap.size ≤ v7.heap.size := bv7.size
      replace bw := nx bw bv7
      obtain ⟨fX_row_v7, -, -, -, -, -⟩ := hX.facts
      go_wp2_with fail
      refine (Rc.rRight_is HXo v7).mono ?_
      rintro e v8 ⟨rfl, bv8⟩
      clear fX_row_v7
      replace hM := hM.stays bv8
      replace hR6 := hR6.stays bv8
      replace hR7 := hR7.stays bv8
      replace hK := hK.stays bv8
      replace hX := hX.stays bv8
      have lv8 : v7.heap.size ≤ v8.heap.size := bv8.size
      replace bw := nx bw bv8
      obtain ⟨-, fM_c0_v8, -, -, -, -, -, -, -⟩ := hM.facts
      rw [HK.out] at fM_c0_v8
      obtain ⟨fK_row_v8, -, -, -, -, -⟩ := hK.facts
      go_wp2_with fail
      refine (rSettled_is HS3 v8).mono ?_
      rintro e v9 ⟨rfl, bv9⟩
      clear fM_c0_v8 fK_row_v8
      replace hM := hM.stays bv9
      replace hR6 := hR6.stays bv9
      replace hR7 := hR7.stays bv9
      replace hK := hK.stays bv9
      replace hX := hX.stays bv9
      have lv9 : v8.heap.size ≤ v9.heap.size := bv9.size
      replace bw := nx bw bv9
      obtain ⟨fK_row_v9, -, -, -, -, -⟩ := hK.facts
      obtain ⟨-, -, -, -, fR6_plain_v9, -⟩ := hR6.facts
      obtain ⟨W10, eW10⟩ : ∃ Q_ : World, v9.setRow (W1.heap.size) (ci (x)) = Q_ := ⟨_, rfl⟩
      replace hM : Gx W10 (w.heap.size) (m) := ⟨eW10 ▸ hM.bx.put' (by omega) _⟩
      replace hR7 : Gx W10 (W2.heap.size) (zeroM) := ⟨eW10 ▸ hR7.bx.put' (by omega) _⟩
      replace hK : Ix W10 (v4.heap.size) (x) := ⟨eW10 ▸ hK.bx.put' (by omega) _⟩
      replace hX : Ix W10 (W5.heap.size) ((⟨m.pr, m.ps, m.bn, m.br, m.bn, m.br, 1, m.c, m.q, m.d, false⟩ : Ins)) := ⟨eW10 ▸ hX.bx.put' (by omega) _⟩
      replace hR6 : Ix W10 (W1.heap.size) (x) := ⟨eW10 ▸ hR6.bx.put _⟩
      have lW10 : v9.heap.size ≤ W10.heap.size := eW10 ▸ (low_setRow (n := 0) _ (Nat.zero_le _)).size
      replace bw : Below w.heap.size w W10 := eW10 ▸ bw.trans (low_setRow _ (by omega))
      obtain ⟨-, -, -, -, -, -, -, fR7_plain_W10, -⟩ := hR7.facts
      go_wp2
      exact bodyPost_ret (v := .tuple #[.agg (ci x), .agg (cg zeroM), .bool false, .int .i64 0]) (ret_IG4 Try.results10 _ _ x zeroM (hR6.bx.put' (by omega) _).row (hR7.bx.put _).row) rfl ⟨rfl, bw.trans (low_setRow _ (by omega))⟩
    · have HS3 : Hid ((g.st == 3) = false) := Lib.hid (by simpa using h3)
      obtain ⟨a1, ha1⟩ : ∃ a, latN g.bn g.br m.bn m.br = a := ⟨_, rfl⟩
      obtain ⟨a2, ha2⟩ : ∃ a, latR g.bn g.br m.bn m.br = a := ⟨_, rfl⟩
      have HL := Lib.hid (And.intro ha1 ha2)
      have HE : Hid (x = (⟨m.pr, m.ps, a1, a2, m.bn, m.br, 3, m.c, m.q, m.d, false⟩ : Ins) ∧ r = zeroM ∧ b = false ∧ c = 0) := Lib.hid (by
        have := H.out
        rw [HC.out (⟨m.pr, m.ps, a1, a2, m.bn, m.br, 3, m.c, m.q, m.d, false⟩ : Ins) 0 (by rw [HK.out]; decide) (by rw [HG.out.1]; unfold reactR commitI; rw [if_pos HK.out, if_neg h3, (lat_swap _ _ _ _).1, (lat_swap _ _ _ _).2, ha1, ha2]), if_pos rfl] at this
        injection this with a1 a2 a3 a4
        exact ⟨a1.symm, a2.symm, a3.symm, a4.symm⟩)
      have HX : Hid (ci (⟨m.pr, m.ps, a1, a2, m.bn, m.br, 3, m.c, m.q, m.d, false⟩ : Ins) = ci x) := Lib.hid (by rw [HE.out.1])
      obtain ⟨-, rfl, rfl, rfl⟩ := HE.out
      clear h3 ha1 ha2
      go_enter Try.func10, Try.ntmps10
      go_wp2_with fail
      refine (rGet_is HG v W3 (HT.out.stays bw) hm).mono ?_
      rintro e v4 ⟨rfl, bv4⟩
      clear fM_row_W3
      replace hM := hM.stays bv4
      replace hR6 := hR6.stays bv4
      replace hR7 := hR7.stays bv4
      have lv4 : W3.heap.size ≤ v4.heap.size := bv4.size
      replace bw := nx bw bv4
      obtain ⟨W5, eW5⟩ : ∃ Q_ : World, (v4.alloc (.cells (ci zeroI) 37)).setRow v4.heap.size (ci g) = Q_ := ⟨_, rfl⟩
      have bW5 : Below v4.heap.size v4 W5 := eW5 ▸ below_setRow (below1 _ _) (Nat.le_refl _) _
      have pW5 := (Bx.new v4 (ci zeroI) 37).plain (n := 25) rfl
      replace hM := hM.stays bW5
      replace hR6 := hR6.stays bW5
      replace hR7 := hR7.stays bW5
      have hK : Ix W5 v4.heap.size g := ⟨eW5 ▸ Bx.put (Bx.new _ _ _) _⟩
      have lW5 : v4.heap.size < W5.heap.size := hK.bx.lt
      replace bw := nx bw bW5
      obtain ⟨fM_row_W5, -, -, -, -, -, -, -, -⟩ := hM.facts
      obtain ⟨W6, eW6⟩ : ∃ Q_ : World, (W5.alloc (.cells (ci zeroI) 37)).setRow W5.heap.size (ci (⟨m.pr, m.ps, m.bn, m.br, m.bn, m.br, 1, m.c, m.q, m.d, false⟩ : Ins)) = Q_ := ⟨_, rfl⟩
      have bW6 : Below W5.heap.size W5 W6 := eW6 ▸ below_setRow (below1 _ _) (Nat.le_refl _) _
      have pW6 := (Bx.new W5 (ci zeroI) 37).plain (n := 25) rfl
      replace hM := hM.stays bW6
      replace hR6 := hR6.stays bW6
      replace hR7 := hR7.stays bW6
      replace hK := hK.stays bW6
      have hX : Ix W6 W5.heap.size (⟨m.pr, m.ps, m.bn, m.br, m.bn, m.br, 1, m.c, m.q, m.d, false⟩ : Ins) := ⟨eW6 ▸ Bx.put (Bx.new _ _ _) _⟩
      have lW6 : W5.heap.size < W6.heap.size := hX.bx.lt
      replace bw := nx bw bW6
      go_wp2_with fail
      refine (rRightL_is HRt v W6 (HT.out.stays bw) hm).mono ?_
      rintro e v7 ⟨rfl, bv7⟩
      clear fM_row_W5
      replace hM := hM.stays bv7
      replace hR6 := hR6.stays bv7
      replace hR7 := hR7.stays bv7
      replace hK := hK.stays bv7
      replace hX := hX.stays bv7
      have lv7 : W6.heap.size ≤ v7.heap.size := bv7.size
      replace bw := nx bw bv7
      obtain ⟨fX_row_v7, -, -, -, -, -⟩ := hX.facts
      go_wp2_with fail
      refine (Rc.rRight_is HXo v7).mono ?_
      rintro e v8 ⟨rfl, bv8⟩
      clear fX_row_v7
      replace hM := hM.stays bv8
      replace hR6 := hR6.stays bv8
      replace hR7 := hR7.stays bv8
      replace hK := hK.stays bv8
      replace hX := hX.stays bv8
      have lv8 : v7.heap.size ≤ v8.heap.size := bv8.size
      replace bw := nx bw bv8
      obtain ⟨-, fM_c0_v8, -, -, -, -, -, -, -⟩ := hM.facts
      rw [HK.out] at fM_c0_v8
      obtain ⟨fK_row_v8, -, -, -, -, -⟩ := hK.facts
      go_wp2_with fail
      refine (rSettled_is HS3 v8).mono ?_
      rintro e v9 ⟨rfl, bv9⟩
      clear fM_c0_v8 fK_row_v8
      replace hM := hM.stays bv9
      replace hR6 := hR6.stays bv9
      replace hR7 := hR7.stays bv9
      replace hK := hK.stays bv9
      replace hX := hX.stays bv9
      have lv9 : v8.heap.size ≤ v9.heap.size := bv9.size
      replace bw := nx bw bv9
      obtain ⟨-, fX_c6_v9, -, -, -, -⟩ := hX.facts
      have zW10 : v9.frozen? ⟨W5.heap.size, 6, none⟩ = false := hX.bx.thawed _
      obtain ⟨W10, eW10⟩ : ∃ Q_ : World, v9.setCell ⟨W5.heap.size, 6, none⟩ (.int .i64 3) = Q_ := ⟨_, rfl⟩
      replace hM : Gx W10 (w.heap.size) (m) := ⟨eW10 ▸ hM.bx.set' (by omega) _ _⟩
      replace hR6 : Ix W10 (W1.heap.size) (zeroI) := ⟨eW10 ▸ hR6.bx.set' (by omega) _ _⟩
      replace hR7 : Gx W10 (W2.heap.size) (zeroM) := ⟨eW10 ▸ hR7.bx.set' (by omega) _ _⟩
      replace hK : Ix W10 (v4.heap.size) (g) := ⟨eW10 ▸ hK.bx.set' (by omega) _ _⟩
      replace hX : Ix W10 (W5.heap.size) ((⟨m.pr, m.ps, m.bn, m.br, m.bn, m.br, 3, m.c, m.q, m.d, false⟩ : Ins)) := ⟨by
        have t_ := hX.bx.set 6 (.int .i64 3)
        rw [set_ist] at t_
        exact eW10 ▸ t_⟩
      have lW10 : v9.heap.size ≤ W10.heap.size := eW10 ▸ (low_setCell (n := 0) _ _ (Nat.zero_le _)).size
      replace bw : Below w.heap.size w W10 := eW10 ▸ bw.trans (low_setCell _ _ (by omega))
      obtain ⟨fK_row_W10, -, -, -, -, -⟩ := hK.facts
      obtain ⟨fM_row_W10, -, -, -, -, -, -, -, -⟩ := hM.facts
      go_wp2_with fail
      refine (rLater_isH HL W10).mono ?_
      rintro e v11 ⟨rfl, bv11⟩
      clear fX_c6_v9 fK_row_W10 fM_row_W10
      replace hM := hM.stays bv11
      replace hR6 := hR6.stays bv11
      replace hR7 := hR7.stays bv11
      replace hK := hK.stays bv11
      replace hX := hX.stays bv11
      have lv11 : W10.heap.size ≤ v11.heap.size := bv11.size
      replace bw := nx bw bv11
      have tW12 := hX.bx.there (o := 2) (n := 2) (by show 4 ≤ 25; decide)
      obtain ⟨W12, eW12⟩ : ∃ Q_ : World, v11.setCells (W5.heap.size) 2 [.int .i64 a1, .int .i64 a2] = Q_ := ⟨_, rfl⟩
      replace hM : Gx W12 (w.heap.size) (m) := ⟨eW12 ▸ Bx.sets' (by omega) _ _ _ hM.bx⟩
      replace hR6 : Ix W12 (W1.heap.size) (zeroI) := ⟨eW12 ▸ Bx.sets' (by omega) _ _ _ hR6.bx⟩
      replace hR7 : Gx W12 (W2.heap.size) (zeroM) := ⟨eW12 ▸ Bx.sets' (by omega) _ _ _ hR7.bx⟩
      replace hK : Ix W12 (v4.heap.size) (g) := ⟨eW12 ▸ Bx.sets' (by omega) _ _ _ hK.bx⟩
      replace hX : Ix W12 (W5.heap.size) ((⟨m.pr, m.ps, a1, a2, m.bn, m.br, 3, m.c, m.q, m.d, false⟩ : Ins)) := ⟨by
        have t_ := Bx.sets (w := v11) [.int .i64 a1, .int .i64 a2] 2 v11 _ hX.bx
        rw [over_prom] at t_
        exact eW12 ▸ t_⟩
      have lW12 : v11.heap.size ≤ W12.heap.size := eW12 ▸ (low_setCells (n := 0) (Nat.zero_le _) _ _ _).size
      replace bw : Below w.heap.size w W12 := eW12 ▸ bw.trans (low_setCells (by omega) _ _ _)
      obtain ⟨fX_row_W12, -, -, -, -, -⟩ := hX.facts
      rw [HX.out] at fX_row_W12
      obtain ⟨-, -, -, -, fR6_plain_W12, -⟩ := hR6.facts
      obtain ⟨W13, eW13⟩ : ∃ Q_ : World, W12.setRow (W1.heap.size) (ci (x)) = Q_ := ⟨_, rfl⟩
      replace hM : Gx W13 (w.heap.size) (m) := ⟨eW13 ▸ hM.bx.put' (by omega) _⟩
      replace hR7 : Gx W13 (W2.heap.size) (zeroM) := ⟨eW13 ▸ hR7.bx.put' (by omega) _⟩
      replace hK : Ix W13 (v4.heap.size) (g) := ⟨eW13 ▸ hK.bx.put' (by omega) _⟩
      replace hX : Ix W13 (W5.heap.size) ((⟨m.pr, m.ps, a1, a2, m.bn, m.br, 3, m.c, m.q, m.d, false⟩ : Ins)) := ⟨eW13 ▸ hX.bx.put' (by omega) _⟩
      replace hR6 : Ix W13 (W1.heap.size) (x) := ⟨eW13 ▸ hR6.bx.put _⟩
      have lW13 : W12.heap.size ≤ W13.heap.size := eW13 ▸ (low_setRow (n := 0) _ (Nat.zero_le _)).size
      replace bw : Below w.heap.size w W13 := eW13 ▸ bw.trans (low_setRow _ (by omega))
      obtain ⟨-, -, -, -, -, -, -, fR7_plain_W13, -⟩ := hR7.facts
      go_wp2
      exact bodyPost_ret (v := .tuple #[.agg (ci x), .agg (cg zeroM), .bool false, .int .i64 0]) (ret_IG4 Try.results10 _ _ x zeroM (hR6.bx.put' (by omega) _).row (hR7.bx.put _).row) rfl ⟨rfl, bw.trans (low_setRow _ (by omega))⟩
  have e5 : (k == 5) = false := by simpa using h5
  have n5 : m.k ≠ 5 := by rw [HK.out]; exact h5
  have N5 := Lib.hid n5
  clear n5
  by_cases hk : k = 1 ∨ k = 3 ∨ k = 6
  case neg =>
    have e1 : (k == 1) = false := by simp; omega
    have e3 : (k == 3) = false := by simp; omega
    have e6 : (k == 6) = false := by simp; omega
    have HE : Hid (x = g ∧ r = zeroM ∧ b = false ∧ c = 1) := Lib.hid (by
      have := H.out
      rw [hear_no (fun e => by have := (may_iff.1 e.2).1; rw [HK.out] at this; omega), HG.out.1] at this
      injection this with a1 a2 a3 a4
      exact ⟨a1.symm, a2.symm, a3.symm, a4.symm⟩)
    obtain ⟨rfl, rfl, rfl, rfl⟩ := HE.out
    clear hk h5
    go_enter Try.func10, Try.ntmps10
    go_wp2_with fail
    refine (rGet_is HG v W3 (HT.out.stays bw) hm).mono ?_
    rintro e v4 ⟨rfl, bv4⟩
    clear fM_row_W3
    replace hM := hM.stays bv4
    replace hR6 := hR6.stays bv4
    replace hR7 := hR7.stays bv4
    have lv4 : W3.heap.size ≤ v4.heap.size := bv4.size
    replace bw := nx bw bv4
    obtain ⟨W5, eW5⟩ : ∃ Q_ : World, (v4.alloc (.cells (ci zeroI) 37)).setRow v4.heap.size (ci x) = Q_ := ⟨_, rfl⟩
    have bW5 : Below v4.heap.size v4 W5 := eW5 ▸ below_setRow (below1 _ _) (Nat.le_refl _) _
    have pW5 := (Bx.new v4 (ci zeroI) 37).plain (n := 25) rfl
    replace hM := hM.stays bW5
    replace hR6 := hR6.stays bW5
    replace hR7 := hR7.stays bW5
    have hK : Ix W5 v4.heap.size x := ⟨eW5 ▸ Bx.put (Bx.new _ _ _) _⟩
    have lW5 : v4.heap.size < W5.heap.size := hK.bx.lt
    replace bw := nx bw bW5
    obtain ⟨fM_row_W5, -, -, -, -, -, -, -, -⟩ := hM.facts
    obtain ⟨W6, eW6⟩ : ∃ Q_ : World, (W5.alloc (.cells (ci zeroI) 37)).setRow W5.heap.size (ci (⟨m.pr, m.ps, m.bn, m.br, m.bn, m.br, 1, m.c, m.q, m.d, false⟩ : Ins)) = Q_ := ⟨_, rfl⟩
    have bW6 : Below W5.heap.size W5 W6 := eW6 ▸ below_setRow (below1 _ _) (Nat.le_refl _) _
    have pW6 := (Bx.new W5 (ci zeroI) 37).plain (n := 25) rfl
    replace hM := hM.stays bW6
    replace hR6 := hR6.stays bW6
    replace hR7 := hR7.stays bW6
    replace hK := hK.stays bW6
    have hX : Ix W6 W5.heap.size (⟨m.pr, m.ps, m.bn, m.br, m.bn, m.br, 1, m.c, m.q, m.d, false⟩ : Ins) := ⟨eW6 ▸ Bx.put (Bx.new _ _ _) _⟩
    have lW6 : W5.heap.size < W6.heap.size := hX.bx.lt
    replace bw := nx bw bW6
    go_wp2_with fail
    refine (rRightL_is HRt v W6 (HT.out.stays bw) hm).mono ?_
    rintro e v7 ⟨rfl, bv7⟩
    clear fM_row_W5
    replace hM := hM.stays bv7
    replace hR6 := hR6.stays bv7
    replace hR7 := hR7.stays bv7
    replace hK := hK.stays bv7
    replace hX := hX.stays bv7
    have lv7 : W6.heap.size ≤ v7.heap.size := bv7.size
    replace bw := nx bw bv7
    obtain ⟨fX_row_v7, -, -, -, -, -⟩ := hX.facts
    go_wp2_with fail
    refine (Rc.rRight_is HXo v7).mono ?_
    rintro e v8 ⟨rfl, bv8⟩
    clear fX_row_v7
    replace hM := hM.stays bv8
    replace hR6 := hR6.stays bv8
    replace hR7 := hR7.stays bv8
    replace hK := hK.stays bv8
    replace hX := hX.stays bv8
    have lv8 : v7.heap.size ≤ v8.heap.size := bv8.size
    replace bw := nx bw bv8
    obtain ⟨-, fM_c0_v8, -, -, -, -, -, -, -⟩ := hM.facts
    rw [HK.out] at fM_c0_v8
    obtain ⟨fK_row_v8, -, -, -, -, -⟩ := hK.facts
    obtain ⟨-, -, -, -, fR6_plain_v8, -⟩ := hR6.facts
    obtain ⟨W9, eW9⟩ : ∃ Q_ : World, v8.setRow (W1.heap.size) (ci (x)) = Q_ := ⟨_, rfl⟩
    replace hM : Gx W9 (w.heap.size) (m) := ⟨eW9 ▸ hM.bx.put' (by omega) _⟩
    replace hR7 : Gx W9 (W2.heap.size) (zeroM) := ⟨eW9 ▸ hR7.bx.put' (by omega) _⟩
    replace hK : Ix W9 (v4.heap.size) (x) := ⟨eW9 ▸ hK.bx.put' (by omega) _⟩
    replace hX : Ix W9 (W5.heap.size) ((⟨m.pr, m.ps, m.bn, m.br, m.bn, m.br, 1, m.c, m.q, m.d, false⟩ : Ins)) := ⟨eW9 ▸ hX.bx.put' (by omega) _⟩
    replace hR6 : Ix W9 (W1.heap.size) (x) := ⟨eW9 ▸ hR6.bx.put _⟩
    have lW9 : v8.heap.size ≤ W9.heap.size := eW9 ▸ (low_setRow (n := 0) _ (Nat.zero_le _)).size
    replace bw : Below w.heap.size w W9 := eW9 ▸ bw.trans (low_setRow _ (by omega))
    obtain ⟨-, -, -, -, -, -, -, fR7_plain_W9, -⟩ := hR7.facts
    go_wp2
    exact bodyPost_ret (v := .tuple #[.agg (ci x), .agg (cg zeroM), .bool false, .int .i64 1]) (ret_IG4 Try.results10 _ _ x zeroM (hR6.bx.put' (by omega) _).row (hR7.bx.put _).row) rfl ⟨rfl, bw.trans (low_setRow _ (by omega))⟩
  have HK3 : Hid (m.k = 1 ∨ m.k = 3 ∨ m.k = 5 ∨ m.k = 6) := Lib.hid (by rw [HK.out]; omega)
  by_cases h3 : g.st = 3
  · have HS3 : Hid ((g.st == 3) = true) := Lib.hid (by simpa using h3)
    have HE : Hid (x = g ∧ r = backM m 5 g ∧ b = true ∧ c = 0) := Lib.hid (by
      have := H.out
      rw [HC.out g 5 HK3.out (by rw [HG.out.1]; unfold reactR; rw [if_neg N5.out, if_pos h3]), if_neg (by decide), resp_back (by decide)] at this
      injection this with a1 a2 a3 a4
      exact ⟨a1.symm, a2.symm, a3.symm, a4.symm⟩)
    have HB : Hid (backM m 5 g = r) := Lib.hid HE.out.2.1.symm
    obtain ⟨rfl, -, rfl, rfl⟩ := HE.out
    clear h3 h5
    rcases hk with hk | hk | hk
    all_goals
      subst hk
      go_enter Try.func10, Try.ntmps10
      go_wp2_with fail
      refine (rGet_is HG v W3 (HT.out.stays bw) hm).mono ?_
      rintro e v4 ⟨rfl, bv4⟩
      clear fM_row_W3
      replace hM := hM.stays bv4
      replace hR6 := hR6.stays bv4
      replace hR7 := hR7.stays bv4
      have lv4 : W3.heap.size ≤ v4.heap.size := bv4.size
      replace bw := nx bw bv4
      obtain ⟨W5, eW5⟩ : ∃ Q_ : World, (v4.alloc (.cells (ci zeroI) 37)).setRow v4.heap.size (ci x) = Q_ := ⟨_, rfl⟩
      have bW5 : Below v4.heap.size v4 W5 := eW5 ▸ below_setRow (below1 _ _) (Nat.le_refl _) _
      have pW5 := (Bx.new v4 (ci zeroI) 37).plain (n := 25) rfl
      replace hM := hM.stays bW5
      replace hR6 := hR6.stays bW5
      replace hR7 := hR7.stays bW5
      have hK : Ix W5 v4.heap.size x := ⟨eW5 ▸ Bx.put (Bx.new _ _ _) _⟩
      have lW5 : v4.heap.size < W5.heap.size := hK.bx.lt
      replace bw := nx bw bW5
      obtain ⟨fM_row_W5, -, -, -, -, -, -, -, -⟩ := hM.facts
      obtain ⟨W6, eW6⟩ : ∃ Q_ : World, (W5.alloc (.cells (ci zeroI) 37)).setRow W5.heap.size (ci (⟨m.pr, m.ps, m.bn, m.br, m.bn, m.br, 1, m.c, m.q, m.d, false⟩ : Ins)) = Q_ := ⟨_, rfl⟩
      have bW6 : Below W5.heap.size W5 W6 := eW6 ▸ below_setRow (below1 _ _) (Nat.le_refl _) _
      have pW6 := (Bx.new W5 (ci zeroI) 37).plain (n := 25) rfl
      replace hM := hM.stays bW6
      replace hR6 := hR6.stays bW6
      replace hR7 := hR7.stays bW6
      replace hK := hK.stays bW6
      have hX : Ix W6 W5.heap.size (⟨m.pr, m.ps, m.bn, m.br, m.bn, m.br, 1, m.c, m.q, m.d, false⟩ : Ins) := ⟨eW6 ▸ Bx.put (Bx.new _ _ _) _⟩
      have lW6 : W5.heap.size < W6.heap.size := hX.bx.lt
      replace bw := nx bw bW6
      go_wp2_with fail
      refine (rRightL_is HRt v W6 (HT.out.stays bw) hm).mono ?_
      rintro e v7 ⟨rfl, bv7⟩
      clear fM_row_W5
      replace hM := hM.stays bv7
      replace hR6 := hR6.stays bv7
      replace hR7 := hR7.stays bv7
      replace hK := hK.stays bv7
      replace hX := hX.stays bv7
      have lv7 : W6.heap.size ≤ v7.heap.size := bv7.size
      replace bw := nx bw bv7
      obtain ⟨fX_row_v7, -, -, -, -, -⟩ := hX.facts
      go_wp2_with fail
      refine (Rc.rRight_is HXo v7).mono ?_
      rintro e v8 ⟨rfl, bv8⟩
      clear fX_row_v7
      replace hM := hM.stays bv8
      replace hR6 := hR6.stays bv8
      replace hR7 := hR7.stays bv8
      replace hK := hK.stays bv8
      replace hX := hX.stays bv8
      have lv8 : v7.heap.size ≤ v8.heap.size := bv8.size
      replace bw := nx bw bv8
      obtain ⟨-, fM_c0_v8, -, -, -, -, -, -, -⟩ := hM.facts
      rw [HK.out] at fM_c0_v8
      obtain ⟨fK_row_v8, -, -, -, -, -⟩ := hK.facts
      go_wp2_with fail
      refine (rSettled_is HS3 v8).mono ?_
      rintro e v9 ⟨rfl, bv9⟩
      clear fM_c0_v8 fK_row_v8
      replace hM := hM.stays bv9
      replace hR6 := hR6.stays bv9
      replace hR7 := hR7.stays bv9
      replace hK := hK.stays bv9
      replace hX := hX.stays bv9
      have lv9 : v8.heap.size ≤ v9.heap.size := bv9.size
      replace bw := nx bw bv9
      have HS : Hid (SH w m x (w.heap.size) (v4.heap.size) v9) := Lib.hid ⟨bw, hM, hK⟩
      have HI := Lib.hid hR6
      have HO := Lib.hid hR7
      have hKK : ∀ u, SH w m x (w.heap.size) (v4.heap.size) u → row u (w.heap.size) = cg m ∧ row u (v4.heap.size) = ci x := fun u h => ⟨h.gm.facts.1, h.ii.facts.1⟩
      have HKk := Lib.hid hKK
      clear hKK
      go_wp2
      refine Rh.region (SH w m x (w.heap.size) (v4.heap.size)) (fun u => Ix u (W1.heap.size) zeroI ∧ Gx u (W2.heap.size) zeroM) (fun _ _ h k => h.stays k) (fun _ _ h k => ⟨h.1.stays k, h.2.stays k⟩) (HS.out.stays (Below.refl _ _).drew) (⟨HI.out.stays (Below.refl _ _).drew, HO.out.stays (Below.refl _ _).drew⟩) [0, 1, 2, 3, 4, 5, 6, 7] (by kernel_rfl) (by kernel_rfl) (by kernel_rfl) (fun _ _ d _ _ h => by cases d <;> exact h) ?_
      repeat (first | (refine Rh.Steps.skip (by rfl) (by kernel_rfl) (by rfl) ?_; simp only [Act.put, List.setIfInBounds_toArray, List.set_cons_zero, List.set_cons_succ]) | (refine Rh.Steps.pure (v := ?_) (by rfl) (by kernel_rfl) (by rfl) ?_ ?_; rotate_left; (intro w_ hS_; have hk_ := HKk.out w_ hS_; go_simp <;> with_reducible rfl); simp only [Act.put, List.setIfInBounds_toArray, List.set_cons_zero, List.set_cons_succ]) | (refine Rh.Steps.call (v := ?_) (f := ?_) (args := ?_) (by rfl) (by kernel_rfl) (by rfl) ?_ ?_ ?_; rotate_left 3; (intro w_ hS_; have hk_ := HKk.out w_ hS_; go_simp <;> first | with_reducible rfl | (constructor <;> with_reducible rfl)); (intro w_ hS_; have hk_ := HKk.out w_ hS_; first | (go_at_call 31; refine (back_is HB _).mono ?_; first | (rintro e w_ ⟨rfl, rfl⟩; refine ⟨?_, Below.refl _ _⟩; with_reducible rfl) | (rintro e w_ ⟨rfl, hb_⟩; refine ⟨?_, hb_⟩; with_reducible rfl))); simp only [Act.put, List.setIfInBounds_toArray, List.set_cons_zero, List.set_cons_succ]))
      refine Rh.Steps.forced (i := 4) (by kernel_rfl) ?_
      refine Rh.One.store (fun u => Ix u (W1.heap.size) x ∧ Gx u (W2.heap.size) zeroM) (fun _ _ h k => ⟨h.1.stays k, h.2.stays k⟩) (by rfl) (by rfl) ?_ ?_
      · intro w_ hS_ hG_
        obtain ⟨-, -, -, -, p3, -⟩ := hG_.1.facts
        refine ⟨_, ?_, hS_.put (b := W1.heap.size) (by omega) (by omega) (by omega) (ci x), ⟨hG_.1.bx.put _⟩, ⟨hG_.2.bx.put' (by omega) _⟩⟩
        go_simp
      simp only [Act.put]
      refine Rh.Steps.forced (i := 5) (by kernel_rfl) ?_
      refine Rh.One.store (fun u => Ix u (W1.heap.size) x ∧ Gx u (W2.heap.size) r) (fun _ _ h k => ⟨h.1.stays k, h.2.stays k⟩) (by rfl) (by rfl) ?_ ?_
      · intro w_ hS_ hG_
        obtain ⟨-, -, -, -, -, -, -, p4, -⟩ := hG_.2.facts
        refine ⟨_, ?_, hS_.put (b := W2.heap.size) (by omega) (by omega) (by omega) (cg r), ⟨hG_.1.bx.put' (by omega) _⟩, ⟨hG_.2.bx.put _⟩⟩
        go_simp
      simp only [Act.put]
      repeat (first | (refine Rh.Steps.skip (by rfl) (by kernel_rfl) (by rfl) ?_; simp only [Act.put, List.setIfInBounds_toArray, List.set_cons_zero, List.set_cons_succ]) | (refine Rh.Steps.pure (v := ?_) (by rfl) (by kernel_rfl) (by rfl) ?_ ?_; rotate_left; (intro w_ hS_; have hk_ := HKk.out w_ hS_; go_simp <;> with_reducible rfl); simp only [Act.put, List.setIfInBounds_toArray, List.set_cons_zero, List.set_cons_succ]))
      refine Rh.Steps.nil (by kernel_rfl) ?_
      intro u hS hG
      have hbu := hS.bw
      obtain ⟨hx, hr⟩ := hG
      clear hS
      go_wp2
      exact bodyPost_ret (v := .tuple #[.agg (ci x), .agg (cg r), .bool true, .int .i64 0]) (ret_IG4 Try.results10 _ _ x r hx.bx.row hr.bx.row) rfl ⟨rfl, hbu⟩
  have HS3 : Hid ((g.st == 3) = false) := Lib.hid (by simpa using h3)
  have N3 := Lib.hid h3
  clear h3
  obtain ⟨s, hs⟩ : ∃ s, staleB g m.bn m.br = s := ⟨_, rfl⟩
  have HSt := Lib.hid hs
  clear hs
  cases s with
  | true =>
    obtain ⟨n0, hn0⟩ : ∃ n0, backM m 8 zeroI = n0 := ⟨_, rfl⟩
    have HN0 := Lib.hid hn0
    have HE : Hid (x = g ∧ r = respM m 8 g ∧ b = true ∧ c = 0) := Lib.hid (by
      have := H.out
      rw [HC.out g 8 HK3.out (by rw [HG.out.1]; unfold reactR; rw [if_neg N5.out, if_neg N3.out, if_pos HSt.out]), if_neg (by decide)] at this
      injection this with a1 a2 a3 a4
      exact ⟨a1.symm, a2.symm, a3.symm, a4.symm⟩)
    obtain ⟨rfl, hr8, rfl, rfl⟩ := HE.out
    have HB : Hid (({ n0 with bn := x.bn, br := x.br, tn := m.bn, tr := m.br } : Msg) = r) := Lib.hid (by rw [← hn0, back_nack, hr8])
    clear h5 hn0 hr8
    rcases hk with hk | hk | hk
    all_goals
      subst hk
      go_enter Try.func10, Try.ntmps10
      go_wp2_with fail
      refine (rGet_is HG v W3 (HT.out.stays bw) hm).mono ?_
      rintro e v4 ⟨rfl, bv4⟩
      clear fM_row_W3
      replace hM := hM.stays bv4
      replace hR6 := hR6.stays bv4
      replace hR7 := hR7.stays bv4
      have lv4 : W3.heap.size ≤ v4.heap.size := bv4.size
      replace bw := nx bw bv4
      obtain ⟨W5, eW5⟩ : ∃ Q_ : World, (v4.alloc (.cells (ci zeroI) 37)).setRow v4.heap.size (ci x) = Q_ := ⟨_, rfl⟩
      have bW5 : Below v4.heap.size v4 W5 := eW5 ▸ below_setRow (below1 _ _) (Nat.le_refl _) _
      have pW5 := (Bx.new v4 (ci zeroI) 37).plain (n := 25) rfl
      replace hM := hM.stays bW5
      replace hR6 := hR6.stays bW5
      replace hR7 := hR7.stays bW5
      have hK : Ix W5 v4.heap.size x := ⟨eW5 ▸ Bx.put (Bx.new _ _ _) _⟩
      have lW5 : v4.heap.size < W5.heap.size := hK.bx.lt
      replace bw := nx bw bW5
      obtain ⟨fM_row_W5, -, -, -, -, -, -, -, -⟩ := hM.facts
      obtain ⟨W6, eW6⟩ : ∃ Q_ : World, (W5.alloc (.cells (ci zeroI) 37)).setRow W5.heap.size (ci (⟨m.pr, m.ps, m.bn, m.br, m.bn, m.br, 1, m.c, m.q, m.d, false⟩ : Ins)) = Q_ := ⟨_, rfl⟩
      have bW6 : Below W5.heap.size W5 W6 := eW6 ▸ below_setRow (below1 _ _) (Nat.le_refl _) _
      have pW6 := (Bx.new W5 (ci zeroI) 37).plain (n := 25) rfl
      replace hM := hM.stays bW6
      replace hR6 := hR6.stays bW6
      replace hR7 := hR7.stays bW6
      replace hK := hK.stays bW6
      have hX : Ix W6 W5.heap.size (⟨m.pr, m.ps, m.bn, m.br, m.bn, m.br, 1, m.c, m.q, m.d, false⟩ : Ins) := ⟨eW6 ▸ Bx.put (Bx.new _ _ _) _⟩
      have lW6 : W5.heap.size < W6.heap.size := hX.bx.lt
      replace bw := nx bw bW6
      go_wp2_with fail
      refine (rRightL_is HRt v W6 (HT.out.stays bw) hm).mono ?_
      rintro e v7 ⟨rfl, bv7⟩
      clear fM_row_W5
      replace hM := hM.stays bv7
      replace hR6 := hR6.stays bv7
      replace hR7 := hR7.stays bv7
      replace hK := hK.stays bv7
      replace hX := hX.stays bv7
      have lv7 : W6.heap.size ≤ v7.heap.size := bv7.size
      replace bw := nx bw bv7
      obtain ⟨fX_row_v7, -, -, -, -, -⟩ := hX.facts
      go_wp2_with fail
      refine (Rc.rRight_is HXo v7).mono ?_
      rintro e v8 ⟨rfl, bv8⟩
      clear fX_row_v7
      replace hM := hM.stays bv8
      replace hR6 := hR6.stays bv8
      replace hR7 := hR7.stays bv8
      replace hK := hK.stays bv8
      replace hX := hX.stays bv8
      have lv8 : v7.heap.size ≤ v8.heap.size := bv8.size
      replace bw := nx bw bv8
      obtain ⟨-, fM_c0_v8, -, -, -, -, -, -, -⟩ := hM.facts
      rw [HK.out] at fM_c0_v8
      obtain ⟨fK_row_v8, -, -, -, -, -⟩ := hK.facts
      go_wp2_with fail
      refine (rSettled_is HS3 v8).mono ?_
      rintro e v9 ⟨rfl, bv9⟩
      clear fM_c0_v8 fK_row_v8
      replace hM := hM.stays bv9
      replace hR6 := hR6.stays bv9
      replace hR7 := hR7.stays bv9
      replace hK := hK.stays bv9
      replace hX := hX.stays bv9
      have lv9 : v8.heap.size ≤ v9.heap.size := bv9.size
      replace bw := nx bw bv9
      obtain ⟨fK_row_v9, -, -, -, -, -⟩ := hK.facts
      obtain ⟨fM_row_v9, -, -, -, -, -, -, -, -⟩ := hM.facts
      go_wp2_with fail
      refine (rStale_is HSt v9).mono ?_
      rintro e v10 ⟨rfl, bv10⟩
      clear fK_row_v9 fM_row_v9
      replace hM := hM.stays bv10
      replace hR6 := hR6.stays bv10
      replace hR7 := hR7.stays bv10
      replace hK := hK.stays bv10
      replace hX := hX.stays bv10
      have lv10 : v9.heap.size ≤ v10.heap.size := bv10.size
      replace bw := nx bw bv10
      obtain ⟨fM_row_v10, -, -, -, -, -, -, -, -⟩ := hM.facts
      go_wp2_with fail
      refine (back_is HN0 v10).mono ?_
      rintro e v11 ⟨rfl, bv11⟩
      clear fM_row_v10
      replace hM := hM.stays bv11
      replace hR6 := hR6.stays bv11
      replace hR7 := hR7.stays bv11
      replace hK := hK.stays bv11
      replace hX := hX.stays bv11
      have lv11 : v10.heap.size ≤ v11.heap.size := bv11.size
      replace bw := nx bw bv11
      obtain ⟨W12, eW12⟩ : ∃ Q_ : World, (v11.alloc (.cells (cg zeroM) 34)).setRow v11.heap.size (cg n0) = Q_ := ⟨_, rfl⟩
      have bW12 : Below v11.heap.size v11 W12 := eW12 ▸ below_setRow (below1 _ _) (Nat.le_refl _) _
      have pW12 := (Bx.new v11 (cg zeroM) 34).plain (n := 28) rfl
      replace hM := hM.stays bW12
      replace hR6 := hR6.stays bW12
      replace hR7 := hR7.stays bW12
      replace hK := hK.stays bW12
      replace hX := hX.stays bW12
      have hN : Gx W12 v11.heap.size n0 := ⟨eW12 ▸ Bx.put (Bx.new _ _ _) _⟩
      have lW12 : v11.heap.size < W12.heap.size := hN.bx.lt
      replace bw := nx bw bW12
      obtain ⟨fK_row_W12, -, -, -, -, -⟩ := hK.facts
      have tW13 := hN.bx.there (o := 5) (n := 2) (by show 7 ≤ 28; decide)
      obtain ⟨W13, eW13⟩ : ∃ Q_ : World, W12.setCells (v11.heap.size) 5 [.int .i64 x.bn, .int .i64 x.br] = Q_ := ⟨_, rfl⟩
      replace hM : Gx W13 (w.heap.size) (m) := ⟨eW13 ▸ Bx.sets' (by omega) _ _ _ hM.bx⟩
      replace hR6 : Ix W13 (W1.heap.size) (zeroI) := ⟨eW13 ▸ Bx.sets' (by omega) _ _ _ hR6.bx⟩
      replace hR7 : Gx W13 (W2.heap.size) (zeroM) := ⟨eW13 ▸ Bx.sets' (by omega) _ _ _ hR7.bx⟩
      replace hK : Ix W13 (v4.heap.size) (x) := ⟨eW13 ▸ Bx.sets' (by omega) _ _ _ hK.bx⟩
      replace hX : Ix W13 (W5.heap.size) ((⟨m.pr, m.ps, m.bn, m.br, m.bn, m.br, 1, m.c, m.q, m.d, false⟩ : Ins)) := ⟨eW13 ▸ Bx.sets' (by omega) _ _ _ hX.bx⟩
      replace hN : Gx W13 (v11.heap.size) ({ n0 with bn := x.bn, br := x.br }) := ⟨by
        have t_ := Bx.sets (w := W12) [.int .i64 x.bn, .int .i64 x.br] 5 W12 _ hN.bx
        rw [over_gb] at t_
        exact eW13 ▸ t_⟩
      have lW13 : W12.heap.size ≤ W13.heap.size := eW13 ▸ (low_setCells (n := 0) (Nat.zero_le _) _ _ _).size
      replace bw : Below w.heap.size w W13 := eW13 ▸ bw.trans (low_setCells (by omega) _ _ _)
      obtain ⟨fM_row_W13, -, -, -, -, -, -, -, -⟩ := hM.facts
      have tW14 := hN.bx.there (o := 25) (n := 2) (by show 27 ≤ 28; decide)
      obtain ⟨W14, eW14⟩ : ∃ Q_ : World, W13.setCells (v11.heap.size) 25 [.int .i64 m.bn, .int .i64 m.br] = Q_ := ⟨_, rfl⟩
      replace hM : Gx W14 (w.heap.size) (m) := ⟨eW14 ▸ Bx.sets' (by omega) _ _ _ hM.bx⟩
      replace hR6 : Ix W14 (W1.heap.size) (zeroI) := ⟨eW14 ▸ Bx.sets' (by omega) _ _ _ hR6.bx⟩
      replace hR7 : Gx W14 (W2.heap.size) (zeroM) := ⟨eW14 ▸ Bx.sets' (by omega) _ _ _ hR7.bx⟩
      replace hK : Ix W14 (v4.heap.size) (x) := ⟨eW14 ▸ Bx.sets' (by omega) _ _ _ hK.bx⟩
      replace hX : Ix W14 (W5.heap.size) ((⟨m.pr, m.ps, m.bn, m.br, m.bn, m.br, 1, m.c, m.q, m.d, false⟩ : Ins)) := ⟨eW14 ▸ Bx.sets' (by omega) _ _ _ hX.bx⟩
      replace hN : Gx W14 (v11.heap.size) ({ n0 with bn := x.bn, br := x.br, tn := m.bn, tr := m.br }) := ⟨by
        have t_ := Bx.sets (w := W13) [.int .i64 m.bn, .int .i64 m.br] 25 W13 _ hN.bx
        rw [over_gt] at t_
        exact eW14 ▸ t_⟩
      have lW14 : W13.heap.size ≤ W14.heap.size := eW14 ▸ (low_setCells (n := 0) (Nat.zero_le _) _ _ _).size
      replace bw : Below w.heap.size w W14 := eW14 ▸ bw.trans (low_setCells (by omega) _ _ _)
      rw [HB.out] at hN
      have HS : Hid (SH w r x (v11.heap.size) (v4.heap.size) W14) := Lib.hid ⟨bw, hN, hK⟩
      have HI := Lib.hid hR6
      have HO := Lib.hid hR7
      have hKK : ∀ u, SH w r x (v11.heap.size) (v4.heap.size) u → row u (v11.heap.size) = cg r ∧ row u (v4.heap.size) = ci x := fun u h => ⟨h.gm.facts.1, h.ii.facts.1⟩
      have HKk := Lib.hid hKK
      clear hKK
      go_wp2
      clear fK_row_W12 fM_row_W13
      refine Rh.region (SH w r x (v11.heap.size) (v4.heap.size)) (fun u => Ix u (W1.heap.size) zeroI ∧ Gx u (W2.heap.size) zeroM) (fun _ _ h k => h.stays k) (fun _ _ h k => ⟨h.1.stays k, h.2.stays k⟩) (HS.out.stays (Below.refl _ _).drew) (⟨HI.out.stays (Below.refl _ _).drew, HO.out.stays (Below.refl _ _).drew⟩) [0, 1, 2, 3, 4, 5] (by kernel_rfl) (by kernel_rfl) (by kernel_rfl) (fun _ _ d _ _ h => by cases d <;> exact h) ?_
      repeat (first | (refine Rh.Steps.skip (by rfl) (by kernel_rfl) (by rfl) ?_; simp only [Act.put, List.setIfInBounds_toArray, List.set_cons_zero, List.set_cons_succ]) | (refine Rh.Steps.pure (v := ?_) (by rfl) (by kernel_rfl) (by rfl) ?_ ?_; rotate_left; (intro w_ hS_; have hk_ := HKk.out w_ hS_; go_simp <;> with_reducible rfl); simp only [Act.put, List.setIfInBounds_toArray, List.set_cons_zero, List.set_cons_succ]))
      refine Rh.Steps.forced (i := 2) (by kernel_rfl) ?_
      refine Rh.One.store (fun u => Ix u (W1.heap.size) x ∧ Gx u (W2.heap.size) zeroM) (fun _ _ h k => ⟨h.1.stays k, h.2.stays k⟩) (by rfl) (by rfl) ?_ ?_
      · intro w_ hS_ hG_
        obtain ⟨-, -, -, -, p3, -⟩ := hG_.1.facts
        refine ⟨_, ?_, hS_.put (b := W1.heap.size) (by omega) (by omega) (by omega) (ci x), ⟨hG_.1.bx.put _⟩, ⟨hG_.2.bx.put' (by omega) _⟩⟩
        go_simp
      simp only [Act.put]
      refine Rh.Steps.forced (i := 3) (by kernel_rfl) ?_
      refine Rh.One.store (fun u => Ix u (W1.heap.size) x ∧ Gx u (W2.heap.size) r) (fun _ _ h k => ⟨h.1.stays k, h.2.stays k⟩) (by rfl) (by rfl) ?_ ?_
      · intro w_ hS_ hG_
        obtain ⟨-, -, -, -, -, -, -, p4, -⟩ := hG_.2.facts
        refine ⟨_, ?_, hS_.put (b := W2.heap.size) (by omega) (by omega) (by omega) (cg r), ⟨hG_.1.bx.put' (by omega) _⟩, ⟨hG_.2.bx.put _⟩⟩
        go_simp
      simp only [Act.put]
      repeat (first | (refine Rh.Steps.skip (by rfl) (by kernel_rfl) (by rfl) ?_; simp only [Act.put, List.setIfInBounds_toArray, List.set_cons_zero, List.set_cons_succ]) | (refine Rh.Steps.pure (v := ?_) (by rfl) (by kernel_rfl) (by rfl) ?_ ?_; rotate_left; (intro w_ hS_; have hk_ := HKk.out w_ hS_; go_simp <;> with_reducible rfl); simp only [Act.put, List.setIfInBounds_toArray, List.set_cons_zero, List.set_cons_succ]))
      refine Rh.Steps.nil (by kernel_rfl) ?_
      intro u hS hG
      have hbu := hS.bw
      obtain ⟨hx, hr⟩ := hG
      clear hS
      go_wp2
      exact bodyPost_ret (v := .tuple #[.agg (ci x), .agg (cg r), .bool true, .int .i64 0]) (ret_IG4 Try.results10 _ _ x r hx.bx.row hr.bx.row) rfl ⟨rfl, hbu⟩
  | false =>
  have NSt : Hid (¬ staleB g m.bn m.br = true) := Lib.hid (by rw [HSt.out]; decide)
  rcases hk with hk | hk | hk
  · subst hk
    obtain ⟨⟨j, k2⟩, hj⟩ : ∃ R, propR l g m = R := ⟨_, rfl⟩
    have HJ := Lib.hid hj
    obtain ⟨r2, hr2⟩ : ∃ r2, (if k2 = 0 then zeroM else backM m k2 j) = r2 := ⟨_, rfl⟩
    have HR2 := Lib.hid hr2
    have HE : Hid (x = j ∧ r = r2 ∧ b = (k2 != 0) ∧ c = 0) := Lib.hid (by
      have := H.out
      rw [HC.out j k2 HK3.out (by rw [HG.out.1]; unfold reactR; rw [if_neg N5.out, if_neg N3.out, if_neg NSt.out, if_pos HK.out, hj])] at this
      by_cases e : k2 = 0
      · rw [if_pos e] at this hr2
        injection this with a1 a2 a3 a4
        exact ⟨a1.symm, by rw [← a2, hr2], by rw [← a3, e]; rfl, a4.symm⟩
      · rw [if_neg e] at this hr2
        injection this with a1 a2 a3 a4
        refine ⟨a1.symm, ?_, by rw [← a3]; simpa using e, a4.symm⟩
        rw [← a2, ← hr2]
        exact resp_back fun h8 => by
          have hp : propR l g m = (j, k2) := hj
          unfold propR at hp
          rw [h8] at hp
          split at hp
          · injection hp with _ e; exact absurd e (by decide)
          · split at hp
            · injection hp with _ e; exact absurd e (by decide)
            · injection hp with _ e; exact absurd e (by decide))
    obtain ⟨rfl, rfl, rfl, rfl⟩ := HE.out
    clear h5 hj hr2
    go_enter Try.func10, Try.ntmps10
    go_wp2_with fail
    refine (rGet_is HG v W3 (HT.out.stays bw) hm).mono ?_
    rintro e v4 ⟨rfl, bv4⟩
    clear fM_row_W3
    replace hM := hM.stays bv4
    replace hR6 := hR6.stays bv4
    replace hR7 := hR7.stays bv4
    have lv4 : W3.heap.size ≤ v4.heap.size := bv4.size
    replace bw := nx bw bv4
    obtain ⟨W5, eW5⟩ : ∃ Q_ : World, (v4.alloc (.cells (ci zeroI) 37)).setRow v4.heap.size (ci g) = Q_ := ⟨_, rfl⟩
    have bW5 : Below v4.heap.size v4 W5 := eW5 ▸ below_setRow (below1 _ _) (Nat.le_refl _) _
    have pW5 := (Bx.new v4 (ci zeroI) 37).plain (n := 25) rfl
    replace hM := hM.stays bW5
    replace hR6 := hR6.stays bW5
    replace hR7 := hR7.stays bW5
    have hK : Ix W5 v4.heap.size g := ⟨eW5 ▸ Bx.put (Bx.new _ _ _) _⟩
    have lW5 : v4.heap.size < W5.heap.size := hK.bx.lt
    replace bw := nx bw bW5
    obtain ⟨fM_row_W5, -, -, -, -, -, -, -, -⟩ := hM.facts
    obtain ⟨W6, eW6⟩ : ∃ Q_ : World, (W5.alloc (.cells (ci zeroI) 37)).setRow W5.heap.size (ci (⟨m.pr, m.ps, m.bn, m.br, m.bn, m.br, 1, m.c, m.q, m.d, false⟩ : Ins)) = Q_ := ⟨_, rfl⟩
    have bW6 : Below W5.heap.size W5 W6 := eW6 ▸ below_setRow (below1 _ _) (Nat.le_refl _) _
    have pW6 := (Bx.new W5 (ci zeroI) 37).plain (n := 25) rfl
    replace hM := hM.stays bW6
    replace hR6 := hR6.stays bW6
    replace hR7 := hR7.stays bW6
    replace hK := hK.stays bW6
    have hX : Ix W6 W5.heap.size (⟨m.pr, m.ps, m.bn, m.br, m.bn, m.br, 1, m.c, m.q, m.d, false⟩ : Ins) := ⟨eW6 ▸ Bx.put (Bx.new _ _ _) _⟩
    have lW6 : W5.heap.size < W6.heap.size := hX.bx.lt
    replace bw := nx bw bW6
    go_wp2_with fail
    refine (rRightL_is HRt v W6 (HT.out.stays bw) hm).mono ?_
    rintro e v7 ⟨rfl, bv7⟩
    clear fM_row_W5
    replace hM := hM.stays bv7
    replace hR6 := hR6.stays bv7
    replace hR7 := hR7.stays bv7
    replace hK := hK.stays bv7
    replace hX := hX.stays bv7
    have lv7 : W6.heap.size ≤ v7.heap.size := bv7.size
    replace bw := nx bw bv7
    obtain ⟨fX_row_v7, -, -, -, -, -⟩ := hX.facts
    go_wp2_with fail
    refine (Rc.rRight_is HXo v7).mono ?_
    rintro e v8 ⟨rfl, bv8⟩
    clear fX_row_v7
    replace hM := hM.stays bv8
    replace hR6 := hR6.stays bv8
    replace hR7 := hR7.stays bv8
    replace hK := hK.stays bv8
    replace hX := hX.stays bv8
    have lv8 : v7.heap.size ≤ v8.heap.size := bv8.size
    replace bw := nx bw bv8
    obtain ⟨-, fM_c0_v8, -, -, -, -, -, -, -⟩ := hM.facts
    rw [HK.out] at fM_c0_v8
    obtain ⟨fK_row_v8, -, -, -, -, -⟩ := hK.facts
    go_wp2_with fail
    refine (rSettled_is HS3 v8).mono ?_
    rintro e v9 ⟨rfl, bv9⟩
    clear fM_c0_v8 fK_row_v8
    replace hM := hM.stays bv9
    replace hR6 := hR6.stays bv9
    replace hR7 := hR7.stays bv9
    replace hK := hK.stays bv9
    replace hX := hX.stays bv9
    have lv9 : v8.heap.size ≤ v9.heap.size := bv9.size
    replace bw := nx bw bv9
    obtain ⟨fK_row_v9, -, -, -, -, -⟩ := hK.facts
    obtain ⟨fM_row_v9, -, -, -, -, -, -, -, -⟩ := hM.facts
    go_wp2_with fail
    refine (rStale_is HSt v9).mono ?_
    rintro e v10 ⟨rfl, bv10⟩
    clear fK_row_v9 fM_row_v9
    replace hM := hM.stays bv10
    replace hR6 := hR6.stays bv10
    replace hR7 := hR7.stays bv10
    replace hK := hK.stays bv10
    replace hX := hX.stays bv10
    have lv10 : v9.heap.size ≤ v10.heap.size := bv10.size
    replace bw := nx bw bv10
    obtain ⟨-, fM_c0_v10, -, -, -, -, -, -, -⟩ := hM.facts
    rw [HK.out] at fM_c0_v10
    obtain ⟨fK_row_v10, -, -, -, -, -⟩ := hK.facts
    obtain ⟨fM_row_v10, -, -, -, -, -, -, -, -⟩ := hM.facts
    have hpre := pre_any q l v g m v10 (HT.out.stays bw) hm HJ HR2
    have HPre := Lib.hid hpre
    clear hpre
    go_wp2_with fail
    refine (HPre.out).mono ?_
    rintro e v11 ⟨rfl, bv11⟩
    clear fM_c0_v10 fK_row_v10 fM_row_v10
    replace hM := hM.stays bv11
    replace hR6 := hR6.stays bv11
    replace hR7 := hR7.stays bv11
    replace hK := hK.stays bv11
    replace hX := hX.stays bv11
    have lv11 : v10.heap.size ≤ v11.heap.size := bv11.size
    replace bw := nx bw bv11
    obtain ⟨W12, eW12⟩ : ∃ Q_ : World, v11.alloc (.cells (ci zeroI) 37) = Q_ := ⟨_, rfl⟩
    have bW12 : Below v11.heap.size v11 W12 := eW12 ▸ below1 _ _
    replace hM := hM.stays bW12
    replace hR6 := hR6.stays bW12
    replace hR7 := hR7.stays bW12
    replace hK := hK.stays bW12
    replace hX := hX.stays bW12
    have hJ : Ix W12 v11.heap.size zeroI := ⟨eW12 ▸ Bx.new _ _ _⟩
    have lW12 : v11.heap.size < W12.heap.size := hJ.bx.lt
    replace bw := nx bw bW12
    obtain ⟨W13, eW13⟩ : ∃ Q_ : World, W12.alloc (.cells (cg zeroM) 34) = Q_ := ⟨_, rfl⟩
    have bW13 : Below W12.heap.size W12 W13 := eW13 ▸ below1 _ _
    replace hM := hM.stays bW13
    replace hR6 := hR6.stays bW13
    replace hR7 := hR7.stays bW13
    replace hK := hK.stays bW13
    replace hX := hX.stays bW13
    replace hJ := hJ.stays bW13
    have hN : Gx W13 W12.heap.size zeroM := ⟨eW13 ▸ Bx.new _ _ _⟩
    have lW13 : W12.heap.size < W13.heap.size := hN.bx.lt
    replace bw := nx bw bW13
    obtain ⟨-, -, -, -, fJ_plain_W13, -⟩ := hJ.facts
    obtain ⟨W14, eW14⟩ : ∃ Q_ : World, W13.setRow (v11.heap.size) (ci (x)) = Q_ := ⟨_, rfl⟩
    replace hM : Gx W14 (w.heap.size) (m) := ⟨eW14 ▸ hM.bx.put' (by omega) _⟩
    replace hR6 : Ix W14 (W1.heap.size) (zeroI) := ⟨eW14 ▸ hR6.bx.put' (by omega) _⟩
    replace hR7 : Gx W14 (W2.heap.size) (zeroM) := ⟨eW14 ▸ hR7.bx.put' (by omega) _⟩
    replace hK : Ix W14 (v4.heap.size) (g) := ⟨eW14 ▸ hK.bx.put' (by omega) _⟩
    replace hX : Ix W14 (W5.heap.size) ((⟨m.pr, m.ps, m.bn, m.br, m.bn, m.br, 1, m.c, m.q, m.d, false⟩ : Ins)) := ⟨eW14 ▸ hX.bx.put' (by omega) _⟩
    replace hN : Gx W14 (W12.heap.size) (zeroM) := ⟨eW14 ▸ hN.bx.put' (by omega) _⟩
    replace hJ : Ix W14 (v11.heap.size) (x) := ⟨eW14 ▸ hJ.bx.put _⟩
    have lW14 : W13.heap.size ≤ W14.heap.size := eW14 ▸ (low_setRow (n := 0) _ (Nat.zero_le _)).size
    replace bw : Below w.heap.size w W14 := eW14 ▸ bw.trans (low_setRow _ (by omega))
    obtain ⟨-, -, -, -, -, -, -, fN_plain_W14, -⟩ := hN.facts
    obtain ⟨W15, eW15⟩ : ∃ Q_ : World, W14.setRow (W12.heap.size) (cg (r)) = Q_ := ⟨_, rfl⟩
    replace hM : Gx W15 (w.heap.size) (m) := ⟨eW15 ▸ hM.bx.put' (by omega) _⟩
    replace hR6 : Ix W15 (W1.heap.size) (zeroI) := ⟨eW15 ▸ hR6.bx.put' (by omega) _⟩
    replace hR7 : Gx W15 (W2.heap.size) (zeroM) := ⟨eW15 ▸ hR7.bx.put' (by omega) _⟩
    replace hK : Ix W15 (v4.heap.size) (g) := ⟨eW15 ▸ hK.bx.put' (by omega) _⟩
    replace hX : Ix W15 (W5.heap.size) ((⟨m.pr, m.ps, m.bn, m.br, m.bn, m.br, 1, m.c, m.q, m.d, false⟩ : Ins)) := ⟨eW15 ▸ hX.bx.put' (by omega) _⟩
    replace hJ : Ix W15 (v11.heap.size) (x) := ⟨eW15 ▸ hJ.bx.put' (by omega) _⟩
    replace hN : Gx W15 (W12.heap.size) (r) := ⟨eW15 ▸ hN.bx.put _⟩
    have lW15 : W14.heap.size ≤ W15.heap.size := eW15 ▸ (low_setRow (n := 0) _ (Nat.zero_le _)).size
    replace bw : Below w.heap.size w W15 := eW15 ▸ bw.trans (low_setRow _ (by omega))
    have HS : Hid (SH w r x (W12.heap.size) (v11.heap.size) W15) := Lib.hid ⟨bw, hN, hJ⟩
    have HI := Lib.hid hR6
    have HO := Lib.hid hR7
    have hKK : ∀ u, SH w r x (W12.heap.size) (v11.heap.size) u → row u (W12.heap.size) = cg r ∧ row u (v11.heap.size) = ci x := fun u h => ⟨h.gm.facts.1, h.ii.facts.1⟩
    have HKk := Lib.hid hKK
    clear hKK
    go_wp2
    clear fJ_plain_W13 fN_plain_W14
    refine Rh.region (SH w r x (W12.heap.size) (v11.heap.size)) (fun u => Ix u (W1.heap.size) zeroI ∧ Gx u (W2.heap.size) zeroM) (fun _ _ h k => h.stays k) (fun _ _ h k => ⟨h.1.stays k, h.2.stays k⟩) (HS.out.stays (Below.refl _ _).drew) (⟨HI.out.stays (Below.refl _ _).drew, HO.out.stays (Below.refl _ _).drew⟩) [0, 1, 2, 3, 4, 5, 6] (by kernel_rfl) (by kernel_rfl) (by kernel_rfl) (fun _ _ d _ _ h => by cases d <;> exact h) ?_
    repeat (first | (refine Rh.Steps.skip (by rfl) (by kernel_rfl) (by rfl) ?_; simp only [Act.put, List.setIfInBounds_toArray, List.set_cons_zero, List.set_cons_succ]) | (refine Rh.Steps.pure (v := ?_) (by rfl) (by kernel_rfl) (by rfl) ?_ ?_; rotate_left; (intro w_ hS_; have hk_ := HKk.out w_ hS_; go_simp <;> with_reducible rfl); simp only [Act.put, List.setIfInBounds_toArray, List.set_cons_zero, List.set_cons_succ]))
    refine Rh.Steps.forced (i := 3) (by kernel_rfl) ?_
    refine Rh.One.store (fun u => Ix u (W1.heap.size) x ∧ Gx u (W2.heap.size) zeroM) (fun _ _ h k => ⟨h.1.stays k, h.2.stays k⟩) (by rfl) (by rfl) ?_ ?_
    · intro w_ hS_ hG_
      obtain ⟨-, -, -, -, p3, -⟩ := hG_.1.facts
      refine ⟨_, ?_, hS_.put (b := W1.heap.size) (by omega) (by omega) (by omega) (ci x), ⟨hG_.1.bx.put _⟩, ⟨hG_.2.bx.put' (by omega) _⟩⟩
      go_simp
    simp only [Act.put]
    refine Rh.Steps.forced (i := 4) (by kernel_rfl) ?_
    refine Rh.One.store (fun u => Ix u (W1.heap.size) x ∧ Gx u (W2.heap.size) r) (fun _ _ h k => ⟨h.1.stays k, h.2.stays k⟩) (by rfl) (by rfl) ?_ ?_
    · intro w_ hS_ hG_
      obtain ⟨-, -, -, -, -, -, -, p4, -⟩ := hG_.2.facts
      refine ⟨_, ?_, hS_.put (b := W2.heap.size) (by omega) (by omega) (by omega) (cg r), ⟨hG_.1.bx.put' (by omega) _⟩, ⟨hG_.2.bx.put _⟩⟩
      go_simp
    simp only [Act.put]
    repeat (first | (refine Rh.Steps.skip (by rfl) (by kernel_rfl) (by rfl) ?_; simp only [Act.put, List.setIfInBounds_toArray, List.set_cons_zero, List.set_cons_succ]) | (refine Rh.Steps.pure (v := ?_) (by rfl) (by kernel_rfl) (by rfl) ?_ ?_; rotate_left; (intro w_ hS_; have hk_ := HKk.out w_ hS_; go_simp <;> with_reducible rfl); simp only [Act.put, List.setIfInBounds_toArray, List.set_cons_zero, List.set_cons_succ]))
    refine Rh.Steps.nil (by kernel_rfl) ?_
    intro u hS hG
    have hbu := hS.bw
    obtain ⟨hx, hr⟩ := hG
    clear hS
    go_wp2
    exact bodyPost_ret (v := .tuple #[.agg (ci x), .agg (cg r), .bool (k2 != 0), .int .i64 0]) (ret_IG4 Try.results10 _ _ x r hx.bx.row hr.bx.row) rfl ⟨rfl, hbu⟩
  · subst hk
    have HE : Hid (x = takenI m 2 ∧ r = backM m 4 (takenI m 2) ∧ b = true ∧ c = 0) := Lib.hid (by
      have := H.out
      rw [HC.out (takenI m 2) 4 HK3.out (by rw [HG.out.1]; unfold reactR; rw [if_neg N5.out, if_neg N3.out, if_neg NSt.out, if_neg (by rw [HK.out]; decide), if_pos HK.out]), if_neg (by decide), resp_back (by decide)] at this
      injection this with a1 a2 a3 a4
      exact ⟨a1.symm, a2.symm, a3.symm, a4.symm⟩)
    have HX : Hid ((⟨m.pr, m.ps, m.bn, m.br, m.bn, m.br, 2, m.c, m.q, m.d, false⟩ : Ins) = x) := Lib.hid HE.out.1.symm
    have HB : Hid (backM m 4 x = r) := Lib.hid (by rw [HE.out.1]; exact HE.out.2.1.symm)
    obtain ⟨-, -, rfl, rfl⟩ := HE.out
    clear h5
    go_enter Try.func10, Try.ntmps10
    go_wp2_with fail
    refine (rGet_is HG v W3 (HT.out.stays bw) hm).mono ?_
    rintro e v4 ⟨rfl, bv4⟩
    clear fM_row_W3
    replace hM := hM.stays bv4
    replace hR6 := hR6.stays bv4
    replace hR7 := hR7.stays bv4
    have lv4 : W3.heap.size ≤ v4.heap.size := bv4.size
    replace bw := nx bw bv4
    obtain ⟨W5, eW5⟩ : ∃ Q_ : World, (v4.alloc (.cells (ci zeroI) 37)).setRow v4.heap.size (ci g) = Q_ := ⟨_, rfl⟩
    have bW5 : Below v4.heap.size v4 W5 := eW5 ▸ below_setRow (below1 _ _) (Nat.le_refl _) _
    have pW5 := (Bx.new v4 (ci zeroI) 37).plain (n := 25) rfl
    replace hM := hM.stays bW5
    replace hR6 := hR6.stays bW5
    replace hR7 := hR7.stays bW5
    have hK : Ix W5 v4.heap.size g := ⟨eW5 ▸ Bx.put (Bx.new _ _ _) _⟩
    have lW5 : v4.heap.size < W5.heap.size := hK.bx.lt
    replace bw := nx bw bW5
    obtain ⟨fM_row_W5, -, -, -, -, -, -, -, -⟩ := hM.facts
    obtain ⟨W6, eW6⟩ : ∃ Q_ : World, (W5.alloc (.cells (ci zeroI) 37)).setRow W5.heap.size (ci (⟨m.pr, m.ps, m.bn, m.br, m.bn, m.br, 1, m.c, m.q, m.d, false⟩ : Ins)) = Q_ := ⟨_, rfl⟩
    have bW6 : Below W5.heap.size W5 W6 := eW6 ▸ below_setRow (below1 _ _) (Nat.le_refl _) _
    have pW6 := (Bx.new W5 (ci zeroI) 37).plain (n := 25) rfl
    replace hM := hM.stays bW6
    replace hR6 := hR6.stays bW6
    replace hR7 := hR7.stays bW6
    replace hK := hK.stays bW6
    have hX : Ix W6 W5.heap.size (⟨m.pr, m.ps, m.bn, m.br, m.bn, m.br, 1, m.c, m.q, m.d, false⟩ : Ins) := ⟨eW6 ▸ Bx.put (Bx.new _ _ _) _⟩
    have lW6 : W5.heap.size < W6.heap.size := hX.bx.lt
    replace bw := nx bw bW6
    go_wp2_with fail
    refine (rRightL_is HRt v W6 (HT.out.stays bw) hm).mono ?_
    rintro e v7 ⟨rfl, bv7⟩
    clear fM_row_W5
    replace hM := hM.stays bv7
    replace hR6 := hR6.stays bv7
    replace hR7 := hR7.stays bv7
    replace hK := hK.stays bv7
    replace hX := hX.stays bv7
    have lv7 : W6.heap.size ≤ v7.heap.size := bv7.size
    replace bw := nx bw bv7
    obtain ⟨fX_row_v7, -, -, -, -, -⟩ := hX.facts
    go_wp2_with fail
    refine (Rc.rRight_is HXo v7).mono ?_
    rintro e v8 ⟨rfl, bv8⟩
    clear fX_row_v7
    replace hM := hM.stays bv8
    replace hR6 := hR6.stays bv8
    replace hR7 := hR7.stays bv8
    replace hK := hK.stays bv8
    replace hX := hX.stays bv8
    have lv8 : v7.heap.size ≤ v8.heap.size := bv8.size
    replace bw := nx bw bv8
    obtain ⟨-, fM_c0_v8, -, -, -, -, -, -, -⟩ := hM.facts
    rw [HK.out] at fM_c0_v8
    obtain ⟨fK_row_v8, -, -, -, -, -⟩ := hK.facts
    go_wp2_with fail
    refine (rSettled_is HS3 v8).mono ?_
    rintro e v9 ⟨rfl, bv9⟩
    clear fM_c0_v8 fK_row_v8
    replace hM := hM.stays bv9
    replace hR6 := hR6.stays bv9
    replace hR7 := hR7.stays bv9
    replace hK := hK.stays bv9
    replace hX := hX.stays bv9
    have lv9 : v8.heap.size ≤ v9.heap.size := bv9.size
    replace bw := nx bw bv9
    obtain ⟨fK_row_v9, -, -, -, -, -⟩ := hK.facts
    obtain ⟨fM_row_v9, -, -, -, -, -, -, -, -⟩ := hM.facts
    go_wp2_with fail
    refine (rStale_is HSt v9).mono ?_
    rintro e v10 ⟨rfl, bv10⟩
    clear fK_row_v9 fM_row_v9
    replace hM := hM.stays bv10
    replace hR6 := hR6.stays bv10
    replace hR7 := hR7.stays bv10
    replace hK := hK.stays bv10
    replace hX := hX.stays bv10
    have lv10 : v9.heap.size ≤ v10.heap.size := bv10.size
    replace bw := nx bw bv10
    obtain ⟨-, fM_c0_v10, -, -, -, -, -, -, -⟩ := hM.facts
    rw [HK.out] at fM_c0_v10
    obtain ⟨-, fX_c6_v10, -, -, -, -⟩ := hX.facts
    have zW11 : v10.frozen? ⟨W5.heap.size, 6, none⟩ = false := hX.bx.thawed _
    obtain ⟨W11, eW11⟩ : ∃ Q_ : World, v10.setCell ⟨W5.heap.size, 6, none⟩ (.int .i64 2) = Q_ := ⟨_, rfl⟩
    replace hM : Gx W11 (w.heap.size) (m) := ⟨eW11 ▸ hM.bx.set' (by omega) _ _⟩
    replace hR6 : Ix W11 (W1.heap.size) (zeroI) := ⟨eW11 ▸ hR6.bx.set' (by omega) _ _⟩
    replace hR7 : Gx W11 (W2.heap.size) (zeroM) := ⟨eW11 ▸ hR7.bx.set' (by omega) _ _⟩
    replace hK : Ix W11 (v4.heap.size) (g) := ⟨eW11 ▸ hK.bx.set' (by omega) _ _⟩
    replace hX : Ix W11 (W5.heap.size) ((⟨m.pr, m.ps, m.bn, m.br, m.bn, m.br, 2, m.c, m.q, m.d, false⟩ : Ins)) := ⟨by
      have t_ := hX.bx.set 6 (.int .i64 2)
      rw [set_ist] at t_
      exact eW11 ▸ t_⟩
    have lW11 : v10.heap.size ≤ W11.heap.size := eW11 ▸ (low_setCell (n := 0) _ _ (Nat.zero_le _)).size
    replace bw : Below w.heap.size w W11 := eW11 ▸ bw.trans (low_setCell _ _ (by omega))
    rw [HX.out] at hX
    have HS : Hid (SH w m x (w.heap.size) (W5.heap.size) W11) := Lib.hid ⟨bw, hM, hX⟩
    have HI := Lib.hid hR6
    have HO := Lib.hid hR7
    have hKK : ∀ u, SH w m x (w.heap.size) (W5.heap.size) u → row u (w.heap.size) = cg m ∧ row u (W5.heap.size) = ci x := fun u h => ⟨h.gm.facts.1, h.ii.facts.1⟩
    have HKk := Lib.hid hKK
    clear hKK
    go_wp2
    clear fM_c0_v10 fX_c6_v10
    refine Rh.region (SH w m x (w.heap.size) (W5.heap.size)) (fun u => Ix u (W1.heap.size) zeroI ∧ Gx u (W2.heap.size) zeroM) (fun _ _ h k => h.stays k) (fun _ _ h k => ⟨h.1.stays k, h.2.stays k⟩) (HS.out.stays (Below.refl _ _).drew) (⟨HI.out.stays (Below.refl _ _).drew, HO.out.stays (Below.refl _ _).drew⟩) [0, 1, 2, 3, 4, 5, 6, 7] (by kernel_rfl) (by kernel_rfl) (by kernel_rfl) (fun _ _ d _ _ h => by cases d <;> exact h) ?_
    repeat (first | (refine Rh.Steps.skip (by rfl) (by kernel_rfl) (by rfl) ?_; simp only [Act.put, List.setIfInBounds_toArray, List.set_cons_zero, List.set_cons_succ]) | (refine Rh.Steps.pure (v := ?_) (by rfl) (by kernel_rfl) (by rfl) ?_ ?_; rotate_left; (intro w_ hS_; have hk_ := HKk.out w_ hS_; go_simp <;> with_reducible rfl); simp only [Act.put, List.setIfInBounds_toArray, List.set_cons_zero, List.set_cons_succ]) | (refine Rh.Steps.call (v := ?_) (f := ?_) (args := ?_) (by rfl) (by kernel_rfl) (by rfl) ?_ ?_ ?_; rotate_left 3; (intro w_ hS_; have hk_ := HKk.out w_ hS_; go_simp <;> first | with_reducible rfl | (constructor <;> with_reducible rfl)); (intro w_ hS_; have hk_ := HKk.out w_ hS_; first | (go_at_call 31; refine (back_is HB _).mono ?_; first | (rintro e w_ ⟨rfl, rfl⟩; refine ⟨?_, Below.refl _ _⟩; with_reducible rfl) | (rintro e w_ ⟨rfl, hb_⟩; refine ⟨?_, hb_⟩; with_reducible rfl))); simp only [Act.put, List.setIfInBounds_toArray, List.set_cons_zero, List.set_cons_succ]))
    refine Rh.Steps.forced (i := 4) (by kernel_rfl) ?_
    refine Rh.One.store (fun u => Ix u (W1.heap.size) x ∧ Gx u (W2.heap.size) zeroM) (fun _ _ h k => ⟨h.1.stays k, h.2.stays k⟩) (by rfl) (by rfl) ?_ ?_
    · intro w_ hS_ hG_
      obtain ⟨-, -, -, -, p3, -⟩ := hG_.1.facts
      refine ⟨_, ?_, hS_.put (b := W1.heap.size) (by omega) (by omega) (by omega) (ci x), ⟨hG_.1.bx.put _⟩, ⟨hG_.2.bx.put' (by omega) _⟩⟩
      go_simp
    simp only [Act.put]
    refine Rh.Steps.forced (i := 5) (by kernel_rfl) ?_
    refine Rh.One.store (fun u => Ix u (W1.heap.size) x ∧ Gx u (W2.heap.size) r) (fun _ _ h k => ⟨h.1.stays k, h.2.stays k⟩) (by rfl) (by rfl) ?_ ?_
    · intro w_ hS_ hG_
      obtain ⟨-, -, -, -, -, -, -, p4, -⟩ := hG_.2.facts
      refine ⟨_, ?_, hS_.put (b := W2.heap.size) (by omega) (by omega) (by omega) (cg r), ⟨hG_.1.bx.put' (by omega) _⟩, ⟨hG_.2.bx.put _⟩⟩
      go_simp
    simp only [Act.put]
    repeat (first | (refine Rh.Steps.skip (by rfl) (by kernel_rfl) (by rfl) ?_; simp only [Act.put, List.setIfInBounds_toArray, List.set_cons_zero, List.set_cons_succ]) | (refine Rh.Steps.pure (v := ?_) (by rfl) (by kernel_rfl) (by rfl) ?_ ?_; rotate_left; (intro w_ hS_; have hk_ := HKk.out w_ hS_; go_simp <;> with_reducible rfl); simp only [Act.put, List.setIfInBounds_toArray, List.set_cons_zero, List.set_cons_succ]))
    refine Rh.Steps.nil (by kernel_rfl) ?_
    intro u hS hG
    have hbu := hS.bw
    obtain ⟨hx, hr⟩ := hG
    clear hS
    go_wp2
    exact bodyPost_ret (v := .tuple #[.agg (ci x), .agg (cg r), .bool true, .int .i64 0]) (ret_IG4 Try.results10 _ _ x r hx.bx.row hr.bx.row) rfl ⟨rfl, hbu⟩
  · subst hk
    have HE : Hid (x = promI g m ∧ r = backM m 7 (promI g m) ∧ b = true ∧ c = 0) := Lib.hid (by
      have := H.out
      rw [HC.out (promI g m) 7 HK3.out (by rw [HG.out.1]; unfold reactR; rw [if_neg N5.out, if_neg N3.out, if_neg NSt.out, if_neg (by rw [HK.out]; decide), if_neg (by rw [HK.out]; decide)]), if_neg (by decide), resp_back (by decide)] at this
      injection this with a1 a2 a3 a4
      exact ⟨a1.symm, a2.symm, a3.symm, a4.symm⟩)
    have HX : Hid (promI g m = x) := Lib.hid HE.out.1.symm
    have HB : Hid (backM m 7 x = r) := Lib.hid (by rw [HE.out.1]; exact HE.out.2.1.symm)
    obtain ⟨-, -, rfl, rfl⟩ := HE.out
    clear h5
    go_enter Try.func10, Try.ntmps10
    go_wp2_with fail
    refine (rGet_is HG v W3 (HT.out.stays bw) hm).mono ?_
    rintro e v4 ⟨rfl, bv4⟩
    clear fM_row_W3
    replace hM := hM.stays bv4
    replace hR6 := hR6.stays bv4
    replace hR7 := hR7.stays bv4
    have lv4 : W3.heap.size ≤ v4.heap.size := bv4.size
    replace bw := nx bw bv4
    obtain ⟨W5, eW5⟩ : ∃ Q_ : World, (v4.alloc (.cells (ci zeroI) 37)).setRow v4.heap.size (ci g) = Q_ := ⟨_, rfl⟩
    have bW5 : Below v4.heap.size v4 W5 := eW5 ▸ below_setRow (below1 _ _) (Nat.le_refl _) _
    have pW5 := (Bx.new v4 (ci zeroI) 37).plain (n := 25) rfl
    replace hM := hM.stays bW5
    replace hR6 := hR6.stays bW5
    replace hR7 := hR7.stays bW5
    have hK : Ix W5 v4.heap.size g := ⟨eW5 ▸ Bx.put (Bx.new _ _ _) _⟩
    have lW5 : v4.heap.size < W5.heap.size := hK.bx.lt
    replace bw := nx bw bW5
    obtain ⟨fM_row_W5, -, -, -, -, -, -, -, -⟩ := hM.facts
    obtain ⟨W6, eW6⟩ : ∃ Q_ : World, (W5.alloc (.cells (ci zeroI) 37)).setRow W5.heap.size (ci (⟨m.pr, m.ps, m.bn, m.br, m.bn, m.br, 1, m.c, m.q, m.d, false⟩ : Ins)) = Q_ := ⟨_, rfl⟩
    have bW6 : Below W5.heap.size W5 W6 := eW6 ▸ below_setRow (below1 _ _) (Nat.le_refl _) _
    have pW6 := (Bx.new W5 (ci zeroI) 37).plain (n := 25) rfl
    replace hM := hM.stays bW6
    replace hR6 := hR6.stays bW6
    replace hR7 := hR7.stays bW6
    replace hK := hK.stays bW6
    have hX : Ix W6 W5.heap.size (⟨m.pr, m.ps, m.bn, m.br, m.bn, m.br, 1, m.c, m.q, m.d, false⟩ : Ins) := ⟨eW6 ▸ Bx.put (Bx.new _ _ _) _⟩
    have lW6 : W5.heap.size < W6.heap.size := hX.bx.lt
    replace bw := nx bw bW6
    go_wp2_with fail
    refine (rRightL_is HRt v W6 (HT.out.stays bw) hm).mono ?_
    rintro e v7 ⟨rfl, bv7⟩
    clear fM_row_W5
    replace hM := hM.stays bv7
    replace hR6 := hR6.stays bv7
    replace hR7 := hR7.stays bv7
    replace hK := hK.stays bv7
    replace hX := hX.stays bv7
    have lv7 : W6.heap.size ≤ v7.heap.size := bv7.size
    replace bw := nx bw bv7
    obtain ⟨fX_row_v7, -, -, -, -, -⟩ := hX.facts
    go_wp2_with fail
    refine (Rc.rRight_is HXo v7).mono ?_
    rintro e v8 ⟨rfl, bv8⟩
    clear fX_row_v7
    replace hM := hM.stays bv8
    replace hR6 := hR6.stays bv8
    replace hR7 := hR7.stays bv8
    replace hK := hK.stays bv8
    replace hX := hX.stays bv8
    have lv8 : v7.heap.size ≤ v8.heap.size := bv8.size
    replace bw := nx bw bv8
    obtain ⟨-, fM_c0_v8, -, -, -, -, -, -, -⟩ := hM.facts
    rw [HK.out] at fM_c0_v8
    obtain ⟨fK_row_v8, -, -, -, -, -⟩ := hK.facts
    go_wp2_with fail
    refine (rSettled_is HS3 v8).mono ?_
    rintro e v9 ⟨rfl, bv9⟩
    clear fM_c0_v8 fK_row_v8
    replace hM := hM.stays bv9
    replace hR6 := hR6.stays bv9
    replace hR7 := hR7.stays bv9
    replace hK := hK.stays bv9
    replace hX := hX.stays bv9
    have lv9 : v8.heap.size ≤ v9.heap.size := bv9.size
    replace bw := nx bw bv9
    obtain ⟨fK_row_v9, -, -, -, -, -⟩ := hK.facts
    obtain ⟨fM_row_v9, -, -, -, -, -, -, -, -⟩ := hM.facts
    go_wp2_with fail
    refine (rStale_is HSt v9).mono ?_
    rintro e v10 ⟨rfl, bv10⟩
    clear fK_row_v9 fM_row_v9
    replace hM := hM.stays bv10
    replace hR6 := hR6.stays bv10
    replace hR7 := hR7.stays bv10
    replace hK := hK.stays bv10
    replace hX := hX.stays bv10
    have lv10 : v9.heap.size ≤ v10.heap.size := bv10.size
    replace bw := nx bw bv10
    obtain ⟨-, fM_c0_v10, -, -, -, -, -, -, -⟩ := hM.facts
    rw [HK.out] at fM_c0_v10
    obtain ⟨fM_row_v10, -, -, -, -, -, -, -, -⟩ := hM.facts
    have tW11 := hK.bx.there (o := 2) (n := 2) (by show 4 ≤ 25; decide)
    obtain ⟨W11, eW11⟩ : ∃ Q_ : World, v10.setCells (v4.heap.size) 2 [.int .i64 m.bn, .int .i64 m.br] = Q_ := ⟨_, rfl⟩
    replace hM : Gx W11 (w.heap.size) (m) := ⟨eW11 ▸ Bx.sets' (by omega) _ _ _ hM.bx⟩
    replace hR6 : Ix W11 (W1.heap.size) (zeroI) := ⟨eW11 ▸ Bx.sets' (by omega) _ _ _ hR6.bx⟩
    replace hR7 : Gx W11 (W2.heap.size) (zeroM) := ⟨eW11 ▸ Bx.sets' (by omega) _ _ _ hR7.bx⟩
    replace hX : Ix W11 (W5.heap.size) ((⟨m.pr, m.ps, m.bn, m.br, m.bn, m.br, 1, m.c, m.q, m.d, false⟩ : Ins)) := ⟨eW11 ▸ Bx.sets' (by omega) _ _ _ hX.bx⟩
    replace hK : Ix W11 (v4.heap.size) (promI g m) := ⟨by
      have t_ := Bx.sets (w := v10) [.int .i64 m.bn, .int .i64 m.br] 2 v10 _ hK.bx
      rw [over_prom, prom_upd] at t_
      exact eW11 ▸ t_⟩
    have lW11 : v10.heap.size ≤ W11.heap.size := eW11 ▸ (low_setCells (n := 0) (Nat.zero_le _) _ _ _).size
    replace bw : Below w.heap.size w W11 := eW11 ▸ bw.trans (low_setCells (by omega) _ _ _)
    rw [HX.out] at hK
    have HS : Hid (SH w m x (w.heap.size) (v4.heap.size) W11) := Lib.hid ⟨bw, hM, hK⟩
    have HI := Lib.hid hR6
    have HO := Lib.hid hR7
    have hKK : ∀ u, SH w m x (w.heap.size) (v4.heap.size) u → row u (w.heap.size) = cg m ∧ row u (v4.heap.size) = ci x := fun u h => ⟨h.gm.facts.1, h.ii.facts.1⟩
    have HKk := Lib.hid hKK
    clear hKK
    go_wp2
    clear fM_c0_v10 fM_row_v10
    refine Rh.region (SH w m x (w.heap.size) (v4.heap.size)) (fun u => Ix u (W1.heap.size) zeroI ∧ Gx u (W2.heap.size) zeroM) (fun _ _ h k => h.stays k) (fun _ _ h k => ⟨h.1.stays k, h.2.stays k⟩) (HS.out.stays (Below.refl _ _).drew) (⟨HI.out.stays (Below.refl _ _).drew, HO.out.stays (Below.refl _ _).drew⟩) [0, 1, 2, 3, 4, 5, 6, 7] (by kernel_rfl) (by kernel_rfl) (by kernel_rfl) (fun _ _ d _ _ h => by cases d <;> exact h) ?_
    repeat (first | (refine Rh.Steps.skip (by rfl) (by kernel_rfl) (by rfl) ?_; simp only [Act.put, List.setIfInBounds_toArray, List.set_cons_zero, List.set_cons_succ]) | (refine Rh.Steps.pure (v := ?_) (by rfl) (by kernel_rfl) (by rfl) ?_ ?_; rotate_left; (intro w_ hS_; have hk_ := HKk.out w_ hS_; go_simp <;> with_reducible rfl); simp only [Act.put, List.setIfInBounds_toArray, List.set_cons_zero, List.set_cons_succ]) | (refine Rh.Steps.call (v := ?_) (f := ?_) (args := ?_) (by rfl) (by kernel_rfl) (by rfl) ?_ ?_ ?_; rotate_left 3; (intro w_ hS_; have hk_ := HKk.out w_ hS_; go_simp <;> first | with_reducible rfl | (constructor <;> with_reducible rfl)); (intro w_ hS_; have hk_ := HKk.out w_ hS_; first | (go_at_call 31; refine (back_is HB _).mono ?_; first | (rintro e w_ ⟨rfl, rfl⟩; refine ⟨?_, Below.refl _ _⟩; with_reducible rfl) | (rintro e w_ ⟨rfl, hb_⟩; refine ⟨?_, hb_⟩; with_reducible rfl))); simp only [Act.put, List.setIfInBounds_toArray, List.set_cons_zero, List.set_cons_succ]))
    refine Rh.Steps.forced (i := 4) (by kernel_rfl) ?_
    refine Rh.One.store (fun u => Ix u (W1.heap.size) x ∧ Gx u (W2.heap.size) zeroM) (fun _ _ h k => ⟨h.1.stays k, h.2.stays k⟩) (by rfl) (by rfl) ?_ ?_
    · intro w_ hS_ hG_
      obtain ⟨-, -, -, -, p3, -⟩ := hG_.1.facts
      refine ⟨_, ?_, hS_.put (b := W1.heap.size) (by omega) (by omega) (by omega) (ci x), ⟨hG_.1.bx.put _⟩, ⟨hG_.2.bx.put' (by omega) _⟩⟩
      go_simp
    simp only [Act.put]
    refine Rh.Steps.forced (i := 5) (by kernel_rfl) ?_
    refine Rh.One.store (fun u => Ix u (W1.heap.size) x ∧ Gx u (W2.heap.size) r) (fun _ _ h k => ⟨h.1.stays k, h.2.stays k⟩) (by rfl) (by rfl) ?_ ?_
    · intro w_ hS_ hG_
      obtain ⟨-, -, -, -, -, -, -, p4, -⟩ := hG_.2.facts
      refine ⟨_, ?_, hS_.put (b := W2.heap.size) (by omega) (by omega) (by omega) (cg r), ⟨hG_.1.bx.put' (by omega) _⟩, ⟨hG_.2.bx.put _⟩⟩
      go_simp
    simp only [Act.put]
    repeat (first | (refine Rh.Steps.skip (by rfl) (by kernel_rfl) (by rfl) ?_; simp only [Act.put, List.setIfInBounds_toArray, List.set_cons_zero, List.set_cons_succ]) | (refine Rh.Steps.pure (v := ?_) (by rfl) (by kernel_rfl) (by rfl) ?_ ?_; rotate_left; (intro w_ hS_; have hk_ := HKk.out w_ hS_; go_simp <;> with_reducible rfl); simp only [Act.put, List.setIfInBounds_toArray, List.set_cons_zero, List.set_cons_succ]))
    refine Rh.Steps.nil (by kernel_rfl) ?_
    intro u hS hG
    have hbu := hS.bw
    obtain ⟨hx, hr⟩ := hG
    clear hS
    go_wp2
    exact bodyPost_ret (v := .tuple #[.agg (ci x), .agg (cg r), .bool true, .int .i64 0]) (ret_IG4 Try.results10 _ _ x r hx.bx.row hr.bx.row) rfl ⟨rfl, hbu⟩
end Go.Proofs.Ytmaecknjamnnpaa.An
