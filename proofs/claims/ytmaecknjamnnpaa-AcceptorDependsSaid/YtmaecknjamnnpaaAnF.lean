/- Layer 19: package acceptor's propose. -/
import Derived.Test.YtmaecknjamnnpaaAnC
namespace Go.Proofs.Ytmaecknjamnnpaa.An
open Go.RowKit
set_option linter.unusedVariables false
open Go.Proofs.Ytmaecknjamnnpaa.Rw
open Go.Proofs.Ytmaecknjamnnpaa.Bv
open Go.Proofs.Ytmaecknjamnnpaa.In
open Go.Proofs.Ytmaecknjamnnpaa.St
open Go.Proofs.Ytmaecknjamnnpaa.Rc (Ins ci cv zeroI okI eqVal)
open Go.Proofs.Ytmaecknjamnnpaa.Ve (zeroV maxV)
theorem over_id (i : Ins) (d : Nat → Int) : over (ci i) 17 (Ve.fc d).toList = ci { i with d := d } := by
  rw [Ve.fc_list]
  simp [over, ci]
theorem set_iq (i : Ins) (q : Int) : (ci i).setIfInBounds 16 (.int .i64 q) = ci { i with q := q } := rfl
theorem set_ism (i : Ins) (b : Bool) : (ci i).setIfInBounds 24 (.bool b) = ci { i with sm := b } := rfl
theorem set_ist (i : Ins) (s : Int) : (ci i).setIfInBounds 6 (.int .i64 s) = ci { i with st := s } := rfl
theorem max_isH {a b c : Nat → Int} (h : Hid (maxV a b = c)) (w : World) :
    Calls Try.prog 37 #[.agg (Ve.fc a), .agg (Ve.fc b)] w fun e w' => e = .returned (.agg (Ve.fc c)) ∧ Below w.heap.size w w' := by
  rw [← h.out]; exact Ve.max_any a b w
theorem max_two (a b : Int) : (if a < b then b else a) = max a b := by split <;> omega
set_option maxRecDepth 8000 in
set_option maxHeartbeats 8000000 in
theorem propose_any (q : Nat) (l : List Ins) (v : Value) (i : Ins) (m : Msg) (w : World) (h : TI q l v w) (hm : l.length ≤ 1000000) :
    Calls Try.prog 44 #[v, .agg (ci i), .agg (cg m)] w fun e w' => e = .returned (.tuple #[.agg (ci (propR l i m).1), .int .i64 (propR l i m).2]) ∧ Below w.heap.size w w' := by
  obtain ⟨A0, hA0⟩ : ∃ Q_ : World, w.alloc (.cells (ci i) 37) = Q_ := ⟨_, rfl⟩
  have bA : Below w.heap.size w A0 := hA0 ▸ below1 _ _
  have iA : Ix A0 w.heap.size i := ⟨hA0 ▸ Bx.new _ _ _⟩
  obtain ⟨V, hV⟩ : ∃ Q_ : World, A0.alloc (.cells (cg m) 34) = Q_ := ⟨_, rfl⟩
  have bV : Below A0.heap.size A0 V := hV ▸ below1 _ _
  have gV : Gx V A0.heap.size m := ⟨hV ▸ Bx.new _ _ _⟩
  obtain ⟨U, hU⟩ : ∃ Q_ : World, V.alloc (.cells (ci zeroI) 37) = Q_ := ⟨_, rfl⟩
  have bU : Below V.heap.size V U := hU ▸ below1 _ _
  have oU : Ix U V.heap.size zeroI := ⟨hU ▸ Bx.new _ _ _⟩
  have gU := gV.stays bU
  have iU := (iA.stays bV).stays bU
  have bwU := nx (nx bA bV) bU
  have hl1 : w.heap.size < A0.heap.size := iA.bx.lt
  have hl2 : A0.heap.size < V.heap.size := gV.bx.lt
  have hl3 : V.heap.size < U.heap.size := oU.bx.lt
  obtain ⟨r1, c6, -, -, -, l1⟩ := iU.facts
  obtain ⟨r2, -, -, -, -, -, -, -, l2⟩ := gU.facts
  obtain ⟨-, -, -, -, p3, -⟩ := oU.facts
  have HT := Lib.hid (h.stays bwU)
  obtain ⟨x, hx⟩ : ∃ x, againB i m = x := ⟨_, rfl⟩
  have HX := Lib.hid hx
  have hxe : ((i.tn == m.bn) && (i.tr == m.br)) = x := hx
  obtain ⟨s, hs⟩ : ∃ s, i.st = s := ⟨_, rfl⟩
  have HS := Lib.hid hs
  rw [hs] at c6
  clear h iA gV bA bV bU hx hs
  by_cases ha : x = true ∧ s = 1
  · obtain ⟨rfl, rfl⟩ := ha
    have HR : Hid (propR l i m = (i, 2)) := Lib.hid (if_pos ⟨HX.out, HS.out⟩)
    rw [HR.out]
    go_enter Try.func44, Try.ntmps44
    go_wp2
    exact bodyPost_ret (v := .tuple #[.agg (ci i), .int .i64 2]) (Rc.ret_I2 Try.results44 _ _ i (oU.bx.put _).row) rfl ⟨rfl, below_setRow bwU (by omega) _⟩
  by_cases hb : x = true ∧ 1 < s
  · obtain ⟨rfl, hs1⟩ := hb
    have HR : Hid (propR l i m = (i, 0)) := Lib.hid (by
      unfold propR
      rw [if_neg (by rw [HS.out]; omega), if_pos ⟨HX.out, by rw [HS.out]; exact hs1⟩])
    rw [HR.out]
    have e1 : (s == 1) = false := by simp; omega
    have e2 : decide (s > 1) = true := decide_eq_true (by omega)
    clear ha
    go_enter Try.func44, Try.ntmps44
    go_wp2
    exact bodyPost_ret (v := .tuple #[.agg (ci i), .int .i64 0]) (Rc.ret_I2 Try.results44 _ _ i (oU.bx.put _).row) rfl ⟨rfl, below_setRow bwU (by omega) _⟩
  obtain ⟨dn, hdn⟩ : ∃ g, depN l m.c m.pr m.ps = g := ⟨_, rfl⟩
  obtain ⟨dv, hdv⟩ : ∃ g, depV l m.c m.pr m.ps = g := ⟨_, rfl⟩
  obtain ⟨mq, hmq⟩ : ∃ g, m.q = g := ⟨_, rfl⟩
  obtain ⟨y, hy⟩ : ∃ g, (if mq < dn then dn else mq) = g := ⟨_, rfl⟩
  obtain ⟨z, hz⟩ : ∃ g, maxV m.d dv = g := ⟨_, rfl⟩
  have HZ := Lib.hid hz
  obtain ⟨b, hbb⟩ : ∃ b, eqVal m.c y z m.c mq m.d = b := ⟨_, rfl⟩
  obtain ⟨j, hj⟩ : ∃ j, propI l m = j := ⟨_, rfl⟩
  have HJ : Hid (ci { takenI m 1 with q := y, d := z, sm := b } = ci j) := Lib.hid (by
    rw [← hj, ← hbb, ← hz, ← hy, max_two, ← hmq, ← hdn, ← hdv]; rfl)
  have HR : Hid (propR l i m = (j, 2)) := Lib.hid (by
    unfold propR
    rw [if_neg (by rw [HX.out, HS.out]; exact ha), if_neg (by rw [HX.out, HS.out]; exact hb), hj])
  have hor : x = false ∨ x = true ∧ (s == 1) = false ∧ decide (s > 1) = false := by
    cases x with
    | false => exact .inl rfl
    | true =>
      have h1 : ¬ s = 1 := fun e => ha ⟨rfl, e⟩
      have h2 : ¬ 1 < s := fun e => hb ⟨rfl, e⟩
      exact .inr ⟨rfl, by simpa using h1, decide_eq_false (by omega)⟩
  rw [HR.out]
  have HDn := Lib.hid hdn
  have HDv := Lib.hid hdv
  have HMq := Lib.hid hmq
  have HY := Lib.hid hy
  have HBB := Lib.hid hbb
  clear hdn hdv hmq hy hz hbb hj ha hb
  have main : Calls Try.prog 44 #[v, .agg (ci i), .agg (cg m)] w fun e w' => e = .returned (.tuple #[.agg (ci j), .int .i64 2]) ∧ Below w.heap.size w w' := by
    rcases hor with rfl | ⟨rfl, e1, e2⟩
    all_goals
      go_enter Try.func44, Try.ntmps44
      go_wp2_with fail
      clear hxe r1 c6 r2
      refine (taken_any m 1 U).mono ?_
      rintro e w1 ⟨rfl, hb1⟩
      have o1 := oU.stays hb1
      have g1 := gU.stays hb1
      obtain ⟨X, hX⟩ : ∃ Q_ : World, (w1.alloc (.cells (ci zeroI) 37)).setRow w1.heap.size (ci (takenI m 1)) = Q_ := ⟨_, rfl⟩
      have xX : Ix X w1.heap.size (takenI m 1) := ⟨hX ▸ Bx.put (Bx.new _ _ _) _⟩
      have bX : Below w1.heap.size w1 X := hX ▸ below_setRow (below1 _ _) (Nat.le_refl _) _
      have hplain := (Bx.new w1 (ci zeroI) 37).plain (n := 25) rfl
      have o2 := o1.stays bX
      have g2 := g1.stays bX
      have hl4 : V.heap.size < w1.heap.size := o1.bx.lt
      have hl5 : w1.heap.size < X.heap.size := xX.bx.lt
      obtain ⟨r3, -, -, -, -, -, -, -, l3⟩ := g2.facts
      have HTX := Lib.hid ((HT.out.stays hb1).stays bX)
      have hdep := depends_any q l v m.c m.pr m.ps X HTX.out hm
      rw [HDn.out, HDv.out] at hdep
      have HDep := Lib.hid hdep
      clear hdep
      go_wp2_with fail
      refine HDep.out.mono ?_
      rintro e w2 ⟨rfl, hb2⟩
      obtain ⟨D, hD⟩ : ∃ Q_ : World, (w2.alloc (.cells (Ve.fc zeroV) 30)).setRow w2.heap.size (Ve.fc dv) = Q_ := ⟨_, rfl⟩
      have dD : Bx D w2.heap.size (Ve.fc dv) 30 := hD ▸ Bx.put (Bx.new _ _ _) _
      have bD : Below w2.heap.size w2 D := hD ▸ below_setRow (below1 _ _) (Nat.le_refl _) _
      have dp := bx_vplain (Bx.new w2 (Ve.fc zeroV) 30) (Ve.fc_size _)
      have o3 := (o2.stays hb2).stays bD
      have g3 := (g2.stays hb2).stays bD
      have x3 := (xX.stays hb2).stays bD
      have hl6 : w1.heap.size < w2.heap.size := (xX.stays hb2).bx.lt
      have hl7 : w2.heap.size < D.heap.size := dD.lt
      obtain ⟨r4, -, -, -, k4, -, -, -, l4⟩ := g3.facts
      rw [HMq.out] at k4
      have k5 : D.cell? ⟨w1.heap.size, 16, none⟩ = some (.int .i64 (takenI m 1).q) := x3.bx.cell 16
      have f5 : D.frozen? ⟨w1.heap.size, 16, none⟩ = false := x3.bx.thawed _
      obtain ⟨E, hE⟩ : ∃ Q_ : World, D.setCell ⟨w1.heap.size, 16, none⟩ (.int .i64 y) = Q_ := ⟨_, rfl⟩
      have xE : Bx E w1.heap.size (ci { takenI m 1 with q := y }) 37 := by
        have := x3.bx.set 16 (.int .i64 y)
        rw [set_iq] at this
        exact hE ▸ this
      have dE : Bx E w2.heap.size (Ve.fc dv) 30 := hE ▸ dD.set' (by omega) _ _
      have gE : Gx E A0.heap.size m := ⟨hE ▸ g3.bx.set' (by omega) _ _⟩
      have oE : Ix E V.heap.size zeroI := ⟨hE ▸ o3.bx.set' (by omega) _ _⟩
      have bwE : Below w.heap.size w E := hE ▸ (nx (nx (nx (nx bwU hb1) bX) hb2) bD).trans (low_setCell _ _ (by omega))
      obtain ⟨r5, -, -, -, -, -, -, -, l5⟩ := gE.facts
      have rd := bx_vrow dE
      have hy2 := HY.out
      clear r3
      go_wp2_with fail
      refine (max_isH HZ E).mono ?_
      rintro e w3 ⟨rfl, hb3⟩
      have x6 := xE.stays hb3
      have g6 := gE.stays hb3
      have o6 := oE.stays hb3
      have t6 := x6.there (o := 17) (n := 7) (by show 24 ≤ 25; decide)
      obtain ⟨F, hF⟩ : ∃ Q_ : World, w3.setCells w1.heap.size 17 (Ve.fc z).toList = Q_ := ⟨_, rfl⟩
      have xF : Ix F w1.heap.size { takenI m 1 with q := y, d := z } := ⟨by
        have := Bx.sets (w := w3) (Ve.fc z).toList 17 w3 _ x6
        rw [over_id] at this
        exact hF ▸ this⟩
      have gF : Gx F A0.heap.size m := ⟨hF ▸ Bx.sets' (by omega) _ _ _ g6.bx⟩
      have oF : Ix F V.heap.size zeroI := ⟨hF ▸ Bx.sets' (by omega) _ _ _ o6.bx⟩
      have bwF : Below w.heap.size w F := hF ▸ (nx bwE hb3).trans (low_setCells (by omega) _ _ _)
      obtain ⟨r7, -, -, -, k7, -, -, -, l7⟩ := gF.facts
      obtain ⟨r8, -, -, k8, p8, l8⟩ := xF.facts
      have f8 : F.frozen? ⟨w1.heap.size, 24, none⟩ = false := xF.bx.thawed _
      obtain ⟨G, hG⟩ : ∃ Q_ : World, F.setCell ⟨w1.heap.size, 24, none⟩ (.bool b) = Q_ := ⟨_, rfl⟩
      have xG : Bx G w1.heap.size (ci j) 37 := by
        have := xF.bx.set 24 (.bool b)
        rw [set_ism, HJ.out] at this
        exact hG ▸ this
      have oG : Ix G V.heap.size zeroI := ⟨hG ▸ oF.bx.set' (by omega) _ _⟩
      have bwG : Below w.heap.size w G := hG ▸ bwF.trans (low_setCell _ _ (by omega))
      have r9 := xG.row
      obtain ⟨-, -, -, -, p9, -⟩ := oG.facts
      have hbb : eqVal (takenI m 1).c y z m.c m.q m.d = b := by rw [HMq.out]; exact HBB.out
      clear r4 k4 k5 f5 r5 rd hy2
      go_wp2
      exact bodyPost_ret (v := .tuple #[.agg (ci j), .int .i64 2]) (Rc.ret_I2 Try.results44 _ _ j (oG.bx.put _).row) rfl ⟨rfl, below_setRow bwG (by omega) _⟩
  exact main
theorem propose_is {q : Nat} {l : List Ins} {i : Ins} {m : Msg} {r : Ins × Int} (H : Hid (propR l i m = r)) (v : Value) (w : World) (h : TI q l v w) (hm : l.length ≤ 1000000) :
    Calls Try.prog 44 #[v, .agg (ci i), .agg (cg m)] w fun e w' => e = .returned (.tuple #[.agg (ci r.1), .int .i64 r.2]) ∧ Below w.heap.size w w' := by
  rw [← H.out]; exact propose_any q l v i m w h hm
end Go.Proofs.Ytmaecknjamnnpaa.An
/- Layer 19: package acceptor's react. -/
namespace Go.Proofs.Ytmaecknjamnnpaa.An
open Go.RowKit
set_option linter.unusedVariables false
open Go.Proofs.Ytmaecknjamnnpaa.Rw
open Go.Proofs.Ytmaecknjamnnpaa.Bv
open Go.Proofs.Ytmaecknjamnnpaa.In
open Go.Proofs.Ytmaecknjamnnpaa.St
open Go.Proofs.Ytmaecknjamnnpaa.Rc (Ins ci cv zeroI okI eqVal)
theorem prom_upd (i : Ins) (m : Msg) : { i with bn := m.bn, br := m.br } = promI i m := rfl
set_option maxRecDepth 8000 in
set_option maxHeartbeats 8000000 in
theorem react_any (q : Nat) (l : List Ins) (v : Value) (i : Ins) (m : Msg) (w : World) (h : TI q l v w) (hm : l.length ≤ 1000000) :
    Calls Try.prog 25 #[v, .agg (ci i), .agg (cg m)] w fun e w' => e = .returned (.tuple #[.agg (ci (reactR l i m).1), .int .i64 (reactR l i m).2]) ∧ Below w.heap.size w w' := by
  obtain ⟨A0, hA0⟩ : ∃ Q_ : World, w.alloc (.cells (ci i) 37) = Q_ := ⟨_, rfl⟩
  have bA : Below w.heap.size w A0 := hA0 ▸ below1 _ _
  have iA : Ix A0 w.heap.size i := ⟨hA0 ▸ Bx.new _ _ _⟩
  obtain ⟨V, hV⟩ : ∃ Q_ : World, A0.alloc (.cells (cg m) 34) = Q_ := ⟨_, rfl⟩
  have bV : Below A0.heap.size A0 V := hV ▸ below1 _ _
  have gV : Gx V A0.heap.size m := ⟨hV ▸ Bx.new _ _ _⟩
  obtain ⟨U, hU⟩ : ∃ Q_ : World, V.alloc (.cells (ci zeroI) 37) = Q_ := ⟨_, rfl⟩
  have bU : Below V.heap.size V U := hU ▸ below1 _ _
  have oU : Ix U V.heap.size zeroI := ⟨hU ▸ Bx.new _ _ _⟩
  have gU := gV.stays bU
  have iU := (iA.stays bV).stays bU
  have bwU := nx (nx bA bV) bU
  have hl1 : w.heap.size < A0.heap.size := iA.bx.lt
  have hl2 : A0.heap.size < V.heap.size := gV.bx.lt
  have hl3 : V.heap.size < U.heap.size := oU.bx.lt
  obtain ⟨r1, -, -, -, -, l1⟩ := iU.facts
  obtain ⟨r2, k2, -, -, -, -, -, -, l2⟩ := gU.facts
  have HT := Lib.hid (h.stays bwU)
  obtain ⟨k, hk⟩ : ∃ k, m.k = k := ⟨_, rfl⟩
  have HK := Lib.hid hk
  rw [hk] at k2
  obtain ⟨R, hR⟩ : ∃ R, reactR l i m = R := ⟨_, rfl⟩
  rw [hR]
  have HR : Hid (reactR l i m = R) := Lib.hid hR
  clear h iA gV bA bV bU hk hR
  by_cases h5 : k = 5
  · subst h5
    obtain ⟨j, hj⟩ : ∃ j, commitI i m = j := ⟨_, rfl⟩
    have HJ := Lib.hid hj
    have HE : Hid (R = (j, 0)) := Lib.hid (by rw [← HR.out]; unfold reactR; rw [if_pos HK.out, hj])
    rw [HE.out]
    clear hj
    go_enter Try.func25, Try.ntmps25
    go_wp2_with fail
    refine (commit_is HJ _).mono ?_
    rintro e w1 ⟨rfl, hb1⟩
    have o1 := oU.stays hb1
    obtain ⟨-, -, -, -, p1, -⟩ := o1.facts
    clear r1 r2 k2 l1 l2
    go_wp2
    exact bodyPost_ret (v := .tuple #[.agg (ci j), .int .i64 0]) (Rc.ret_I2 Try.results25 _ _ j (o1.bx.put _).row) rfl ⟨rfl, below_setRow (nx bwU hb1) (by omega) _⟩
  have e5 : (k == 5) = false := by simpa using h5
  by_cases h3 : i.st = 3
  · have HS : Hid ((i.st == 3) = true) := Lib.hid (by simpa using h3)
    have HE : Hid (R = (i, 5)) := Lib.hid (by rw [← HR.out]; unfold reactR; rw [if_neg (by rw [HK.out]; exact h5), if_pos h3])
    rw [HE.out]
    clear h3 h5
    go_enter Try.func25, Try.ntmps25
    go_wp2_with fail
    refine (settled_is HS _).mono ?_
    rintro e w1 ⟨rfl, hb1⟩
    have o1 := oU.stays hb1
    have i1 := iU.stays hb1
    obtain ⟨-, -, -, -, p1, -⟩ := o1.facts
    obtain ⟨r3, -, -, -, -, l3⟩ := i1.facts
    clear r1 r2 k2 l1 l2
    go_wp2
    exact bodyPost_ret (v := .tuple #[.agg (ci i), .int .i64 5]) (Rc.ret_I2 Try.results25 _ _ i (o1.bx.put _).row) rfl ⟨rfl, below_setRow (nx bwU hb1) (by omega) _⟩
  have HS : Hid ((i.st == 3) = false) := Lib.hid (by simpa using h3)
  obtain ⟨s, hs⟩ : ∃ s, staleB i m.bn m.br = s := ⟨_, rfl⟩
  have HSt := Lib.hid hs
  clear hs
  cases s with
  | true =>
    have HE : Hid (R = (i, 8)) := Lib.hid (by rw [← HR.out]; unfold reactR; rw [if_neg (by rw [HK.out]; exact h5), if_neg h3, if_pos HSt.out])
    rw [HE.out]
    clear h3 h5
    go_enter Try.func25, Try.ntmps25
    go_wp2_with fail
    refine (settled_is HS _).mono ?_
    rintro e w1 ⟨rfl, hb1⟩
    have o1 := oU.stays hb1
    have i1 := iU.stays hb1
    have g1 := gU.stays hb1
    obtain ⟨r3, -, -, -, -, l3⟩ := i1.facts
    obtain ⟨r4, -, -, -, -, -, -, -, l4⟩ := g1.facts
    clear r1 r2 k2 l1 l2
    go_wp2_with fail
    refine (stale_is HSt _).mono ?_
    rintro e w2 ⟨rfl, hb2⟩
    have o2 := o1.stays hb2
    have i2 := i1.stays hb2
    obtain ⟨-, -, -, -, p1, -⟩ := o2.facts
    obtain ⟨r5, -, -, -, -, l5⟩ := i2.facts
    clear r3 r4 l3 l4
    go_wp2
    exact bodyPost_ret (v := .tuple #[.agg (ci i), .int .i64 8]) (Rc.ret_I2 Try.results25 _ _ i (o2.bx.put _).row) rfl ⟨rfl, below_setRow (nx (nx bwU hb1) hb2) (by omega) _⟩
  | false =>
    have hst : ¬ staleB i m.bn m.br = true := by rw [HSt.out]; decide
    by_cases h1 : k = 1
    · subst h1
      obtain ⟨⟨j, c⟩, hj⟩ : ∃ j, propR l i m = j := ⟨_, rfl⟩
      have HJ := Lib.hid hj
      have HE : Hid (R = (j, c)) := Lib.hid (by rw [← HR.out]; unfold reactR; rw [if_neg (by rw [HK.out]; exact h5), if_neg h3, if_neg hst, if_pos HK.out, hj])
      rw [HE.out]
      clear h3 h5 hj hst
      go_enter Try.func25, Try.ntmps25
      go_wp2_with fail
      refine (settled_is HS _).mono ?_
      rintro e w1 ⟨rfl, hb1⟩
      have o1 := oU.stays hb1
      have i1 := iU.stays hb1
      have g1 := gU.stays hb1
      obtain ⟨r3, -, -, -, -, l3⟩ := i1.facts
      obtain ⟨r4, -, -, -, -, -, -, -, l4⟩ := g1.facts
      clear r1 r2 k2 l1 l2
      go_wp2_with fail
      refine (stale_is HSt _).mono ?_
      rintro e w2 ⟨rfl, hb2⟩
      have o2 := o1.stays hb2
      have i2 := i1.stays hb2
      have g2 := g1.stays hb2
      obtain ⟨r5, -, -, -, -, l5⟩ := i2.facts
      obtain ⟨r6, k6, -, -, -, -, -, -, l6⟩ := g2.facts
      rw [HK.out] at k6
      have HT2 := Lib.hid ((HT.out.stays hb1).stays hb2)
      clear r3 r4 l3 l4
      go_wp2_with fail
      refine (propose_is HJ v w2 HT2.out hm).mono ?_
      rintro e w3 ⟨rfl, hb3⟩
      have o3 := o2.stays hb3
      obtain ⟨-, -, -, -, p1, -⟩ := o3.facts
      clear r5 r6 k6 l5 l6
      go_wp2
      exact bodyPost_ret (v := .tuple #[.agg (ci j), .int .i64 c]) (Rc.ret_I2 Try.results25 _ _ j (o3.bx.put _).row) rfl ⟨rfl, below_setRow (nx (nx (nx bwU hb1) hb2) hb3) (by omega) _⟩
    have e1 : (k == 1) = false := by simpa using h1
    by_cases hk3 : k = 3
    · subst hk3
      have HE : Hid (R = (takenI m 2, 4)) := Lib.hid (by rw [← HR.out]; unfold reactR; rw [if_neg (by rw [HK.out]; exact h5), if_neg h3, if_neg hst, if_neg (by rw [HK.out]; exact h1), if_pos HK.out])
      rw [HE.out]
      clear h3 h5 h1 hst
      go_enter Try.func25, Try.ntmps25
      go_wp2_with fail
      refine (settled_is HS _).mono ?_
      rintro e w1 ⟨rfl, hb1⟩
      have o1 := oU.stays hb1
      have i1 := iU.stays hb1
      have g1 := gU.stays hb1
      obtain ⟨r3, -, -, -, -, l3⟩ := i1.facts
      obtain ⟨r4, -, -, -, -, -, -, -, l4⟩ := g1.facts
      clear r1 r2 k2 l1 l2
      go_wp2_with fail
      refine (stale_is HSt _).mono ?_
      rintro e w2 ⟨rfl, hb2⟩
      have o2 := o1.stays hb2
      have g2 := g1.stays hb2
      obtain ⟨r6, k6, -, -, -, -, -, -, l6⟩ := g2.facts
      rw [HK.out] at k6
      clear r3 r4 l3 l4
      go_wp2_with fail
      refine (taken_any m 2 w2).mono ?_
      rintro e w3 ⟨rfl, hb3⟩
      have o3 := o2.stays hb3
      obtain ⟨-, -, -, -, p1, -⟩ := o3.facts
      clear r6 k6 l6
      go_wp2
      exact bodyPost_ret (v := .tuple #[.agg (ci (takenI m 2)), .int .i64 4]) (Rc.ret_I2 Try.results25 _ _ (takenI m 2) (o3.bx.put _).row) rfl ⟨rfl, below_setRow (nx (nx (nx bwU hb1) hb2) hb3) (by omega) _⟩
    have ek3 : (k == 3) = false := by simpa using hk3
    obtain ⟨j, hj⟩ : ∃ j, promI i m = j := ⟨_, rfl⟩
    have HJ := Lib.hid hj
    have HE : Hid (R = (j, 7)) := Lib.hid (by rw [← HR.out]; unfold reactR; rw [if_neg (by rw [HK.out]; exact h5), if_neg h3, if_neg hst, if_neg (by rw [HK.out]; exact h1), if_neg (by rw [HK.out]; exact hk3), hj])
    rw [HE.out]
    clear h3 h5 h1 hk3 hst hj
    go_enter Try.func25, Try.ntmps25
    go_wp2_with fail
    refine (settled_is HS _).mono ?_
    rintro e w1 ⟨rfl, hb1⟩
    have o1 := oU.stays hb1
    have i1 := iU.stays hb1
    have g1 := gU.stays hb1
    obtain ⟨r3, -, -, -, -, l3⟩ := i1.facts
    obtain ⟨r4, -, -, -, -, -, -, -, l4⟩ := g1.facts
    clear r1 r2 k2 l1 l2
    go_wp2_with fail
    refine (stale_is HSt _).mono ?_
    rintro e w2 ⟨rfl, hb2⟩
    have o2 := o1.stays hb2
    have i2 := i1.stays hb2
    have g2 := g1.stays hb2
    obtain ⟨r6, k6, -, -, -, -, -, -, l6⟩ := g2.facts
    rw [HK.out] at k6
    have t2 := i2.bx.there (o := 2) (n := 2) (by show 4 ≤ 25; decide)
    obtain ⟨Y, hY⟩ : ∃ Q_ : World, w2.setCells w.heap.size 2 [.int .i64 m.bn, .int .i64 m.br] = Q_ := ⟨_, rfl⟩
    have yY : Bx Y w.heap.size (ci j) 37 := by
      have := Bx.sets (w := w2) [.int .i64 m.bn, .int .i64 m.br] 2 w2 _ i2.bx
      rw [over_prom, prom_upd, HJ.out] at this
      exact hY ▸ this
    have oY : Ix Y V.heap.size zeroI := ⟨hY ▸ Bx.sets' (by omega) _ _ _ o2.bx⟩
    have bwY : Below w.heap.size w Y := hY ▸ (nx (nx bwU hb1) hb2).trans (low_setCells (by omega) _ _ _)
    have rY := yY.row
    obtain ⟨-, -, -, -, p1, -⟩ := oY.facts
    clear r3 r4 l3 l4
    go_wp2
    exact bodyPost_ret (v := .tuple #[.agg (ci j), .int .i64 7]) (Rc.ret_I2 Try.results25 _ _ j (oY.bx.put _).row) rfl ⟨rfl, below_setRow bwY (by omega) _⟩
theorem react_is {q : Nat} {l : List Ins} {i : Ins} {m : Msg} {j : Ins} {c : Int} (H : Hid (reactR l i m = (j, c))) (v : Value) (w : World) (h : TI q l v w) (hm : l.length ≤ 1000000) :
    Calls Try.prog 25 #[v, .agg (ci i), .agg (cg m)] w fun e w' => e = .returned (.tuple #[.agg (ci j), .int .i64 c]) ∧ Below w.heap.size w w' := by
  have := react_any q l v i m w h hm
  rw [H.out] at this; exact this
end Go.Proofs.Ytmaecknjamnnpaa.An
/- Layer 19: package acceptor's Hear. -/
namespace Go.Proofs.Ytmaecknjamnnpaa.An
open Go.RowKit
set_option linter.unusedVariables false
open Go.Proofs.Ytmaecknjamnnpaa.Rw
open Go.Proofs.Ytmaecknjamnnpaa.Bv
open Go.Proofs.Ytmaecknjamnnpaa.In
open Go.Proofs.Ytmaecknjamnnpaa.St
open Go.Proofs.Ytmaecknjamnnpaa.Rc (Ins ci cv zeroI okI eqVal)
/-- What stays while results are put into their variables. -/
structure SH (w : World) (m : Msg) (i : Ins) (bm bi : Nat) (u : World) : Prop where
  bw : Below w.heap.size w u
  gm : Gx u bm m
  ii : Ix u bi i
section
variable {w u : World} {m : Msg} {i : Ins} {bm bi b : Nat}
theorem SH.stays (h : SH w m i bm bi u) {u' : World} (k : Below u.heap.size u u') : SH w m i bm bi u' := ⟨nx h.bw k, h.gm.stays k, h.ii.stays k⟩
theorem SH.put (h : SH w m i bm bi u) (hb : w.heap.size ≤ b) (h1 : bm ≠ b) (h2 : bi ≠ b) (c : Array Value) : SH w m i bm bi (u.setRow b c) :=
  ⟨h.bw.trans (low_setRow _ hb), ⟨h.gm.bx.put' h1 _⟩, ⟨h.ii.bx.put' h2 _⟩⟩
end
set_option maxRecDepth 8000 in
set_option maxHeartbeats 8000000 in
theorem hear_any (q : Nat) (l : List Ins) (v : Value) (n : Int) (m : Msg) (w : World) (h : TI q l v w) (hm : l.length ≤ 1000000) :
    Calls Try.prog 9 #[v, .int .i64 n, .agg (cg m)] w fun e w' => e = .returned (.tuple #[.agg (ci (hearR l n m).i), .agg (cg (hearR l n m).r), .bool (hearR l n m).b, .int .i64 (hearR l n m).e]) ∧ Below w.heap.size w w' := by
  obtain ⟨V, hV⟩ : ∃ Q_ : World, w.alloc (.cells (cg m) 34) = Q_ := ⟨_, rfl⟩
  have bV : Below w.heap.size w V := hV ▸ below1 _ _
  have gV : Gx V w.heap.size m := ⟨hV ▸ Bx.new _ _ _⟩
  obtain ⟨A0, hA0⟩ : ∃ Q_ : World, V.alloc (.cells (ci zeroI) 37) = Q_ := ⟨_, rfl⟩
  have bA : Below V.heap.size V A0 := hA0 ▸ below1 _ _
  have iA : Ix A0 V.heap.size zeroI := ⟨hA0 ▸ Bx.new _ _ _⟩
  obtain ⟨U, hU⟩ : ∃ Q_ : World, A0.alloc (.cells (cg zeroM) 34) = Q_ := ⟨_, rfl⟩
  have bU : Below A0.heap.size A0 U := hU ▸ below1 _ _
  have oU : Gx U A0.heap.size zeroM := ⟨hU ▸ Bx.new _ _ _⟩
  have gU := (gV.stays bA).stays bU
  have iU := iA.stays bU
  have bwU := nx (nx bV bA) bU
  have hl1 : w.heap.size < V.heap.size := gV.bx.lt
  have hl2 : V.heap.size < A0.heap.size := iA.bx.lt
  have hl3 : A0.heap.size < U.heap.size := oU.bx.lt
  obtain ⟨r1, -, -, -, -, -, -, -, l1⟩ := gU.facts
  have HT := Lib.hid (h.stays bwU)
  obtain ⟨g, hg⟩ : ∃ g, gotI l m.pr m.ps = g := ⟨_, rfl⟩
  obtain ⟨gb, hgb⟩ : ∃ g, hasI l m.pr m.ps = g := ⟨_, rfl⟩
  have HG := Lib.hid (And.intro hg hgb)
  obtain ⟨rt, hrt⟩ : ∃ g, rightT l n = g := ⟨_, rfl⟩
  have HRt := Lib.hid hrt
  obtain ⟨mb, hmb⟩ : ∃ g, mayB m n = g := ⟨_, rfl⟩
  have HMb := Lib.hid hmb
  obtain ⟨⟨x, r, b, c⟩, hR⟩ : ∃ R, hearR l n m = R := ⟨_, rfl⟩
  have HR := Lib.hid hR
  rw [hR]
  clear h gV iA bV bA bU hg hgb hrt hmb hR
  have hor : (rt = false ∨ rt = true ∧ mb = false) ∨ rt = true ∧ mb = true := by cases rt <;> cases mb <;> simp
  rcases hor with hor | ⟨rfl, rfl⟩
  · have HE : Hid (x = g ∧ r = zeroM ∧ b = false ∧ c = 1) := Lib.hid (by
      have := HR.out
      rw [hear_no (by rw [HRt.out, HMb.out]; rcases hor with h | ⟨_, h⟩ <;> rw [h] <;> simp), HG.out.1] at this
      injection this with a1 a2 a3 a4
      exact ⟨a1.symm, a2.symm, a3.symm, a4.symm⟩)
    obtain ⟨rfl, rfl, rfl, rfl⟩ := HE.out
    clear HR
    rcases hor with rfl | ⟨rfl, rfl⟩
    all_goals
      go_enter Try.func9, Try.ntmps9
      go_wp2_with fail
      refine (get_is HG v U HT.out hm).mono ?_
      rintro e w1 ⟨rfl, hb1⟩
      have HT1 := Lib.hid (HT.out.stays hb1)
      obtain ⟨X, hX⟩ : ∃ Q_ : World, (w1.alloc (.cells (ci zeroI) 37)).setRow w1.heap.size (ci x) = Q_ := ⟨_, rfl⟩
      have xX : Ix X w1.heap.size x := ⟨hX ▸ Bx.put (Bx.new _ _ _) _⟩
      have bX : Below w1.heap.size w1 X := hX ▸ below_setRow (below1 _ _) (Nat.le_refl _) _
      have hplain := (Bx.new w1 (ci zeroI) 37).plain (n := 25) rfl
      have g1 := (gU.stays hb1).stays bX
      have i1 := (iU.stays hb1).stays bX
      have o1 := (oU.stays hb1).stays bX
      have HTX := Lib.hid (HT1.out.stays bX)
      have hl4 : A0.heap.size < w1.heap.size := (oU.stays hb1).bx.lt
      clear r1 l1
      go_wp2_with fail
      refine (In.right_is HRt v X HTX.out hm).mono ?_
      rintro e w2 ⟨rfl, hb2⟩
      have g2 := g1.stays hb2
      obtain ⟨r2, -, -, -, -, -, -, -, l2⟩ := g2.facts
    · have x2 := xX.stays hb2
      have i2 := i1.stays hb2
      have o2 := o1.stays hb2
      obtain ⟨r3, -, -, -, -, l3⟩ := x2.facts
      obtain ⟨-, -, -, -, p3, -⟩ := i2.facts
      obtain ⟨Y, hY⟩ : ∃ Q_ : World, w2.setRow V.heap.size (ci x) = Q_ := ⟨_, rfl⟩
      have yY : Ix Y V.heap.size x := ⟨hY ▸ i2.bx.put _⟩
      have oY : Gx Y A0.heap.size zeroM := ⟨hY ▸ o2.bx.put' (by omega) _⟩
      have bY : Below w.heap.size w Y := hY ▸ (nx (nx (nx bwU hb1) bX) hb2).trans (low_setRow _ (by omega))
      obtain ⟨-, -, -, -, -, -, -, p4, -⟩ := oY.facts
      go_wp2
      exact bodyPost_ret (v := .tuple #[.agg (ci x), .agg (cg zeroM), .bool false, .int .i64 1]) (ret_IG4 Try.results9 _ _ x zeroM (yY.bx.put' (by omega) _).row (oY.bx.put _).row) rfl ⟨rfl, bY.trans (low_setRow _ (by omega))⟩
    · go_wp2_with fail
      refine (mayBe_is HMb w2).mono ?_
      rintro e w3 ⟨rfl, hb3⟩
      have x2 := (xX.stays hb2).stays hb3
      have i2 := (i1.stays hb2).stays hb3
      have o2 := (o1.stays hb2).stays hb3
      obtain ⟨r3, -, -, -, -, l3⟩ := x2.facts
      obtain ⟨-, -, -, -, p3, -⟩ := i2.facts
      obtain ⟨Y, hY⟩ : ∃ Q_ : World, w3.setRow V.heap.size (ci x) = Q_ := ⟨_, rfl⟩
      have yY : Ix Y V.heap.size x := ⟨hY ▸ i2.bx.put _⟩
      have oY : Gx Y A0.heap.size zeroM := ⟨hY ▸ o2.bx.put' (by omega) _⟩
      have bY : Below w.heap.size w Y := hY ▸ (nx (nx (nx (nx bwU hb1) bX) hb2) hb3).trans (low_setRow _ (by omega))
      obtain ⟨-, -, -, -, -, -, -, p4, -⟩ := oY.facts
      clear r2 l2
      go_wp2
      exact bodyPost_ret (v := .tuple #[.agg (ci x), .agg (cg zeroM), .bool false, .int .i64 1]) (ret_IG4 Try.results9 _ _ x zeroM (yY.bx.put' (by omega) _).row (oY.bx.put _).row) rfl ⟨rfl, bY.trans (low_setRow _ (by omega))⟩
  obtain ⟨⟨j, k⟩, hJ⟩ : ∃ R, reactR l g m = R := ⟨_, rfl⟩
  have HJ := Lib.hid hJ
  have hok : hearOk l m = ⟨x, r, b, c⟩ := by rw [← HR.out]; exact (hear_ok HRt.out HMb.out).symm
  unfold hearOk at hok
  rw [HG.out.1, hJ] at hok
  have HOK := Lib.hid hok
  clear hJ hok HR
  by_cases hk : k = 0
  · have HE : Hid (x = j ∧ r = zeroM ∧ b = false ∧ c = 0) := Lib.hid (by
      have := HOK.out
      rw [if_pos hk] at this
      injection this with a1 a2 a3 a4
      exact ⟨a1.symm, a2.symm, a3.symm, a4.symm⟩)
    obtain ⟨rfl, rfl, rfl, rfl⟩ := HE.out
    subst hk
    clear HOK
    go_enter Try.func9, Try.ntmps9
    go_wp2_with fail
    refine (get_is HG v U HT.out hm).mono ?_
    rintro e w1 ⟨rfl, hb1⟩
    have HT1 := Lib.hid (HT.out.stays hb1)
    obtain ⟨X, hX⟩ : ∃ Q_ : World, (w1.alloc (.cells (ci zeroI) 37)).setRow w1.heap.size (ci g) = Q_ := ⟨_, rfl⟩
    have xX : Ix X w1.heap.size g := ⟨hX ▸ Bx.put (Bx.new _ _ _) _⟩
    have bX : Below w1.heap.size w1 X := hX ▸ below_setRow (below1 _ _) (Nat.le_refl _) _
    have hplain := (Bx.new w1 (ci zeroI) 37).plain (n := 25) rfl
    have g1 := (gU.stays hb1).stays bX
    have i1 := (iU.stays hb1).stays bX
    have o1 := (oU.stays hb1).stays bX
    have HTX := Lib.hid (HT1.out.stays bX)
    have hl4 : A0.heap.size < w1.heap.size := (oU.stays hb1).bx.lt
    clear r1 l1
    go_wp2_with fail
    refine (In.right_is HRt v X HTX.out hm).mono ?_
    rintro e w2 ⟨rfl, hb2⟩
    have g2 := g1.stays hb2
    obtain ⟨r2, -, -, -, -, -, -, -, l2⟩ := g2.facts
    go_wp2_with fail
    refine (mayBe_is HMb w2).mono ?_
    rintro e w3 ⟨rfl, hb3⟩
    have x3 := (xX.stays hb2).stays hb3
    have g3 := g2.stays hb3
    obtain ⟨r3, -, -, -, -, l3⟩ := x3.facts
    obtain ⟨r4, -, -, -, -, -, -, -, l4⟩ := g3.facts
    have HT3 := Lib.hid ((HTX.out.stays hb2).stays hb3)
    clear r2 l2
    go_wp2_with fail
    refine (react_is HJ v w3 HT3.out hm).mono ?_
    rintro e w4 ⟨rfl, hb4⟩
    obtain ⟨Z, hZ⟩ : ∃ Q_ : World, (w4.alloc (.cells (ci zeroI) 37)).setRow w4.heap.size (ci x) = Q_ := ⟨_, rfl⟩
    have zZ : Ix Z w4.heap.size x := ⟨hZ ▸ Bx.put (Bx.new _ _ _) _⟩
    have bZ : Below w4.heap.size w4 Z := hZ ▸ below_setRow (below1 _ _) (Nat.le_refl _) _
    have hplain4 := (Bx.new w4 (ci zeroI) 37).plain (n := 25) rfl
    have i2 := (((i1.stays hb2).stays hb3).stays hb4).stays bZ
    have o2 := (((o1.stays hb2).stays hb3).stays hb4).stays bZ
    obtain ⟨r5, -, -, -, -, l5⟩ := zZ.facts
    obtain ⟨-, -, -, -, p3, -⟩ := i2.facts
    obtain ⟨Y, hY⟩ : ∃ Q_ : World, Z.setRow V.heap.size (ci x) = Q_ := ⟨_, rfl⟩
    have yY : Ix Y V.heap.size x := ⟨hY ▸ i2.bx.put _⟩
    have oY : Gx Y A0.heap.size zeroM := ⟨hY ▸ o2.bx.put' (by omega) _⟩
    have bY : Below w.heap.size w Y := hY ▸ (nx (nx (nx (nx (nx (nx bwU hb1) bX) hb2) hb3) hb4) bZ).trans (low_setRow _ (by omega))
    obtain ⟨-, -, -, -, -, -, -, p4, -⟩ := oY.facts
    clear r3 r4 l3 l4
    go_wp2
    exact bodyPost_ret (v := .tuple #[.agg (ci x), .agg (cg zeroM), .bool false, .int .i64 0]) (ret_IG4 Try.results9 _ _ x zeroM (yY.bx.put' (by omega) _).row (oY.bx.put _).row) rfl ⟨rfl, bY.trans (low_setRow _ (by omega))⟩
  obtain ⟨rr, hrr⟩ : ∃ r, respM m k j = r := ⟨_, rfl⟩
  have HRr := Lib.hid hrr
  have HE : Hid (x = j ∧ r = rr ∧ b = true ∧ c = 0) := Lib.hid (by
    have := HOK.out
    rw [if_neg hk] at this
    injection this with a1 a2 a3 a4
    exact ⟨a1.symm, by rw [← a2]; exact hrr, a3.symm, a4.symm⟩)
  obtain ⟨rfl, rfl, rfl, rfl⟩ := HE.out
  have ek : (k == 0) = false := by simpa using hk
  clear HOK hrr hk
  go_enter Try.func9, Try.ntmps9
  go_wp2_with fail
  refine (get_is HG v U HT.out hm).mono ?_
  rintro e w1 ⟨rfl, hb1⟩
  have HT1 := Lib.hid (HT.out.stays hb1)
  obtain ⟨X, hX⟩ : ∃ Q_ : World, (w1.alloc (.cells (ci zeroI) 37)).setRow w1.heap.size (ci g) = Q_ := ⟨_, rfl⟩
  have xX : Ix X w1.heap.size g := ⟨hX ▸ Bx.put (Bx.new _ _ _) _⟩
  have bX : Below w1.heap.size w1 X := hX ▸ below_setRow (below1 _ _) (Nat.le_refl _) _
  have hplain := (Bx.new w1 (ci zeroI) 37).plain (n := 25) rfl
  have g1 := (gU.stays hb1).stays bX
  have i1 := (iU.stays hb1).stays bX
  have o1 := (oU.stays hb1).stays bX
  have HTX := Lib.hid (HT1.out.stays bX)
  have hl4 : A0.heap.size < w1.heap.size := (oU.stays hb1).bx.lt
  clear r1 l1
  go_wp2_with fail
  refine (In.right_is HRt v X HTX.out hm).mono ?_
  rintro e w2 ⟨rfl, hb2⟩
  have g2 := g1.stays hb2
  obtain ⟨r2, -, -, -, -, -, -, -, l2⟩ := g2.facts
  go_wp2_with fail
  refine (mayBe_is HMb w2).mono ?_
  rintro e w3 ⟨rfl, hb3⟩
  have x3 := (xX.stays hb2).stays hb3
  have g3 := g2.stays hb3
  obtain ⟨r3, -, -, -, -, l3⟩ := x3.facts
  obtain ⟨r4, -, -, -, -, -, -, -, l4⟩ := g3.facts
  have HT3 := Lib.hid ((HTX.out.stays hb2).stays hb3)
  clear r2 l2
  go_wp2_with fail
  refine (react_is HJ v w3 HT3.out hm).mono ?_
  rintro e w4 ⟨rfl, hb4⟩
  obtain ⟨Z, hZ⟩ : ∃ Q_ : World, (w4.alloc (.cells (ci zeroI) 37)).setRow w4.heap.size (ci x) = Q_ := ⟨_, rfl⟩
  have zZ : Ix Z w4.heap.size x := ⟨hZ ▸ Bx.put (Bx.new _ _ _) _⟩
  have bZ : Below w4.heap.size w4 Z := hZ ▸ below_setRow (below1 _ _) (Nat.le_refl _) _
  have hplain4 := (Bx.new w4 (ci zeroI) 37).plain (n := 25) rfl
  have HI := Lib.hid ((((i1.stays hb2).stays hb3).stays hb4).stays bZ)
  have HO := Lib.hid ((((o1.stays hb2).stays hb3).stays hb4).stays bZ)
  have HS : Hid (SH w m x w.heap.size w4.heap.size Z) := Lib.hid ⟨nx (nx (nx (nx (nx (nx bwU hb1) bX) hb2) hb3) hb4) bZ, (g3.stays hb4).stays bZ, zZ⟩
  have hl5 : A0.heap.size < w4.heap.size := (((o1.stays hb2).stays hb3).stays hb4).bx.lt
  have hK : ∀ u, SH w m x w.heap.size w4.heap.size u → row u w.heap.size = cg m ∧ row u w4.heap.size = ci x := fun u h => ⟨h.gm.facts.1, h.ii.facts.1⟩
  have HKk := Lib.hid hK
  clear r3 r4 l3 l4 hK zZ bZ
  go_wp2
  refine Rh.region (SH w m x w.heap.size w4.heap.size) (fun u => Ix u V.heap.size zeroI ∧ Gx u A0.heap.size zeroM) (fun _ _ h k => h.stays k) (fun _ _ h k => ⟨h.1.stays k, h.2.stays k⟩) (HS.out.stays (Below.refl _ _).drew) (⟨HI.out.stays (Below.refl _ _).drew, HO.out.stays (Below.refl _ _).drew⟩) [0, 1, 2, 3, 4, 5, 6, 7, 8] (by kernel_rfl) (by kernel_rfl) (by kernel_rfl) (fun _ _ d _ _ h => by cases d <;> exact h) ?_
  repeat (first | (refine Rh.Steps.skip (by rfl) (by kernel_rfl) (by rfl) ?_; simp only [Act.put, List.setIfInBounds_toArray, List.set_cons_zero, List.set_cons_succ]) | (refine Rh.Steps.pure (v := ?_) (by rfl) (by kernel_rfl) (by rfl) ?_ ?_; rotate_left; (intro w_ hS_; have hk_ := HKk.out w_ hS_; go_simp <;> with_reducible rfl); simp only [Act.put, List.setIfInBounds_toArray, List.set_cons_zero, List.set_cons_succ]) | (refine Rh.Steps.call (v := ?_) (f := ?_) (args := ?_) (by rfl) (by kernel_rfl) (by rfl) ?_ ?_ ?_; rotate_left 3; (intro w_ hS_; have hk_ := HKk.out w_ hS_; go_simp <;> first | with_reducible rfl | (constructor <;> with_reducible rfl)); (intro w_ hS_; have hk_ := HKk.out w_ hS_; first | (go_at_call 26; refine (response_is HRr _).mono ?_; first | (rintro e w_ ⟨rfl, rfl⟩; refine ⟨?_, Below.refl _ _⟩; with_reducible rfl) | (rintro e w_ ⟨rfl, hb_⟩; refine ⟨?_, hb_⟩; with_reducible rfl))); simp only [Act.put, List.setIfInBounds_toArray, List.set_cons_zero, List.set_cons_succ]))
  refine Rh.Steps.forced (i := 5) (by kernel_rfl) ?_
  refine Rh.One.store (fun u => Ix u V.heap.size x ∧ Gx u A0.heap.size zeroM) (fun _ _ h k => ⟨h.1.stays k, h.2.stays k⟩) (by rfl) (by rfl) ?_ ?_
  · intro w_ hS_ hG_
    obtain ⟨-, -, -, -, p3, -⟩ := hG_.1.facts
    refine ⟨_, ?_, hS_.put (b := V.heap.size) (by omega) (by omega) (by omega) (ci x), ⟨hG_.1.bx.put _⟩, ⟨hG_.2.bx.put' (by omega) _⟩⟩
    go_simp
  simp only [Act.put]
  refine Rh.Steps.forced (i := 6) (by kernel_rfl) ?_
  refine Rh.One.store (fun u => Ix u V.heap.size x ∧ Gx u A0.heap.size r) (fun _ _ h k => ⟨h.1.stays k, h.2.stays k⟩) (by rfl) (by rfl) ?_ ?_
  · intro w_ hS_ hG_
    obtain ⟨-, -, -, -, -, -, -, p4, -⟩ := hG_.2.facts
    refine ⟨_, ?_, hS_.put (b := A0.heap.size) (by omega) (by omega) (by omega) (cg r), ⟨hG_.1.bx.put' (by omega) _⟩, ⟨hG_.2.bx.put _⟩⟩
    go_simp
  simp only [Act.put]
  repeat (first | (refine Rh.Steps.skip (by rfl) (by kernel_rfl) (by rfl) ?_; simp only [Act.put, List.setIfInBounds_toArray, List.set_cons_zero, List.set_cons_succ]) | (refine Rh.Steps.pure (v := ?_) (by rfl) (by kernel_rfl) (by rfl) ?_ ?_; rotate_left; (intro w_ hS_; have hk_ := HKk.out w_ hS_; go_simp <;> with_reducible rfl); simp only [Act.put, List.setIfInBounds_toArray, List.set_cons_zero, List.set_cons_succ]))
  refine Rh.Steps.nil (by kernel_rfl) ?_
  intro u hS hG
  have hbu := hS.bw
  obtain ⟨hx, hr⟩ := hG
  clear hS
  go_wp2
  exact bodyPost_ret (v := .tuple #[.agg (ci x), .agg (cg r), .bool true, .int .i64 0]) (ret_IG4 Try.results9 _ _ x r hx.bx.row hr.bx.row) rfl ⟨rfl, hbu⟩
theorem hear_is {q : Nat} {l : List Ins} {n : Int} {m : Msg} {i : Ins} {r : Msg} {b : Bool} {c : Int} (H : Hid (hearR l n m = ⟨i, r, b, c⟩)) (v : Value) (w : World) (h : TI q l v w) (hm : l.length ≤ 1000000) :
    Calls Try.prog 9 #[v, .int .i64 n, .agg (cg m)] w fun e w' => e = .returned (.tuple #[.agg (ci i), .agg (cg r), .bool b, .int .i64 c]) ∧ Below w.heap.size w w' := by
  have := hear_any q l v n m w h hm
  rw [H.out] at this; exact this
end Go.Proofs.Ytmaecknjamnnpaa.An
