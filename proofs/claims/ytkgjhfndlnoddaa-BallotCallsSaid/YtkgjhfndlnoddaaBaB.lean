/- Less, Next of package ballot; the document's Next, Later. -/
import Derived.Deep.RegionHeld3
import Derived.Laws.StructEq
import Derived.Test.YtkgjhfndlnoddaaBaA
namespace Go.Proofs.Ytkgjhfndlnoddaa.Ba
open Go.RowKit
set_option linter.unusedVariables false
open Go.Proofs.Ytkgjhfndlnoddaa.Fx (nx nd)
theorem bcell {W w1 : World} (hb : Below W.heap.size W w1) : (∀ b o, b < W.heap.size → w1.cell? ⟨b, o, none⟩ = W.cell? ⟨b, o, none⟩) ∧ (∀ b o, b < W.heap.size → w1.frozen? ⟨b, o, none⟩ = W.frozen? ⟨b, o, none⟩) :=
  ⟨fun b o h => hb.cell (p := ⟨b, o, none⟩) h, fun b o h => hb.frozen (p := ⟨b, o, none⟩) h⟩
/-- A ballot lies in block b. -/
theorem lies (w : World) (n r : Int) (t : TypeId) {wr : World} (h : Below (w.alloc (.cells #[.int .i64 n, .int .i64 r] t)).heap.size (w.alloc (.cells #[.int .i64 n, .int .i64 r] t)) wr) :
    wr.cell? ⟨w.heap.size, 0, none⟩ = some (.int .i64 n) ∧ wr.cell? ⟨w.heap.size, 1, none⟩ = some (.int .i64 r) := by
  have hs : w.heap.size < (w.alloc (.cells #[.int .i64 n, .int .i64 r] t)).heap.size := by simp
  constructor
  · rw [h.cell hs, World.cell?_alloc_at _ _ _ _ rfl]; rfl
  · rw [h.cell hs, World.cell?_alloc_at _ _ _ _ rfl]; rfl
theorem fields : Try.prog.underlying 23 = some (.struct (Try.prog.fieldsOf 23)) := by kernel_rfl
theorem eqB (a b c d : Int) (w : World) : (Op.equalIn 10000 23 (.agg #[.int .i64 a, .int .i64 b]) (.agg #[.int .i64 c, .int .i64 d])).run Try.prog w = .ok ((a == c) && (b == d)) w := by
  rw [run_equalIn_agg w 9999 _ _ _ fields (by kernel_rfl)]
  simp only [Program.fieldsOf, Try.underlying23]
  simp [Op.eqFields, go_sem]
  by_cases h1 : a = c <;> by_cases h2 : b = d <;> simp [h1, h2]
theorem neqB (a b c d : Int) (w : World) : (binOp .neq 23 (.agg #[.int .i64 a, .int .i64 b]) (.agg #[.int .i64 c, .int .i64 d])).run Try.prog w = .ok (.bool (!((a == c) && (b == d)))) w := by
  rw [run_neq_struct, eqB]; rfl
theorem eqlB (a b c d : Int) (w : World) : (binOp .eql 23 (.agg #[.int .i64 a, .int .i64 b]) (.agg #[.int .i64 c, .int .i64 d])).run Try.prog w = .ok (.bool ((a == c) && (b == d))) w := by
  rw [run_eql_struct, eqB]; rfl
theorem guardB (op : BinOp) (x y : Operand) (a b c d : Int) (w : World) : (eqGuard op 23 x y (.agg #[.int .i64 a, .int .i64 b]) (.agg #[.int .i64 c, .int .i64 d])).run Try.prog w = .ok () w :=
  run_eqGuard_agg w op _ x y _ _ (by kernel_rfl)
/-- Two ballots lie in the two last blocks. -/
theorem lies2 (w : World) (a b c d : Int) (t u : TypeId) : ∃ W, W = (w.alloc (.cells #[.int .i64 a, .int .i64 b] t)).alloc (.cells #[.int .i64 c, .int .i64 d] u) ∧ Below w.heap.size w W ∧
    ∀ wr, Below W.heap.size W wr → Below W.heap.size W wr ∧ wr.cell? ⟨w.heap.size, 0, none⟩ = some (.int .i64 a) ∧ wr.cell? ⟨w.heap.size, 1, none⟩ = some (.int .i64 b) ∧ wr.cell? ⟨w.heap.size + 1, 0, none⟩ = some (.int .i64 c) ∧ wr.cell? ⟨w.heap.size + 1, 1, none⟩ = some (.int .i64 d) := by
  refine ⟨_, rfl, nx (below1 _ _) (below1 _ _), fun wr h => ⟨h, ?_⟩⟩
  have h1 := lies w a b t (nx (below1 (w.alloc (.cells #[.int .i64 a, .int .i64 b] t)) (.cells #[.int .i64 c, .int .i64 d] u)) h)
  have h2 := lies (w.alloc (.cells #[.int .i64 a, .int .i64 b] t)) c d u h
  have e : (w.alloc (.cells #[.int .i64 a, .int .i64 b] t)).heap.size = w.heap.size + 1 := by simp
  rw [e] at h2
  exact ⟨h1.1, h1.2, h2.1, h2.2⟩
set_option maxHeartbeats 800000 in
theorem less_any (a b c d : Int) (w : World) :
    Calls Try.prog 10 #[.agg #[.int .i64 a, .int .i64 b], .agg #[.int .i64 c, .int .i64 d]] w fun e w' => e = .returned (.bool (lessB a b c d)) ∧ Below w.heap.size w w' := by
  have hne : ∀ w, (binOp .neq 23 (.agg #[.int .i64 (latN a b c d), .int .i64 (latR a b c d)]) (.agg #[.int .i64 a, .int .i64 b])).run Try.prog w = .ok (.bool (lessB a b c d)) w := fun w => by
    rw [neqB, less_later, Bool.not_not]
  have hgd := fun op x y => guardB op x y (latN a b c d) (latR a b c d) a b
  obtain ⟨W, hW, hb0, hK⟩ := lies2 w a b c d 23 23
  go_enter Try.func10, Try.ntmps10
  go_wp2_with fail
  rw [← hW]
  clear hW
  go_region_held3 (fun wr => Below W.heap.size W wr ∧ wr.cell? ⟨w.heap.size, 0, none⟩ = some (.int .i64 a) ∧ wr.cell? ⟨w.heap.size, 1, none⟩ = some (.int .i64 b) ∧ wr.cell? ⟨w.heap.size + 1, 0, none⟩ = some (.int .i64 c) ∧ wr.cell? ⟨w.heap.size + 1, 1, none⟩ = some (.int .i64 d)) ((refine hK _ ?_; first | exact (Below.refl _ _).drew | exact nx (show Below W.heap.size W _ from (‹Below W.heap.size W _ ∧ _›).1) hb1)) ((go_at_call 14; refine (later_any _ _ _ _ _).mono ?_; rintro e w1 ⟨rfl, hb1⟩))
  go_wp2
  go_ret
  exact ⟨rfl, nx hb0 (nd hb1)⟩
theorem below2 (w : World) (o p : Obj) : Below w.heap.size w ((w.alloc o).alloc p) := nx (below1 _ _) (below1 _ _)
theorem below3 (w : World) (o p q : Obj) : Below w.heap.size w (((w.alloc o).alloc p).alloc q) := nx (below2 _ _ _) (below1 _ _)
set_option maxHeartbeats 800000 in
theorem rLater_any (a b c d : Int) (w : World) :
    Calls Try.prog 15 #[.agg #[.int .i64 a, .int .i64 b], .agg #[.int .i64 c, .int .i64 d]] w fun e w' => e = .returned (.agg #[.int .i64 (latN a b c d), .int .i64 (latR a b c d)]) ∧ Below w.heap.size w w' := by
  by_cases h : lessB a b c d = true
  · have h1 := lessB_iff.1 h
    have hn : ¬ lessB c d a b = true := fun x => by have := lessB_iff.1 x; omega
    have HN : Hid (latN a b c d = c) := Lib.hid (by unfold latN; rw [if_neg hn])
    have HR : Hid (latR a b c d = d) := Lib.hid (by unfold latR; rw [if_neg hn])
    have H := Lib.hid h
    clear h h1 hn
    rw [HN.out, HR.out]
    go_enter Try.func15, Try.ntmps15
    go_wp2_with fail
    refine (rLess_any a b c d _).mono ?_
    rintro e w1 ⟨rfl, hb1⟩
    obtain ⟨chb1, fhb1⟩ := bcell hb1
    rw [H.out]
    go_wp2
    exact bodyPost_ret (v := .agg #[.int .i64 c, .int .i64 d]) (by simp [results, Try.results15, go_sem, chb1]) rfl ⟨rfl, ((nx (below3 _ _ _ _) hb1).setCell (by simp <;> omega) _).setCell (by simp <;> omega) _⟩
  · have h1 : ¬ (a < c ∨ a = c ∧ b < d) := fun x => h (lessB_iff.2 x)
    have hE : latN a b c d = a ∧ latR a b c d = b := by
      unfold latN latR
      by_cases e : lessB c d a b = true
      · rw [if_pos e, if_pos e]; exact ⟨rfl, rfl⟩
      · have h2 : ¬ (c < a ∨ c = a ∧ d < b) := fun x => e (lessB_iff.2 x)
        rw [if_neg e, if_neg e]; constructor <;> omega
    have HN : Hid (latN a b c d = a) := Lib.hid hE.1
    have HR : Hid (latR a b c d = b) := Lib.hid hE.2
    have H : Hid (lessB a b c d = false) := Lib.hid (by simpa using h)
    clear h h1 hE
    rw [HN.out, HR.out]
    go_enter Try.func15, Try.ntmps15
    go_wp2_with fail
    refine (rLess_any a b c d _).mono ?_
    rintro e w1 ⟨rfl, hb1⟩
    obtain ⟨chb1, fhb1⟩ := bcell hb1
    rw [H.out]
    go_wp2
    exact bodyPost_ret (v := .agg #[.int .i64 a, .int .i64 b]) (by simp [results, Try.results15, go_sem, chb1]) rfl ⟨rfl, ((nx (below3 _ _ _ _) hb1).setCell (by simp <;> omega) _).setCell (by simp <;> omega) _⟩
set_option maxHeartbeats 1600000 in
theorem next_any (n r p : Int) (w : World) :
    Calls Try.prog 6 #[.agg #[.int .i64 n, .int .i64 r], .int .i64 p] w fun e w' => e = .returned (.tuple #[.agg #[.int .i64 (nextN n r p), .int .i64 (nextR n r p)], .int .i64 (nextE n r p)]) ∧ Below w.heap.size w w' := by
  by_cases h : valB n r = true
  · by_cases h1 : valB 0 p = true
    · by_cases h2 : n = 1073741824
      · subst h2
        have hE : nextE 1073741824 r p = 6 := by unfold nextE; rw [if_pos ⟨h, h1⟩, if_pos rfl]
        have HN : Hid (nextN 1073741824 r p = 0) := Lib.hid (by unfold nextN; rw [if_neg (by rw [hE]; decide)])
        have HR : Hid (nextR 1073741824 r p = 0) := Lib.hid (by unfold nextR; rw [if_neg (by rw [hE]; decide)])
        have HE := Lib.hid hE
        have H := Lib.hid h
        have H1 := Lib.hid h1
        clear hE h h1
        rw [HE.out, HN.out, HR.out]
        go_enter Try.func6, Try.ntmps6
        go_wp2_with fail
        refine (valid_any 1073741824 r _).mono ?_
        rintro e w1 ⟨rfl, hb1⟩
        obtain ⟨chb1, fhb1⟩ := bcell hb1
        rw [H.out]
        go_wp2_with fail
        refine (first_any p _).mono ?_
        rintro e w2 ⟨rfl, hb2⟩
        replace hb2 := nx hb1 hb2
        obtain ⟨chb2, fhb2⟩ := bcell hb2
        clear chb1 fhb1
        go_wp2_with fail
        refine (valid_any 0 p _).mono ?_
        rintro e w3 ⟨rfl, hb3⟩
        replace hb3 := nx hb2 hb3
        obtain ⟨chb3, fhb3⟩ := bcell hb3
        clear chb2 fhb2
        rw [H1.out]
        go_wp2
        exact bodyPost_ret (v := .tuple #[.agg #[.int .i64 0, .int .i64 0], .int .i64 6]) (by simp [results, Try.results6, go_sem, chb3]) rfl ⟨rfl, ((nx (below2 _ _ _) hb3).setCell (by simp <;> omega) _).setCell (by simp <;> omega) _⟩
      · have hE : nextE n r p = 0 := by unfold nextE; rw [if_pos ⟨h, h1⟩, if_neg h2]
        have HN : Hid (nextN n r p = n + 1) := Lib.hid (by unfold nextN; rw [if_pos hE])
        have HR : Hid (nextR n r p = p) := Lib.hid (by unfold nextR; rw [if_pos hE])
        have hb := valB_iff.1 h
        have hd : (n == 1073741824) = false := by simpa using h2
        have HE := Lib.hid hE
        have H := Lib.hid h
        have H1 := Lib.hid h1
        clear hE h h1
        rw [HE.out, HN.out, HR.out]
        go_enter Try.func6, Try.ntmps6
        go_wp2_with fail
        refine (valid_any n r _).mono ?_
        rintro e w1 ⟨rfl, hb1⟩
        obtain ⟨chb1, fhb1⟩ := bcell hb1
        rw [H.out]
        go_wp2_with fail
        refine (first_any p _).mono ?_
        rintro e w2 ⟨rfl, hb2⟩
        replace hb2 := nx hb1 hb2
        obtain ⟨chb2, fhb2⟩ := bcell hb2
        clear chb1 fhb1
        go_wp2_with fail
        refine (valid_any 0 p _).mono ?_
        rintro e w3 ⟨rfl, hb3⟩
        replace hb3 := nx hb2 hb3
        obtain ⟨chb3, fhb3⟩ := bcell hb3
        clear chb2 fhb2
        rw [H1.out]
        go_wp2
        exact bodyPost_ret (v := .tuple #[.agg #[.int .i64 (n + 1), .int .i64 p], .int .i64 0]) (by simp [results, Try.results6, go_sem, chb3]) rfl ⟨rfl, ((nx (below2 _ _ _) hb3).setCell (by simp <;> omega) _).setCell (by simp <;> omega) _⟩
    · have hE : nextE n r p = 1 := by unfold nextE; rw [if_neg (fun x => h1 x.2)]
      have HN : Hid (nextN n r p = 0) := Lib.hid (by unfold nextN; rw [if_neg (by rw [hE]; decide)])
      have HR : Hid (nextR n r p = 0) := Lib.hid (by unfold nextR; rw [if_neg (by rw [hE]; decide)])
      have HE := Lib.hid hE
      have H := Lib.hid h
      have H1 : Hid (valB 0 p = false) := Lib.hid (by simpa using h1)
      clear hE h h1
      rw [HE.out, HN.out, HR.out]
      go_enter Try.func6, Try.ntmps6
      go_wp2_with fail
      refine (valid_any n r _).mono ?_
      rintro e w1 ⟨rfl, hb1⟩
      obtain ⟨chb1, fhb1⟩ := bcell hb1
      rw [H.out]
      go_wp2_with fail
      refine (first_any p _).mono ?_
      rintro e w2 ⟨rfl, hb2⟩
      replace hb2 := nx hb1 hb2
      obtain ⟨chb2, fhb2⟩ := bcell hb2
      clear chb1 fhb1
      go_wp2_with fail
      refine (valid_any 0 p _).mono ?_
      rintro e w3 ⟨rfl, hb3⟩
      replace hb3 := nx hb2 hb3
      obtain ⟨chb3, fhb3⟩ := bcell hb3
      clear chb2 fhb2
      rw [H1.out]
      go_wp2
      exact bodyPost_ret (v := .tuple #[.agg #[.int .i64 0, .int .i64 0], .int .i64 1]) (by simp [results, Try.results6, go_sem, chb3]) rfl ⟨rfl, ((nx (below2 _ _ _) hb3).setCell (by simp <;> omega) _).setCell (by simp <;> omega) _⟩
  · have hE : nextE n r p = 1 := by unfold nextE; rw [if_neg (fun x => h x.1)]
    have HN : Hid (nextN n r p = 0) := Lib.hid (by unfold nextN; rw [if_neg (by rw [hE]; decide)])
    have HR : Hid (nextR n r p = 0) := Lib.hid (by unfold nextR; rw [if_neg (by rw [hE]; decide)])
    have HE := Lib.hid hE
    have H : Hid (valB n r = false) := Lib.hid (by simpa using h)
    clear hE h
    rw [HE.out, HN.out, HR.out]
    go_enter Try.func6, Try.ntmps6
    go_wp2_with fail
    refine (valid_any n r _).mono ?_
    rintro e w1 ⟨rfl, hb1⟩
    obtain ⟨chb1, fhb1⟩ := bcell hb1
    rw [H.out]
    go_wp2
    exact bodyPost_ret (v := .tuple #[.agg #[.int .i64 0, .int .i64 0], .int .i64 1]) (by simp [results, Try.results6, go_sem, chb1]) rfl ⟨rfl, ((nx (below2 _ _ _) hb1).setCell (by simp <;> omega) _).setCell (by simp <;> omega) _⟩
set_option maxHeartbeats 1600000 in
theorem rNext_any (n r p : Int) (w : World) :
    Calls Try.prog 7 #[.agg #[.int .i64 n, .int .i64 r], .int .i64 p] w fun e w' => e = .returned (.tuple #[.agg #[.int .i64 (nextN n r p), .int .i64 (nextR n r p)], .int .i64 (nextE n r p)]) ∧ Below w.heap.size w w' := by
  by_cases h : valB n r = true
  · by_cases h1 : valB 0 p = true
    · by_cases h2 : n = 1073741824
      · subst h2
        have hE : nextE 1073741824 r p = 6 := by unfold nextE; rw [if_pos ⟨h, h1⟩, if_pos rfl]
        have HN : Hid (nextN 1073741824 r p = 0) := Lib.hid (by unfold nextN; rw [if_neg (by rw [hE]; decide)])
        have HR : Hid (nextR 1073741824 r p = 0) := Lib.hid (by unfold nextR; rw [if_neg (by rw [hE]; decide)])
        have HE := Lib.hid hE
        have H := Lib.hid h
        have hp := valB_iff.1 h1
        have hp0 : decide (p < 0) = false := by simp; omega
        have hp1 : decide (7 ≤ p) = false := by simp; omega
        clear hE h h1
        rw [HE.out, HN.out, HR.out]
        go_enter Try.func7, Try.ntmps7
        go_wp2_with fail
        refine (rValid_any 1073741824 r _).mono ?_
        rintro e w1 ⟨rfl, hb1⟩
        obtain ⟨chb1, fhb1⟩ := bcell hb1
        rw [H.out]
        go_wp2
        exact bodyPost_ret (v := .tuple #[.agg #[.int .i64 0, .int .i64 0], .int .i64 6]) (by simp [results, Try.results7, go_sem, chb1]) rfl ⟨rfl, ((nx (below2 _ _ _) hb1).setCell (by simp <;> omega) _).setCell (by simp <;> omega) _⟩
      · have hE : nextE n r p = 0 := by unfold nextE; rw [if_pos ⟨h, h1⟩, if_neg h2]
        have HN : Hid (nextN n r p = n + 1) := Lib.hid (by unfold nextN; rw [if_pos hE])
        have HR : Hid (nextR n r p = p) := Lib.hid (by unfold nextR; rw [if_pos hE])
        have hb := valB_iff.1 h
        have hd : (n == 1073741824) = false := by simpa using h2
        have HE := Lib.hid hE
        have H := Lib.hid h
        have hp := valB_iff.1 h1
        have hp0 : decide (p < 0) = false := by simp; omega
        have hp1 : decide (7 ≤ p) = false := by simp; omega
        clear hE h h1
        rw [HE.out, HN.out, HR.out]
        go_enter Try.func7, Try.ntmps7
        go_wp2_with fail
        refine (rValid_any n r _).mono ?_
        rintro e w1 ⟨rfl, hb1⟩
        obtain ⟨chb1, fhb1⟩ := bcell hb1
        rw [H.out]
        go_wp2
        exact bodyPost_ret (v := .tuple #[.agg #[.int .i64 (n + 1), .int .i64 p], .int .i64 0]) (by simp [results, Try.results7, go_sem, chb1]) rfl ⟨rfl, ((nx (below2 _ _ _) hb1).setCell (by simp <;> omega) _).setCell (by simp <;> omega) _⟩
    · have hE : nextE n r p = 1 := by unfold nextE; rw [if_neg (fun x => h1 x.2)]
      have HN : Hid (nextN n r p = 0) := Lib.hid (by unfold nextN; rw [if_neg (by rw [hE]; decide)])
      have HR : Hid (nextR n r p = 0) := Lib.hid (by unfold nextR; rw [if_neg (by rw [hE]; decide)])
      have HE := Lib.hid hE
      have H := Lib.hid h
      have hp : ¬ (0 ≤ p ∧ p < 7) := fun x => h1 (valB_iff.2 ⟨by omega, by omega, x.1, x.2⟩)
      clear hE h h1
      rw [HE.out, HN.out, HR.out]
      by_cases hq : p < 0
      · have hp0 : decide (p < 0) = true := by simpa using hq
        go_enter Try.func7, Try.ntmps7
        go_wp2_with fail
        refine (rValid_any n r _).mono ?_
        rintro e w1 ⟨rfl, hb1⟩
        obtain ⟨chb1, fhb1⟩ := bcell hb1
        rw [H.out]
        go_wp2
        exact bodyPost_ret (v := .tuple #[.agg #[.int .i64 0, .int .i64 0], .int .i64 1]) (by simp [results, Try.results7, go_sem, chb1]) rfl ⟨rfl, ((nx (below2 _ _ _) hb1).setCell (by simp <;> omega) _).setCell (by simp <;> omega) _⟩
      · have hp0 : decide (p < 0) = false := by simpa using hq
        have hp1 : decide (7 ≤ p) = true := by simp; omega
        go_enter Try.func7, Try.ntmps7
        go_wp2_with fail
        refine (rValid_any n r _).mono ?_
        rintro e w1 ⟨rfl, hb1⟩
        obtain ⟨chb1, fhb1⟩ := bcell hb1
        rw [H.out]
        go_wp2
        exact bodyPost_ret (v := .tuple #[.agg #[.int .i64 0, .int .i64 0], .int .i64 1]) (by simp [results, Try.results7, go_sem, chb1]) rfl ⟨rfl, ((nx (below2 _ _ _) hb1).setCell (by simp <;> omega) _).setCell (by simp <;> omega) _⟩
  · have hE : nextE n r p = 1 := by unfold nextE; rw [if_neg (fun x => h x.1)]
    have HN : Hid (nextN n r p = 0) := Lib.hid (by unfold nextN; rw [if_neg (by rw [hE]; decide)])
    have HR : Hid (nextR n r p = 0) := Lib.hid (by unfold nextR; rw [if_neg (by rw [hE]; decide)])
    have HE := Lib.hid hE
    have H : Hid (valB n r = false) := Lib.hid (by simpa using h)
    clear hE h
    rw [HE.out, HN.out, HR.out]
    go_enter Try.func7, Try.ntmps7
    go_wp2_with fail
    refine (rValid_any n r _).mono ?_
    rintro e w1 ⟨rfl, hb1⟩
    obtain ⟨chb1, fhb1⟩ := bcell hb1
    rw [H.out]
    go_wp2
    exact bodyPost_ret (v := .tuple #[.agg #[.int .i64 0, .int .i64 0], .int .i64 1]) (by simp [results, Try.results7, go_sem, chb1]) rfl ⟨rfl, ((nx (below2 _ _ _) hb1).setCell (by simp <;> omega) _).setCell (by simp <;> omega) _⟩
end Go.Proofs.Ytkgjhfndlnoddaa.Ba
