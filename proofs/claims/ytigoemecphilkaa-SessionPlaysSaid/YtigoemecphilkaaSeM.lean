/- SessionPlays: the map of each client's last reply; the replies that came in. -/
import Derived.Test.YtigoemecphilkaaSeH
import Derived.Test.YtigoemecphilkaaSeLaw
import Derived.Test.YtigoemecphilkaaMv
namespace Go.Proofs.Ytigoemecphilkaa.Se
open Go.RowKit Go.Maps
open Go.ChangeMaps Go.ChangeShapes Go.WideShapes
open Go.Proofs.Ytigoemecphilkaa.Rw
open Go.Proofs.Ytigoemecphilkaa.Da
open Go.Proofs.Ytigoemecphilkaa.Mv
theorem keyedI : Keyed Try.prog 3 := int_keyed Try.underlying3
theorem zeroR (w : World) : (zeroValue 25).run Try.prog w = .ok (.agg #[.int .i64 0, .int .i64 0, .int .i64 0, .int .i64 0, .int .i64 0]) w := by kernel_rfl
def KC (v : Value) : Prop := ∃ c : Nat, c < 5 ∧ v = .int .i64 c
def vR (r : Rp) : Value := .agg #[.int .i64 r.1, .int .i64 r.2.1, .int .i64 r.2.2.1, .int .i64 r.2.2.2.1, .int .i64 r.2.2.2.2]
def fM (m : Int → Option Rp) : Value → Option Value
  | .int _ c => (m c).map vR
  | _ => none
abbrev MR (m : Int → Option Rp) (b n : Nat) (w : World) : Prop := MV Try.prog 3 KC (fM m) b n w
theorem keyC {c : Nat} (h : c < 5) : ∃ kl, keyOf Try.prog 3 (.int .i64 c) = some kl := ⟨_, keyOf_int_mk Try.underlying3 (Go.WalkArith.wf_i64 (by omega))⟩
/-- What the map says of a client: the reply, or the zero reply. -/
def gotM (m : Int → Option Rp) (c : Int) : Rp := (m c).getD z5
theorem vR_z5 : vR z5 = .agg #[.int .i64 0, .int .i64 0, .int .i64 0, .int .i64 0, .int .i64 0] := rfl
theorem fM_get (m : Int → Option Rp) (c : Nat) : (fM m (.int .i64 c)).getD (.agg #[.int .i64 0, .int .i64 0, .int .i64 0, .int .i64 0, .int .i64 0]) = vR (gotM m c) := by
  unfold fM gotM
  show ((m c).map vR).getD _ = vR ((m c).getD z5)
  cases m c
  · exact vR_z5.symm
  · rfl
theorem MR.look {m : Int → Option Rp} {b n : Nat} {w : World} (h : MR m b n w) (c : Nat) (hc : c < 5) :
    (Instr.lookup 37 (.map (some b)) (.int .i64 c) false).run Try.prog w = .ok (vR (gotM m c)) w := by
  obtain ⟨kl, hk⟩ := keyC hc
  have := MV.look h keyedI Try.underlying37 zeroR (key := .int .i64 c) ⟨c, hc, rfl⟩ hk false
  rw [fM_get] at this
  exact this
theorem MR.look2 {m : Int → Option Rp} {b n : Nat} {w : World} (h : MR m b n w) (c : Nat) (hc : c < 5) :
    (Instr.lookup 37 (.map (some b)) (.int .i64 c) true).run Try.prog w = .ok (.tuple #[vR (gotM m c), .bool (m c).isSome]) w := by
  obtain ⟨kl, hk⟩ := keyC hc
  have := MV.look h keyedI Try.underlying37 zeroR (key := .int .i64 c) ⟨c, hc, rfl⟩ hk true
  rw [fM_get, show (fM m (.int .i64 c)).isSome = (m c).isSome from by unfold fM; exact Option.isSome_map] at this
  exact this
theorem MR.put {m : Int → Option Rp} {b n : Nat} {w : World} (h : MR m b n w) (hn : n < maxLen) (r : Rp) (c : Nat) (hc : c < 5) (hr : r.1 = c) :
    ∃ w', (Instr.mapUpdate 37 (.map (some b)) (.int .i64 c) (vR r)).run Try.prog w = .ok () w' ∧ MR (updM m r) b (n + 1) w' ∧ w.grownBy w' (some b) := by
  obtain ⟨kl, hk⟩ := keyC hc
  refine MV.put h keyedI Try.underlying37 hn hk ?_ fun u ⟨x, hx, e⟩ hne => ?_
  · show (updM m r c).map vR = some (vR r)
    unfold updM; rw [if_pos hr.symm]; rfl
  · subst e
    show (updM m r x).map vR = (m x).map vR
    unfold updM; rw [if_neg (fun e => hne (by rw [e, hr]))]
theorem MR.stays {m : Int → Option Rp} {b n : Nat} {w w' : World} (h : MR m b n w) (hb : Below w.heap.size w w') : MR m b n w' := MV.stays h hb
theorem MR.keeps {m : Int → Option Rp} {b n : Nat} {w w' : World} (h : MR m b n w) (hg : w.grownBy w' (some b)) {B : Bs} (hB : B.lo ≤ b) (ts : List TypeId) : Keeps B ts w w' := by
  refine ⟨hg.size, fun i o hi ho => (hg.block i (Array.getElem?_eq_some_iff.1 hi).1 fun e => ?_).trans hi⟩
  obtain rfl : i = b := Option.some.inj e
  obtain ⟨D, _, ⟨es, c, hb, _⟩, _⟩ := h
  rw [hb] at hi
  rcases ho with ho | ⟨cur, t, fr, rfl, _⟩
  · omega
  · cases hi
theorem NC.keeps {B : Bs} {l : List Sn} {v : Value} {w w' : World} (h : NC B l v w) (k : Keeps B (42 :: eS.ts) w w') : NC B l v w' := ⟨h.1.keep eS 42 k, h.2⟩
theorem mod64 (a : Int) (n : Nat) (h : 0 < n) : ∃ c : Nat, c < n ∧ (IntKind.u64.wrap a).tmod (n : Int) = c := by
  have h0 : 0 ≤ IntKind.u64.wrap a := by rw [IntKind.wrap_u64]; omega
  rw [Int.tmod_eq_emod_of_nonneg h0]
  have h1 := Int.emod_nonneg (IntKind.u64.wrap a) (show (n : Int) ≠ 0 by omega)
  have h2 := Int.emod_lt_of_pos (IntKind.u64.wrap a) (show (0 : Int) < n by omega)
  exact ⟨(IntKind.u64.wrap a % (n : Int)).toNat, by omega, by omega⟩
/-- The number of a reply by value. -/
@[go_sem] theorem fieldR (a b c d e : Int) (w : World) : (Instr.field 25 (.agg #[.int .i64 a, .int .i64 b, .int .i64 c, .int .i64 d, .int .i64 e]) 1).run Try.prog w = .ok (.int .i64 b) w := by kernel_rfl
/-- What Look tells of a client, by the map. -/
theorem looks_of {s : List Sn} {m : Int → Option Rp} (h : PlI s m) (c : Int) : (∃ x, m c = some x ∧ 1 ≤ x.2.1 ∧ look c (gotM m c).2.1 s = (gotM m c, 0) ∧ 0 < (gotM m c).2.1 ∧ last c s = (gotM m c).2.1) ∨ (m c = none ∧ gotM m c = z5 ∧ look c 0 s = (z5, 8) ∧ last c s = 0) := by
  have hl := h.last c
  cases hm : m c with
  | none =>
    right
    rw [hm] at hl
    refine ⟨rfl, by unfold gotM; rw [hm]; rfl, ?_, hl⟩
    have := h.fnd' c
    rw [hm] at this
    unfold look
    rw [this]; rfl
  | some x =>
    left
    rw [hm] at hl
    have hg : gotM m c = x := by unfold gotM; rw [hm]; rfl
    have h1 := (h.own c x hm).2
    exact ⟨x, rfl, h1, by rw [hg]; exact h.look hm, by rw [hg]; omega, by rw [hg]; exact hl⟩
end Go.Proofs.Ytigoemecphilkaa.Se
