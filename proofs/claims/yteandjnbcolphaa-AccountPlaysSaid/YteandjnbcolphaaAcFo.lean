/- Calls that came in (AccountPlays), as a list. -/
import Derived.Test.YteandjnbcolphaaAcM
namespace Go.Proofs.Yteandjnbcolphaa.Ac
open Go.RowKit
set_option linter.unusedVariables false
open Go.ChangeShapes Go.WideShapes Go.Deep
open Go.Proofs.Yteandjnbcolphaa.Rw
open Go.Proofs.Yteandjnbcolphaa.Sl
abbrev O4 := Int × Int × Int × Int
def encO (o : O4) : List Value := [.int .i64 o.1, .int .i64 o.2.1, .int .i64 o.2.2.1, .int .i64 o.2.2.2]
theorem encO_len (o : O4) : (encO o).length = 4 := rfl
theorem cellsO : Try.prog.cellsOf 39 = 4 := by kernel_rfl
theorem open_ol {H : Type} {en : TypeId × Value → H} {w : World} {base fuel : Nat} {sp : Nat → Bool} {held : Bool} {a : Option Addr} {n c : Nat} {x : DataW H × List MemPlace}
    (h : DataW.trod en Try.prog w base sp held fuel 35 (Value.slice a n c).cells.toList = some x) : ∃ l, SL encO 4 l (.slice a n c) w ∧ ∀ o ∈ l, (Lit.int .i64 o.2.2.2).wf = true := by
  rcases open_slice Try.underlying35 h with ⟨hcs, _⟩ | ⟨ad, len, cap, m, n', D, Pl, hcs, _, hl, _, hm, _, hi⟩
  · simp [Value.cells] at hcs
    obtain ⟨rfl, rfl, rfl⟩ := hcs
    exact ⟨[], SL.nil encO 4 w, by simp⟩
  · simp [Value.cells] at hcs
    obtain ⟨rfl, rfl, rfl⟩ := hcs
    refine sl_of encO 4 (by omega) encO_len w ad n c (fun o => (Lit.int .i64 o.2.2.2).wf = true) fun i hlt => ?_
    obtain ⟨cs, hc, ht⟩ := hi i (by rw [hm]; split <;> omega)
    rw [cellsO] at hc
    obtain ⟨_, hcl, hat⟩ := World.cells?_some hc
    obtain ⟨ys, n1, _, _, _, hyl, hf⟩ := DataW.trod_struct Try.underlying39 ht
    have h0 := fld (o := 0) (t := 3) rfl rfl cellsI ((hf 0 _ rfl).trans (List.getElem?_eq_getElem (by rw [hyl]; decide)))
    have h1 := fld (o := 1) (t := 3) rfl rfl cellsI ((hf 1 _ rfl).trans (List.getElem?_eq_getElem (by rw [hyl]; decide)))
    have h2 := fld (o := 2) (t := 3) rfl rfl cellsI ((hf 2 _ rfl).trans (List.getElem?_eq_getElem (by rw [hyl]; decide)))
    have h3 := fld (o := 3) (t := 3) rfl rfl cellsI ((hf 3 _ rfl).trans (List.getElem?_eq_getElem (by rw [hyl]; decide)))
    obtain ⟨x0, e0, w0⟩ := one_of 0 h0
    obtain ⟨x1, e1, w1⟩ := one_of 1 h1
    obtain ⟨x2, e2, w2⟩ := one_of 2 h2
    obtain ⟨x3, e3, w3⟩ := one_of 3 h3
    refine ⟨(x0, x1, x2, x3), w3, fun j u hu => ?_⟩
    match j, hu with
    | 0, hu => obtain rfl := Option.some.inj hu; rw [hat 0 (by omega), e0]
    | 1, hu => obtain rfl := Option.some.inj hu; rw [hat 1 (by omega), e1]
    | 2, hu => obtain rfl := Option.some.inj hu; rw [hat 2 (by omega), e2]
    | 3, hu => obtain rfl := Option.some.inj hu; rw [hat 3 (by omega), e3]
    | j + 4, hu => cases hu
theorem mod64 (a : Int) (n : Nat) (h : 0 < n) : ∃ c : Nat, c < n ∧ (IntKind.u64.wrap a).tmod (n : Int) = c := by
  have h0 : 0 ≤ IntKind.u64.wrap a := by rw [IntKind.wrap_u64]; omega
  rw [Int.tmod_eq_emod_of_nonneg h0]
  have h1 := Int.emod_nonneg (IntKind.u64.wrap a) (show (n : Int) ≠ 0 by omega)
  have h2 := Int.emod_lt_of_pos (IntKind.u64.wrap a) (show (0 : Int) < n by omega)
  exact ⟨(IntKind.u64.wrap a % (n : Int)).toNat, by omega, by omega⟩
end Go.Proofs.Yteandjnbcolphaa.Ac
