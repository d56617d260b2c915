/- Calls that came in (LevelOrder), as a list. -/
import Derived.Test.YtmpkindlanadbaaLeFr
namespace Go.Proofs.Ytmpkindlanadbaa.Le
open Go.RowKit
set_option linter.unusedVariables false
open Go.ChangeShapes Go.WideShapes Go.Deep
open Go.Proofs.Ytmpkindlanadbaa.Rw
open Go.Proofs.Ytmpkindlanadbaa.Da
abbrev Op3 := Int × Int × Int
def eP : Enc Op3 := Enc.flat 3 (fun o => [.int .i64 o.1, .int .i64 o.2.1, .int .i64 o.2.2]) (fun _ => rfl) (fun o u hu => by simp at hu; rcases hu with rfl | rfl | rfl <;> rfl)
abbrev PL (B : Bs) (l : List Op3) (v : Value) (w : World) : Prop := Is eP 44 B l v w
theorem at3 {B : Bs} {l : List Op3} {b off : Nat} {w : World} (h : Lies eP 44 B l b off w) (i : Nat) (hi : i < l.length) :
    w.cell? ⟨b, off + i * 3, none⟩ = some (.int .i64 l[i].1) ∧ w.cell? ⟨b, off + i * 3 + 1, none⟩ = some (.int .i64 l[i].2.1) ∧ w.cell? ⟨b, off + i * 3 + 2, none⟩ = some (.int .i64 l[i].2.2) := by
  obtain ⟨cs, rfl, hu⟩ := h.at i hi
  exact ⟨hu 0 _ rfl, hu 1 _ rfl, hu 2 _ rfl⟩
theorem cellsP3 : Try.prog.cellsOf 44 = 3 := by kernel_rfl
def wfPs (l : List Op3) : Prop := l.length ≤ maxLen ∧ ∀ o ∈ l, wfI o.1 ∧ wfI o.2.1 ∧ wfI o.2.2
theorem open_ops {H : Type} {en : TypeId × Value → H} {w : World} {base fuel : Nat} {sp : Nat → Bool} {held : Bool} {a : Option Addr} {n c : Nat} {x : DataW H × List MemPlace}
    (h : DataW.trod en Try.prog w base sp held fuel 42 (Value.slice a n c).cells.toList = some x) : ∃ l, PL (Bs.of w.heap.size) l (.slice a n c) w ∧ wfPs l := by
  rcases open_slice Try.underlying42 h with ⟨hcs, _⟩ | ⟨ad, len, cap, m, n', D, Pl, hcs, _, hl, hcap, hm, _, hi⟩
  · simp [Value.cells] at hcs
    obtain ⟨rfl, rfl, rfl⟩ := hcs
    exact ⟨[], Is.nil _ _ _ _, Nat.zero_le _, by simp⟩
  · simp [Value.cells] at hcs
    obtain ⟨rfl, rfl, rfl⟩ := hcs
    suffices h : ∃ l, PL (Bs.of w.heap.size) l (.slice (some ad) n c) w ∧ l.length = n ∧ ∀ o ∈ l, wfI o.1 ∧ wfI o.2.1 ∧ wfI o.2.2 by
      obtain ⟨l, h1, h2, h3⟩ := h
      exact ⟨l, h1, by omega, h3⟩
    refine is_of eP 44 (by decide) w ad n c (fun o => wfI o.1 ∧ wfI o.2.1 ∧ wfI o.2.2) fun i hlt => ?_
    obtain ⟨cs, hc, ht⟩ := hi i (by rw [hm]; split <;> omega)
    rw [cellsP3] at hc
    obtain ⟨_, hcl, hat⟩ := World.cells?_some hc
    obtain ⟨ys, n1, _, _, _, hyl, hf⟩ := DataW.trod_struct Try.underlying44 ht
    have g1 := fld (o := 0) (t := 3) rfl rfl cellsI ((hf 0 _ rfl).trans (List.getElem?_eq_getElem (by rw [hyl]; decide)))
    have g2 := fld (o := 1) (t := 3) rfl rfl cellsI ((hf 1 _ rfl).trans (List.getElem?_eq_getElem (by rw [hyl]; decide)))
    have g3 := fld (o := 2) (t := 3) rfl rfl cellsI ((hf 2 _ rfl).trans (List.getElem?_eq_getElem (by rw [hyl]; decide)))
    obtain ⟨x1, e1, w1⟩ := one_of 0 g1
    obtain ⟨x2, e2, w2⟩ := one_of 1 g2
    obtain ⟨x3, e3, w3⟩ := one_of 2 g3
    refine ⟨(x1, x2, x3), _, ⟨w1, w2, w3⟩, rfl, fun j u hu => ?_⟩
    show w.cell? ((ad.add (i * 3)).add j) = some u
    match j, hu with
    | 0, hu => obtain rfl := Option.some.inj hu; rw [hat 0 (by omega), e1]
    | 1, hu => obtain rfl := Option.some.inj hu; rw [hat 1 (by omega), e2]
    | 2, hu => obtain rfl := Option.some.inj hu; rw [hat 2 (by omega), e3]
    | j + 3, hu => cases hu
theorem mod64 (a : Int) (n : Nat) (h : 0 < n) : ∃ c : Nat, c < n ∧ (IntKind.u64.wrap a).tmod (n : Int) = c := by
  have h0 : 0 ≤ IntKind.u64.wrap a := by rw [IntKind.wrap_u64]; omega
  rw [Int.tmod_eq_emod_of_nonneg h0]
  have h1 := Int.emod_nonneg (IntKind.u64.wrap a) (show (n : Int) ≠ 0 by omega)
  have h2 := Int.emod_lt_of_pos (IntKind.u64.wrap a) (show (0 : Int) < n by omega)
  exact ⟨(IntKind.u64.wrap a % (n : Int)).toNat, by omega, by omega⟩
/-- The numbers and the orders that the statement makes. -/
def mkO (i : Nat) (s : Int) (c : Nat) : Od := ((i : Int), ((i % 4 : Nat) : Int), s, 1 + (c : Int), 1 + ((i % 9 : Nat) : Int))
end Go.Proofs.Ytmpkindlanadbaa.Le
