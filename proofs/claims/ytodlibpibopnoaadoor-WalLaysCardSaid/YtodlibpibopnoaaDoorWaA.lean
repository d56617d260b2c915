/- Lists of texts in memory. -/
import Derived.Test.YtodlibpibopnoaaDoorRows
import Derived.Test.YtodlibpibopnoaaDoorWaPure
import Derived.Test.YtodlibpibopnoaaDoorAp
import Derived.Test.YtodlibpibopnoaaDoorSub
import Derived.Test.YtodlibpibopnoaaDoorRh
import Derived.Lib.Hide
import Derived.Deep.QuietTactic
import Derived.StillTailTactics
import Derived.Laws.EntriesVeiled
namespace Go.Proofs.YtodlibpibopnoaaDoor.Wa
open Go.RowKit
set_option linter.unusedVariables false
open Go.Proofs.YtodlibpibopnoaaDoor.Rw
open Go.Proofs.YtodlibpibopnoaaDoor.Da
open Go.Proofs.YtodlibpibopnoaaDoor.Cr
def cellsT (s : ByteArray) : List Value := [.string s]
def eT : Enc ByteArray := Enc.flat 1 cellsT (fun _ => rfl) (fun s u hu => by simp [cellsT] at hu; subst hu; rfl)
abbrev TL (n : Nat) (l : List ByteArray) (v : Value) (w : World) : Prop := Is eT 9 (Bs.of n) l v w
abbrev OwnT (n Bo : Nat) (l : List ByteArray) (v : Value) (w : World) : Prop := Own eT 9 (Bs.of n) Bo l v w
theorem typesT : 9 ∉ eT.ts := by decide
theorem infoT : (Tryd.prog.info? 9).map (fun i => (i.zero, i.size, i.bytes)) = some (some (.string ⟨#[]⟩), 1, 16) := by kernel_rfl
theorem elemT : Elem Tryd.prog 23 9 eT.k 16 := elem_of Tryd.underlying23 infoT rfl (by decide)
/-- The cell of a text in a list. -/
theorem at1 {n : Nat} {l : List ByteArray} {b off : Nat} {w : World} (h : Lies eT 9 (Bs.of n) l b off w) (i : Nat) (hi : i < l.length) :
    w.cell? ⟨b, off + i, none⟩ = some (.string l[i]) := by
  obtain ⟨cs, rfl, hu⟩ := h.at i hi
  have := hu 0 _ rfl
  rwa [show eT.k = 1 from rfl, Nat.mul_one, Nat.add_zero] at this
theorem TL.stays {n : Nat} {l : List ByteArray} {v : Value} {w w' : World} (h : TL n l v w) (k : Below w.heap.size w w') : TL n l v w' := Is.stays eT 9 h k
theorem OwnT.tl {n Bo : Nat} {l : List ByteArray} {v : Value} {w : World} (h : OwnT n Bo l v w) (hn : n ≤ Bo) : TL n l v w := h.is (by decide) ⟨hn, fun _ h => h.elim⟩
/-- One text more. -/
theorem app_one {n Bo : Nat} {l : List ByteArray} {v : Value} {w : World} (h : OwnT n Bo l v w) (hn : n ≤ Bo) (hB : Bo ≤ w.heap.size) (x : ByteArray) (hl : l.length ≤ 100000000) :
    ∃ v' w', appRun Tryd.prog 23 23 v (.slice (some ⟨w.heap.size, 0, none⟩) 1 1) (w.alloc (.cells #[.string x] 9)) = .ok v' w' ∧ OwnT n Bo (l ++ [x]) v' w' ∧ ∀ m w0, m ≤ Bo → Below m w0 w → Below m w0 w' := by
  have hb := below1 w (.cells #[.string x] 9)
  obtain ⟨v', w', h1, h2, _, h3, _⟩ := Own.append elemT 23 typesT (B := Bs.of n) ⟨hn, fun _ h => h.elim⟩ (Nat.le_trans hB hb.size) (Own.stays h hb) (Is.one (e := eT) (T := 9) (B := Bs.of n) (x := x) (cs := [.string x]) (w := w) ⟨Nat.le_trans hn hB, fun _ h => h.elim⟩ rfl) (by simp only [List.length_singleton]; omega) (by decide)
  exact ⟨v', w', h1, h2, fun m w0 hm hk => h3 m w0 hm (hk.trans (hb.mono (Nat.le_trans hm hB)))⟩
end Go.Proofs.YtodlibpibopnoaaDoor.Wa
