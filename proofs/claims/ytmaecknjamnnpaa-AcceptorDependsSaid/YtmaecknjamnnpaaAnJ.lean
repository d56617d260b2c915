/- Layer 19: messages compared; messages in lists in memory. -/
import Derived.Test.YtmaecknjamnnpaaAnC
namespace Go.Proofs.Ytmaecknjamnnpaa.An
open Go.RowKit
set_option linter.unusedVariables false
open Go.Proofs.Ytmaecknjamnnpaa.Rw
open Go.Proofs.Ytmaecknjamnnpaa.Da
open Go.Proofs.Ytmaecknjamnnpaa.Ro
open Go.Proofs.Ytmaecknjamnnpaa.Bv
open Go.Proofs.Ytmaecknjamnnpaa.Rc (cv eqI1 eqB1 eqP2 eqB2 eqV3)
theorem fieldsG : Try.prog.underlying 34 = some (.struct (Try.prog.fieldsOf 34)) := by kernel_rfl
theorem gI0 (m : Msg) (w : World) : (Go.part 3 (cg m) 0).run Try.prog w = .ok (.int .i64 m.k) w := by simp [Go.part, Try.isAgg3, cg]
theorem gI1 (m : Msg) (w : World) : (Go.part 3 (cg m) 1).run Try.prog w = .ok (.int .i64 m.f) w := by simp [Go.part, Try.isAgg3, cg]
theorem gI2 (m : Msg) (w : World) : (Go.part 3 (cg m) 2).run Try.prog w = .ok (.int .i64 m.t) w := by simp [Go.part, Try.isAgg3, cg]
theorem gP (m : Msg) (w : World) : (Go.part 24 (cg m) 3).run Try.prog w = .ok (.agg #[.int .i64 m.pr, .int .i64 m.ps]) w := by
  simp [Go.part, Try.isAgg24, Try.sizeOf24, cg_place]
theorem gB (m : Msg) (w : World) : (Go.part 26 (cg m) 5).run Try.prog w = .ok (.agg #[.int .i64 m.bn, .int .i64 m.br]) w := by
  simp [Go.part, Try.isAgg26, Try.sizeOf26, cg_bal]
theorem gV (m : Msg) (w : World) : (Go.part 32 (cg m) 7).run Try.prog w = .ok (.agg (cv m.c m.q m.d)) w := by
  simp [Go.part, Try.isAgg32, Try.sizeOf32, cg_val]
theorem gS (m : Msg) (w : World) : (Go.part 3 (cg m) 24).run Try.prog w = .ok (.int .i64 m.st) w := by simp [Go.part, Try.isAgg3, cg]
theorem gT (m : Msg) (w : World) : (Go.part 26 (cg m) 25).run Try.prog w = .ok (.agg #[.int .i64 m.tn, .int .i64 m.tr]) w := by
  simp [Go.part, Try.isAgg26, Try.sizeOf26, cg_taken]
theorem gM (m : Msg) (w : World) : (Go.part 4 (cg m) 27).run Try.prog w = .ok (.bool m.sm) w := by simp [Go.part, Try.isAgg4, cg]
theorem eqG4 (n : Nat) (m : Msg) (w : World) : (Op.equalIn (n + 4) 34 (.agg (cg m)) (.agg (cg m))).run Try.prog w = .ok true w := by
  rw [run_equalIn_agg w (n + 3) _ _ _ fieldsG (by kernel_rfl)]
  simp only [Program.fieldsOf, Try.underlying34]
  simp only [Op.eqFields]
  have e1 := eqI1 (n + 2) m.k m.k
  have e2 := eqI1 (n + 2) m.f m.f
  have e3 := eqI1 (n + 2) m.t m.t
  have e4 := eqP2 (n + 1) m.pr m.ps m.pr m.ps
  have e5 := eqB2 (n + 1) m.bn m.br m.bn m.br
  have e6 := eqV3 n m.c m.q m.d m.c m.q m.d
  have e7 := eqI1 (n + 2) m.st m.st
  have e8 := eqB2 (n + 1) m.tn m.tr m.tn m.tr
  have e9 := eqB1 (n + 2) m.sm m.sm
  rw [Rc.eqVal_refl] at e6
  simp [gI0, gI1, gI2, gP, gB, gV, gS, gT, gM, e1, e2, e3, e4, e5, e6, e7, e8, e9]
theorem eqlG (m : Msg) (w : World) : (binOp .eql 34 (.agg (cg m)) (.agg (cg m))).run Try.prog w = .ok (.bool true) w := by
  rw [run_eql_struct, eqG4 9996]; rfl
theorem guardG (op : BinOp) (x y : Operand) (i j : Msg) (w : World) : (eqGuard op 34 x y (.agg (cg i)) (.agg (cg j))).run Try.prog w = .ok () w :=
  run_eqGuard_agg w op _ x y _ _ (by kernel_rfl)
attribute [go_sem ↓] eqlG guardG
def cG (m : Msg) : List Value := (cg m).toList
theorem cG_one (m : Msg) : ∀ u ∈ cG m, u.oneCell' = true := by
  intro u hu
  have h := cg_one m
  unfold oneAll at h
  rw [← Array.all_toList] at h
  exact List.all_eq_true.1 h u hu
def fG : Flat Msg := ⟨28, cG, fun _ => rfl, cG_one⟩
def eG : Enc Msg := fG.enc
abbrev TG (n : Nat) (l : List Msg) (v : Value) (w : World) : Prop := Is eG 34 (Bs.of n) l v w
theorem TG.stays {n : Nat} {l : List Msg} {v : Value} {w w' : World} (h : TG n l v w) (k : Below w.heap.size w w') : TG n l v w' := Is.stays eG 34 h k
/-- What lies at a place of a list. -/
theorem TG.at {n : Nat} {l : List Msg} {a : Option Addr} {m c : Nat} {w wr : World} (h : TG n l (.slice a m c) w) (hb : Below w.heap.size w wr) {k : Nat} (hk : k < l.length) :
    ∃ b off, a = some ⟨b, off, none⟩ ∧ (row wr b).extract (off + k * 28) (off + k * 28 + 28) = cg l[k] ∧ b < wr.heap.size := by
  rcases (h.stays hb).cases with ⟨e, _⟩ | ⟨e, b, off, c2, hv, hl⟩
  · rw [e] at hk; exact absurd hk (by simp)
  · obtain ⟨cs, rfl, hu⟩ := hl.at k hk
    simp only [Value.slice.injEq] at hv
    exact ⟨b, off, hv.1, St.part_of (cs := cg l[k]) (show 0 < 28 by decide) hu, hl.1⟩
end Go.Proofs.Ytmaecknjamnnpaa.An
