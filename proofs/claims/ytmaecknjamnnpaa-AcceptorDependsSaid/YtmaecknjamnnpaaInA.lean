/- Layer 18: package instance's Less, Get. -/
import Derived.Test.YtmaecknjamnnpaaStAa
import Derived.Test.YtmaecknjamnnpaaInLaw
import Derived.Test.YtmaecknjamnnpaaRcK
import Derived.Test.YtmaecknjamnnpaaSub
namespace Go.Proofs.Ytmaecknjamnnpaa.In
open Go.RowKit
set_option linter.unusedVariables false
open Go.Proofs.Ytmaecknjamnnpaa.Rw
open Go.Proofs.Ytmaecknjamnnpaa.Da
open Go.Proofs.Ytmaecknjamnnpaa.Bv
open Go.Proofs.Ytmaecknjamnnpaa.Rc (Ins ci zeroI okI)
open Go.Proofs.Ytmaecknjamnnpaa.St
/-- The cells of a place. -/
def cp (r s : Int) : Array Value := #[.int .i64 r, .int .i64 s]
theorem eqlPl (a b c d : Int) (w : World) : (binOp .eql 24 (.agg #[.int .i64 a, .int .i64 b]) (.agg #[.int .i64 c, .int .i64 d])).run Try.prog w = .ok (.bool (a == c && b == d)) w := by
  rw [run_eql_struct, Rc.eqP2 9998]; rfl
theorem neqPl (a b c d : Int) (w : World) : (binOp .neq 24 (.agg #[.int .i64 a, .int .i64 b]) (.agg #[.int .i64 c, .int .i64 d])).run Try.prog w = .ok (.bool (!(a == c && b == d))) w := by
  rw [run_neq_struct, Rc.eqP2 9998]; rfl
theorem guardPl (op : BinOp) (x y : Operand) (a b c d : Int) (w : World) : (eqGuard op 24 x y (.agg #[.int .i64 a, .int .i64 b]) (.agg #[.int .i64 c, .int .i64 d])).run Try.prog w = .ok () w :=
  run_eqGuard_agg w op _ x y _ _ (by kernel_rfl)
attribute [go_sem ↓] eqlPl neqPl guardPl
section
variable (ρ : Operand → Value) (dst : Option Tmp) (ty : TypeId) (pos : String) (after : Array Edge) (guard : Option (Nat × Bool)) (w : World)
theorem buildI1 (x : Operand) (hx : ρ x = .agg #[.int .i64 (Rc.nA (ρ x) 0), .int .i64 (Rc.nA (ρ x) 1)]) : (execOp ρ { dst, op := .build 37 #[(0, x)], type := ty, pos, after, guard }).run Try.prog w = .ok (.value (.agg (ci (placeI (Rc.nA (ρ x) 0) (Rc.nA (ρ x) 1))))) w := by
  generalize Rc.nA (ρ x) 0 = fx at hx ⊢
  generalize Rc.nA (ρ x) 1 = gx at hx ⊢
  have := run_build (P := Try.prog) w 37 #[(0, .agg #[.int .i64 fx, .int .i64 gx])] (ci (placeI fx gx)) (by kernel_rfl)
  simp [execOp, hx, this]
end
attribute [go_sem ↓] buildI1
theorem at_pl (x : Ins) (r s : Int) : (x.pr == r && x.ps == s) = atP x r s := rfl
set_option maxHeartbeats 800000 in
theorem less_any (a b c d : Int) (w : World) : Calls Try.prog 35 #[.agg #[.int .i64 a, .int .i64 b], .agg #[.int .i64 c, .int .i64 d]] w fun e w' => e = .returned (.bool (lessP a b c d)) ∧ Below w.heap.size w w' := by
  by_cases h : a = c
  · have h1 : (a != c) = false := by simpa using h
    have H : Hid (lessP a b c d = decide (b < d)) := Lib.hid (by
      rw [Bool.eq_iff_iff, lessP_iff, decide_eq_true_eq]; omega)
    rw [H.out]
    clear h
    go_enter Try.func35, Try.ntmps35
    go_wp2
    go_ret
    exact ⟨rfl, below2 _ _ _⟩
  · have h1 : (a != c) = true := by simpa using h
    have H : Hid (lessP a b c d = decide (a < c)) := Lib.hid (by
      rw [Bool.eq_iff_iff, lessP_iff, decide_eq_true_eq]; omega)
    rw [H.out]
    clear h
    go_enter Try.func35, Try.ntmps35
    go_wp2
    go_ret
    exact ⟨rfl, below2 _ _ _⟩
theorem less_is {a b c d : Int} {x : Bool} (H : Hid (lessP a b c d = x)) (w : World) : Calls Try.prog 35 #[.agg #[.int .i64 a, .int .i64 b], .agg #[.int .i64 c, .int .i64 d]] w fun e w' => e = .returned (.bool x) ∧ Below w.heap.size w w' := by
  rw [← H.out]; exact less_any a b c d w
set_option maxRecDepth 8000 in
set_option maxHeartbeats 4000000 in
theorem get_any (q : Nat) (l : List Ins) (v : Value) (r s : Int) (w : World) (h : TI q l v w) (hm : l.length ≤ 1000000) :
    Calls Try.prog 16 #[v, .agg #[.int .i64 r, .int .i64 s]] w fun e w' => e = .returned (.tuple #[.agg (ci (gotI l r s)), .bool (hasI l r s)]) ∧ Below w.heap.size w w' := by
  obtain ⟨a1, c1, rfl⟩ := h.len
  have H := Lib.hid h
  obtain ⟨m, hmm⟩ : ∃ m, l.length = m := ⟨_, rfl⟩
  have HN := Lib.hid hmm
  rw [hmm] at hm ⊢
  obtain ⟨g, hg⟩ : ∃ g, gotI l r s = g := ⟨_, rfl⟩
  obtain ⟨is, hi⟩ : ∃ g, hasI l r s = g := ⟨_, rfl⟩
  have HG := Lib.hid hg
  have HI := Lib.hid hi
  rw [hg, hi]
  obtain ⟨X, hX⟩ : ∃ Q_ : World, w.alloc (.cells #[.int .i64 r, .int .i64 s] 24) = Q_ := ⟨_, rfl⟩
  have bX : Below w.heap.size w X := hX ▸ below1 w _
  have xX : Bx X w.heap.size #[.int .i64 r, .int .i64 s] 24 := hX ▸ Bx.new _ _ _
  obtain ⟨U, hU⟩ : ∃ Q_ : World, X.alloc (.cells (ci zeroI) 37) = Q_ := ⟨_, rfl⟩
  have bU : Below w.heap.size w U := nx bX (hU ▸ below1 X _)
  have xU : Bx U w.heap.size #[.int .i64 r, .int .i64 s] 24 := xX.stays (hU ▸ below1 X _)
  have oU : Bx U X.heap.size (ci zeroI) 37 := hU ▸ Bx.new _ _ _
  have hwX : w.heap.size < X.heap.size := xX.lt
  have hXU : X.heap.size < U.heap.size := oU.lt
  have HwX := Lib.hid hwX
  clear h hmm hg hi
  go_enter Try.func16, Try.ntmps16
  go_wp2
  go_loopw [10] (fun x wr => ∃ k : Nat, k ≤ m ∧ x = .int .i64 k ∧ (∀ j (h : j < l.length), j < k → atP l[j] r s = false) ∧ Below U.heap.size U wr) (fun x _ => m - (intOf x).toNat)
  case atStart => exact ⟨0, Nat.zero_le _, rfl, fun j _ h => absurd h (Nat.not_lt_zero _), Below.refl _ _⟩
  case round =>
    obtain ⟨k, hk, rfl, h0, hb⟩ := hrel
    have H0 := Lib.hid h0
    clear h0
    have xr := xU.low hb (by omega)
    have or := oU.low hb hXU
    have bw := nx bU hb
    have rx := xr.row
    have po := or.plain (n := 25) rfl
    have hsz := hb.size
    by_cases hlt : k < m
    · have hkl : k < l.length := by rw [HN.out]; exact hlt
      have hlt2 : (k : Int) < m := by omega
      obtain ⟨b, off, c, e, hx, _, hbb⟩ := TI.get H.out bw hkl
      rw [HN.out] at e
      simp only [Value.slice.injEq] at e
      obtain ⟨rfl, -, rfl⟩ := e
      obtain ⟨x, hxx⟩ : ∃ x, l[k] = x := ⟨_, rfl⟩
      have HX := Lib.hid hxx
      rw [hxx] at hx
      clear hxx
      obtain ⟨V, hV⟩ : ∃ Q_ : World, (wr.alloc (.cells (ci zeroI) 37)).setRow wr.heap.size (ci x) = Q_ := ⟨_, rfl⟩
      have xV : Bx V wr.heap.size (ci x) 37 := hV ▸ Bx.put (Bx.new _ _ _) _
      have bV : Below wr.heap.size wr V := hV ▸ below_setRow (below1 _ _) (Nat.le_refl _) _
      have hplain := (Bx.new wr (ci zeroI) 37).plain (n := 25) rfl
      have r1 := xV.row
      have r2 := (xr.stays bV).row
      have o2 := or.stays bV
      have p2 := o2.plain (n := 25) rfl
      cases hat : atP x r s with
      | true =>
        have hq : (x.pr == r && x.ps == s) = true := hat
        have HR := Lib.hid (got_at hkl H0.out (by rw [HX.out]; exact hat))
        rw [HG.out, HI.out, HX.out] at HR
        clear hat
        go_wp2
        exact bodyPost_ret (v := .tuple #[.agg (ci x), .bool true]) (Rc.ret_I2 Try.results16 _ _ x (o2.put (ci x)).row) rfl ⟨by rw [HR.out.1, HR.out.2], below_setRow (nx bw bV) (Nat.le_of_lt hwX) _⟩
      | false =>
        have hq : (x.pr == r && x.ps == s) = false := hat
        have HE : Hid (∀ j (h : j < l.length), j < k + 1 → atP l[j] r s = false) := Lib.hid fun j h hj => by
          by_cases e : j = k
          · subst e; rw [HX.out]; exact hat
          · exact H0.out j h (by omega)
        clear hat
        go_wp2
        go_roundw
        case rel => exact ⟨k + 1, by omega, by go_num, HE.out, hb.trans (bV.mono hsz)⟩
        case measure => simp [intOf]; omega
    · obtain rfl : k = m := by omega
      have HR := Lib.hid (got_no fun j hj => H0.out j hj (by rw [← HN.out]; exact hj))
      rw [HG.out, HI.out] at HR
      go_wp2
      exact bodyPost_ret (v := .tuple #[.agg (ci (placeI r s)), .bool false]) (Rc.ret_I2 Try.results16 _ _ (placeI r s) (or.put (ci (placeI r s))).row) rfl ⟨by rw [HR.out.1, HR.out.2], below_setRow bw (Nat.le_of_lt hwX) _⟩
theorem get_is {q : Nat} {l : List Ins} {r s : Int} {g : Ins} {b : Bool} (H : Hid (gotI l r s = g ∧ hasI l r s = b)) (v : Value) (w : World) (h : TI q l v w) (hm : l.length ≤ 1000000) :
    Calls Try.prog 16 #[v, .agg #[.int .i64 r, .int .i64 s]] w fun e w' => e = .returned (.tuple #[.agg (ci g), .bool b]) ∧ Below w.heap.size w w' := by
  rw [← H.out.1, ← H.out.2]; exact get_any q l v r s w h hm
end Go.Proofs.Ytmaecknjamnnpaa.In
