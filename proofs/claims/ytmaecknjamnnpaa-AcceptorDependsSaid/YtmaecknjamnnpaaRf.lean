/- A region whose order is drawn, taken in an order of one's own choosing, where values may hang on the world (an address that a call makes): facts about them are kept in whatever world comes later.
   Two kinds of steps: one from which all that may come ahead of it are apart (its value is the same in every world that has 'S'); one that alone, or as one of two, may come now (its value and what it leaves are known by a fact alone). -/
import Derived.OrdersHeld
import Derived.KernelRfl
import Derived.Below
namespace Go.Proofs.Ytmaecknjamnnpaa.Rf
open Go.RowKit
set_option linter.unusedVariables false
section
variable {P : Program} {ops : Array Oper} {Q : Exit → Act → World → Prop} {md : Region.Mode}
/-- S is kept where nothing that lies is turned. -/
def Stays (S : World → Prop) : Prop := ∀ w w', S w → Below w.heap.size w w' → S w'
theorem Stays.below (W : World) : Stays (fun w => Below W.heap.size W w) := fun _ _ h k => h.trans (k.mono h.size)
theorem Stays.and {S T : World → Prop} (h : Stays S) (k : Stays T) : Stays (fun w => S w ∧ T w) := fun w w' x b => ⟨h w w' x.1 b, k w w' x.2 b⟩
/-- What running an operation at w0 comes to, if it yields v and turns nothing that lies. -/
def Gives (P : Program) (w0 : World) (v : Value) : Result Next → Prop
  | .ok (.value u) w => u = v ∧ Below w0.heap.size w0 w
  | .ok .skip w => v = undef ∧ Below w0.heap.size w0 w
  | .ok (.enter f args) w => Calls P f args w fun e w' => e = .returned v ∧ Below w0.heap.size w0 w'
  | _ => False
def GivesIf (P : Program) (ops : Array Oper) (S : World → Prop) (o : Oper) (v : Value) (a : Act) : Prop :=
  (Region.wanted o (yielded ops a.tmps) = true ∧ ∀ w, S w → Gives P w v ((execOp a.eval o).run P w)) ∨ (Region.wanted o (yielded ops a.tmps) = false ∧ v = undef)
theorem GivesIf.same {S : World → Prop} {o : Oper} {v : Value} {a a' : Act} (h : GivesIf P ops S o v a) (he : execOp a'.eval o = execOp a.eval o) (hw : Region.wanted o (yielded ops a'.tmps) = Region.wanted o (yielded ops a.tmps)) : GivesIf P ops S o v a' := by
  unfold GivesIf; rw [he, hw]; exact h
theorem GivesIf.less {S S' : World → Prop} {o : Oper} {v : Value} {a : Act} (h : GivesIf P ops S o v a) (k : ∀ w, S' w → S w) : GivesIf P ops S' o v a :=
  h.imp (fun ⟨x, y⟩ => ⟨x, fun w hw => y w (k w hw)⟩) id
theorem GivesIf.op {S : World → Prop} {i : Nat} {o : Oper} {v : Value} {a : Act} (hi : ops[i]? = some o) (h : GivesIf P ops S o v a) {K : Act → World → Prop} {w : World} (hS : S w) (hK : ∀ w', Below w.heap.size w w' → K (a.put o.dst v) w') : wpOp P ops Q i K a w := by
  unfold wpOp
  simp only [hi]
  rcases h with ⟨hw, hg⟩ | ⟨hw, rfl⟩
  · rw [if_pos hw]
    refine .inl ?_
    have g := hg w hS
    unfold Oper.wp
    generalize (execOp a.eval o).run P w = r at g
    match r, g with
    | .ok (.value _) w', g => obtain ⟨rfl, g2⟩ := g; exact hK _ g2
    | .ok .skip w', g => obtain ⟨rfl, g2⟩ := g; exact hK _ g2
    | .ok (.enter f args) w', g =>
      refine Calls.mono g fun e w'' he => ?_
      obtain ⟨rfl, g2⟩ := he
      exact hK _ g2
  · rw [if_neg (by rw [hw]; decide)]; exact hK _ (Below.refl _ _)
/-- An operation that is apart from another one does the same, whether that one's value is laid already or later. -/
theorem op_apart {j : Nat} {oi oj : Oper} {v : Value} (hj : ops[j]? = some oj) (hap : oi.apart ops oj = true) (hsj : ∀ cs b, oj.op ≠ .select cs b) (hQ : ∀ c a d v w, Q (.panic c) (Act.put a d v) w → Q (.panic c) a w)
    {K : Act → World → Prop} {a : Act} {w : World} (h : wpOp P ops Q j K (a.put oi.dst v) w) :
    wpOp P ops Q j (fun a' w' => (∃ u ds, a' = ({ a with defers := ds } : Act).put oj.dst u) ∧ K (a'.put oi.dst v) w') a w := by
  obtain ⟨h1, h2, _⟩ := Oper.apart_spec hap
  have turn : ∀ (b : Act) (u : Value), (b.put oi.dst v).put oj.dst u = (b.put oj.dst u).put oi.dst v := fun b u => Act.put_comm b v u h2
  have wd := wanted_put (ops := ops) oj a oi.dst v h1
  have ex := execOp_put (ops := ops) oj hsj a oi.dst v h1
  simp only [wpOp, hj] at h ⊢
  rw [wd] at h
  by_cases hw : Region.wanted oj (yielded ops a.tmps) = true
  · rw [if_pos hw] at h ⊢
    rcases h with h | ⟨k, l⟩
    · refine .inl ?_
      unfold Oper.wp at h ⊢
      rw [ex] at h
      match (execOp a.eval oj).run P w, h with
      | .ok (.value u) w', h => exact ⟨⟨u, a.defers, rfl⟩, turn a u ▸ h⟩
      | .ok .skip w', h => exact ⟨⟨undef, a.defers, rfl⟩, turn a undef ▸ h⟩
      | .ok (.defer d) w', h =>
        refine ⟨⟨undef, d :: a.defers, rfl⟩, ?_⟩
        rw [← turn, ← Act.put_defers]; exact h
      | .ok (.enter f args) w', h =>
        refine Calls.mono h fun e w'' he => ?_
        match e, he with
        | .returned u, he => exact ⟨⟨u, a.defers, rfl⟩, turn a u ▸ he⟩
        | .panicked c, he => exact hQ _ _ _ _ _ he
        | .outgrown, he => exact he
      | .ok (.row row args) w', h => exact Rows.mono h fun u w'' he => ⟨⟨u, a.defers, rfl⟩, turn a u ▸ he⟩
      | .halt (.panic u) w', h => exact hQ _ _ _ _ _ h
    · refine .inr ⟨?_, l⟩
      unfold Oper.asks at k ⊢
      rw [ex] at k; exact k
  · rw [if_neg hw] at h ⊢
    exact ⟨⟨undef, a.defers, rfl⟩, turn a undef ▸ h⟩
/-- Whatever order is picked from here on, in whatever world of S; behind each step some S' within S is known of the world. -/
def Any (P : Program) (md : Region.Mode) (ops : Array Oper) (Q : Exit → Act → World → Prop) : Nat → Array Bool → Act → (World → Prop) → Prop
  | 0, listed, a, S => Region.ready md ops listed = [] ∧ ∀ w, S w → Q .normal a w
  | n + 1, listed, a, S => (Region.ready md ops listed = [] → ∀ w, S w → Q .normal a w) ∧
    ∀ i ∈ Region.ready md ops listed, ∀ w, S w → wpOp P ops Q i (fun a' w' => ∃ S' : World → Prop, Stays S' ∧ (∀ u, S' u → S u) ∧ S' w' ∧ Any P md ops Q n (listed.setIfInBounds i true) a' S') a w
theorem Any.any : ∀ (n : Nat) (listed : Array Bool) (a : Act) (S : World → Prop) (w : World), S w → Any P md ops Q n listed a S → wpAny P md ops Q n listed a w
  | 0, _, _, _, w, hS, h => ⟨h.1, h.2 w hS⟩
  | n + 1, _, _, _, w, hS, h => ⟨fun e => h.1 e w hS, fun i hi => wpOp_mono (fun a' w' ⟨S', _, _, k1, k2⟩ => Any.any n _ a' S' w' k1 k2) (h.2 i hi w hS)⟩
/-- One that may come up, and from which all that could come ahead of it are apart, may be taken first. -/
theorem Any.first {i : Nat} {oi : Oper} {v : Value} (hi : ops[i]? = some oi) (hs : Region.noSelect ops = true) (hQ : ∀ c a d v w, Q (.panic c) (Act.put a d v) w → Q (.panic c) a w) :
    ∀ (n : Nat) (listed : Array Bool) (a : Act) (S : World → Prop), Stays S → (∀ j oj, ops[j]? = some oj → j ≠ i → listed.getD j true = false → (∀ e ∈ oj.after, Region.binds md e = true → e.on ≠ i) → oi.apart ops oj = true) →
      i ∈ Region.ready md ops listed → GivesIf P ops S oi v a → Any P md ops Q n (listed.setIfInBounds i true) (a.put oi.dst v) S → Any P md ops Q (n + 1) listed a S := by
  have sel := Region.noSelect_spec hs
  intro n
  induction n with
  | zero =>
    intro listed a S st _ hr hg H
    refine ⟨fun e => absurd hr (by rw [e]; exact List.not_mem_nil), fun j hj w hw => ?_⟩
    by_cases e : j = i
    · subst e; exact hg.op hi hw fun w' hw' => ⟨S, st, fun _ x => x, st _ _ hw hw', H⟩
    · exact absurd (ready_mono hj e) (by rw [H.1]; exact List.not_mem_nil)
  | succ n ih =>
    intro listed a S st hfree hr hg H
    refine ⟨fun e => absurd hr (by rw [e]; exact List.not_mem_nil), fun j hj w hw => ?_⟩
    by_cases e : j = i
    · subst e; exact hg.op hi hw fun w' hw' => ⟨S, st, fun _ x => x, st _ _ hw hw', H⟩
    · obtain ⟨jun, oj, hoj, hall⟩ := mem_ready.1 hj
      have hno : ∀ x ∈ oj.after, Region.binds md x = true → x.on ≠ i := fun x hx hb hxi => by
        have k1 := hall x hx hb
        have k0 := (mem_ready.1 hr).1
        rw [hxi] at k1
        by_cases hlt : i < listed.size
        · rw [Array.getD_eq_getD_getElem?, Array.getElem?_eq_getElem hlt] at k0 k1
          rw [Option.getD_some] at k0 k1
          rw [k0] at k1; exact absurd k1 (by decide)
        · rw [Array.getD_eq_getD_getElem?, Array.getElem?_eq_none (by omega)] at k1
          exact absurd k1 (by decide)
      have hap := hfree j oj hoj e jun hno
      obtain ⟨_, _, h3⟩ := Oper.apart_spec hap
      refine wpOp_mono (fun a' w' k => ?_) (op_apart hoj hap (fun cs b => sel j oj cs b hoj) hQ (H.2 j (ready_mono hj e) w hw))
      obtain ⟨⟨u, ds, rfl⟩, S', st', sub, kS, kA⟩ := k
      refine ⟨S', st', sub, kS, ih (listed.setIfInBounds j true) _ S' st' (fun k ok hk hki hun hno' => ?_) (ready_mono hr (Ne.symm e)) ?_ ?_⟩
      · refine hfree k ok hk hki ?_ hno'
        by_cases hjk : j = k
        · subst hjk; exact jun
        · rw [getD_set_ne true hjk] at hun; exact hun
      · refine (hg.less sub).same ?_ ?_
        · rw [execOp_put (ops := ops) oi (fun cs b => sel i oi cs b hi) _ oj.dst u h3]; rfl
        · rw [wanted_put (ops := ops) oi _ oj.dst u h3]
      · rw [Array.setIfInBounds_comm _ _ e]; exact kA
/-- The operations of 'ord' are still to come, and are looked at in that order. -/
def Steps (P : Program) (md : Region.Mode) (ops : Array Oper) (Q : Exit → Act → World → Prop) (ord : List Nat) (listed : Array Bool) (a : Act) (S : World → Prop) : Prop :=
  Region.noSelect ops = true → (∀ c a d v w, Q (.panic c) (Act.put a d v) w → Q (.panic c) a w) → Stays S → Any P md ops Q ord.length listed a S
/-- Operation i comes now. -/
def One (P : Program) (md : Region.Mode) (ops : Array Oper) (Q : Exit → Act → World → Prop) (i : Nat) (ord : List Nat) (listed : Array Bool) (a : Act) (S : World → Prop) : Prop :=
  Region.noSelect ops = true → (∀ c a d v w, Q (.panic c) (Act.put a d v) w → Q (.panic c) a w) → Stays S →
    ∀ w, S w → wpOp P ops Q i (fun a' w' => ∃ S' : World → Prop, Stays S' ∧ (∀ u, S' u → S u) ∧ S' w' ∧ Any P md ops Q ord.length (listed.setIfInBounds i true) a' S') a w
/-- The operation at a place, by a recursion that reckons to the operation as it is written. -/
def nth : List Oper → Nat → Option Oper
  | [], _ => none
  | o :: _, 0 => some o
  | _ :: l, n + 1 => nth l n
theorem nth_eq (l : List Oper) (n : Nat) : nth l n = l[n]? := by
  induction l generalizing n with
  | nil => rfl
  | cons o l ih => cases n with
    | zero => rfl
    | succ n => rw [nth, ih]; rfl
theorem nth_at {ops : Array Oper} {i : Nat} {o : Oper} (h : nth ops.toList i = some o) : ops[i]? = some o := by
  rw [nth_eq] at h; simpa using h
variable {i j : Nat} {o : Oper} {ord : List Nat} {listed : Array Bool} {a : Act} {S : World → Prop} {v : Value} {f : FuncId} {args : Array Value}
theorem Steps.nil (hr : Region.ready md ops listed = []) (h : ∀ w, S w → Q .normal a w) : Steps P md ops Q [] listed a S := fun _ _ _ => ⟨hr, h⟩
def mayFirst (md : Region.Mode) (ops : Array Oper) (listed : Array Bool) (i : Nat) : Bool := Region.free md ops listed i && (Region.ready md ops listed).contains i
theorem Steps.free (hi : nth ops.toList i = some o) (hf : mayFirst md ops listed i = true) (hg : GivesIf P ops S o v a) (h : Steps P md ops Q ord (listed.setIfInBounds i true) (a.put o.dst v) S) : Steps P md ops Q (i :: ord) listed a S := fun hs hQ st => by
  rw [mayFirst, Bool.and_eq_true] at hf
  exact Any.first (nth_at hi) hs hQ ord.length listed a S st (Region.free_spec (nth_at hi) hf.1) (by simpa using hf.2) hg (h hs hQ st)
theorem Steps.skip (hi : nth ops.toList i = some o) (hf : mayFirst md ops listed i = true) (hw : Region.wanted o (yielded ops a.tmps) = false) (h : Steps P md ops Q ord (listed.setIfInBounds i true) (a.put o.dst undef) S) : Steps P md ops Q (i :: ord) listed a S :=
  Steps.free hi hf (.inr ⟨hw, rfl⟩) h
theorem Steps.pure (hi : nth ops.toList i = some o) (hf : mayFirst md ops listed i = true) (hw : Region.wanted o (yielded ops a.tmps) = true) (hv : ∀ w, S w → (execOp a.eval o).run P w = .ok (.value v) w) (h : Steps P md ops Q ord (listed.setIfInBounds i true) (a.put o.dst v) S) : Steps P md ops Q (i :: ord) listed a S :=
  Steps.free hi hf (.inl ⟨hw, fun w hS => by rw [hv w hS]; exact ⟨rfl, Below.refl _ _⟩⟩) h
theorem Steps.call (hi : nth ops.toList i = some o) (hf : mayFirst md ops listed i = true) (hw : Region.wanted o (yielded ops a.tmps) = true) (hv : ∀ w, S w → (execOp a.eval o).run P w = .ok (.enter f args) w)
    (hc : ∀ w, S w → Calls P f args w fun e w' => e = .returned v ∧ Below w.heap.size w w') (h : Steps P md ops Q ord (listed.setIfInBounds i true) (a.put o.dst v) S) : Steps P md ops Q (i :: ord) listed a S :=
  Steps.free hi hf (.inl ⟨hw, fun w hS => by rw [hv w hS]; exact hc w hS⟩) h
/-- Free steps, their sides reckoned by themselves. -/
theorem Steps.sk (h : Steps P md ops Q ord (listed.setIfInBounds i true) (a.put o.dst undef) S) (hi : nth ops.toList i = some o := by rfl) (hf : mayFirst md ops listed i = true := by kernel_rfl) (hw : Region.wanted o (yielded ops a.tmps) = false := by rfl) : Steps P md ops Q (i :: ord) listed a S := Steps.skip hi hf hw h
theorem Steps.pu (hv : ∀ w, S w → (execOp a.eval o).run P w = .ok (.value v) w) (h : Steps P md ops Q ord (listed.setIfInBounds i true) (a.put o.dst v) S) (hi : nth ops.toList i = some o := by rfl) (hf : mayFirst md ops listed i = true := by kernel_rfl) (hw : Region.wanted o (yielded ops a.tmps) = true := by rfl) : Steps P md ops Q (i :: ord) listed a S := Steps.pure hi hf hw hv h
theorem Steps.ca (hv : ∀ w, S w → (execOp a.eval o).run P w = .ok (.enter f args) w) (hc : ∀ w, S w → Calls P f args w fun e w' => e = .returned v ∧ Below w.heap.size w w') (h : Steps P md ops Q ord (listed.setIfInBounds i true) (a.put o.dst v) S) (hi : nth ops.toList i = some o := by rfl) (hf : mayFirst md ops listed i = true := by kernel_rfl) (hw : Region.wanted o (yielded ops a.tmps) = true := by rfl) : Steps P md ops Q (i :: ord) listed a S := Steps.call hi hf hw hv hc h
/-- No other one may come now. -/
theorem Steps.forced (hr : Region.ready md ops listed = [i]) (h : One P md ops Q i ord listed a S) : Steps P md ops Q (i :: ord) listed a S := fun hs hQ st =>
  ⟨fun e => absurd hr (by rw [e]; exact fun x => by cases x), fun k hk => by rw [hr] at hk; simp at hk; subst hk; exact h hs hQ st⟩
/-- Just one other one may come now. -/
theorem Steps.two (hr : Region.ready md ops listed = [i, j]) (h : One P md ops Q i (j :: ord) listed a S) (k : One P md ops Q j (i :: ord) listed a S) : Steps P md ops Q (i :: j :: ord) listed a S := fun hs hQ st =>
  ⟨fun e => absurd hr (by rw [e]; exact fun x => by cases x), fun l hl => by
    rw [hr] at hl; simp at hl
    rcases hl with rfl | rfl
    · exact h hs hQ st
    · exact k hs hQ st⟩
/-- A call whose value v and world have F v. -/
theorem One.call (F : Value → World → Prop) (hF : ∀ v, Stays (F v)) (hi : nth ops.toList i = some o) (hw : Region.wanted o (yielded ops a.tmps) = true) (hv : ∀ w, S w → (execOp a.eval o).run P w = .ok (.enter f args) w)
    (hc : ∀ w, S w → Calls P f args w fun e w' => ∃ v, e = .returned v ∧ Below w.heap.size w w' ∧ F v w')
    (h : ∀ v u, F v u → Steps P md ops Q ord (listed.setIfInBounds i true) (a.put o.dst v) (fun w => S w ∧ F v w)) : One P md ops Q i ord listed a S := fun hs hQ st w hS => by
  unfold wpOp
  simp only [nth_at hi]
  rw [if_pos hw]
  refine .inl ?_
  unfold Oper.wp
  rw [hv w hS]
  refine Calls.mono (hc w hS) fun e w' he => ?_
  obtain ⟨v, rfl, hb, hFv⟩ := he
  exact ⟨_, st.and (hF v), fun _ x => x.1, ⟨st _ _ hS hb, hFv⟩, h v w' hFv hs hQ (st.and (hF v))⟩
/-- An operation that makes a block, or yields a value that hangs on the world. -/
theorem One.val (F : Value → World → Prop) (hF : ∀ v, Stays (F v)) (hi : nth ops.toList i = some o) (hw : Region.wanted o (yielded ops a.tmps) = true) (hv : ∀ w, S w → ∃ v w', (execOp a.eval o).run P w = .ok (.value v) w' ∧ Below w.heap.size w w' ∧ F v w')
    (h : ∀ v u, F v u → Steps P md ops Q ord (listed.setIfInBounds i true) (a.put o.dst v) (fun w => S w ∧ F v w)) : One P md ops Q i ord listed a S := fun hs hQ st w hS => by
  unfold wpOp
  simp only [nth_at hi]
  rw [if_pos hw]
  refine .inl ?_
  unfold Oper.wp
  obtain ⟨v, w', e, hb, hFv⟩ := hv w hS
  rw [e]
  exact ⟨_, st.and (hF v), fun _ x => x.1, ⟨st _ _ hS hb, hFv⟩, h v w' hFv hs hQ (st.and (hF v))⟩
/-- A store that S' is kept by, S' within S. -/
theorem One.store (S' : World → Prop) (st' : Stays S') (sub : ∀ u, S' u → S u) (hi : nth ops.toList i = some o) (hw : Region.wanted o (yielded ops a.tmps) = true) (hv : ∀ w, S w → ∃ w', (execOp a.eval o).run P w = .ok .skip w' ∧ S' w')
    (h : Steps P md ops Q ord (listed.setIfInBounds i true) (a.put o.dst undef) S') : One P md ops Q i ord listed a S := fun hs hQ _ w hS => by
  unfold wpOp
  simp only [nth_at hi]
  rw [if_pos hw]
  refine .inl ?_
  unfold Oper.wp
  obtain ⟨w', e, hS'⟩ := hv w hS
  rw [e]
  exact ⟨S', st', sub, hS', h hs hQ st'⟩
/-- The beginning. -/
theorem region {id : Nat} {W : World} (ord : List Nat) (hm : P.follows .mixedOrders = true) (hs : Region.noSelect ops = true) (hl : ord.length = ops.size) (hQ : ∀ c a d v w, Q (.panic c) (Act.put a d v) w → Q (.panic c) a w)
    (h : Steps P .any ops Q ord (Array.replicate ops.size false) a (fun w => Below W.heap.size W w)) : (Code.region id ops true).wp P Q a W :=
  wp_region_any hm (by
    have k := Any.any (md := .any) ord.length (Array.replicate ops.size false) a _ W.drew (Below.refl _ _).drew (h hs hQ (Stays.below W))
    rw [hl] at k
    exact k)
theorem rg {id : Nat} {W : World} (ord : List Nat) (h : Steps P .any ops Q ord (Array.replicate ops.size false) a (fun w => Below W.heap.size W w)) (hm : P.follows .mixedOrders = true := by kernel_rfl) (hs : Region.noSelect ops = true := by kernel_rfl) (hl : ord.length = ops.size := by kernel_rfl) (hQ : ∀ c a d v w, Q (.panic c) (Act.put a d v) w → Q (.panic c) a w := by (intro _ _ d _ _ h; cases d <;> exact h)) : (Code.region id ops true).wp P Q a W := region ord hm hs hl hQ h
end
end Go.Proofs.Ytmaecknjamnnpaa.Rf
