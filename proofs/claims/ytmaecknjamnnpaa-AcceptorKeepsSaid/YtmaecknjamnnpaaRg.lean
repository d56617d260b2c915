/- A region whose operations look at nothing that the others change: whatever order is drawn, it is as if they came in the text's order.
   What each operation yields is shown once, for all worlds that have 'S'; the walk is one step an operation, over the state of the frame alone. -/
import Derived.OrdersHeld
import Derived.KernelRfl
import Derived.Below
namespace Go.Proofs.Ytmaecknjamnnpaa.Rg
open Go.RowKit
set_option linter.unusedVariables false
section
variable {P : Program} {ops : Array Oper} {Q : Exit → Act → World → Prop} {md : Region.Mode} {S : World → Prop}
/-- What running an operation comes to, if it yields v and the world keeps S. -/
def Gives (P : Program) (S : World → Prop) (v : Value) : Result Next → Prop
  | .ok (.value u) w => u = v ∧ S w
  | .ok .skip w => v = undef ∧ S w
  | .ok (.enter f args) w => Calls P f args w fun e w' => e = .returned v ∧ S w'
  | _ => False
/-- In state a, in each world of S, operation o yields v, and the world behind it has S. -/
def GivesIf (P : Program) (ops : Array Oper) (S : World → Prop) (o : Oper) (v : Value) (a : Act) : Prop :=
  (Region.wanted o (yielded ops a.tmps) = true ∧ ∀ w, S w → Gives P S v ((execOp a.eval o).run P w)) ∨ (Region.wanted o (yielded ops a.tmps) = false ∧ v = undef)
theorem GivesIf.same {o : Oper} {v : Value} {a a' : Act} (h : GivesIf P ops S o v a) (he : execOp a'.eval o = execOp a.eval o) (hw : Region.wanted o (yielded ops a'.tmps) = Region.wanted o (yielded ops a.tmps)) : GivesIf P ops S o v a' := by
  unfold GivesIf; rw [he, hw]; exact h
theorem GivesIf.op {i : Nat} {o : Oper} {v : Value} {a : Act} (hi : ops[i]? = some o) (h : GivesIf P ops S o v a) {K : Act → World → Prop} {w : World} (hS : S w) (hK : ∀ w', S w' → K (a.put o.dst v) w') : wpOp P ops Q i K a w := by
  unfold wpOp
  simp only [hi]
  rcases h with ⟨hw, hg⟩ | ⟨hw, rfl⟩
  · rw [if_pos hw]
    refine .inl ?_
    have g := hg w hS
    unfold Oper.wp
    generalize (execOp a.eval o).run P w = r at g
    match r, g with
    | .ok (.value _) w', g => obtain ⟨rfl, g2⟩ := g; exact hK _ g2
    | .ok .skip w', g => obtain ⟨rfl, g2⟩ := g; exact hK _ g2
    | .ok (.enter f args) w', g =>
      refine Calls.mono g fun e w'' he => ?_
      obtain ⟨rfl, g2⟩ := he
      exact hK _ g2
  · rw [if_neg (by rw [hw]; decide)]; exact hK _ hS
/-- An operation that is apart from another one does the same, whether that one's value is laid already or later. -/
theorem op_apart {j : Nat} {oi oj : Oper} {v : Value} (hj : ops[j]? = some oj) (hap : oi.apart ops oj = true) (hsj : ∀ cs b, oj.op ≠ .select cs b) (hQ : ∀ c a d v w, Q (.panic c) (Act.put a d v) w → Q (.panic c) a w)
    {K : Act → World → Prop} {a : Act} {w : World} (h : wpOp P ops Q j K (a.put oi.dst v) w) :
    wpOp P ops Q j (fun a' w' => (∃ u ds, a' = ({ a with defers := ds } : Act).put oj.dst u) ∧ K (a'.put oi.dst v) w') a w := by
  obtain ⟨h1, h2, _⟩ := Oper.apart_spec hap
  have turn : ∀ (b : Act) (u : Value), (b.put oi.dst v).put oj.dst u = (b.put oj.dst u).put oi.dst v := fun b u => Act.put_comm b v u h2
  have wd := wanted_put (ops := ops) oj a oi.dst v h1
  have ex := execOp_put (ops := ops) oj hsj a oi.dst v h1
  simp only [wpOp, hj] at h ⊢
  rw [wd] at h
  by_cases hw : Region.wanted oj (yielded ops a.tmps) = true
  · rw [if_pos hw] at h ⊢
    rcases h with h | ⟨k, l⟩
    · refine .inl ?_
      unfold Oper.wp at h ⊢
      rw [ex] at h
      match (execOp a.eval oj).run P w, h with
      | .ok (.value u) w', h => exact ⟨⟨u, a.defers, rfl⟩, turn a u ▸ h⟩
      | .ok .skip w', h => exact ⟨⟨undef, a.defers, rfl⟩, turn a undef ▸ h⟩
      | .ok (.defer d) w', h =>
        refine ⟨⟨undef, d :: a.defers, rfl⟩, ?_⟩
        rw [← turn, ← Act.put_defers]; exact h
      | .ok (.enter f args) w', h =>
        refine Calls.mono h fun e w'' he => ?_
        match e, he with
        | .returned u, he => exact ⟨⟨u, a.defers, rfl⟩, turn a u ▸ he⟩
        | .panicked c, he => exact hQ _ _ _ _ _ he
        | .outgrown, he => exact he
      | .ok (.row row args) w', h => exact Rows.mono h fun u w'' he => ⟨⟨u, a.defers, rfl⟩, turn a u ▸ he⟩
      | .halt (.panic u) w', h => exact hQ _ _ _ _ _ h
    · refine .inr ⟨?_, l⟩
      unfold Oper.asks at k ⊢
      rw [ex] at k; exact k
  · rw [if_neg hw] at h ⊢
    exact ⟨⟨undef, a.defers, rfl⟩, turn a undef ▸ h⟩
/-- Whatever order is picked from here on, in whatever world of S. -/
def Any (P : Program) (md : Region.Mode) (ops : Array Oper) (Q : Exit → Act → World → Prop) (S : World → Prop) : Nat → Array Bool → Act → Prop
  | 0, listed, a => Region.ready md ops listed = [] ∧ ∀ w, S w → Q .normal a w
  | n + 1, listed, a => (Region.ready md ops listed = [] → ∀ w, S w → Q .normal a w) ∧
    ∀ i ∈ Region.ready md ops listed, ∀ w, S w → wpOp P ops Q i (fun a' w' => S w' ∧ Any P md ops Q S n (listed.setIfInBounds i true) a') a w
theorem Any.any : ∀ (n : Nat) (listed : Array Bool) (a : Act) (w : World), S w → Any P md ops Q S n listed a → wpAny P md ops Q n listed a w
  | 0, _, _, w, hS, h => ⟨h.1, h.2 w hS⟩
  | n + 1, _, _, w, hS, h => ⟨fun e => h.1 e w hS, fun i hi => wpOp_mono (fun a' w' k => Any.any n _ a' w' k.1 k.2) (h.2 i hi w hS)⟩
/-- One that may come up, and from which all that could come ahead of it are apart, may be taken first. -/
theorem Any.first {i : Nat} {oi : Oper} {v : Value} (hi : ops[i]? = some oi) (hs : Region.noSelect ops = true) (hQ : ∀ c a d v w, Q (.panic c) (Act.put a d v) w → Q (.panic c) a w) :
    ∀ (n : Nat) (listed : Array Bool) (a : Act), (∀ j oj, ops[j]? = some oj → j ≠ i → listed.getD j true = false → (∀ e ∈ oj.after, Region.binds md e = true → e.on ≠ i) → oi.apart ops oj = true) →
      i ∈ Region.ready md ops listed → GivesIf P ops S oi v a → Any P md ops Q S n (listed.setIfInBounds i true) (a.put oi.dst v) → Any P md ops Q S (n + 1) listed a := by
  have sel := Region.noSelect_spec hs
  intro n
  induction n with
  | zero =>
    intro listed a _ hr hg H
    refine ⟨fun e => absurd hr (by rw [e]; exact List.not_mem_nil), fun j hj w hw => ?_⟩
    by_cases e : j = i
    · subst e; exact hg.op hi hw fun w' hw' => ⟨hw', H⟩
    · exact absurd (ready_mono hj e) (by rw [H.1]; exact List.not_mem_nil)
  | succ n ih =>
    intro listed a hfree hr hg H
    refine ⟨fun e => absurd hr (by rw [e]; exact List.not_mem_nil), fun j hj w hw => ?_⟩
    by_cases e : j = i
    · subst e; exact hg.op hi hw fun w' hw' => ⟨hw', H⟩
    · obtain ⟨jun, oj, hoj, hall⟩ := mem_ready.1 hj
      have hno : ∀ x ∈ oj.after, Region.binds md x = true → x.on ≠ i := fun x hx hb hxi => by
        have k1 := hall x hx hb
        have k0 := (mem_ready.1 hr).1
        rw [hxi] at k1
        by_cases hlt : i < listed.size
        · rw [Array.getD_eq_getD_getElem?, Array.getElem?_eq_getElem hlt] at k0 k1
          rw [Option.getD_some] at k0 k1
          rw [k0] at k1; exact absurd k1 (by decide)
        · rw [Array.getD_eq_getD_getElem?, Array.getElem?_eq_none (by omega)] at k1
          exact absurd k1 (by decide)
      have hap := hfree j oj hoj e jun hno
      obtain ⟨_, _, h3⟩ := Oper.apart_spec hap
      refine wpOp_mono (fun a' w' k => ?_) (op_apart hoj hap (fun cs b => sel j oj cs b hoj) hQ (H.2 j (ready_mono hj e) w hw))
      obtain ⟨⟨u, ds, rfl⟩, kS, kA⟩ := k
      refine ⟨kS, ih (listed.setIfInBounds j true) _ (fun k ok hk hki hun hno' => ?_) (ready_mono hr (Ne.symm e)) ?_ ?_⟩
      · refine hfree k ok hk hki ?_ hno'
        by_cases hjk : j = k
        · subst hjk; exact jun
        · rw [getD_set_ne true hjk] at hun; exact hun
      · refine hg.same ?_ ?_
        · rw [execOp_put (ops := ops) oi (fun cs b => sel i oi cs b hi) _ oj.dst u h3]; rfl
        · rw [wanted_put (ops := ops) oi _ oj.dst u h3]
      · rw [Array.setIfInBounds_comm _ _ e]; exact kA
theorem Any.done {listed : Array Bool} {a : Act} (hr : Region.ready md ops listed = []) (h : ∀ w, S w → Q .normal a w) : ∀ n, Any P md ops Q S n listed a
  | 0 => ⟨hr, h⟩
  | _ + 1 => ⟨fun _ => h, by rw [hr]; simp⟩
/-- One step an operation, in the text's order. -/
def Seq (P : Program) (ops : Array Oper) (Q : Exit → Act → World → Prop) (S : World → Prop) : List Oper → Act → Prop
  | [], a => ∀ w, S w → Q .normal a w
  | o :: os, a => ∃ v, GivesIf P ops S o v a ∧ Seq P ops Q S os (a.put o.dst v)
/-- From number k on, n of them: the text's order serves. -/
def fits (md : Region.Mode) (ops : Array Oper) : Nat → Nat → Array Bool → Bool
  | _, 0, listed => (Region.ready md ops listed).isEmpty
  | k, n + 1, listed => Region.free md ops listed k && (Region.ready md ops listed).contains k && fits md ops (k + 1) n (listed.setIfInBounds k true)
theorem Seq.any (hs : Region.noSelect ops = true) (hQ : ∀ c a d v w, Q (.panic c) (Act.put a d v) w → Q (.panic c) a w) : ∀ (os : List Oper) (k : Nat) (listed : Array Bool) (a : Act),
    ops.toList.drop k = os → fits md ops k os.length listed = true → Seq P ops Q S os a → Any P md ops Q S os.length listed a
  | [], _, _, _, _, hf, h => Any.done (by simpa [fits] using hf) h _
  | o :: os, k, listed, a, he, hf, ⟨v, hg, h⟩ => by
    have hlt : k < ops.toList.length := by
      rcases Nat.lt_or_ge k ops.toList.length with x | x
      · exact x
      · rw [List.drop_eq_nil_of_le x] at he; cases he
    rw [List.drop_eq_getElem_cons hlt] at he
    have h1 : ops.toList[k] = o := (List.cons.inj he).1
    have h2 : ops.toList.drop (k + 1) = os := (List.cons.inj he).2
    have hi : ops[k]? = some o := by
      rw [← Array.getElem?_toList, List.getElem?_eq_getElem hlt, h1]
    simp only [List.length_cons, fits, Bool.and_eq_true] at hf
    exact Any.first hi hs hQ os.length listed a (Region.free_spec hi hf.1.1) (by simpa using hf.1.2) hg (Seq.any hs hQ os (k + 1) _ _ h2 hf.2 h)
/-- The beginning. -/
theorem region {id : Nat} {a : Act} {W : World} (hm : P.follows .mixedOrders = true) (hs : Region.noSelect ops = true) (hf : fits .any ops 0 ops.toList.length (Array.replicate ops.size false) = true) (hQ : ∀ c a d v w, Q (.panic c) (Act.put a d v) w → Q (.panic c) a w)
    (l : List Oper) (hl : ops.toList = l) (h : Seq P ops Q (fun w => Below W.heap.size W w) l a) : (Code.region id ops true).wp P Q a W :=
  wp_region_any hm (by
    have k := Any.any (md := .any) ops.toList.length (Array.replicate ops.size false) a W.drew (Below.refl _ _).drew (Seq.any hs hQ ops.toList 0 _ a rfl hf (hl ▸ h))
    rw [Array.length_toList] at k
    exact k)
theorem Seq.skip {o : Oper} {os : List Oper} {a : Act} (hw : Region.wanted o (yielded ops a.tmps) = false) (h : Seq P ops Q S os (a.put o.dst undef)) : Seq P ops Q S (o :: os) a :=
  ⟨undef, .inr ⟨hw, rfl⟩, h⟩
theorem Seq.pure {o : Oper} {os : List Oper} {a : Act} {v : Value} (hw : Region.wanted o (yielded ops a.tmps) = true) (hv : ∀ w, S w → (execOp a.eval o).run P w = .ok (.value v) w) (h : Seq P ops Q S os (a.put o.dst v)) : Seq P ops Q S (o :: os) a :=
  ⟨v, .inl ⟨hw, fun w hS => by rw [hv w hS]; exact ⟨rfl, hS⟩⟩, h⟩
theorem Seq.call {o : Oper} {os : List Oper} {a : Act} {v : Value} {f : FuncId} {args : Array Value} (hw : Region.wanted o (yielded ops a.tmps) = true) (hv : ∀ w, S w → (execOp a.eval o).run P w = .ok (.enter f args) w)
    (hc : ∀ w, S w → Calls P f args w fun e w' => e = .returned v ∧ S w') (h : Seq P ops Q S os (a.put o.dst v)) : Seq P ops Q S (o :: os) a :=
  ⟨v, .inl ⟨hw, fun w hS => by rw [hv w hS]; exact hc w hS⟩, h⟩
end
end Go.Proofs.Ytmaecknjamnnpaa.Rg
