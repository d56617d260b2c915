/- Pure: behind any Puts and Removes. -/
import Derived.Test.YtmpkindlanadbaaLePu
namespace Go.Proofs.Ytmpkindlanadbaa.Le
theorem remO_app (id : Int) : ∀ (a b : List Od) (d : Bool), remO id (a ++ b) d = remO id a d ++ remO id b (d || a.any (hasId id))
  | [], b, d => by simp [remO]
  | o :: r, b, d => by
    rw [List.cons_append, remO, remO, List.any_cons]
    split
    · rename_i h
      simp only [Bool.and_eq_true, Bool.not_eq_true'] at h
      rw [remO_app id r b true, h.1]; simp
    · rename_i h
      rw [remO_app id r b d, List.cons_append]
      cases d
      · simp only [Bool.not_false, Bool.and_true, Bool.not_eq_true] at h
        rw [h]; simp
      · simp
theorem flat_rem (id : Int) : ∀ (l : List Lv) (d : Bool), flat (remL id l d) = remO id (flat l) d
  | [], d => by simp [remL, flat, remO]
  | v :: r, d => by
    rw [remL, flat_app, flat_cons, remO_app, flat_rem id r]
    congr 1
    unfold remS
    split
    · rename_i h; rw [h]; rfl
    · rw [flat_cons, flat_nil, List.append_nil]
theorem remO_sub (id : Int) : ∀ (l : List Od) (d : Bool), (remO id l d).Sublist l
  | [], d => List.Sublist.refl _
  | o :: r, d => by
    rw [remO]
    split
    · exact (remO_sub id r true).cons _
    · exact (remO_sub id r d).cons_cons _
theorem fnd_mem {L : List Od} (hn : (L.map oid).Nodup) {x : Od} (hx : x ∈ L) : fnd L x.1 = some x := by
  induction L with
  | nil => cases hx
  | cons o r ih =>
    unfold fnd
    rw [List.map_cons, List.nodup_cons] at hn
    rw [List.find?_cons]
    rcases List.mem_cons.1 hx with rfl | hx
    · rw [hasId_self]
    · have : o.1 ≠ x.1 := fun e => hn.1 (List.mem_map.2 ⟨x, hx, e.symm⟩)
      rw [hasId_no this]
      exact ih hn.2 hx
theorem fnd_some {L : List Od} {id : Int} {x : Od} (h : fnd L id = some x) : x ∈ L ∧ x.1 = id := by
  unfold fnd at h
  exact ⟨List.mem_of_find?_eq_some h, by have := List.find?_some h; simpa [hasId] using this⟩
theorem fnd_perm {L M : List Od} (hp : L.Perm M) (hn : (L.map oid).Nodup) (id : Int) : fnd L id = fnd M id := by
  cases h : fnd M id with
  | none =>
    rw [fnd_none] at h ⊢
    exact fun o ho => h o (hp.mem_iff.1 ho)
  | some x =>
    obtain ⟨hx, rfl⟩ := fnd_some h
    exact fnd_mem hn (hp.mem_iff.2 hx)
theorem remO_filter {id : Int} : ∀ {L : List Od}, (L.map oid).Nodup → remO id L false = L.filter (fun o => !hasId id o)
  | [], _ => rfl
  | o :: r, hn => by
    rw [List.map_cons, List.nodup_cons] at hn
    rw [remO]
    by_cases e : o.1 = id
    · subst e
      have hr : ∀ p ∈ r, p.1 ≠ o.1 := fun p hp h => hn.1 (List.mem_map.2 ⟨p, hp, h⟩)
      rw [hasId_self, if_pos (by decide), remO_true, List.filter_cons, hasId_self, if_neg (by decide)]
      exact (List.filter_eq_self.2 fun p hp => by rw [hasId_no (hr p hp)]; rfl).symm
    · rw [hasId_no e, if_neg (by decide), remO_filter hn.2, List.filter_cons, hasId_no e, if_pos (by decide)]
theorem right_remL {s : Int} (id : Int) : ∀ {l : List Lv} {d : Bool}, RightL s l → RightL s (remL id l d)
  | [], d, h => h
  | v :: r, d, h => by
    rw [right_cons] at h
    obtain ⟨h1, h2, h3, h4, h5, h6⟩ := h
    have ih := right_remL id (d := d || v.2.any (hasId id)) h6
    rw [remL]
    unfold remS
    split
    · exact ih
    · rename_i hne
      have hs := remO_sub id v.2 d
      show RightL s ((v.1, remO id v.2 d) :: remL id r (d || v.2.any (hasId id)))
      rw [right_cons]
      refine ⟨h1, ⟨hne, fun o ho => h2.2 o (hs.subset ho)⟩, fun u hu => ?_, fun o ho p hp => ?_, (hs.map oid).nodup h5, ih⟩
      · have key : ∀ (r : List Lv) (d : Bool), ∀ u ∈ remL id r d, ∃ x ∈ r, x.1 = u.1 := by
          intro r
          induction r with
          | nil => intro d u hu; cases hu
          | cons x r ih2 =>
            intro d u hu
            rw [remL] at hu
            rcases List.mem_append.1 hu with hu | hu
            · unfold remS at hu
              split at hu
              · cases hu
              · simp at hu; exact ⟨x, List.mem_cons_self, by rw [hu]⟩
            · obtain ⟨y, hy, e⟩ := ih2 _ u hu
              exact ⟨y, List.mem_cons_of_mem _ hy, e⟩
        obtain ⟨x, hx, e⟩ := key r _ u hu
        rw [← e]; exact h3 x hx
      · rw [flat_rem] at hp
        exact h4 o (hs.subset ho) p ((remO_sub id _ _).subset hp)
/-- Within a level the numbers rise. -/
def Asc (l : List Lv) : Prop := ∀ v ∈ l, v.2.Pairwise (fun a b => a.1 < b.1)
theorem asc_remL (id : Int) : ∀ {l : List Lv} {d : Bool}, Asc l → Asc (remL id l d)
  | [], _, h => h
  | v :: r, d, h => by
    intro u hu
    rw [remL] at hu
    rcases List.mem_append.1 hu with hu | hu
    · unfold remS at hu
      split at hu
      · cases hu
      · simp at hu; subst hu
        exact (h v List.mem_cons_self).sublist (remO_sub id v.2 d)
    · exact asc_remL id (fun x hx => h x (List.mem_cons_of_mem _ hx)) u hu
theorem asc_put {s : Int} {o : Od} : ∀ {l : List Lv}, Asc l → (∀ p ∈ flat l, p.1 < o.1) → Asc (putL s o l)
  | [], _, _ => by intro u hu; simp [putL] at hu; subst hu; exact List.pairwise_singleton _ _
  | v :: r, h, hp => by
    have hv : ∀ p ∈ v.2, p.1 < o.1 := fun p h => hp p (flat_mem.2 (.inl h))
    have hr : ∀ p ∈ flat r, p.1 < o.1 := fun p h => hp p (flat_mem.2 (.inr h))
    have har : Asc r := fun u hu => h u (List.mem_cons_of_mem _ hu)
    intro u hu
    rw [putL] at hu
    split at hu
    · rcases List.mem_cons.1 hu with rfl | hu
      · exact List.pairwise_append.2 ⟨h v List.mem_cons_self, List.pairwise_singleton _ _, fun a ha b hb => by simp at hb; subst hb; exact hv a ha⟩
      · exact har u hu
    · split at hu
      · rcases List.mem_cons.1 hu with rfl | hu
        · exact List.pairwise_singleton _ _
        · exact h u hu
      · rcases List.mem_cons.1 hu with rfl | hu
        · exact h _ List.mem_cons_self
        · exact asc_put har hr u hu
/-- All stand by their prices, of one price by their numbers. -/
theorem flat_sorted {s : Int} : ∀ {l : List Lv}, RightL s l → Asc l → (flat l).Pairwise (fun a b => ahead s (opr a) (opr b) = true ∨ opr a = opr b ∧ a.1 < b.1)
  | [], _, _ => List.Pairwise.nil
  | v :: r, h, ha => by
    rw [right_cons] at h
    obtain ⟨_, h2, h3, _, _, h6⟩ := h
    rw [flat_cons]
    refine List.pairwise_append.2 ⟨?_, flat_sorted h6 fun u hu => ha u (List.mem_cons_of_mem _ hu), fun a hA b hB => .inl ?_⟩
    · refine List.Pairwise.imp_of_mem (fun {a b} hA hB hlt => .inr ⟨?_, hlt⟩) (ha v List.mem_cons_self)
      rw [(h2.2 a hA).2, (h2.2 b hB).2]
    · obtain ⟨u, hu, hb⟩ : ∃ u ∈ r, b ∈ u.2 := by
        have key : ∀ (r : List Lv), b ∈ flat r → ∃ u ∈ r, b ∈ u.2 := by
          intro r
          induction r with
          | nil => intro h; simp [flat] at h
          | cons x r ih =>
            intro h
            rcases flat_mem.1 h with h | h
            · exact ⟨x, List.mem_cons_self, h⟩
            · obtain ⟨u, hu, hb⟩ := ih h; exact ⟨u, List.mem_cons_of_mem _ hu, hb⟩
        exact key r hB
      rw [(h2.2 a hA).2, (h6.2.1 u hu).2 b hb |>.2]
      exact h3 u hu
/-- What holds behind each call of the statement on any calls: n is the greatest number given yet. -/
structure InvO (s : Int) (n : Int) (l : List Lv) (want : List Od) : Prop where
  right : RightL s l
  asc : Asc l
  perm : (flat l).Perm want
  small : ∀ o ∈ want, o.1 ≤ n
theorem invO_start {s : Int} (h : s = 1 ∨ s = 2) : InvO s 0 [] [] := ⟨right_nil h, by simp [Asc], List.Perm.refl _, by simp⟩
theorem InvO.mono {s n m : Int} {l : List Lv} {want : List Od} (h : InvO s n l want) (k : n ≤ m) : InvO s m l want := ⟨h.right, h.asc, h.perm, fun o ho => Int.le_trans (h.small o ho) k⟩
theorem InvO.put {s n : Int} {l : List Lv} {want : List Od} {o : Od} (h : InvO s n l want) (ho : n < o.1) (hs : o.2.2.1 = s) (hm : omay o s = true) : putE l o = 0 ∧ InvO s o.1 (put l o) (want ++ [o]) := by
  subst hs
  have hlt : ∀ p ∈ flat l, p.1 < o.1 := fun p hp => Int.lt_of_le_of_lt (h.small p (h.perm.mem_iff.1 hp)) ho
  have hn : fnd (flat l) o.1 = none := fnd_none.2 fun p hp => by have := hlt p hp; omega
  have he : putE l o = 0 := by unfold putE; rw [rightL_iff.2 h.right, hm, hn]; rfl
  have hp : Le.put l o = putL o.2.2.1 o l := by unfold Le.put; rw [if_pos he]
  rw [hp]
  refine ⟨he, right_put h.right hm hn, asc_put h.asc hlt, ?_, fun x hx => ?_⟩
  · exact (flat_put (s := o.2.2.1) (o := o) (l := l)).trans ((h.perm.cons o).trans (List.perm_append_singleton o want).symm)
  · rcases List.mem_append.1 hx with hx | hx
    · have := h.small x hx; omega
    · simp at hx; subst hx; exact Int.le_refl _
theorem InvO.nodup {s n : Int} {l : List Lv} {want : List Od} (h : InvO s n l want) : (want.map oid).Nodup := ((h.perm.map oid).nodup_iff).1 h.right.2.2.2
theorem InvO.fnd {s n : Int} {l : List Lv} {want : List Od} (h : InvO s n l want) (id : Int) : fnd (flat l) id = Le.fnd want id := fnd_perm h.perm h.right.2.2.2 id
theorem InvO.rem {s n : Int} {l : List Lv} {want : List Od} (h : InvO s n l want) (id : Int) : InvO s n (rem l id) (want.filter fun o => !hasId id o) := by
  refine ⟨right_remL id h.right, asc_remL id h.asc, ?_, fun o ho => h.small o (List.mem_filter.1 ho).1⟩
  show (flat (remL id l false)).Perm _
  rw [flat_rem, remO_filter h.right.2.2.2]
  exact h.perm.filter _
theorem InvO.find {s n : Int} {l : List Lv} {want : List Od} (h : InvO s n l want) {x : Od} (hx : x ∈ want) : Le.fnd (flat l) x.1 = some x := fnd_mem h.right.2.2.2 (h.perm.mem_iff.2 hx)
theorem InvO.len {s n : Int} {l : List Lv} {want : List Od} (h : InvO s n l want) : (flat l).length = want.length := h.perm.length_eq
/-- Neighbours stand as the statement asks. -/
theorem InvO.next {s n : Int} {l : List Lv} {want : List Od} (h : InvO s n l want) {i : Nat} (hi : i + 1 < (flat l).length) :
    ahead s (opr (flat l)[i]) (opr (flat l)[i + 1]) = true ∨ opr (flat l)[i] = opr (flat l)[i + 1] ∧ (flat l)[i].1 < (flat l)[i + 1].1 :=
  List.pairwise_iff_getElem.1 (flat_sorted h.right h.asc) i (i + 1) _ hi (Nat.lt_succ_self i)
theorem levels_len {s : Int} {l : List Lv} (h : RightL s l) : l.length ≤ (flat l).length := by
  induction l with
  | nil => exact Nat.le_refl _
  | cons v r ih =>
    rw [right_cons] at h
    obtain ⟨_, h2, _, _, _, h6⟩ := h
    have := ih h6
    have hp := List.length_pos_iff.2 h2.1
    rw [flat_cons, List.length_append, List.length_cons]; omega
end Go.Proofs.Ytmpkindlanadbaa.Le
