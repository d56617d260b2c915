/- An append leaves the row where it is, or makes a new one. Of no program. -/
import Derived.Test.YtmpkindlanadbaaAp
namespace Go.Proofs.Ytmpkindlanadbaa.Da
open Go.RowKit
set_option linter.unusedVariables false
section
variable {α : Type} {e : Enc α} {T : TypeId}
/-- The row of an append's result is the old one or a new one. -/
theorem append_block {P : Program} {t : TypeId} {bytes : Nat} (E : Elem P t T e.k bytes) (ty : TypeId) {B : Bs} {Bo : Nat} {l m : List α} {v x v' : Value} {w w' : World} (h : Own e T B Bo l v w) (hx : Is e T B m x w) (h63 : l.length + m.length ≤ 1000000000) (hby : bytes ≤ 100000)
    (hrun : appRun P t ty v x w = .ok v' w') : v'.ownBlock = v.ownBlock ∨ v'.ownBlock = some w.heap.size := by
  obtain ⟨i, z, hi, hz, hs, hb, hzs⟩ := E.ex
  subst hb
  obtain ⟨css, hl, hc, hr⟩ := h
  unfold appRun at hrun
  rcases hx.src with ⟨rfl, rfl⟩ | ⟨ad, c, dss, rfl, hdl, hd, hu⟩
  · have := run_append_owned_none (P := P) (w := w) Bo t ty T i e.k E.ht hi v l.length css.flatten hr
    rw [this] at hrun
    injection hrun with h1 h2
    exact .inl (by rw [← h1])
  · have hlen : dss.flatten.length = m.length * i.size := by rw [flat_len (Own.lens hdl hd), hdl, hs]
    have hbytes : (l.length + m.length) * i.bytes ≤ 140737488355328 := Nat.le_trans (Nat.mul_le_mul h63 hby) (by decide)
    have h1 := Own.ones hdl hd
    rcases hr.2 with ⟨rfl, hn⟩ | ⟨g, cap, cur, rfl, hbg, hg, hnc, hcm, hcs, htake⟩
    · by_cases hm : m.length = 0
      · have hm0 : m = [] := List.length_eq_zero_iff.1 hm
        subst hm0
        have hd0 : dss.flatten = [] := List.eq_nil_of_length_eq_zero (by rw [hlen]; simp)
        have hr0 : (Builtin.append_ #[t, t] ty #[.slice none 0 0, .slice (some ad) 0 c]).run P w = .ok (.slice none 0 0) w := by
          simp [Builtin.append_, run_underlying E.ht, sizeOf, typeInfo, hi, Builtin.lenOf, Builtin.firstCells, loadCells, loadCellsFrom]
        rw [show ([] : List α).length = 0 from rfl, hr0] at hrun
        injection hrun with h2 h3
        exact .inl (by rw [← h2])
      · have hr0 := run_append_nil (P := P) w t ty T i z E.ht hi hz ad m.length c dss.flatten hlen hu (by omega) (by omega) (by have hb := hbytes; rw [hn, Nat.zero_add] at hb; omega)
        rw [hr0] at hrun
        injection hrun with h2 h3
        exact .inr (by rw [← h2]; rfl)
    · by_cases hroom : l.length + m.length ≤ cap
      · have hfit : l.length * i.size + dss.flatten.length ≤ cur.size := by rw [hlen, hcs, hs, ← Nat.add_mul]; exact Nat.mul_le_mul_right _ hroom
        have hr0 := run_append_room (P := P) w t ty T i E.ht hi g l.length cap cur hg ad m.length c dss.flatten hlen hu h1 hroom hfit
        rw [hr0] at hrun
        injection hrun with h2 h3
        exact .inl (by rw [← h2]; rfl)
      · have holds : ∀ j u, css.flatten[j]? = some u → w.cell? ((⟨g, 0, none⟩ : Addr).add j) = some u := hr.cells (g := g) rfl
        have hr0 := run_append_grow (P := P) w t ty T i z E.ht hi hz ⟨g, 0, none⟩ l.length cap css.flatten (by rw [hr.1, hs]) holds ad m.length c dss.flatten hlen hu (by omega) (by omega) (growslice_fits (by omega) hbytes)
        rw [hr0] at hrun
        injection hrun with h2 h3
        exact .inr (by rw [← h2]; rfl)
/-- The base with a list's own row left out keeps what lies in it behind an append to that list, whatever the types. -/
theorem keeps_but {B : Bs} {ts : List TypeId} {v : Value} {w w' : World} (hg : w.grownBy w' v.ownBlock) (hlo : ∀ g, v.ownBlock = some g → B.lo ≤ g) : Keeps (B.but fun b => v.ownBlock = some b) ts w w' :=
  ⟨hg.size, fun b o hb ho => by
    refine (hg.block b (Array.getElem?_eq_some_iff.1 hb).1 fun e => ?_).trans hb
    rcases ho with ho | ⟨_, _, _, _, _, hn⟩
    · have := hlo b e.symm
      have h2 : b < B.lo := ho
      omega
    · exact hn (.inr e.symm)⟩
/-- What lies apart from a list's own row lies, behind an append to that list, apart from its row. -/
theorem Is.apart {β : Type} (f : Enc β) (S : TypeId) {B : Bs} {L : List β} {y v v' : Value} {w w' : World} (h : Is f S (B.but fun b => v.ownBlock = some b) L y w) (hg : w.grownBy w' v.ownBlock) (hlo : ∀ g, v.ownBlock = some g → B.lo ≤ g)
    (hv : v'.ownBlock = v.ownBlock ∨ v'.ownBlock = some w.heap.size) : Is f S (B.but fun b => v'.ownBlock = some b) L y w' := by
  have h2 := Is.keep f S h (keeps_but (ts := S :: f.ts) hg hlo)
  rcases hv with e | e
  · rw [e]; exact h2
  · have h3 := Is.now f S (X := fun b => b = w.heap.size) h (fun b hb => by rw [hb]; exact Nat.le_refl _)
    have hk : Keeps ((B.but fun b => v.ownBlock = some b).but fun b => b = w.heap.size) (S :: f.ts) w w' :=
      ⟨hg.size, fun b o hb ho => by
        refine (keeps_but (ts := S :: f.ts) hg hlo).block b o hb ?_
        rcases ho with ho | ⟨cur, t, fr, e, ht, hn⟩
        · exact .inl ho
        · exact .inr ⟨cur, t, fr, e, ht, fun hx => hn (.inl hx)⟩⟩
    have h4 := Is.keep f S h3 hk
    refine Is.up f S (A := (B.but fun b => v.ownBlock = some b).but fun b => b = w.heap.size) ⟨Nat.le_refl _, fun b hb => ?_⟩ h4
    rcases hb with hb | hb
    · exact .inl (.inl (.inl hb))
    · rw [e] at hb
      exact .inl (.inr (Option.some.inj hb).symm)
end
end Go.Proofs.Ytmpkindlanadbaa.Da
