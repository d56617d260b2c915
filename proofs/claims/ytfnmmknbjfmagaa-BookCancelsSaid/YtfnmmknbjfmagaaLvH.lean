/- Package level as it landed: sort.Search over the closure of Put. -/
import Derived.Test.YtfnmmknbjfmagaaLvF
import Derived.Test.YtfnmmknbjfmagaaLvL
import Derived.Deep.LoopGhost
import Derived.Sort.Walk0
namespace Go.Proofs.Ytfnmmknbjfmagaa.Le
open Go.RowKit
set_option linter.unusedVariables false
open Go.Proofs.Ytfnmmknbjfmagaa.Rw
open Go.Proofs.Ytfnmmknbjfmagaa.Da
/-- How many of the first levels stand ahead of price p. -/
def cntA (s p : Int) (l : List Lv) : Nat := (l.takeWhile (fun v => ahead s v.1 p)).length
/-- What Put's closure has caught: f in block p8, the levels in block p2, the order in block p3. -/
def Env (B : Bs) (s p : Int) (l : List Lv) (p8 p2 p3 : Nat) (u : World) : Prop :=
  ∃ f v, (Ahd s f u ∧ u.cell? ⟨p8, 0, none⟩ = some f ∧ p8 < u.heap.size) ∧ (LL B l v u ∧ u.cell? ⟨p2, 0, none⟩ = some v ∧ p2 < u.heap.size) ∧ u.cell? ⟨p3, 3, none⟩ = some (.int .i64 p) ∧ p3 < u.heap.size
theorem Env.stays {B : Bs} {s p : Int} {l : List Lv} {p8 p2 p3 : Nat} {u u' : World} (h : Env B s p l p8 p2 p3 u) (hb : Below u.heap.size u u') : Env B s p l p8 p2 p3 u' := by
  obtain ⟨f, v, ⟨h1, h2, h3⟩, ⟨h4, h5, h6⟩, h7, h8⟩ := h
  exact ⟨f, v, ⟨h1.stays hb, (hb.cell (p := ⟨p8, 0, none⟩) h3).trans h2, Nat.lt_of_lt_of_le h3 hb.size⟩, ⟨Is.stays eL 48 h4 hb, (hb.cell (p := ⟨p2, 0, none⟩) h6).trans h5, Nat.lt_of_lt_of_le h6 hb.size⟩, (hb.cell (p := ⟨p3, 3, none⟩) h8).trans h7, Nat.lt_of_lt_of_le h8 hb.size⟩
set_option maxHeartbeats 1000000 in
theorem put1_any (B : Bs) (s p : Int) (l : List Lv) (p8 p2 p3 : Nat) (i : Nat) (hi : i < l.length) (hm : l.length ≤ 1000000) (w : World) (h : Env B s p l p8 p2 p3 w) :
    Calls Try.prog 63 #[.int .i64 i, .pointer (some ⟨p8, 0, none⟩), .pointer (some ⟨p2, 0, none⟩), .pointer (some ⟨p3, 0, none⟩)] w fun e w' => e = .returned (.bool (!ahead s l[i].1 p)) ∧ Below w.heap.size w w' := by
  obtain ⟨f, v, ⟨⟨g, rfl, hg, hgc⟩, h2, h3⟩, ⟨h4, h5, h6⟩, h7, h8⟩ := h
  rcases h4.cases with ⟨rfl, _⟩ | ⟨hne, b, off, c, rfl, hat⟩
  · cases hi
  obtain ⟨x, q0, q1, hx⟩ := atL hat i hi
  have hbb := hat.1
  obtain ⟨pp, hpp⟩ : ∃ pp, (l[i]'hi).1 = pp := ⟨_, rfl⟩
  rw [hpp] at q0 ⊢
  obtain ⟨r, hr⟩ : ∃ r, ahead s pp p = r := ⟨_, rfl⟩
  rw [hr]
  have HQ := Lib.hid hr
  have hF : ∀ u, Below w.heap.size w u → (u.cell? ⟨p8, 0, none⟩ = some (.func (.func 78) #[] #[.pointer (some ⟨g, 0, none⟩)]) ∧ u.cell? ⟨p2, 0, none⟩ = some (.slice (some ⟨b, off, none⟩) l.length c)) ∧ u.cell? ⟨p3, 3, none⟩ = some (.int .i64 p) ∧ u.cell? ⟨b, off + i * 2, none⟩ = some (.int .i64 pp) := fun u hu =>
    ⟨⟨(hu.cell (p := ⟨p8, 0, none⟩) h3).trans h2, (hu.cell (p := ⟨p2, 0, none⟩) h6).trans h5⟩, (hu.cell (p := ⟨p3, 3, none⟩) h8).trans h7, (hu.cell (p := ⟨b, off + i * 2, none⟩) hbb).trans q0⟩
  have HG := Lib.hid (show ∀ u, Below w.heap.size w u → g < u.heap.size ∧ u.cell? ⟨g, 0, none⟩ = some (.int .i64 s) from fun u hu => ⟨Nat.lt_of_lt_of_le hg hu.size, (hu.cell (p := ⟨g, 0, none⟩) hg).trans hgc⟩)
  have hi2 : (i : Int) < l.length := by omega
  clear h2 h3 h4 h5 h6 h7 h8 hat q0 q1 hx hg hgc hr hpp
  go_enter Try.func63, Try.ntmps63
  go_wp2
  refine Rf.region [0, 1, 2, 3, 4, 5, 6, 7, 8, 9, 10] (by kernel_rfl) (by kernel_rfl) (by kernel_rfl) (fun _ _ d _ _ h => by cases d <;> exact h) ?_
  repeat (first | (refine Rf.Steps.skip (by rfl) (by kernel_rfl) (by rfl) ?_; simp only [Act.put, List.setIfInBounds_toArray, List.set_cons_zero, List.set_cons_succ]) | (refine Rf.Steps.pure (v := ?_) (by rfl) (by kernel_rfl) (by rfl) ?_ ?_; rotate_left; (intro w_ hS_; have hk_ := hF w_ hS_; go_simp <;> with_reducible rfl); simp only [Act.put, List.setIfInBounds_toArray, List.set_cons_zero, List.set_cons_succ]) | (refine Rf.Steps.call (v := ?_) (f := ?_) (args := ?_) (by rfl) (by kernel_rfl) (by rfl) ?_ ?_ ?_; rotate_left 3; (intro w_ hS_; have hk_ := hF w_ hS_; go_simp <;> first | with_reducible rfl | (constructor <;> with_reducible rfl)); (intro w_ hS_; have hk_ := hF w_ hS_; first | (go_at_call 78; refine (ahead_is HQ g (HG.out w_ hS_)).mono ?_; first | (rintro e w_ ⟨rfl, rfl⟩; refine ⟨?_, Below.refl _ _⟩; with_reducible rfl) | (rintro e w_ ⟨rfl, hb_⟩; refine ⟨?_, hb_⟩; with_reducible rfl))); simp only [Act.put, List.setIfInBounds_toArray, List.set_cons_zero, List.set_cons_succ]))
  refine Rf.Steps.nil (by kernel_rfl) ?_
  intro w4 hb6
  go_wp2
  go_ret
  exact ⟨rfl, hb6⟩
theorem cntA_of {s p : Int} : ∀ {l : List Lv} {k : Nat}, k ≤ l.length → (∀ t (h : t < l.length), t < k → ahead s l[t].1 p = true) → (∀ t (h : t < l.length), k ≤ t → ahead s l[t].1 p = false) → cntA s p l = k
  | [], k, hk, _, _ => by simp at hk; subst hk; rfl
  | v :: r, 0, _, _, h2 => by
    have := h2 0 (by simp) (Nat.le_refl _)
    simp only [List.getElem_cons_zero] at this
    unfold cntA
    rw [List.takeWhile_cons, this]; rfl
  | v :: r, k + 1, hk, h1, h2 => by
    have h0 := h1 0 (by simp) (by omega)
    simp only [List.getElem_cons_zero] at h0
    have := cntA_of (s := s) (p := p) (l := r) (k := k) (by simpa using hk) (fun t h ht => by have := h1 (t + 1) (by simpa using h) (by omega); simpa using this) (fun t h ht => by have := h2 (t + 1) (by simpa using h) (by omega); simpa using this)
    unfold cntA at this ⊢
    rw [List.takeWhile_cons, h0]
    simp [this]
def SrI (s p : Int) (l : List Lv) (lo hi : Nat) : Prop := (∀ t (h : t < l.length), t < lo → ahead s l[t].1 p = true) ∧ (∀ t (h : t < l.length), hi ≤ t → ahead s l[t].1 p = false)
theorem ahead_mono {s p : Int} {l : List Lv} (hr : l.Pairwise (fun a b => ahead s a.1 b.1 = true)) {i j : Nat} (hij : i ≤ j) (hj : j < l.length) (h : ahead s l[j].1 p = true) : ahead s (l[i]'(by omega)).1 p = true := by
  by_cases e : i = j
  · subst e; exact h
  · exact ahead_trans (List.pairwise_iff_getElem.1 hr i j (by omega) hj (by omega)) h
theorem SrI.lo {s p : Int} {l : List Lv} {lo hi m : Nat} (hr : l.Pairwise (fun a b => ahead s a.1 b.1 = true)) (h : SrI s p l lo hi) (hm : m < l.length) (ha : ahead s l[m].1 p = true) : SrI s p l (m + 1) hi :=
  ⟨fun t ht htm => ahead_mono hr (show t ≤ m by omega) hm ha, h.2⟩
theorem SrI.hi {s p : Int} {l : List Lv} {lo hi m : Nat} (hr : l.Pairwise (fun a b => ahead s a.1 b.1 = true)) (h : SrI s p l lo hi) (hm : m < l.length) (ha : ahead s l[m].1 p = false) : SrI s p l lo m :=
  ⟨h.1, fun t ht htm => by
    cases e : ahead s l[t].1 p
    · rfl
    · rw [ahead_mono hr htm ht e] at ha; cases ha⟩
theorem put1_is {B : Bs} {s p : Int} {l : List Lv} {p8 p2 p3 i : Nat} {r : Bool} (hi : i < l.length) (hr : Hid ((!ahead s l[i].1 p) = r)) (hm : l.length ≤ 1000000) {w : World} (h : Env B s p l p8 p2 p3 w) :
    Calls Try.prog 63 #[.int .i64 i, .pointer (some ⟨p8, 0, none⟩), .pointer (some ⟨p2, 0, none⟩), .pointer (some ⟨p3, 0, none⟩)] w fun e w' => e = .returned (.bool r) ∧ Below w.heap.size w w' := by
  rw [← hr.out]; exact put1_any B s p l p8 p2 p3 i hi hm w h
set_option maxHeartbeats 1000000 in
theorem search_any (B : Bs) (s p : Int) (l : List Lv) (p8 p2 p3 : Nat) (hm : l.length ≤ 1000000) (w : World) (h : Env B s p l p8 p2 p3 w) (hr : l.Pairwise (fun a b => ahead s a.1 b.1 = true)) :
    Calls Try.prog 62 #[.int .i64 (l.length : Nat), .func (.func 63) #[] #[.pointer (some ⟨p8, 0, none⟩), .pointer (some ⟨p2, 0, none⟩), .pointer (some ⟨p3, 0, none⟩)]] w fun e w' => e = .returned (.int .i64 (cntA s p l : Nat)) ∧ Below w.heap.size w w' := by
  obtain ⟨n, hn⟩ : ∃ n, n = l.length := ⟨_, rfl⟩
  obtain ⟨cnt, hc⟩ : ∃ c, cntA s p l = c := ⟨_, rfl⟩
  have HE := Lib.hid (show ∀ u, Below w.heap.size w u → Env B s p l p8 p2 p3 u from fun u hu => h.stays hu)
  have HR := Lib.hid hr
  have HML := Lib.hid hm
  rw [← hn] at hm ⊢
  rw [hc]
  have HN := Lib.hid hn
  have HC := Lib.hid hc
  clear h hr hn hc
  go_enter Try.func62, Try.ntmps62
  go_wp2
  go_loopg [5, 6] n (fun kx s5 s6 wr => ∃ (lo hi : Nat), s5 = .int .i64 lo ∧ s6 = .int .i64 hi ∧ lo ≤ hi ∧ hi ≤ n ∧ hi - lo ≤ kx ∧ Below w.heap.size w wr ∧ SrI s p l lo hi)
  case atStart => exact ⟨0, n, rfl, rfl, Nat.zero_le _, Nat.le_refl _, by omega, Below.refl _ _, fun t _ ht => absurd ht (Nat.not_lt_zero _), fun t h1 h2 => by have := HN.out; omega⟩
  case round =>
    obtain ⟨lo, hi, rfl, rfl, hlh, hin, hg, hb, hI⟩ := hrel
    have I := Lib.hid hI
    clear hI
    by_cases hlt : lo < hi
    · have hmid : (lo + hi) / 2 < l.length := by rw [← HN.out]; omega
      cases hp : ahead s (l[(lo + hi) / 2]'hmid).1 p
      · have HP : Hid ((!ahead s (l[(lo + hi) / 2]'hmid).1 p) = true) := Lib.hid (by rw [hp]; rfl)
        have I2 := Lib.hid (I.out.hi HR.out hmid hp)
        have hcall := put1_is hmid HP HML.out (HE.out _ hb)
        rw [show (((lo + hi) / 2 : Nat) : Int) = ((lo : Int) + (hi : Int)) / 2 by omega] at hcall
        clear hp
        go_wp2_with fail
        refine hcall.mono ?_
        rintro e w' ⟨rfl, hb1⟩
        clear hcall
        go_wp2
        go_roundg ((lo + hi) / 2 - lo)
        case measure => omega
        case rel => exact ⟨lo, (lo + hi) / 2, rfl, by rw [show ((lo : Int) + (hi : Int)) / 2 = (((lo + hi) / 2 : Nat) : Int) by omega], by omega, by omega, Nat.le_refl _, nx hb hb1, I2.out⟩
      · have HP : Hid ((!ahead s (l[(lo + hi) / 2]'hmid).1 p) = false) := Lib.hid (by rw [hp]; rfl)
        have I2 := Lib.hid (I.out.lo HR.out hmid hp)
        have hcall := put1_is hmid HP HML.out (HE.out _ hb)
        rw [show (((lo + hi) / 2 : Nat) : Int) = ((lo : Int) + (hi : Int)) / 2 by omega] at hcall
        clear hp
        go_wp2_with fail
        refine hcall.mono ?_
        rintro e w' ⟨rfl, hb1⟩
        clear hcall
        go_wp2
        go_roundg (hi - ((lo + hi) / 2 + 1))
        case measure => omega
        case rel => exact ⟨(lo + hi) / 2 + 1, hi, by rw [show ((lo : Int) + (hi : Int)) / 2 + 1 = (((lo + hi) / 2 + 1 : Nat) : Int) by omega], rfl, by omega, hin, Nat.le_refl _, nx hb hb1, I2.out⟩
    · obtain rfl : hi = lo := by omega
      have HZ : Hid (cnt = hi) := Lib.hid (by rw [← HC.out]; exact cntA_of (by rw [← HN.out]; exact hin) I.out.1 I.out.2)
      go_wp2
      go_ret
      exact ⟨ret_int (by rw [HZ.out]), hb⟩
end Go.Proofs.Ytfnmmknbjfmagaa.Le
