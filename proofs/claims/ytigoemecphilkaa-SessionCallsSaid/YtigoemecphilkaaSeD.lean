/- The document's own: Note. -/
import Derived.Test.YtigoemecphilkaaSeB
import Derived.Test.YtigoemecphilkaaSeC
import Derived.Test.YtigoemecphilkaaSfF
import Derived.Test.YtigoemecphilkaaAp
namespace Go.Proofs.Ytigoemecphilkaa.Se
open Go.RowKit
set_option linter.unusedVariables false
open Go.Proofs.Ytigoemecphilkaa.Rw
open Go.Proofs.Ytigoemecphilkaa.Da
theorem rRight_is {q : Bool} {l : List Sn} (H : Hid (right l = q)) {B : Bs} {v : Value} {w : World} (h : NL B l v w) (hm : l.length ≤ 1000000) :
    Calls Try.prog 13 #[v] w fun e w' => e = .returned (.bool q) ∧ Below w.heap.size w w' := by
  rw [← H.out]; exact rRight_any B l v w h hm
theorem rLast_is {q : Int} {c : Int} {l : List Sn} (H : Hid (last c l = q)) {B : Bs} {v : Value} {w : World} (h : NL B l v w) (hm : l.length ≤ 1000000) :
    Calls Try.prog 15 #[v, .int .i64 c] w fun e w' => e = .returned (.int .i64 q) ∧ Below w.heap.size w w' := by
  rw [← H.out]; exact rLast_any B l v c w h hm
def PostR (B : Bs) (l : List Sn) (r : Rp) (w : World) (e : Ending) (w' : World) : Prop := ∃ v, e = .returned (.tuple #[v, .int .i64 (noteE l r)]) ∧ Below w.heap.size w w' ∧ NL B (noteL l r) v w'
theorem own_block {B : Bs} {Bo : Nat} {l : List Sn} {v : Value} {w : World} (h : OwnN B Bo l v w) : ∀ k, v.ownBlock = some k → Bo ≤ k ∧ k < w.heap.size := by
  obtain ⟨css, _, _, hr⟩ := h
  exact fun k hk => hr.lt k hk
/-- An append of one session to a list of the call's own. -/
theorem app1 {B : Bs} {Bo : Nat} {l : List Sn} {v : Value} {V : World} (hB : B.le Bo) (hBo : Bo ≤ V.heap.size) (h : OwnN B Bo l v V) (hl : l.length ≤ 1000000) (s1 s2 s3 s4 s5 s6 s7 : Int) :
    ∃ v' w', appRun Try.prog 22 22 v (.slice (some ⟨V.heap.size, 0, none⟩) 1 1) (V.alloc (.cells #[.int .i64 s1, .int .i64 s2, .int .i64 s3, .int .i64 s4, .int .i64 s5, .int .i64 s6, .int .i64 s7] 42)) = .ok v' w'
      ∧ OwnN B Bo (l ++ [(s1, s2, s3, s4, s5, s6, s7)]) v' w' ∧ Below Bo V w' ∧ (∀ b, b < V.heap.size → (∀ k, v.ownBlock = some k → b ≠ k) → w'.heap[b]? = V.heap[b]?) := by
  obtain ⟨v', w', h1, h2, h3, h4, _⟩ := Own.append elemS 22 typesS hB (Nat.le_trans hBo (below1 V (.cells #[.int .i64 s1, .int .i64 s2, .int .i64 s3, .int .i64 s4, .int .i64 s5, .int .i64 s6, .int .i64 s7] 42)).size) (h.stays (below1 V _)) (Is.one (T := 42) (hB.mono hBo) (x := (s1, s2, s3, s4, s5, s6, s7)) (e := eS) rfl) (by simp; omega) (by omega)
  refine ⟨v', w', h1, h2, h4 _ _ (Nat.le_refl _) ((Below.refl _ _).alloc hBo _), fun b hb hk => ?_⟩
  rw [grown_block h3 (Nat.lt_of_lt_of_le hb (below1 V _).size) hk, (below1 V _).block b hb]
theorem row_eq {w w' : World} {b : Nat} (h : w'.heap[b]? = w.heap[b]?) : row w' b = row w b := by unfold row; rw [h]
theorem putF_step {s x : Sn} {zs l : List Sn} {k : Nat} {d : Bool} {r : List Sn} (hk : k < l.length) (hx : l[k] = x) (h : zs ++ putF s (l.drop k) d = r) :
    (zs ++ (if (!d && decide (s.1 ≤ x.1)) = true then [s] else []) ++ (if x.1 ≠ s.1 then [x] else [])) ++ putF s (l.drop (k + 1)) (d || decide (s.1 ≤ x.1)) = r := by
  rw [← h, drop_cons hk, hx, putF]; simp only [List.append_assoc]
set_option maxRecDepth 8000 in
set_option maxHeartbeats 8000000 in
theorem rNote_any (B : Bs) (l : List Sn) (v : Value) (r1 r2 r3 r4 r5 : Int) (w : World) (h : NL B l v w) (hB : B.le w.heap.size) (hm : l.length ≤ 100000) :
    Calls Try.prog 8 #[v, .agg #[.int .i64 r1, .int .i64 r2, .int .i64 r3, .int .i64 r4, .int .i64 r5]] w (PostR B l (r1, r2, r3, r4, r5) w) := by
  have hm6 : l.length ≤ 1000000 := by omega
  obtain ⟨rr, hrr⟩ : ∃ q, right l = q := ⟨_, rfl⟩
  obtain ⟨mm, hmm⟩ : ∃ q, okS (mk (r1, r2, r3, r4, r5)) = q := ⟨_, rfl⟩
  obtain ⟨la, hla⟩ : ∃ q, last r1 l = q := ⟨_, rfl⟩
  have HR := Lib.hid hrr
  have HM := Lib.hid (show right [mk (r1, r2, r3, r4, r5)] = mm by rw [right_one, hmm])
  have HL := Lib.hid hla
  have hE : noteE l (r1, r2, r3, r4, r5) = if (rr && mm) = true then (if r2 ≤ la then 13 else 0) else 1 := by unfold noteE; rw [hrr, hmm, ← hla]
  have HH := Lib.hid (show ∀ u, Below w.heap.size w u → NL B l v u ∧ B.le u.heap.size from fun u hu => ⟨Is.stays eS 42 h hu, hB.mono hu.size⟩)
  obtain ⟨V, hV⟩ : ∃ V, V = (w.alloc (.cells #[.int .i64 r1, .int .i64 r2, .int .i64 r3, .int .i64 r4, .int .i64 r5] 25)).alloc (.cells #[.int .i64 r1, .int .i64 r2, .int .i64 r1, .int .i64 r2, .int .i64 r3, .int .i64 r4, .int .i64 r5] 42) := ⟨_, rfl⟩
  have hbV : Below w.heap.size w V := hV ▸ below2 w _ _
  have hz : w.heap.size + 1 < V.heap.size := by rw [hV]; simp
  have hz0 : w.heap.size < V.heap.size := by omega
  have hrow : row V (w.heap.size + 1) = #[.int .i64 r1, .int .i64 r2, .int .i64 r1, .int .i64 r2, .int .i64 r3, .int .i64 r4, .int .i64 r5] := by rw [hV]; simp [go_sem]
  have hrow0 : row V w.heap.size = #[.int .i64 r1, .int .i64 r2, .int .i64 r3, .int .i64 r4, .int .i64 r5] := by rw [hV]; simp [go_sem]
  have HK := Lib.hid (show ∀ u, Below V.heap.size V u → row u (w.heap.size + 1) = #[.int .i64 r1, .int .i64 r2, .int .i64 r1, .int .i64 r2, .int .i64 r3, .int .i64 r4, .int .i64 r5] ∧ u.cell? ⟨w.heap.size, 0, none⟩ = some (.int .i64 r1) ∧ u.cell? ⟨w.heap.size, 1, none⟩ = some (.int .i64 r2) ∧ u.cell? ⟨w.heap.size + 1, 0, none⟩ = some (.int .i64 r1) from by
    intro u hu
    have hr : row u (w.heap.size + 1) = row V (w.heap.size + 1) := (bcell hu).2.2.1 _ hz
    have hs : (row u (w.heap.size + 1)).size = 6 + 1 := by rw [hr, hrow]; rfl
    have hr0 : row u w.heap.size = row V w.heap.size := (bcell hu).2.2.1 _ hz0
    have hs0 : (row u w.heap.size).size = 4 + 1 := by rw [hr0, hrow0]; rfl
    exact ⟨by rw [hr, hrow], by rw [cell_row _ _ _ hs0, hr0, hrow0]; rfl, by rw [cell_row _ _ _ hs0, hr0, hrow0]; rfl, by rw [cell_row _ _ _ hs, hr, hrow]; rfl⟩)
  have HV := Lib.hid hV
  obtain ⟨a1, c1, rfl⟩ := h.len
  obtain ⟨n, hn⟩ : ∃ n, n = l.length := ⟨_, rfl⟩
  rw [← hn] at HH ⊢
  have HN := Lib.hid hn
  clear h hB hrr hla hV hrow hrow0 hn
  cases rr
  · have HE := Lib.hid (show noteE l (r1, r2, r3, r4, r5) = 1 by rw [hE]; rfl)
    clear hE hmm
    go_enter Try.func8, Try.ntmps8
    go_wp2_with fail
    rw [← HV.out]
    refine (rRight_is HR (HH.out V hbV).1 hm6).mono ?_
    rintro e w1 ⟨rfl, hb1⟩
    have hbq := nx hbV hb1
    have hown0 := Own.made (e := eS) (T := 42) B w1 w1.heap.size (Nat.le_refl _)
    obtain ⟨v', w', hrun, hown', _, hbl, _⟩ := Own.append elemS 22 typesS (HH.out _ hbq).2 (below1 w1 _).size hown0 (HH.out _ (nx hbq (below1 w1 (.cells #[] 42)))).1 (by simp; omega) (by omega)
    have HF := Lib.hid (show Below w.heap.size w w' ∧ NL B (noteL l (r1, r2, r3, r4, r5)) v' w' from ⟨hbl _ _ hbq.size (nx hbq (below1 w1 _)), by unfold noteL; rw [HE.out, if_neg (by decide)]; exact hown'.is (by decide) (HH.out _ hbq).2⟩)
    clear hown0 hown' hbl
    go_wp2
    go_ret2
    exact ⟨v', by (rw [HE.out]) <;> rfl, HF.out.1, HF.out.2⟩
  cases mm
  · have HE := Lib.hid (show noteE l (r1, r2, r3, r4, r5) = 1 by rw [hE]; rfl)
    clear hE hmm
    go_enter Try.func8, Try.ntmps8
    go_wp2_with fail
    rw [← HV.out]
    refine (rRight_is HR (HH.out V hbV).1 hm6).mono ?_
    rintro e w1 ⟨rfl, hb1⟩
    obtain ⟨k1, k2, k3, k4⟩ := HK.out w1 hb1
    go_wp2_with fail
    refine (rRight_is HM (Is.one (T := 42) (HH.out w1 (nx hbV hb1)).2 (x := mk (r1, r2, r3, r4, r5)) (e := eS) rfl) (by simp)).mono ?_
    rintro e w2 ⟨rfl, hb2⟩
    have hbq := nx hbV (nx hb1 (nx (below1 _ _) hb2))
    clear k1 k2 k3 k4
    have hown0 := Own.made (e := eS) (T := 42) B w2 w2.heap.size (Nat.le_refl _)
    obtain ⟨v', w', hrun, hown', _, hbl, _⟩ := Own.append elemS 22 typesS (HH.out _ hbq).2 (below1 w2 _).size hown0 (HH.out _ (nx hbq (below1 w2 (.cells #[] 42)))).1 (by simp; omega) (by omega)
    have HF := Lib.hid (show Below w.heap.size w w' ∧ NL B (noteL l (r1, r2, r3, r4, r5)) v' w' from ⟨hbl _ _ hbq.size (nx hbq (below1 w2 _)), by unfold noteL; rw [HE.out, if_neg (by decide)]; exact hown'.is (by decide) (HH.out _ hbq).2⟩)
    clear hown0 hown' hbl
    go_wp2
    go_ret2
    exact ⟨v', by (rw [HE.out]) <;> rfl, HF.out.1, HF.out.2⟩
  have hE2 : noteE l (r1, r2, r3, r4, r5) = if r2 ≤ la then 13 else 0 := hE
  clear hE
  by_cases hle : r2 ≤ la
  · have hd : decide (r2 ≤ la) = true := decide_eq_true hle
    have HE := Lib.hid (show noteE l (r1, r2, r3, r4, r5) = 13 by rw [hE2, if_pos hle])
    clear hE2 hmm
    go_enter Try.func8, Try.ntmps8
    go_wp2_with fail
    rw [← HV.out]
    refine (rRight_is HR (HH.out V hbV).1 hm6).mono ?_
    rintro e w1 ⟨rfl, hb1⟩
    obtain ⟨k1, k2, k3, k4⟩ := HK.out w1 hb1
    go_wp2_with fail
    refine (rRight_is HM (Is.one (T := 42) (HH.out w1 (nx hbV hb1)).2 (x := mk (r1, r2, r3, r4, r5)) (e := eS) rfl) (by simp)).mono ?_
    rintro e w2 ⟨rfl, hb2⟩
    have hb3 := nx hb1 (nx (below1 _ _) hb2)
    clear k1 k2 k3 k4
    have hK := fun u (hu : Below w2.heap.size w2 u) => HK.out u (nx hb3 hu)
    go_wp2
    refine Rg.region (by kernel_rfl) (by kernel_rfl) (by kernel_rfl) (fun _ _ d _ _ h => by cases d <;> exact h) _ rfl ?_
    repeat (first | (refine Rg.Seq.skip (by rfl) ?_; simp only [Act.put, List.setIfInBounds_toArray, List.set_cons_zero, List.set_cons_succ]) | (refine Rg.Seq.pure (v := ?_) (by rfl) ?_ ?_; rotate_left; (intro w_ hS_; have hk_ := hK w_ hS_; go_simp <;> with_reducible rfl); simp only [Act.put, List.setIfInBounds_toArray, List.set_cons_zero, List.set_cons_succ]) | (refine Rg.Seq.call (v := ?_) (f := ?_) (args := ?_) (by rfl) ?_ ?_ ?_; rotate_left 3; (intro w_ hS_; have hk_ := hK w_ hS_; go_simp <;> first | with_reducible rfl | (constructor <;> with_reducible rfl)); (intro w_ hS_; first | (go_at_call 15; refine (rLast_is HL (HH.out w_ (nx hbV (nx hb3 hS_))).1 hm6).mono ?_; rintro e w_ ⟨rfl, hb_⟩; refine ⟨?_, nx hS_ hb_⟩; with_reducible rfl)); simp only [Act.put, List.setIfInBounds_toArray, List.set_cons_zero, List.set_cons_succ]))
    intro w3 hb4
    have hbq := nx hbV (nx hb3 hb4)
    have hown0 := Own.made (e := eS) (T := 42) B w3 w3.heap.size (Nat.le_refl _)
    obtain ⟨v', w', hrun, hown', _, hbl, _⟩ := Own.append elemS 22 typesS (HH.out _ hbq).2 (below1 w3 _).size hown0 (HH.out _ (nx hbq (below1 w3 (.cells #[] 42)))).1 (by simp; omega) (by omega)
    have HF := Lib.hid (show Below w.heap.size w w' ∧ NL B (noteL l (r1, r2, r3, r4, r5)) v' w' from ⟨hbl _ _ hbq.size (nx hbq (below1 w3 _)), by unfold noteL; rw [HE.out, if_neg (by decide)]; exact hown'.is (by decide) (HH.out _ hbq).2⟩)
    clear hown0 hown' hbl
    go_wp2
    go_ret2
    exact ⟨v', by (rw [HE.out]) <;> rfl, HF.out.1, HF.out.2⟩
  · have hd : decide (r2 ≤ la) = false := decide_eq_false hle
    have HE := Lib.hid (show noteE l (r1, r2, r3, r4, r5) = 0 ∧ noteL l (r1, r2, r3, r4, r5) = put (mk (r1, r2, r3, r4, r5)) l from by
      have h0 : noteE l (r1, r2, r3, r4, r5) = 0 := by rw [hE2, if_neg hle]
      exact ⟨h0, by unfold noteL; rw [if_pos h0]⟩)
    clear hE2 hmm
    go_enter Try.func8, Try.ntmps8
    go_wp2_with fail
    rw [← HV.out]
    refine (rRight_is HR (HH.out V hbV).1 hm6).mono ?_
    rintro e w1 ⟨rfl, hb1⟩
    obtain ⟨k1, k2, k3, k4⟩ := HK.out w1 hb1
    go_wp2_with fail
    refine (rRight_is HM (Is.one (T := 42) (HH.out w1 (nx hbV hb1)).2 (x := mk (r1, r2, r3, r4, r5)) (e := eS) rfl) (by simp)).mono ?_
    rintro e w2 ⟨rfl, hb2⟩
    have hb3 := nx hb1 (nx (below1 _ _) hb2)
    clear k1 k2 k3 k4
    have hK := fun u (hu : Below w2.heap.size w2 u) => HK.out u (nx hb3 hu)
    go_wp2
    refine Rg.region (by kernel_rfl) (by kernel_rfl) (by kernel_rfl) (fun _ _ d _ _ h => by cases d <;> exact h) _ rfl ?_
    repeat (first | (refine Rg.Seq.skip (by rfl) ?_; simp only [Act.put, List.setIfInBounds_toArray, List.set_cons_zero, List.set_cons_succ]) | (refine Rg.Seq.pure (v := ?_) (by rfl) ?_ ?_; rotate_left; (intro w_ hS_; have hk_ := hK w_ hS_; go_simp <;> with_reducible rfl); simp only [Act.put, List.setIfInBounds_toArray, List.set_cons_zero, List.set_cons_succ]) | (refine Rg.Seq.call (v := ?_) (f := ?_) (args := ?_) (by rfl) ?_ ?_ ?_; rotate_left 3; (intro w_ hS_; have hk_ := hK w_ hS_; go_simp <;> first | with_reducible rfl | (constructor <;> with_reducible rfl)); (intro w_ hS_; first | (go_at_call 15; refine (rLast_is HL (HH.out w_ (nx hbV (nx hb3 hS_))).1 hm6).mono ?_; rintro e w_ ⟨rfl, hb_⟩; refine ⟨?_, nx hS_ hb_⟩; with_reducible rfl)); simp only [Act.put, List.setIfInBounds_toArray, List.set_cons_zero, List.set_cons_succ]))
    intro W hb4
    have hbW := nx hb3 hb4
    have hbw := nx hbV hbW
    have hzW : w.heap.size + 1 < W.heap.size := by have := hbW.size; omega
    have hBW := (HH.out W hbw).2
    replace HK := Lib.hid (show ∀ u, Below W.heap.size W u → row u (w.heap.size + 1) = #[.int .i64 r1, .int .i64 r2, .int .i64 r1, .int .i64 r2, .int .i64 r3, .int .i64 r4, .int .i64 r5] ∧ u.cell? ⟨w.heap.size + 1, 0, none⟩ = some (.int .i64 r1) from fun u hu => ⟨(HK.out u (nx hbW hu)).1, (HK.out u (nx hbW hu)).2.2.2⟩)
    clear hK hb1 hb2 hb3 hb4 hbW
    go_wp2
    go_loopw [7, 8, 41] (fun o d i wr => ∃ (k : Nat) (zs : List Sn) (dd : Bool), k ≤ n ∧ i = .int .i64 k ∧ d = .bool dd ∧ OwnN B W.heap.size zs o wr ∧ zs.length ≤ 2 * k ∧ zs ++ putF (mk (r1, r2, r3, r4, r5)) (l.drop k) dd = put (mk (r1, r2, r3, r4, r5)) l ∧ Below W.heap.size W wr) (fun _ _ i _ => n - (intOf i).toNat)
    case atStart => exact ⟨0, [], false, Nat.zero_le _, rfl, rfl, Own.nil _ _ _, Nat.zero_le _, rfl, Below.refl _ _⟩
    case round =>
      obtain ⟨k, zs, dd, hk, rfl, rfl, hown, hzl, hput, hb⟩ := hrel
      have HO := Lib.hid hown
      have HP := Lib.hid hput
      clear hown hput
      have hzl6 : zs.length ≤ 1000000 := by have := HN.out; omega
      by_cases hlt : k < n
      · have hlt2 : (k : Int) < n := by omega
        have hkl : k < l.length := by rw [← HN.out]; exact hlt
        have hl0 := (HH.out wr (nx hbw hb)).1
        obtain ⟨a0, c0, hv0, hel⟩ := hl0
        rcases hel with ⟨e, _⟩ | ⟨b, off, hab, hat⟩
        · rw [e] at hkl; cases hkl
        · have ha1 : a1 = some ⟨b, off, none⟩ := by rw [← hab]; cases hv0; rfl
          have hc := at7 hat k hkl
          have hb3 := hat.1
          obtain ⟨⟨x1, x2, x3, x4, x5, x6, x7⟩, hx⟩ : ∃ s, l[k] = s := ⟨_, rfl⟩
          have HX := Lib.hid (putF_step (s := mk (r1, r2, r3, r4, r5)) hkl hx HP.out)
          rw [hx] at hc
          simp only at hc
          obtain ⟨c0, c1, c2, c3, c4, c5, c6⟩ := hc
          clear hat hx hv0 hab
          subst ha1
          obtain ⟨V2, hV2⟩ : ∃ V, V = wr.alloc (.cells #[.int .i64 x1, .int .i64 x2, .int .i64 x3, .int .i64 x4, .int .i64 x5, .int .i64 x6, .int .i64 x7] 42) := ⟨_, rfl⟩
          have hbV2 : Below wr.heap.size wr V2 := hV2 ▸ below1 wr _
          have hzV2 : wr.heap.size < V2.heap.size := by rw [hV2]; simp
          have hrx : row V2 wr.heap.size = #[.int .i64 x1, .int .i64 x2, .int .i64 x3, .int .i64 x4, .int .i64 x5, .int .i64 x6, .int .i64 x7] := by rw [hV2]; simp [go_sem]
          have hsx : (row V2 wr.heap.size).size = 6 + 1 := by rw [hrx]; rfl
          have hcx : V2.cell? ⟨wr.heap.size, 0, none⟩ = some (.int .i64 x1) := by rw [cell_row _ _ _ hsx, hrx]; rfl
          have hbW2 := nx hb hbV2
          obtain ⟨hrs1, hrs2⟩ := HK.out wr hb
          have hpw : w.heap.size + 1 < wr.heap.size := by have := hb.size; omega
          have HV2 := Lib.hid hV2
          have hsz2 : (wr.alloc (.cells #[.int .i64 x1, .int .i64 x2, .int .i64 x3, .int .i64 x4, .int .i64 x5, .int .i64 x6, .int .i64 x7] 42)).heap.size = wr.heap.size + 1 := by simp
          have HO2 := Lib.hid (HO.out.stays hbV2)
          have hoo : ∀ kk, u7.ownBlock = some kk → wr.heap.size ≠ kk := fun kk hkk => by have := (own_block HO.out kk hkk).2; omega
          have hWs : W.heap.size ≤ V2.heap.size := hbW2.size
          clear hV2 hsx
          cases dd
          · by_cases h1 : r1 ≤ x1
            · by_cases h2 : x1 = r1
              · have d1 : decide (r1 ≤ x1) = true := decide_eq_true h1
                have d2 : (x1 != r1) = false := by simpa using h2
                obtain ⟨v1, w11, hrun1, hown1, hbel1, hblk1⟩ := app1 hBW hWs (HO2.out) hzl6 r1 r2 r1 r2 r3 r4 r5
                have HA1 := Lib.hid (show OwnN B W.heap.size (zs ++ [mk (r1, r2, r3, r4, r5)]) v1 w11 ∧ Below W.heap.size W w11 from ⟨hown1, hbW2.trans hbel1⟩)
                have hq11 : row w11 wr.heap.size = #[.int .i64 x1, .int .i64 x2, .int .i64 x3, .int .i64 x4, .int .i64 x5, .int .i64 x6, .int .i64 x7] := (row_eq (hblk1 _ hzV2 hoo)).trans hrx
                have hc11 : w11.cell? ⟨wr.heap.size, 0, none⟩ = some (.int .i64 x1) := by rw [cell_row (n := 6) _ _ _ (by rw [hq11]; rfl), hq11]; rfl
                obtain ⟨hs11, hs12⟩ := HK.out w11 HA1.out.2
                rw [HV2.out, hsz2] at hrun1
                have HZ := Lib.hid (show (zs ++ [mk (r1, r2, r3, r4, r5)]) ++ putF (mk (r1, r2, r3, r4, r5)) (l.drop (k + 1)) true = put (mk (r1, r2, r3, r4, r5)) l from by have := HX.out; simpa [mk, h1, h2] using this)
                clear h2 h1 hown1 hbel1 hblk1
                go_wp2
                go_roundw
                case rel => exact ⟨k + 1, _, true, by omega, by go_num, rfl, HA1.out.1, by simp; omega, HZ.out, HA1.out.2⟩
                case measure => simp [intOf]; omega
              · have d1 : decide (r1 ≤ x1) = true := decide_eq_true h1
                have d2 : (x1 != r1) = true := by simpa using h2
                obtain ⟨v1, w11, hrun1, hown1, hbel1, hblk1⟩ := app1 hBW hWs (HO2.out) hzl6 r1 r2 r1 r2 r3 r4 r5
                have HA1 := Lib.hid (show OwnN B W.heap.size (zs ++ [mk (r1, r2, r3, r4, r5)]) v1 w11 ∧ Below W.heap.size W w11 from ⟨hown1, hbW2.trans hbel1⟩)
                have hq11 : row w11 wr.heap.size = #[.int .i64 x1, .int .i64 x2, .int .i64 x3, .int .i64 x4, .int .i64 x5, .int .i64 x6, .int .i64 x7] := (row_eq (hblk1 _ hzV2 hoo)).trans hrx
                have hc11 : w11.cell? ⟨wr.heap.size, 0, none⟩ = some (.int .i64 x1) := by rw [cell_row (n := 6) _ _ _ (by rw [hq11]; rfl), hq11]; rfl
                obtain ⟨hs11, hs12⟩ := HK.out w11 HA1.out.2
                have hws1 : W.heap.size ≤ w11.heap.size := HA1.out.2.size
                rw [HV2.out, hsz2] at hrun1
                obtain ⟨v2, w12, hrun2, hown2, hbel2, hblk2⟩ := app1 hBW hws1 (HA1.out.1) (by have := hzl6; simp; have := HN.out; omega) x1 x2 x3 x4 x5 x6 x7
                have HA2 := Lib.hid (show OwnN B W.heap.size (zs ++ [mk (r1, r2, r3, r4, r5)] ++ [(x1, x2, x3, x4, x5, x6, x7)]) v2 w12 ∧ Below W.heap.size W w12 from ⟨hown2, HA1.out.2.trans hbel2⟩)
                have HZ := Lib.hid (show (zs ++ [mk (r1, r2, r3, r4, r5)] ++ [(x1, x2, x3, x4, x5, x6, x7)]) ++ putF (mk (r1, r2, r3, r4, r5)) (l.drop (k + 1)) true = put (mk (r1, r2, r3, r4, r5)) l from by have := HX.out; simpa [mk, h1, h2] using this)
                clear h2 h1 hown1 hbel1 hblk1 hown2 hbel2 hblk2
                go_wp2
                go_roundw
                case rel => exact ⟨k + 1, _, true, by omega, by go_num, rfl, HA2.out.1, by simp; omega, HZ.out, HA2.out.2⟩
                case measure => simp [intOf]; omega
            · have h2 : ¬ x1 = r1 := by omega
              have d1 : decide (r1 ≤ x1) = false := decide_eq_false h1
              have d2 : (x1 != r1) = true := by simpa using h2
              obtain ⟨v1, w11, hrun1, hown1, hbel1, hblk1⟩ := app1 hBW hWs (HO2.out) hzl6 x1 x2 x3 x4 x5 x6 x7
              have HA1 := Lib.hid (show OwnN B W.heap.size (zs ++ [(x1, x2, x3, x4, x5, x6, x7)]) v1 w11 ∧ Below W.heap.size W w11 from ⟨hown1, hbW2.trans hbel1⟩)
              rw [HV2.out, hsz2] at hrun1
              have HZ := Lib.hid (show (zs ++ [(x1, x2, x3, x4, x5, x6, x7)]) ++ putF (mk (r1, r2, r3, r4, r5)) (l.drop (k + 1)) false = put (mk (r1, r2, r3, r4, r5)) l from by have := HX.out; simpa [mk, h1, h2] using this)
              clear h2 h1 hown1 hbel1 hblk1
              go_wp2
              go_roundw
              case rel => exact ⟨k + 1, _, false, by omega, by go_num, rfl, HA1.out.1, by simp; omega, HZ.out, HA1.out.2⟩
              case measure => simp [intOf]; omega
          · by_cases h2 : x1 = r1
            · have d2 : (x1 != r1) = false := by simpa using h2
              have HZ := Lib.hid (show (zs) ++ putF (mk (r1, r2, r3, r4, r5)) (l.drop (k + 1)) true = put (mk (r1, r2, r3, r4, r5)) l from by have := HX.out; simpa [mk, h2] using this)
              clear h2  
              go_wp2
              go_roundw
              case rel => exact ⟨k + 1, zs, true, by omega, by go_num, rfl, by rw [← HV2.out]; exact HO2.out, by omega, HZ.out, by rw [← HV2.out]; exact hbW2⟩
              case measure => simp [intOf]; omega
            · have d2 : (x1 != r1) = true := by simpa using h2
              obtain ⟨v1, w11, hrun1, hown1, hbel1, hblk1⟩ := app1 hBW hWs (HO2.out) hzl6 x1 x2 x3 x4 x5 x6 x7
              have HA1 := Lib.hid (show OwnN B W.heap.size (zs ++ [(x1, x2, x3, x4, x5, x6, x7)]) v1 w11 ∧ Below W.heap.size W w11 from ⟨hown1, hbW2.trans hbel1⟩)
              rw [HV2.out, hsz2] at hrun1
              have HZ := Lib.hid (show (zs ++ [(x1, x2, x3, x4, x5, x6, x7)]) ++ putF (mk (r1, r2, r3, r4, r5)) (l.drop (k + 1)) true = put (mk (r1, r2, r3, r4, r5)) l from by have := HX.out; simpa [mk, h2] using this)
              clear h2  hown1 hbel1 hblk1
              go_wp2
              go_roundw
              case rel => exact ⟨k + 1, _, true, by omega, by go_num, rfl, HA1.out.1, by simp; omega, HZ.out, HA1.out.2⟩
              case measure => simp [intOf]; omega
      · obtain rfl : k = n := by omega
        have hp := HP.out
        rw [show l.drop k = [] by rw [HN.out, List.drop_length]] at hp
        cases dd
        · obtain ⟨hrs1, hrs2⟩ := HK.out wr hb
          obtain ⟨v1, w11, hrun1, hown1, hbel1, hblk1⟩ := app1 hBW hb.size HO.out hzl6 r1 r2 r1 r2 r3 r4 r5
          have HF := Lib.hid (show Below w.heap.size w w11 ∧ NL B (noteL l (r1, r2, r3, r4, r5)) v1 w11 from ⟨nx hbw (hb.trans hbel1), by rw [HE.out.2, ← hp]; exact hown1.is (by decide) hBW⟩)
          clear hown1 hbel1 hblk1 hp
          go_wp2
          go_ret2
          exact ⟨v1, by (rw [HE.out.1]) <;> rfl, HF.out.1, HF.out.2⟩
        · have HF := Lib.hid (show Below w.heap.size w wr ∧ NL B (noteL l (r1, r2, r3, r4, r5)) u7 wr from ⟨nx hbw hb, by rw [HE.out.2, ← hp]; simp only [putF, if_true, List.append_nil]; exact HO.out.is (by decide) hBW⟩)
          clear hp
          go_wp2
          go_ret2
          exact ⟨u7, by (rw [HE.out.1]) <;> rfl, HF.out.1, HF.out.2⟩
end Go.Proofs.Ytigoemecphilkaa.Se
