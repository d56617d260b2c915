/- Package level as it landed: Remove. -/
import Derived.Test.YtfnmmknbjfmagaaLvN
import Derived.Test.YtfnmmknbjfmagaaLvL
import Derived.Test.YtfnmmknbjfmagaaLeH
namespace Go.Proofs.Ytfnmmknbjfmagaa.Le
open Go.RowKit
set_option linter.unusedVariables false
open Go.Proofs.Ytfnmmknbjfmagaa.Rw
open Go.Proofs.Ytfnmmknbjfmagaa.Da
open Go.Proofs.Ytfnmmknbjfmagaa.Ro
theorem alt_grown {X : Nat → Prop} {w w' : World} {g : Nat} (h : w.grownBy w' (some g)) (hX : X g) : Alt X w w' :=
  ⟨h.os, h.tape, h.output, h.size, fun b hb hx => h.block b hb fun e => hx (by injection e with e; rw [e]; exact hX)⟩
theorem rows_apart {g c g2 c2 : Nat} {hs : List Hw} {os : List Od} {u : World} (h : RowF g c hs u) (k : RowO g2 c2 os u) : g ≠ g2 := by
  rintro rfl
  obtain ⟨cur, h1, _⟩ := h.ex
  obtain ⟨cur2, h2, _⟩ := k.ex
  rw [h1] at h2
  simp at h2
/-- What is so when the loop of Remove is left. -/
structure Lv9 (B : Bs) (Bo g n a0 : Nat) (L : List Lv) (hs : List Hw) (r : Option Od) (w u : World) : Prop where
  row : RowF g n hs u
  len : n = hs.length
  lvs : Mine B Bo L hs u
  bd : ∀ y ∈ hs, y.2.2.1 ≤ 1000000
  v1 : Var a0 none u
  v2 : Var (a0 + 1) r u
  low : Below w.heap.size w u
theorem Lv9.stays {B : Bs} {Bo g n a0 : Nat} {L : List Lv} {hs : List Hw} {r : Option Od} {w u u' : World} (h : Lv9 B Bo g n a0 L hs r w u) (hw : w.heap.size ≤ u.heap.size) (hb : Below u.heap.size u u') : Lv9 B Bo g n a0 L hs r w u' :=
  ⟨h.row.stays hb, h.len, h.lvs.stays hb, h.bd, h.v1.stays hb, h.v2.stays hb, h.low.trans (hb.mono hw)⟩
/-- Behind DeleteFunc. -/
theorem Lv9.done {B : Bs} {Bo g n a0 : Nat} {L : List Lv} {hs : List Hw} {r : Option Od} {w u u' : World} (hB : B.le Bo) (hG : Bo ≤ g) (hgw : w.heap.size ≤ g) (hn : n ≤ 1000000) (ha : a0 ≠ g) (h : Lv9 B Bo g n a0 L hs r w u) (hw : w.heap.size ≤ u.heap.size) (hr : RowF g n (hs.filter full) u') (hg : u.grownBy u' (some g)) :
    MyL B Bo (L.filter neL) (.slice (some ⟨g, 0, none⟩) (hs.filter full).length n) u' ∧ Var a0 none u' ∧ Below w.heap.size w u' := by
  have hk : Keeps B [31] u u' := h.row.keeps (by have := hB.1; omega) (by decide) hg
  refine ⟨⟨_, ?_, (Mine.filter hB h.lvs).keep hB hk⟩, h.v1.same (hg.block _ h.v1.lt (by simpa using ha)), h.low.grown hg hw (fun k hk => by injection hk with e; omega)⟩
  exact (Row.own (B := B) (e := fF) hr hG (by unfold maxLen; omega)).is (by decide) hB
set_option maxHeartbeats 4000000 in
theorem remove_own (B : Bs) (l : List Lv) (v : Value) (id : Int) (w : World) (h : LL B l v w) (hB : B.le w.heap.size) (hm : l.length ≤ 1000000) (hf : (flat l).length ≤ 1000000) :
    Calls Try.prog 27 #[v, .int .i64 id] w (Post3 (MyL B w.heap.size (rem l id)) (fnd (flat l) id) w) := by
  obtain ⟨B', hB'⟩ : ∃ B', B' = B.but (fun b => b = w.heap.size ∨ b = w.heap.size + 1) := ⟨_, rfl⟩
  have hup : B'.sub B := by rw [hB']; exact Bs.sub_but _ _
  have hex : ∀ b, b = w.heap.size ∨ b = w.heap.size + 1 → B'.ex b ∧ B'.lo ≤ b := by
    intro b hb
    rw [hB']
    exact ⟨.inr hb, by show B.lo ≤ b; have := hB.1; omega⟩
  have hle' : ∀ n, w.heap.size + 2 ≤ n → B'.le n := by
    intro n hn
    rw [hB']
    exact Bs.but_le (hB.mono (by omega)) (fun b hb => by omega)
  have h0 : LL B' l v w := by rw [hB']; exact Is.now eL 48 h (fun b hb => by omega)
  obtain ⟨W, hW⟩ : ∃ W, W = (w.alloc (.cells #[.int .i64 0, .int .i64 0, .int .i64 0, .int .i64 0, .int .i64 0] 31)).alloc (.cells #[.int .i64 0, .int .i64 0, .int .i64 0, .int .i64 0, .int .i64 0] 31) := ⟨_, rfl⟩
  have hbW : Below w.heap.size w W := hW ▸ below2 w _ _
  have hzW : W.heap.size = w.heap.size + 2 := by rw [hW]; simp
  have hv1 : Var w.heap.size none W := by rw [hW]; exact (Var.made w).stays (below1 _ _)
  have hv2 : Var (w.heap.size + 1) none W := by
    have := Var.made (w.alloc (.cells #[.int .i64 0, .int .i64 0, .int .i64 0, .int .i64 0, .int .i64 0] 31))
    rw [World.size_alloc] at this
    rw [hW]; exact this
  have HV1 := Lib.hid hv1
  have HV2 := Lib.hid hv2
  have HEx := Lib.hid hex
  have HUp := Lib.hid hup
  have HLW : Hid (LL B' l v W) := Lib.hid (Is.stays eL 48 h0 hbW)
  have HB2 : Hid (B'.le W.heap.size) := Lib.hid (hle' _ (by omega))
  have HW := Lib.hid hW
  have HFl := Lib.hid hf
  obtain ⟨n, hn⟩ : ∃ n, n = l.length := ⟨_, rfl⟩
  obtain ⟨rr, hrr⟩ : ∃ r, fnd (flat l) id = r := ⟨_, rfl⟩
  obtain ⟨Lr, hLr⟩ : ∃ L, rem l id = L := ⟨_, rfl⟩
  have HRr := Lib.hid hrr
  have HLr := Lib.hid hLr
  rw [hrr, hLr]
  have HN := Lib.hid hn
  clear h h0 hB hB' hup hex hle' hW hv1 hv2 hrr hLr
  go_enter Try.func27, Try.ntmps27
  go_wp2_with fail
  rw [← HW.out]
  refine (cloned_any B' l v W HLW.out HB2.out hm hf).mono ?_
  rintro e w6 ⟨_, rfl, hb6, g, hs, rfl, hg5, hhl, hrow, hmine⟩
  have hbw6 := nx hbW hb6
  have HRo := Lib.hid hrow
  have HMi := Lib.hid hmine
  have HHl := Lib.hid hhl
  rw [← hn] at hm ⊢
  clear hrow hmine hhl hn hf
  go_wp2
  go_loopw [8, 18] (fun d i wr => ∃ k : Nat, k ≤ n ∧ i = .int .i64 k ∧ d = .bool false ∧ Below w6.heap.size w6 wr ∧ NoId id l k) (fun _ i _ => n - (intOf i).toNat)
  case atStart => exact ⟨0, Nat.zero_le _, rfl, rfl, Below.refl _ _, by intro v hv; simp at hv⟩
  case round =>
    obtain ⟨k, hk, rfl, rfl, hb, hno⟩ := hrel
    have HNo := Lib.hid hno
    clear hno
    have hbw := nx hbw6 hb
    by_cases hlt : k < n
    · have hlt2 : (k : Int) < n := by omega
      have hkl : k < l.length := by rw [← HN.out]; exact hlt
      have hkh : k < hs.length := by rw [HHl.out]; exact hkl
      have hrw := HRo.out.stays hb
      have hmw := HMi.out.stays hb
      have hgz := hrw.lt
      obtain ⟨⟨yp, ya, yn, yc⟩, hy⟩ : ∃ y, hs[k]'hkh = y := ⟨_, rfl⟩
      have hgx : l[k]? = some (l[k]'hkl) := List.getElem?_eq_getElem hkl
      have hgy : hs[k]? = some (yp, ya, yn, yc) := by rw [← hy]; exact List.getElem?_eq_getElem hkh
      obtain ⟨q0, q1, _, _⟩ := rowF_at hrw hgy
      simp only [hv] at q1
      obtain ⟨hyp, hown⟩ := hmw.own k _ _ hgx hgy
      have hosl : (l[k]'hkl).2.length ≤ 1000000 := by
        have h1 := flat_take_le l (k + 1)
        rw [flat_take_snoc hkl, List.length_append] at h1
        have := HFl.out; omega
      have HO := Lib.hid hown
      have HGy := Lib.hid hgy
      have HRw := Lib.hid hrw
      have HMw := Lib.hid hmw
      have HYp := Lib.hid hyp
      clear hy hgx hgy hrw hmw hown hyp
      obtain ⟨V, hV⟩ : ∃ V, V = wr.alloc (.cells #[.int .i64 yp, .slice ya yn yc] 48) := ⟨_, rfl⟩
      have hbV : Below wr.heap.size wr V := hV ▸ below1 wr _
      have hzV : wr.heap.size < V.heap.size := by rw [hV]; simp
      have hF : ∀ u, Below V.heap.size V u → u.cell? ⟨wr.heap.size, 1, none⟩ = some (.slice ya yn yc) ∧ wr.heap.size < u.heap.size := fun u hu => by
        refine ⟨?_, Nat.lt_of_lt_of_le hzV hu.size⟩
        rw [hu.cell (p := ⟨wr.heap.size, 1, none⟩) hzV, hV]; simp [go_sem]
      have HFv := Lib.hid hF
      have HV := Lib.hid hV
      have HX : Hid (OL B' (l[k]'hkl).2 (.slice ya yn yc) V) := Lib.hid ((HO.out.stays hbV).is (by decide) HB2.out)
      clear hF hV
      obtain ⟨q, hq⟩ : ∃ q, ixD id (l[k]'hkl).2 0 = q := ⟨_, rfl⟩
      have HQ := Lib.hid hq
      clear hq
      rcases ixD_spec id (l[k]'hkl).2 0 with ⟨e1, e2⟩ | ⟨a, ha, e1, e2, e3⟩
      · have HZ := Lib.hid (HNo.out.snoc hkl e2)
        rw [HQ.out] at e1
        subst e1
        clear e2
        go_wp2_with fail
        rw [← HV.out]
        refine (indexOf_is HQ HX.out hosl).mono ?_
        rintro e w2 ⟨rfl, hb1⟩
        go_wp2
        go_roundw
        case rel => exact ⟨k + 1, by omega, by go_num, rfl, nx hb (nx hbV hb1), HZ.out⟩
        case measure => simp [intOf]; omega
      · obtain ⟨g2, cap, hgv, hBg, hcap, hro⟩ := rowO_of HO.out ha
        simp only [hv, Value.slice.injEq] at hgv
        obtain ⟨rfl, hyn, rfl⟩ := hgv
        obtain ⟨kk, hkk⟩ : ∃ kk, (l[k]'hkl).2.length = kk + 1 := ⟨(l[k]'hkl).2.length - 1, by omega⟩
        rw [hkk] at hyn
        subst hyn
        rw [HQ.out, Nat.zero_add] at e1
        subst e1
        obtain ⟨hre, hfe⟩ := remL_at hkl ha HNo.out e2 e3
        have HC2 : Hid (yc ≤ maxLen) := Lib.hid hcap
        have HKk := Lib.hid hkk
        have HRO := Lib.hid hro
        have hne := rows_apart HRw.out hro
        have hakk : a < kk + 1 := by omega
        have hakk2 : (a : Int) < (kk : Int) + 1 := by omega
        have hkk6 : kk < 1000000 := by omega
        obtain ⟨⟨o1, o2, o3, o4, o5⟩, ho⟩ : ∃ o, (l[k]'hkl).2[a]'ha = o := ⟨_, rfl⟩
        have hgo : (l[k]'hkl).2[a]? = some (o1, o2, o3, o4, o5) := by rw [← ho]; exact List.getElem?_eq_getElem ha
        rw [ho] at hfe
        have HRr2 : Hid (rr = some (o1, o2, o3, o4, o5)) := Lib.hid (by rw [← HRr.out]; exact hfe)
        have HLe : Hid ((l.set k ((l[k]'hkl).1, (l[k]'hkl).2.take a ++ (l[k]'hkl).2.drop (a + 1))).filter neL = Lr) := Lib.hid (by rw [← HLr.out]; exact hre.symm)
        have HGo := Lib.hid hgo
        clear hre hfe hcap hkk hro ho hgo e2 e3
        go_wp2_with fail
        rw [← HV.out]
        refine (indexOf_is HQ HX.out hosl).mono ?_
        rintro e w2 ⟨rfl, hb1⟩
        have hb3 := nx hbV hb1
        have hbw2 := nx hbw hb3
        obtain ⟨k0, k1⟩ := HFv.out _ hb1
        obtain ⟨s0, s1, s2, s3, s4⟩ := rowO_at (HRO.out.stays hb3) HGo.out
        have hpl := (HV2.out.stays (nx (nx hb6 hb) hb3)).plain
        have hplt := (HV2.out.stays (nx (nx hb6 hb) hb3)).lt
        have hg2l := (HRO.out.stays hb3).lt
        have hne2 : wr.heap.size ≠ w.heap.size + 1 := by have := hbw6.size; have := hb6.size; have := hb.size; omega
        obtain ⟨w3, hw3⟩ : ∃ w3, w3 = w2.setRow (w.heap.size + 1) #[.int .i64 o1, .int .i64 o2, .int .i64 o3, .int .i64 o4, .int .i64 o5] := ⟨_, rfl⟩
        have hoth : ∀ b, b ≠ w.heap.size + 1 → w3.heap[b]? = w2.heap[b]? := fun b hb => by rw [hw3]; exact setRow_other _ _ _ _ hb
        have halt : Alt (fun b => b = w.heap.size + 1) w2 w3 := by rw [hw3]; exact alt_setRow (Alt.refl (fun b => b = w.heap.size + 1) w2) (b := w.heap.size + 1) rfl _
        have hz3 : w3.heap.size = w2.heap.size := by rw [hw3]; exact setRow_size _ _ _
        have hv23 : Var (w.heap.size + 1) (some (o1, o2, o3, o4, o5)) w3 := by rw [hw3]; exact (HV2.out.stays (nx (nx hb6 hb) hb3)).set (some (o1, o2, o3, o4, o5))
        have hv13 : Var w.heap.size none w3 := (HV1.out.stays (nx (nx hb6 hb) hb3)).same (hoth _ (by omega))
        have hk3 : Keeps B' [48, 31] w2 w3 := Keeps.of_alt halt (fun b hb _ => HEx.out b (.inr hb))
        have hM3 : Mine B' W.heap.size l hs w3 := (HMw.out.stays hb3).keep HB2.out (hk3.less (by simp))
        have hR3 : RowF g n hs w3 := by rw [HN.out]; exact (HRw.out.stays hb3).block (hoth _ (by omega))
        have hO3 : RowO g2 yc (l[k]'hkl).2 w3 := (HRO.out.stays hb3).block (hoth _ (by omega))
        have hlow3 : Below w.heap.size w w3 := by rw [hw3]; exact below_setRow hbw2 (by omega) _
        have kS : (w2.setRow (w.heap.size + 1) #[.int .i64 o1, .int .i64 o2, .int .i64 o3, .int .i64 o4, .int .i64 o5]).cell? ⟨wr.heap.size, 1, none⟩ = some (.slice (some ⟨g2, 0, none⟩) (kk + 1) yc) := by
          rw [← hw3]
          exact (World.cell?_of_block (w := w2) (hoth _ hne2)).trans k0
        have HK3 := Lib.hid (show _ ∧ _ ∧ _ ∧ _ ∧ _ ∧ _ from ⟨hv23, hv13, hM3, hR3, hO3, hlow3⟩)
        have HW3 := Lib.hid hw3
        have hz3' : w.heap.size + 2 ≤ w3.heap.size := by have := hv23.lt; have := hbw2.size; have := hb6.size; omega
        clear hw3 hoth halt hk3 hv23 hv13 hM3 hR3 hO3 hlow3
        go_wp2_with fail
        rw [← HW3.out]
        refine (delete_any g2 yc kk a (l[k]'hkl).2 w3 HK3.out.2.2.2.2.1 HKk.out hakk hkk6 HC2).mono ?_
        rintro e w4 ⟨rfl, hr4, hg4⟩
        obtain ⟨hv23, hv13, hM3, hR3, hO3, hlow3⟩ := HK3.out
        have hR4 := hR3.apart hg4 hne
        have hgx : l[k]? = some (l[k]'hkl) := List.getElem?_eq_getElem hkl
        have hlen4 : ((l[k]'hkl).2.take a ++ (l[k]'hkl).2.drop (a + 1)).length = kk := by rw [List.length_append, List.length_take, List.length_drop, HKk.out]; omega
        obtain ⟨hlv5, hr5⟩ := delAtM HB2.out hM3 hgx HGy.out rfl hBg HC2.out hr4 hlen4 hg4 hR4 hg5
        obtain ⟨_, c1, _, f1⟩ := rowF_at hR4 HGy.out
        simp only [hv] at c1
        have hgr5 := setCell_grown w4 g (k * 2 + 1) (.slice (some ⟨g2, 0, none⟩) kk yc)
        have hlow4 : Below w.heap.size w w4 := hlow3.grown hg4 (by omega) (fun k hk => by injection hk with e; omega)
        have hbd5 : ∀ y ∈ hs.set k (yp, some ⟨g2, 0, none⟩, kk, yc), y.2.2.1 ≤ 1000000 := by
          intro y hy
          rcases List.mem_or_eq_of_mem_set hy with h | h
          · exact ((hM3.lvs HB2.out).bd HFl.out) y h
          · rw [h]; simp only; omega
        have hn1 : ∀ b, b ≠ g → b ≠ g2 → b < w3.heap.size → (w4.setCell ⟨g, k * 2 + 1, none⟩ (.slice (some ⟨g2, 0, none⟩) kk yc)).heap[b]? = w3.heap[b]? := fun b h1 h2 hb =>
          (hgr5.block b (Nat.lt_of_lt_of_le hb hg4.size) (by simpa using h1)).trans (hg4.block b hb (by simpa using h2))
        have HL9 : Hid (Lv9 B' W.heap.size g n w.heap.size (l.set k ((l[k]'hkl).1, (l[k]'hkl).2.take a ++ (l[k]'hkl).2.drop (a + 1))) (hs.set k (yp, some ⟨g2, 0, none⟩, kk, yc)) rr w (w4.setCell ⟨g, k * 2 + 1, none⟩ (.slice (some ⟨g2, 0, none⟩) kk yc))) :=
          Lib.hid ⟨hr5, by rw [List.length_set, HHl.out]; exact HN.out, hlv5, hbd5, hv13.same (hn1 _ (by omega) (by omega) hv13.lt), by rw [HRr2.out]; exact hv23.same (hn1 _ (by omega) (by omega) hv23.lt), hlow4.setCell (by show w.heap.size ≤ g; omega) _⟩
        have HRe : Hid (rr.isSome = true) := Lib.hid (by rw [HRr2.out]; rfl)
        obtain ⟨We, hWe⟩ : ∃ x, x = w4.setCell ⟨g, k * 2 + 1, none⟩ (.slice (some ⟨g2, 0, none⟩) kk yc) := ⟨_, rfl⟩
        have HWe := Lib.hid hWe
        have hzw : w.heap.size ≤ We.heap.size := by rw [hWe]; exact (hlow4.setCell (by show w.heap.size ≤ g; omega) _ : Below w.heap.size w _).size
        rw [← hWe] at HL9
        obtain ⟨hs9, hhs9⟩ : ∃ x, x = hs.set k (yp, some ⟨g2, 0, none⟩, kk, yc) := ⟨_, rfl⟩
        rw [← hhs9] at HL9
        have hg4z := hR4.lt
        have hgzI : (k : Int) < n := by omega
        clear hWe hhs9 hv23 hv13 hM3 hR3 hO3 hlow3 hR4 hlv5 hr5 hgr5 hlow4 hbd5 hn1 hr4 hg4 hgx hlen4
        have hg0 : w.heap.size + 2 ≤ g := by omega
        have hcs := cO_size rr
        have h1c : oneAll (.agg (cO rr)) = true := by cases rr <;> exact one5 _ _ _ _ _
        have hF : ∀ u, Alt (fun b => b = g ∨ b = w.heap.size) We u → row u (w.heap.size + 1) = cO rr := fun u hu => by
          have hv2 := HL9.out.v2
          exact (hv2.same (hu.block _ hv2.lt (by omega))).row
        go_wp2
        rw [← HWe.out]
        refine Rh.region (fun u => Alt (fun b => b = g ∨ b = w.heap.size) We u) (fun u => Below We.heap.size We u) (fun _ _ h k => h.trans (Alt.of_below k)) (fun _ _ h k => nx h k) (Alt.of_below (Below.refl _ _).drew) ((Below.refl _ _).drew) [0, 2, 3, 1, 4, 5, 6] (by kernel_rfl) (by kernel_rfl) (by kernel_rfl) (fun _ _ d _ _ h => by cases d <;> exact h) ?_
        repeat (first | (refine Rh.Steps.skip (by rfl) (by kernel_rfl) (by rfl) ?_; simp only [Act.put, List.setIfInBounds_toArray, List.set_cons_zero, List.set_cons_succ]) | (refine Rh.Steps.pure (v := ?_) (by rfl) (by kernel_rfl) (by rfl) ?_ ?_; rotate_left; (intro w_ hS_; have hk_ := hF w_ hS_; go_simp <;> with_reducible rfl); simp only [Act.put, List.setIfInBounds_toArray, List.set_cons_zero, List.set_cons_succ]))
        refine Rh.Steps.forced (i := 1) (by kernel_rfl) ?_
        refine Rh.One.callw (fun v u => v = .slice (some ⟨g, 0, none⟩) (hs9.filter full).length n ∧ MyL B' W.heap.size Lr v u ∧ Var w.heap.size none u ∧ Below w.heap.size w u) (fun v _ _ h k => ⟨h.1, h.2.1.stays k, h.2.2.1.stays k, nx h.2.2.2 k⟩) (f := ?_) (args := ?_) (by rfl) (by rfl) ?_ ?_ ?_
        rotate_left 2
        · intro w_ hS_ hG_; go_simp <;> first | with_reducible rfl | (constructor <;> with_reducible rfl)
        · intro w_ hS_ hG_
          have h9 := HL9.out.stays hzw hG_
          go_at_call 55
          refine (deleteFunc_any g n hs9 w_ h9.row h9.len hm h9.bd).mono ?_
          rintro e w' ⟨rfl, hr', hg'⟩
          obtain ⟨k1, k2, k3⟩ := Lv9.done HB2.out hg5 (by omega) hm (by omega) h9 (Nat.le_trans hzw hG_.size) hr' hg'
          exact ⟨_, rfl, hS_.trans (alt_grown hg' (.inl rfl)), rfl, by rw [← HLe.out]; exact k1, k2, k3⟩
        rintro v4 u5 ⟨rfl, hv4⟩
        simp only [Act.put, List.setIfInBounds_toArray, List.set_cons_zero, List.set_cons_succ]
        repeat (first | (refine Rh.Steps.skip (by rfl) (by kernel_rfl) (by rfl) ?_; simp only [Act.put, List.setIfInBounds_toArray, List.set_cons_zero, List.set_cons_succ]) | (refine Rh.Steps.pure (v := ?_) (by rfl) (by kernel_rfl) (by rfl) ?_ ?_; rotate_left; (intro w_ hS_; have hk_ := hF w_ hS_; go_simp <;> with_reducible rfl); simp only [Act.put, List.setIfInBounds_toArray, List.set_cons_zero, List.set_cons_succ]))
        refine Rh.Steps.forced (i := 5) (by kernel_rfl) ?_
        refine Rh.One.store (fun u => MyL B' W.heap.size Lr (.slice (some ⟨g, 0, none⟩) (hs9.filter full).length n) u ∧ Var w.heap.size rr u ∧ Below w.heap.size w u) (fun _ _ h k => ⟨h.1.stays k, h.2.1.stays k, nx h.2.2 k⟩) (by rfl) (by rfl) ?_ ?_
        · intro w_ hS_ hG_
          have hpl := hG_.2.2.1.plain
          have hlt := hG_.2.2.1.lt
          have ha := alt_setRow (Alt.refl (fun b => b = w.heap.size) w_) (b := w.heap.size) rfl (cO rr)
          refine ⟨w_.setRow w.heap.size (cO rr), ?_, alt_setRow hS_ (.inr rfl) _, hG_.2.1.keep HB2.out (Keeps.of_alt ha (fun b hb _ => HEx.out b (.inl hb))), hG_.2.2.1.set rr, below_setRow hG_.2.2.2 (Nat.le_refl _) _⟩
          go_simp
        simp only [Act.put]
        repeat (first | (refine Rh.Steps.skip (by rfl) (by kernel_rfl) (by rfl) ?_; simp only [Act.put, List.setIfInBounds_toArray, List.set_cons_zero, List.set_cons_succ]) | (refine Rh.Steps.pure (v := ?_) (by rfl) (by kernel_rfl) (by rfl) ?_ ?_; rotate_left; (intro w_ hS_; have hk_ := hF w_ hS_; go_simp <;> with_reducible rfl); simp only [Act.put, List.setIfInBounds_toArray, List.set_cons_zero, List.set_cons_succ]))
        refine Rh.Steps.nil (by kernel_rfl) ?_
        intro w9 _ hG9
        have HG := Lib.hid hG9
        clear hG9
        go_wp2
        refine bodyPost_ret (v := .tuple #[.slice (some ⟨g, 0, none⟩) (hs9.filter full).length n, .agg (cO rr), .bool true]) (ret_OM Try.results27 _ _ hcs ?c2) rfl ⟨_, by rw [HRe.out], HG.out.2.2, HG.out.1.up HUp.out (by omega)⟩
        case c2 => exact HG.out.2.1.row
    · obtain rfl : k = n := by omega
      have hnol := HNo.out
      unfold NoId at hnol
      rw [HN.out, List.take_length] at hnol
      obtain ⟨hre, hfe⟩ := remL_no hnol
      have HL9 : Hid (Lv9 B' W.heap.size g k w.heap.size l hs rr w wr) := Lib.hid ⟨HRo.out.stays hb |> (HN.out ▸ ·), by rw [HHl.out]; exact HN.out, HMi.out.stays hb, ((HMi.out.stays hb).lvs HB2.out).bd HFl.out, HV1.out.stays (nx hb6 hb), by rw [← HRr.out, hfe]; exact HV2.out.stays (nx hb6 hb), hbw⟩
      have HLe : Hid (l.filter neL = Lr) := Lib.hid (by rw [← HLr.out]; exact hre.symm)
      have HRe : Hid (rr = none) := Lib.hid (by rw [← HRr.out]; exact hfe)
      clear hnol hre hfe hlt
      obtain ⟨We, hWe⟩ : ∃ x, x = wr := ⟨_, rfl⟩
      have hzw : w.heap.size ≤ We.heap.size := by rw [hWe]; exact hbw.size
      rw [← hWe] at HL9 ⊢
      clear hWe
      have hg0 : w.heap.size + 2 ≤ g := by omega
      have hcs := cO_size rr
      have h1c : oneAll (.agg (cO rr)) = true := by cases rr <;> exact one5 _ _ _ _ _
      have hF : ∀ u, Alt (fun b => b = g ∨ b = w.heap.size) We u → row u (w.heap.size + 1) = cO rr := fun u hu => by
        have hv2 := HL9.out.v2
        exact (hv2.same (hu.block _ hv2.lt (by omega))).row
      go_wp2
      refine Rh.region (fun u => Alt (fun b => b = g ∨ b = w.heap.size) We u) (fun u => Below We.heap.size We u) (fun _ _ h k => h.trans (Alt.of_below k)) (fun _ _ h k => nx h k) (Alt.of_below (Below.refl _ _).drew) ((Below.refl _ _).drew) [0, 2, 3, 1, 4, 5, 6] (by kernel_rfl) (by kernel_rfl) (by kernel_rfl) (fun _ _ d _ _ h => by cases d <;> exact h) ?_
      repeat (first | (refine Rh.Steps.skip (by rfl) (by kernel_rfl) (by rfl) ?_; simp only [Act.put, List.setIfInBounds_toArray, List.set_cons_zero, List.set_cons_succ]) | (refine Rh.Steps.pure (v := ?_) (by rfl) (by kernel_rfl) (by rfl) ?_ ?_; rotate_left; (intro w_ hS_; have hk_ := hF w_ hS_; go_simp <;> with_reducible rfl); simp only [Act.put, List.setIfInBounds_toArray, List.set_cons_zero, List.set_cons_succ]))
      refine Rh.Steps.forced (i := 1) (by kernel_rfl) ?_
      refine Rh.One.callw (fun v u => v = .slice (some ⟨g, 0, none⟩) (hs.filter full).length k ∧ MyL B' W.heap.size Lr v u ∧ Var w.heap.size none u ∧ Below w.heap.size w u) (fun v _ _ h k => ⟨h.1, h.2.1.stays k, h.2.2.1.stays k, nx h.2.2.2 k⟩) (f := ?_) (args := ?_) (by rfl) (by rfl) ?_ ?_ ?_
      rotate_left 2
      · intro w_ hS_ hG_; go_simp <;> first | with_reducible rfl | (constructor <;> with_reducible rfl)
      · intro w_ hS_ hG_
        have h9 := HL9.out.stays hzw hG_
        go_at_call 55
        refine (deleteFunc_any g k hs w_ h9.row h9.len hm h9.bd).mono ?_
        rintro e w' ⟨rfl, hr', hg'⟩
        obtain ⟨k1, k2, k3⟩ := Lv9.done HB2.out hg5 (by omega) hm (by omega) h9 (Nat.le_trans hzw hG_.size) hr' hg'
        exact ⟨_, rfl, hS_.trans (alt_grown hg' (.inl rfl)), rfl, by rw [← HLe.out]; exact k1, k2, k3⟩
      rintro v4 u5 ⟨rfl, hv4⟩
      simp only [Act.put, List.setIfInBounds_toArray, List.set_cons_zero, List.set_cons_succ]
      repeat (first | (refine Rh.Steps.skip (by rfl) (by kernel_rfl) (by rfl) ?_; simp only [Act.put, List.setIfInBounds_toArray, List.set_cons_zero, List.set_cons_succ]) | (refine Rh.Steps.pure (v := ?_) (by rfl) (by kernel_rfl) (by rfl) ?_ ?_; rotate_left; (intro w_ hS_; have hk_ := hF w_ hS_; go_simp <;> with_reducible rfl); simp only [Act.put, List.setIfInBounds_toArray, List.set_cons_zero, List.set_cons_succ]))
      refine Rh.Steps.forced (i := 5) (by kernel_rfl) ?_
      refine Rh.One.store (fun u => MyL B' W.heap.size Lr (.slice (some ⟨g, 0, none⟩) (hs.filter full).length k) u ∧ Var w.heap.size rr u ∧ Below w.heap.size w u) (fun _ _ h k => ⟨h.1.stays k, h.2.1.stays k, nx h.2.2 k⟩) (by rfl) (by rfl) ?_ ?_
      · intro w_ hS_ hG_
        have hpl := hG_.2.2.1.plain
        have hlt := hG_.2.2.1.lt
        have ha := alt_setRow (Alt.refl (fun b => b = w.heap.size) w_) (b := w.heap.size) rfl (cO rr)
        refine ⟨w_.setRow w.heap.size (cO rr), ?_, alt_setRow hS_ (.inr rfl) _, hG_.2.1.keep HB2.out (Keeps.of_alt ha (fun b hb _ => HEx.out b (.inl hb))), hG_.2.2.1.set rr, below_setRow hG_.2.2.2 (Nat.le_refl _) _⟩
        go_simp
      simp only [Act.put]
      repeat (first | (refine Rh.Steps.skip (by rfl) (by kernel_rfl) (by rfl) ?_; simp only [Act.put, List.setIfInBounds_toArray, List.set_cons_zero, List.set_cons_succ]) | (refine Rh.Steps.pure (v := ?_) (by rfl) (by kernel_rfl) (by rfl) ?_ ?_; rotate_left; (intro w_ hS_; have hk_ := hF w_ hS_; go_simp <;> with_reducible rfl); simp only [Act.put, List.setIfInBounds_toArray, List.set_cons_zero, List.set_cons_succ]))
      refine Rh.Steps.nil (by kernel_rfl) ?_
      intro w9 _ hG9
      have HG := Lib.hid hG9
      clear hG9
      go_wp2
      refine bodyPost_ret (v := .tuple #[.slice (some ⟨g, 0, none⟩) (hs.filter full).length k, .agg (cO rr), .bool false]) (ret_OM Try.results27 _ _ hcs ?c1) rfl ⟨_, by rw [HRe.out]; rfl, HG.out.2.2, HG.out.1.up HUp.out (by omega)⟩
      case c1 => exact HG.out.2.1.row
theorem remove_big (B : Bs) (l : List Lv) (v : Value) (id : Int) (w : World) (h : LL B l v w) (hB : B.le w.heap.size) (hm : l.length ≤ 1000000) (hf : (flat l).length ≤ 1000000) :
    Calls Try.prog 27 #[v, .int .i64 id] w (Post3 (LL B (rem l id)) (fnd (flat l) id) w) :=
  (remove_own B l v id w h hB hm hf).mono fun e w' he => by
    obtain ⟨t, h1, h2, h3⟩ := he
    exact ⟨t, h1, h2, h3.ll hB⟩
end Go.Proofs.Ytfnmmknbjfmagaa.Le
