/- The document's own Remove, with what it says of the rows. -/
import Derived.Test.YtfnmmknbjfmagaaLeK
namespace Go.Proofs.Ytfnmmknbjfmagaa.Le
open Go.RowKit
set_option linter.unusedVariables false
open Go.Proofs.Ytfnmmknbjfmagaa.Rw
open Go.Proofs.Ytfnmmknbjfmagaa.Da
set_option maxHeartbeats 4000000 in
theorem rRemove2_any (B : Bs) (l : List Lv) (v : Value) (id : Int) (w : World) (h : LL B l v w) (hB : B.le w.heap.size) (hm : l.length ≤ 1000000) (hf : (flat l).length ≤ 1000000) :
    Calls Try.prog 30 #[v, .int .i64 id] w (Post3 (fun v u => ∃ hs, Is eF 48 B hs v u ∧ Mine B w.heap.size (rem l id) hs u) (fnd (flat l) id) w) := by
  obtain ⟨W, hW⟩ : ∃ W, W = (w.alloc (.cells #[.int .i64 0, .int .i64 0, .int .i64 0, .int .i64 0, .int .i64 0] 31)).alloc (.cells #[.int .i64 0, .int .i64 0, .int .i64 0, .int .i64 0, .int .i64 0] 31) := ⟨_, rfl⟩
  have hbW : Below w.heap.size w W := hW ▸ below2 w _ _
  have hzW : W.heap.size = w.heap.size + 2 := by rw [hW]; simp
  have hv1 : Var w.heap.size none W := by rw [hW]; exact (Var.made w).stays (below1 _ _)
  have hv2 : Var (w.heap.size + 1) none W := by
    have := Var.made (w.alloc (.cells #[.int .i64 0, .int .i64 0, .int .i64 0, .int .i64 0, .int .i64 0] 31))
    rw [World.size_alloc] at this
    rw [hW]; exact this
  obtain ⟨B', hB'⟩ : ∃ B', B' = B.but (fun b => b = w.heap.size ∨ b = w.heap.size + 1) := ⟨_, rfl⟩
  have hle : B'.le (w.heap.size + 2) := by rw [hB']; exact Bs.but_le (hB.mono (by omega)) (fun b hb => by omega)
  have hnow : LL B' l v W := by rw [hB']; exact Is.stays eL 48 (Is.now eL 48 h (fun b hb => by omega)) hbW
  have hsub : B'.sub B := by rw [hB']; exact Bs.sub_but _ _
  have hex : ∀ b, b = w.heap.size ∨ b = w.heap.size + 1 → B'.ex b ∧ B'.lo ≤ b := fun b hb => by rw [hB']; exact ⟨.inr hb, by have := hB.1; show B.lo ≤ b; omega⟩
  have HLe := Lib.hid hle
  have HSub := Lib.hid hsub
  have HEx := Lib.hid hex
  have HV1 := Lib.hid hv1
  have HV2 := Lib.hid hv2
  have HFl := Lib.hid hf
  have HW := Lib.hid hW
  obtain ⟨a1, c1, rfl, h1⟩ := hnow
  have HA := Lib.hid h1
  obtain ⟨n, hn⟩ : ∃ n, n = l.length := ⟨_, rfl⟩
  rw [← hn] at hm ⊢
  have HN := Lib.hid hn
  obtain ⟨r, hr⟩ : ∃ r, fnd (flat l) id = r := ⟨_, rfl⟩
  rw [hr]
  have HR := Lib.hid hr
  clear hle hsub hex hv1 hv2 hf hW h1 hn hr hB' h
  go_enter Try.func30, Try.ntmps30
  go_wp2
  rw [← HW.out]
  go_loopw [7, 9, 17] (fun t f i wr => ∃ k : Nat, k ≤ n ∧ i = .int .i64 k ∧ f = .bool ((flat (l.take k)).any (hasId id)) ∧ Alt (fun b => b = w.heap.size + 1) W wr ∧ (∃ hs, OwnF B' (w.heap.size + 2) hs t wr ∧ Mine B' (w.heap.size + 2) (remL id (l.take k) false) hs wr) ∧ Var (w.heap.size + 1) (fnd (flat (l.take k)) id) wr ∧ Var w.heap.size none wr) (fun _ _ i _ => n - (intOf i).toNat)
  case atStart => exact ⟨0, Nat.zero_le _, rfl, rfl, Alt.refl _ _, ⟨[], Own.nil _ _ _, Mine.nil _ _ _⟩, HV2.out, HV1.out⟩
  case round =>
    obtain ⟨wo, rfl⟩ : ∃ wo : World, wo = wr := ⟨_, rfl⟩
    obtain ⟨k, hk, rfl, rfl, hal, ⟨hs, hown, hmine⟩, hvg, hvr⟩ := hrel
    have HO := Lib.hid hown
    have HMi := Lib.hid hmine
    clear hmine
    have HVg := Lib.hid hvg
    have HVr := Lib.hid hvr
    have HAl := Lib.hid hal
    have hszo : w.heap.size + 2 ≤ wo.heap.size := by have := hal.size; omega
    have HBo : Hid (Below w.heap.size w wo) := Lib.hid (Alt.below hbW hal (by omega) (fun b hb => by omega))
    clear hown hvg hvr
    by_cases hlt : k < n
    · have hlt2 : (k : Int) < n := by omega
      have hkl : k < l.length := by rw [← HN.out]; exact hlt
      rcases HA.out with ⟨e, _⟩ | ⟨b, off, rfl, hat0⟩
      · rw [e] at hkl; cases hkl
      have hat := Lies.keep eL 48 hat0 (Keeps.of_alt hal (fun b hb _ => HEx.out b (.inr hb)))
      obtain ⟨x, q0, q1, hx⟩ := atL hat k hkl
      have hbb := hat.1
      obtain ⟨a2, c2, rfl⟩ := hx.len
      have hle := flat_take_le l (k + 1)
      have hfs := flat_take_snoc hkl
      have hrs := remL_snoc id l[k] (l.take k) false
      rw [← take_all hkl, Bool.false_or] at hrs
      rw [hfs, List.length_append] at hle
      obtain ⟨⟨pr, os⟩, hlk⟩ : ∃ y, l[k] = y := ⟨_, rfl⟩
      rw [hlk] at q0 q1 hle hx hfs hrs
      simp only at q0 q1 hle hx hfs hrs
      have HFs := Lib.hid hfs
      have HRs := Lib.hid hrs
      have HX0 := Lib.hid hx
      have hosl : os.length ≤ 1000000 := by have := HFl.out; omega
      obtain ⟨V, hV⟩ : ∃ V, V = (wo.alloc (.cells #[.int .i64 pr, .slice a2 os.length c2] 48)).alloc (.cells #[.int .i64 pr, .slice none 0 0] 48) := ⟨_, rfl⟩
      have hbV : Below wo.heap.size wo V := hV ▸ below2 wo _ _
      have hzV : V.heap.size = wo.heap.size + 2 := by rw [hV]; simp
      have hbox : V.heap[wo.heap.size + 1]? = some (.cells #[.int .i64 pr, .slice none 0 0] 48 (0, 0)) := by
        have := heap_alloc_new (wo.alloc (.cells #[.int .i64 pr, .slice a2 os.length c2] 48)) (.cells #[.int .i64 pr, .slice none 0 0] 48)
        rw [World.size_alloc] at this
        rw [hV]; exact this
      have HBox := Lib.hid hbox
      have HVV := Lib.hid hV
      have HG1 : Hid (Var (w.heap.size + 1) (fnd (flat (l.take k)) id) V) := Lib.hid (HVg.out.stays hbV)
      have HR1 : Hid (Var w.heap.size none V) := Lib.hid (HVr.out.stays hbV)
      obtain ⟨d0, hd0⟩ : ∃ d0, (flat (l.take k)).any (hasId id) = d0 := ⟨_, rfl⟩
      rw [hd0]
      have HD0 := Lib.hid hd0
      clear hbox hV hle hx hlk hat hat0 hfs hrs hd0
      go_wp2
      rw [← HVV.out]
      go_loopw [9, 27] (fun f i wr => ∃ j : Nat, j ≤ os.length ∧ i = .int .i64 j ∧ f = .bool (d0 || (os.take j).any (hasId id)) ∧ Alt (fun b => b = w.heap.size + 1) wo wr ∧ Var (w.heap.size + 1) (fnd (flat (l.take k) ++ os.take j) id) wr ∧ Var w.heap.size none wr ∧
        ∃ x, wr.heap[wo.heap.size + 1]? = some (.cells #[.int .i64 pr, x] 48 (0, 0)) ∧ OwnO B' (wo.heap.size + 2) (remO id (os.take j) d0) x wr) (fun _ i _ => os.length - (intOf i).toNat)
      case atStart => exact ⟨0, Nat.zero_le _, rfl, by simp, Alt.of_below hbV, by simpa using HG1.out, HR1.out, _, HBox.out, Own.nil _ _ _⟩
      case round =>
        obtain ⟨wi, rfl⟩ : ∃ wi : World, wi = wr := ⟨_, rfl⟩
        obtain ⟨j, hj, rfl, rfl, hai, hgi, hri, x, hbx, hox⟩ := hrel
        obtain ⟨fl, hfl⟩ : ∃ fl, (d0 || (os.take j).any (hasId id)) = fl := ⟨_, rfl⟩
        rw [hfl]
        have hle2 : B'.le (wo.heap.size + 2) := HLe.out.mono (by omega)
        have hzi : wo.heap.size + 1 < wi.heap.size := (Array.getElem?_eq_some_iff.1 hbx).1
        obtain ⟨a3, c3, hx3⟩ := (hox.is (by decide) hle2).len
        subst hx3
        have hga : (flat (l.take k) ++ os.take j).any (hasId id) = fl := by rw [List.any_append, HD0.out]; exact hfl
        have k0 : wi.cell? ⟨wo.heap.size + 1, 0, none⟩ = some (.int .i64 pr) := by simp [World.cell?, hbx]
        have k1 : wi.cell? ⟨wo.heap.size + 1, 1, none⟩ = some (.slice a3 (remO id (os.take j) d0).length c3) := by simp [World.cell?, hbx]
        by_cases hjm : j < os.length
        · have hjm2 : (j : Int) < os.length := by omega
          have hol := Is.keep eO 31 HX0.out (Keeps.of_alt hai (fun b hb _ => HEx.out b (.inr hb)))
          rcases hol.cases with ⟨e, _⟩ | ⟨_, b2, off2, cc, e, hat2⟩
          · rw [e] at hjm; cases hjm
          simp only [Value.slice.injEq] at e
          obtain ⟨rfl, _, rfl⟩ := e
          have hbb2 := hat2.1
          obtain ⟨⟨o1, o2, o3, o4, o5⟩, ho⟩ : ∃ o, os[j] = o := ⟨_, rfl⟩
          have hc5 := at5 hat2 j hjm
          rw [ho] at hc5
          simp only at hc5
          obtain ⟨z0, z1, z2, z3, z4⟩ := hc5
          have hts : os.take (j + 1) = os.take j ++ [(o1, o2, o3, o4, o5)] := by rw [Da.take_snoc hjm, ho]
          have hfn := fnd_snoc (flat (l.take k) ++ os.take j) (o1, o2, o3, o4, o5) id
          have hro := remO_snoc id (o1, o2, o3, o4, o5) (os.take j) d0
          rw [List.append_assoc, ← hts, hga] at hfn
          rw [← hts, hfl] at hro
          have hfa : (d0 || (os.take (j + 1)).any (hasId id)) = (fl || hasId id (o1, o2, o3, o4, o5)) := by rw [hts, List.any_append, ← Bool.or_assoc, hfl]; simp
          have hpg : plain 5 wi (w.heap.size + 1) = true := hgi.plain
          have hzg : w.heap.size + 1 < wi.heap.size := hgi.lt
          have HGi := Lib.hid hgi
          have HRi := Lib.hid hri
          have HAi := Lib.hid hai
          have HBx := Lib.hid hbx
          have HOx := Lib.hid hox
          have HFn := Lib.hid hfn
          have HRo := Lib.hid hro
          have HFa := Lib.hid hfa
          have HGa := Lib.hid hga
          clear ho hat2 hol hts hfn hro hfa hgi hri hai hbx hox hga hfl
          by_cases hway : o1 = id ∧ fl = false
          · obtain ⟨he, rfl⟩ := hway
            have hd : (o1 == id) = true := by simpa using he
            have hh : hasId id (o1, o2, o3, o4, o5) = true := hd
            have HHh := Lib.hid hh
            clear he k0 k1 hh
            have HRel := Lib.hid (roundA (B' := B') (pr := pr) (Bo := wo.heap.size + 2) (o := (o1, o2, o3, o4, o5)) HAi.out HGi.out HRi.out HBx.out HOx.out hle2 (by omega) hzi (by have := hal.size; omega) (HEx.out _ (.inr rfl)))
            go_wp2
            go_roundw
            case rel => exact ⟨j + 1, by omega, by go_num, by rw [HFa.out, HHh.out]; rfl, HRel.out.1, by rw [HFn.out, HHh.out]; exact HRel.out.2.1, HRel.out.2.2.1, _, HRel.out.2.2.2.1, by rw [HRo.out, HHh.out, show (true && !false) = true from rfl, if_pos rfl, List.append_nil]; exact HRel.out.2.2.2.2⟩
            case measure => simp [intOf]; omega
          · obtain ⟨U, hU⟩ : ∃ U, U = wi.alloc (.cells #[.int .i64 o1, .int .i64 o2, .int .i64 o3, .int .i64 o4, .int .i64 o5] 31) := ⟨_, rfl⟩
            have hbU : Below wi.heap.size wi U := hU ▸ below1 wi _
            have hzU : U.heap.size = wi.heap.size + 1 := by rw [hU]; simp
            obtain ⟨V2, hV2⟩ : ∃ V2, V2 = U.alloc (.cells #[.int .i64 o1, .int .i64 o2, .int .i64 o3, .int .i64 o4, .int .i64 o5] 31) := ⟨_, rfl⟩
            have hbV2 : Below U.heap.size U V2 := hV2 ▸ below1 U _
            have hzV2 : V2.heap.size = wi.heap.size + 2 := by rw [hV2]; simp; omega
            have hbUV := nx hbU hbV2
            have hrm := remO_len id (os.take j) d0
            rw [List.length_take] at hrm
            have hsrc : Is eO 31 B' [(o1, o2, o3, o4, o5)] (.slice (some ⟨U.heap.size, 0, none⟩) 1 1) V2 := by
              rw [hV2]; exact Is.one (e := eO) (T := 31) (B := B') (x := (o1, o2, o3, o4, o5)) (cs := [.int .i64 o1, .int .i64 o2, .int .i64 o3, .int .i64 o4, .int .i64 o5]) (w := U) (hle2.mono (by omega)) rfl
            obtain ⟨v6, w6, hrun, hown6, _, hbl, _⟩ := Own.append elemO 46 typesO hle2 (by omega) (HOx.out.stays hbUV) hsrc (by simp; omega) (by omega)
            obtain ⟨a6, n6, c7, rfl⟩ : ∃ a n c, v6 = .slice a n c := by obtain ⟨a, c, h⟩ := (hown6.is (by decide) hle2).len; exact ⟨a, _, c, h⟩
            have hlow : Below (wo.heap.size + 2) wi w6 := (hbUV.mono (by omega)).trans (hbl _ V2 (Nat.le_refl _) (Below.refl _ _))
            have hbx6 : w6.heap[wo.heap.size + 1]? = some (.cells #[.int .i64 pr, .slice a3 (remO id (os.take j) d0).length c3] 48 (0, 0)) := (hlow.block _ (by omega)).trans HBx.out
            have hlo := HLe.out.1
            have HRel := Lib.hid (roundB (B' := B') (Bo := wo.heap.size + 2) HAi.out HGi.out HRi.out hbx6 hown6 hlow hle2 (by omega) (by omega))
            have c6 : w6.cell? ⟨wo.heap.size + 1, 1, none⟩ = some (.slice a3 (remO id (os.take j) d0).length c3) := by simp [World.cell?, hbx6]
            have f6 : w6.frozen? ⟨wo.heap.size + 1, 1, none⟩ = false := by simp [World.frozen?, hbx6]
            have HNw : Hid ((hasId id (o1, o2, o3, o4, o5) && !fl) = false) := Lib.hid (by
              cases hc : (hasId id (o1, o2, o3, o4, o5) && !fl)
              · rfl
              · exfalso; apply hway; simp [hasId] at hc; exact hc)
            rw [hU] at hV2
            rw [hV2] at hrun
            rw [hU, World.size_alloc] at hrun
            clear hU hV2 hbU hzU hbV2 hzV2 hbUV hrm hsrc hown6 hbl hlow hbx6 hlo
            by_cases he : o1 = id
            · have hd : (o1 == id) = true := by simpa using he
              have hfl : fl = true := by
                cases fl
                · exact absurd ⟨he, rfl⟩ hway
                · rfl
              subst hfl
              clear hway he
              go_wp2
              go_roundw
              case rel => exact ⟨j + 1, by omega, by go_num, by rw [HFa.out]; rfl, HRel.out.1, by rw [HFn.out, if_pos rfl]; exact HRel.out.2.1, HRel.out.2.2.1, _, HRel.out.2.2.2.1, by rw [HRo.out, HNw.out, if_neg (by decide)]; exact HRel.out.2.2.2.2⟩
              case measure => simp [intOf]; omega
            · have hd : (o1 == id) = false := by simpa using he
              have hh : Hid (hasId id (o1, o2, o3, o4, o5) = false) := Lib.hid hd
              have HF2 : Hid (fnd (flat (l.take k) ++ os.take (j + 1)) id = fnd (flat (l.take k) ++ os.take j) id) := Lib.hid (by
                rw [HFn.out, hh.out]
                have ha := any_some (flat (l.take k) ++ os.take j) id
                rw [HGa.out] at ha
                cases fl
                · rw [if_neg (by decide), if_neg (by decide)]
                  exact (Option.not_isSome_iff_eq_none.1 (by rw [← ha]; decide)).symm
                · rw [if_pos rfl])
              clear hway he
              go_wp2
              go_roundw
              case rel => exact ⟨j + 1, by omega, by go_num, by rw [HFa.out, hh.out, Bool.or_false], HRel.out.1, by rw [HF2.out]; exact HRel.out.2.1, HRel.out.2.2.1, _, HRel.out.2.2.2.1, by rw [HRo.out, HNw.out, if_neg (by decide)]; exact HRel.out.2.2.2.2⟩
              case measure => simp [intOf]; omega
        · obtain rfl : j = os.length := by omega
          rw [List.take_length] at hgi hfl hox hga k1 hbx
          have hls := Own.keep (HLe.out.mono (Nat.le_refl _)) HO.out (Keeps.of_alt hai (fun b hb _ => HEx.out b (.inr hb)))
          have hmi := Mine.keep HLe.out HMi.out (Keeps.of_alt hai (fun b hb _ => HEx.out b (.inr hb)))
          have hsl := HMi.out.len
          have hg9 : Var (w.heap.size + 1) (fnd (flat (l.take (k + 1))) id) wi := by rw [HFs.out]; exact hgi
          have hrl := remL_len id (l.take k) false
          rw [List.length_take] at hrl
          have hf9 : Hid (((flat (l.take (k + 1))).any (hasId id)) = fl) := Lib.hid (by rw [HFs.out]; exact hga)
          have ha9 := HAl.out.trans hai
          obtain ⟨L, hL⟩ : ∃ L, remO id os d0 = L := ⟨_, rfl⟩
          have HRs2 := HRs.out
          unfold remS at HRs2
          rw [HD0.out] at HRs2
          simp only at HRs2
          rw [hL] at hox k1 hbx HRs2
          obtain ⟨n3, hn3⟩ : ∃ n3, L.length = n3 := ⟨_, rfl⟩
          rw [hn3] at k1 hbx hox
          by_cases hz : L = []
          · rw [if_pos hz, List.append_nil] at HRs2
            subst hz
            obtain rfl : 0 = n3 := hn3
            have HRel := Lib.hid (show _ ∧ (∃ hs, OwnF B' (w.heap.size + 2) hs u7 wi ∧ Mine B' (w.heap.size + 2) (remL id (l.take (k + 1)) false) hs wi) ∧ _ ∧ _ from ⟨ha9, ⟨hs, hls, by rw [HRs2]; exact hmi⟩, hg9, hri⟩)
            clear hls hmi hg9 hrl ha9 HRs2 hL hox hbx hgi hri hai hfl hga
            go_wp2
            go_roundw
            case rel => exact ⟨k + 1, by omega, by go_num, by rw [hf9.out], HRel.out.1, HRel.out.2.1, HRel.out.2.2.1, HRel.out.2.2.2⟩
            case measure => simp [intOf]; omega
          · rw [if_neg hz] at HRs2
            have hp3 : 0 < n3 := by rw [← hn3]; exact List.length_pos_iff.2 hz
            have hp4 : (0 : Int) < n3 := by omega
            obtain ⟨U, hU⟩ : ∃ U, U = wi.alloc (.cells #[.int .i64 pr, .slice a3 n3 c3] 48) := ⟨_, rfl⟩
            have hbU : Below wi.heap.size wi U := hU ▸ below1 wi _
            have hzU : U.heap.size = wi.heap.size + 1 := by rw [hU]; simp
            have hsrc : Is eF 48 B' [(pr, a3, n3, c3)] (.slice (some ⟨wi.heap.size, 0, none⟩) 1 1) U := by
              rw [hU]; exact Is.one (e := eF) (T := 48) (B := B') (x := (pr, a3, n3, c3)) (cs := [.int .i64 pr, .slice a3 n3 c3]) (w := wi) (HLe.out.mono (by omega)) rfl
            obtain ⟨v8, w8, hrun, hown8, _, hbl, hkp⟩ := Own.append elemF 24 typesF HLe.out (by omega) (hls.stays hbU) hsrc (by simp only [List.length_singleton]; omega) (by omega)
            have hk8 := hkp [31] (by decide)
            have hm8 : Mine B' (w.heap.size + 2) (remL id (l.take k) false ++ [(pr, L)]) (hs ++ [(pr, a3, n3, c3)]) w8 := Mine.snoc ((hmi.stays hbU).keep HLe.out hk8) HMi.out (Nat.le_add_right _ 2) (by omega) rfl (Own.keep hle2 (hox.stays hbU) hk8)
            have hlow : Below (w.heap.size + 2) wi w8 := (hbU.mono (by omega)).trans (hbl _ U (Nat.le_refl _) (Below.refl _ _))
            have HRel := Lib.hid (show _ ∧ (∃ hs, OwnF B' (w.heap.size + 2) hs v8 w8 ∧ Mine B' (w.heap.size + 2) (remL id (l.take (k + 1)) false) hs w8) ∧ _ ∧ _ from ⟨alt_low ha9 hlow (by omega), ⟨_, hown8, by rw [HRs2]; exact hm8⟩, hg9.same (hlow.block _ (by omega)), hri.same (hlow.block _ (by omega))⟩)
            rw [hU] at hrun
            clear hls hmi hm8 hk8 hkp hg9 hrl ha9 HRs2 hL hox hbx hgi hri hai hfl hga hn3 hU hbU hzU hsrc hown8 hbl hlow hz
            go_wp2
            go_roundw
            case rel => exact ⟨k + 1, by omega, by go_num, by rw [hf9.out], HRel.out.1, HRel.out.2.1, HRel.out.2.2.1, HRel.out.2.2.2⟩
            case measure => simp [intOf]; omega
    · obtain rfl : k = n := by omega
      have e1 : l.take k = l := by rw [HN.out, List.take_length]
      have hg9 := HVg.out
      have ho9 := HMi.out
      rw [e1] at hg9 ho9 ⊢
      rw [HR.out] at hg9
      have hA9 : (flat l).any (hasId id) = r.isSome := by rw [any_some, HR.out]
      rw [hA9]
      have hrow : row wo (w.heap.size + 1) = cO r := hg9.row
      have hpl : plain 5 wo w.heap.size = true := HVr.out.plain
      have hcs := cO_size r
      have h1c : oneAll (.agg (cO r)) = true := by cases r <;> exact one5 _ _ _ _ _
      have hzr : w.heap.size < wo.heap.size := by omega
      have hzg : w.heap.size + 1 < wo.heap.size := by omega
      have HO9 := Lib.hid ho9
      clear hal ho9 hg9 e1 hA9
      go_wp2
      have hZ : Below w.heap.size w (wo.setRow w.heap.size (cO r)).drew ∧ ∃ hs, Is eF 48 B hs u7 (wo.setRow w.heap.size (cO r)).drew ∧ Mine B w.heap.size (rem l id) hs (wo.setRow w.heap.size (cO r)).drew := by
        have ha9 := alt_setRow (Alt.refl (fun b => b = w.heap.size) wo) (b := w.heap.size) rfl (cO r)
        have hk9 := Keeps.of_alt (B := B') (ts := 48 :: eF.ts) ha9 (fun b hb _ => HEx.out b (.inl hb))
        have hk8 := Keeps.of_alt (B := B') (ts := [31]) ha9 (fun b hb _ => HEx.out b (.inl hb))
        have hm9 := (Mine.keep HLe.out HO9.out hk8).stays (Below.refl _ _).drew
        refine ⟨(below_setRow HBo.out (Nat.le_refl _) _).drew, hs, ?_, hm9.len, fun i x y hx hy => ⟨(hm9.own i x y hx hy).1, Own.lower (hm9.own i x y hx hy).2 (by omega)⟩, hm9.apart⟩
        have := (HO.out.is (by decide) HLe.out).keep eF 48 hk9
        exact Is.stays eF 48 (this.up eF 48 HSub.out) (Below.refl _ _).drew
      have hrZ : row (wo.setRow w.heap.size (cO r)) w.heap.size = cO r := by
        obtain ⟨t, ht⟩ := HVr.out
        unfold Rw.row
        rw [setRow_heap wo w.heap.size _ _ _ _ ht]
      have HZ := Lib.hid hZ
      clear hZ
      go_region
      go_wp2
      refine bodyPost_ret (v := .tuple #[u7, .agg (cO r), .bool r.isSome]) (ret_OM Try.results30 _ _ hcs ?c1) rfl ⟨u7, rfl, HZ.out.1, HZ.out.2⟩
      case c1 => simp [go_sem, hrZ]
end Go.Proofs.Ytfnmmknbjfmagaa.Le
