/- Package disk as it landed: after, walked. -/
import Derived.Test.YtegepbifbhamnaaDkG
namespace Go.Proofs.Ytegepbifbhamnaa.Dk
open Go.RowKit
set_option linter.unusedVariables false
open Go.Proofs.Ytegepbifbhamnaa.Rw
open Go.Proofs.Ytegepbifbhamnaa.Da
open Go.Proofs.Ytegepbifbhamnaa.By
theorem Hel.open {B b : Nat} {s : ByteArray × ByteArray} {w : World} (h : Hel B b s w) : ∃ a1 c1 a2 c2, Bx w b #[.slice a1 s.1.size c1, .slice a2 s.2.size c2] 61 ∧ BB B (.slice a1 s.1.size c1) s.1 w ∧ BB B (.slice a2 s.2.size c2) s.2 w ∧ ∀ g, (Value.slice a1 s.1.size c1).ownBlock = some g → (Value.slice a2 s.2.size c2).ownBlock ≠ some g := by
  obtain ⟨va, vb, h1, h2, h3, h4⟩ := h
  obtain ⟨a1, c1, rfl⟩ := h2.slice
  obtain ⟨a2, c2, rfl⟩ := h3.slice
  exact ⟨a1, c1, a2, c2, h1, h2, h3, h4⟩
theorem take_snoc' {l : List Do} {s : ByteArray × ByteArray} {k : Nat} (h : k < l.length) : fin s (l.take (k + 1)) = done (fin s (l.take k)) l[k] := by
  unfold fin; rw [Da.take_snoc h, List.foldl_append]; rfl
theorem fin_take_le (l : List Do) (a b : ByteArray) (k : Nat) : (fin (a, b) (l.take k)).1.size + (fin (a, b) (l.take k)).2.size ≤ a.size + b.size + wl l := by
  have h1 : (fin (a, b) (l.take k)).1.size + (fin (a, b) (l.take k)).2.size ≤ a.size + b.size + wl (l.take k) := fin_wt (l.take k) (a, b)
  have h2 := wl_take l k
  omega
theorem wl_mem {l : List Do} {k : Nat} (h : k < l.length) : l[k].2.1.size ≤ wl l := by
  have h1 : wl l = wl (l.take k) + wl (l.drop k) := by rw [← wl_append, List.take_append_drop]
  have h2 : l.drop k = l[k] :: l.drop (k + 1) := (List.getElem_cons_drop h).symm
  have h3 : ∀ (x : Do) (m : List Do), wl (x :: m) = x.2.1.size + wl m := fun x m => by simp [wl]
  rw [h2, h3 l[k]] at h1; omega
def sel3 (a b : ByteArray) (i : Nat) : ByteArray × ByteArray := match i with | 0 => (nul, nul) | 1 => (a, nul) | _ => (a, b)
set_option maxRecDepth 8000 in
set_option maxHeartbeats 8000000 in
theorem after_any (n : Nat) (a b : ByteArray) (l : List Do) (o : Value) (w : World) (hO : OL n l o w) (hn : n ≤ w.heap.size) (hw : a.size + b.size + wl l ≤ 1000000) (hl : l.length ≤ 1000000) :
    Calls Try.prog 33 #[.agg #[.string a, .string b], o] w fun e w' => e = .returned (.agg #[.string (fin (a, b) l).1, .string (fin (a, b) l).2]) ∧ Below w.heap.size w w' := by
  obtain ⟨a1, c1, rfl⟩ := hO.len
  obtain ⟨n1, hn1⟩ : ∃ q, l.length = q := ⟨_, rfl⟩
  rw [hn1] at hO ⊢
  have HN := Lib.hid hn1
  obtain ⟨V, hV⟩ : ∃ Q_, ((w.alloc (.cells #[.string a, .string b] 25)).alloc (.cells zz2 25)).alloc (.cells #[.slice none 0 0, .slice none 0 0] 61) = Q_ := ⟨_, rfl⟩
  have bV : Below w.heap.size w V := hV ▸ below3 w _ _ _
  obtain ⟨B0, B1, B2⟩ : Bx V w.heap.size #[.string a, .string b] 25 ∧ Bx V (w.heap.size + 1) zz2 25 ∧ Bx V (w.heap.size + 2) #[.slice none 0 0, .slice none 0 0] 61 := hV ▸ bx3 w _ _ _ _ _ _
  have HA : Hid (Aft n l (.slice a1 n1 c1) w (sel3 a b 0) V) := Lib.hid ⟨B1, ⟨_, _, B2, OwnB.nil _ _ _, OwnB.nil _ _ _, fun g hg => by simp [Value.ownBlock] at hg⟩, bV, hO.stays bV⟩
  obtain ⟨_, r0, _⟩ := B0.d2
  clear hn1 B0 B1 B2 hO bV
  go_enter Try.func33, Try.ntmps33
  go_wp2
  go_loopw [11] (fun i wr => ∃ k : Nat, k ≤ 2 ∧ i = .int .i64 k ∧ Aft n l (.slice a1 n1 c1) w (sel3 a b k) wr) (fun i _ => 2 - (intOf i).toNat)
  case atStart => exact ⟨0, by omega, rfl, HA.out⟩
  case round =>
    obtain ⟨k, hk, rfl, hA⟩ := hrel
    obtain rfl | rfl | rfl : k = 0 ∨ k = 1 ∨ k = 2 := by omega
    · obtain ⟨va, vb, hx, ha, hb, hne⟩ := hA.h
      obtain ⟨v', w1, hcv, hv, hb1, how⟩ := OwnB.made (P := Try.prog) wr 9 60 5 a Try.underlying9 Try.underlying60 Try.underlying5 (by omega) (B := w.heap.size) hA.b.size
      have hA1 := hA.stays hb1
      obtain ⟨d1, e1, rfl⟩ := hv.slice
      have hX := Aft.set0 (s := sel3 a b 0) hn hA1 (hx.stays hb1) hA1.r (hx.stays hb1) hA1.b hA1.o hv (hb.stays hb1) (fun g hg h2 => by
        have h3 := (hb.lt g h2).2.1
        rw [how] at hg
        have := Option.some.inj hg
        omega)
      obtain ⟨_, _, _, _, f0, _⟩ := (hx.stays hb1).d2
      obtain ⟨_, _, _, ⟨g0, _⟩, _⟩ := (hx.stays hb1).d2
      have HX := Lib.hid hX
      clear hA hx ha hb hne hv hb1 how hA1 hX
      go_wp2
      go_roundw
      case rel => exact ⟨1, by omega, by go_num, HX.out⟩
      case measure => simp [intOf]
    · obtain ⟨va, vb, hx, ha, hb, hne⟩ := hA.h
      obtain ⟨v', w1, hcv, hv, hb1, how⟩ := OwnB.made (P := Try.prog) wr 9 60 5 b Try.underlying9 Try.underlying60 Try.underlying5 (by omega) (B := w.heap.size) hA.b.size
      have hA1 := hA.stays hb1
      obtain ⟨d1, e1, rfl⟩ := hv.slice
      have hX := Aft.set1 (s := sel3 a b 1) hn hA1.r (hx.stays hb1) hA1.b hA1.o hv (ha.stays hb1) (fun g hg h2 => by
        have h3 := (ha.lt g hg).2.1
        rw [how] at h2
        have := Option.some.inj h2
        omega)
      obtain ⟨_, _, _, _, _, f0⟩ := (hx.stays hb1).d2
      obtain ⟨_, _, _, ⟨_, g0⟩, _⟩ := (hx.stays hb1).d2
      have HX := Lib.hid hX
      clear hA hx ha hb hne hv hb1 how hA1 hX
      go_wp2
      go_roundw
      case rel => exact ⟨2, by omega, by go_num, HX.out⟩
      case measure => simp [intOf]
    · have HA2 : Hid (Aft n l (.slice a1 n1 c1) w (fin (a, b) (l.take 0)) wr) := Lib.hid (by rw [List.take_zero]; exact hA)
      clear hA
      go_wp2
      go_loopw [22] (fun i wr => ∃ k : Nat, k ≤ n1 ∧ i = .int .i64 k ∧ Aft n l (.slice a1 n1 c1) w (fin (a, b) (l.take k)) wr) (fun i _ => n1 - (intOf i).toNat)
      case atStart => exact ⟨0, by omega, rfl, HA2.out⟩
      case round =>
        obtain ⟨k, hk, rfl, hA⟩ := hrel
        have hll : l.length = n1 := HN.out
        have hll : l.length = n1 := HN.out
        have hll : l.length = n1 := HN.out
        have hll : l.length = n1 := HN.out
        have hll : l.length = n1 := HN.out
        by_cases hlt : k < n1
        · have hk3 : k < l.length := by omega
          have hk1 : (k : Int) < n1 := by omega
          have hsn : fin (a, b) (l.take (k + 1)) = done (fin (a, b) (l.take k)) l[k] := take_snoc' hk3
          have hsz := fin_take_le l a b k
          have hxs := wl_mem hk3
          have hxs2 := fin_take_le l a b (k + 1)
          rcases hA.o.cases with ⟨e, _⟩ | ⟨_, bb, off, cc, e, hat⟩
          · rw [e] at hk3; cases hk3
          simp only [Value.slice.injEq] at e
          obtain ⟨rfl, -, rfl⟩ := e
          obtain ⟨y0, y1, y2⟩ := at3 hat k hk3
          obtain ⟨S, hS⟩ : ∃ q, fin (a, b) (l.take k) = q := ⟨_, rfl⟩
          obtain ⟨⟨z, x, er⟩, hz⟩ : ∃ q, l[k] = q := ⟨_, rfl⟩
          rw [hS] at hA hsn hsz
          rw [hz] at hsn y0 y1 y2 hxs
          simp only at y0 y1 y2 hxs
          obtain ⟨s1, s2⟩ := S
          simp only at hsz
          have HSN := Lib.hid hsn
          clear hS hz hat hsn hxs2
          have hz0 : zi false = 0 := rfl
          have hz1 : zi true = 1 := rfl
          cases z <;> cases er
          · rw [hz0] at y0
            clear hz0 hz1
            obtain ⟨W, hW⟩ : ∃ Q_, wr.alloc (.cells #[.int .i64 0, .string x, .bool false] 52) = Q_ := ⟨_, rfl⟩
            have aW : Below wr.heap.size wr W := hW ▸ below1 _ _
            have BW : Bx W wr.heap.size #[.int .i64 0, .string x, .bool false] 52 := hW ▸ Bx.new _ _ _
            have hAW := hA.stays aW
            obtain ⟨d1, e1, d2, e2, hx, ha, hb, hne⟩ := hAW.h.open
            simp only at hx ha hb hne
            obtain ⟨v', w2, hrun, hv, hg, how⟩ := apps_any (w := W.drew) (ha.same fun _ _ => rfl) 60 x (by omega) (by show w.heap.size ≤ W.heap.size; exact hAW.b.size)
            have r2 := bx_own (w := W.drew) hAW.r (by decide) (ha.same fun _ _ => rfl) hg
            have x2 := bx_own (w := W.drew) hx (by decide) (ha.same fun _ _ => rfl) hg
            have p2 := bx_own (w := W.drew) BW (by decide) (ha.same fun _ _ => rfl) hg
            have o2 := ol_own (w := W.drew) (hAW.o.stays ((Below.refl _ _).drew)) hn (ha.same fun _ _ => rfl) hg
            have b2 : Below w.heap.size w w2 := hAW.b.drew.grown hg (by show w.heap.size ≤ W.heap.size; exact hAW.b.size) (fun k_ hk_ => (ha.lt k_ hk_).1)
            have hoth : BB w.heap.size (.slice d2 s2.size e2) s2 w2 := hb.same fun g hg2 => hg.block g (hb.lt g hg2).2.1 fun e => hne g e.symm hg2
            have hX := Aft.set0 (s := (s1, s2)) hn hAW hx r2 x2 b2 o2 hv hoth (fun g h2 hg2 => by
              rcases how with e | e
              · rw [e] at h2; exact hne g h2 hg2
              · rw [e] at h2; have h3 := (hb.lt g hg2).2.1; have h4 := Option.some.inj h2; have h5 : W.drew.heap.size = W.heap.size := rfl; omega)
            obtain ⟨d3, e3, hv'⟩ := hv.slice
            obtain ⟨m3, hm3⟩ : ∃ q, (s1 ++ x).size = q := ⟨_, rfl⟩
            rw [hm3] at hv'
            subst hv'
            have HX := Lib.hid hX
            obtain ⟨ql, qr, qp, ⟨qc0, qc1⟩, qf0, qf1⟩ := hx.d2
            obtain ⟨pl, pr, pp, ⟨pc0, pc1, pc2⟩, _⟩ := BW.d3
            obtain ⟨_, _, _, ⟨qd0, qd1⟩, qg0, qg1⟩ := x2.d2
            obtain ⟨_, _, _, ⟨pd0, pd1, pd2⟩, _⟩ := p2.d3
            clear hA hAW hx ha hb hne hX aW BW hv hg how r2 x2 p2 o2 b2 hoth hm3
            clear hsz hxs hll hk3
            go_wp2_with fail
            refine (isZone_is (Lib.hid (show zoneB 0 = true from rfl)) _).mono ?_
            rintro e w1 ⟨rfl, rfl⟩
            go_wp2
            go_region
            clear hrun
            go_wp2
            go_roundw
            case rel => (repeat apply Exists.intro); exact ⟨⟨k + 1, by omega, by go_num, by rw [HSN.out]; exact HX.out⟩, rfl⟩
            case measure => simp [intOf]; omega
          · rw [hz0] at y0
            clear hz0 hz1
            obtain ⟨W, hW⟩ : ∃ Q_, wr.alloc (.cells #[.int .i64 0, .string x, .bool true] 52) = Q_ := ⟨_, rfl⟩
            have aW : Below wr.heap.size wr W := hW ▸ below1 _ _
            have BW : Bx W wr.heap.size #[.int .i64 0, .string x, .bool true] 52 := hW ▸ Bx.new _ _ _
            have hAW := hA.stays aW
            obtain ⟨d1, e1, d2, e2, hx, ha, hb, hne⟩ := hAW.h.open
            simp only at hx ha hb hne
            have hX := Aft.set0 (s := (s1, s2)) hn hAW hx hAW.r hx hAW.b hAW.o (OwnB.nil 5 w.heap.size W) hb (fun g hg h2 => by simp [Value.ownBlock] at hg)
            have HX := Lib.hid hX
            obtain ⟨ql, qr, qp, ⟨qc0, qc1⟩, qf0, qf1⟩ := hx.d2
            obtain ⟨pl, pr, pp, ⟨pc0, pc1, pc2⟩, _⟩ := BW.d3
            clear hA hAW hx ha hb hne hX aW BW
            clear hsz hxs hll hk3
            go_wp2_with fail
            refine (isZone_is (Lib.hid (show zoneB 0 = true from rfl)) _).mono ?_
            rintro e w1 ⟨rfl, rfl⟩
            go_wp2
            go_roundw
            case rel => (repeat apply Exists.intro); exact ⟨⟨k + 1, by omega, by go_num, by rw [HSN.out]; exact HX.out⟩, rfl⟩
            case measure => simp [intOf]; omega
          · rw [hz1] at y0
            clear hz0 hz1
            obtain ⟨W, hW⟩ : ∃ Q_, wr.alloc (.cells #[.int .i64 1, .string x, .bool false] 52) = Q_ := ⟨_, rfl⟩
            have aW : Below wr.heap.size wr W := hW ▸ below1 _ _
            have BW : Bx W wr.heap.size #[.int .i64 1, .string x, .bool false] 52 := hW ▸ Bx.new _ _ _
            have hAW := hA.stays aW
            obtain ⟨d1, e1, d2, e2, hx, ha, hb, hne⟩ := hAW.h.open
            simp only at hx ha hb hne
            obtain ⟨v', w2, hrun, hv, hg, how⟩ := apps_any (w := W.drew) (hb.same fun _ _ => rfl) 60 x (by omega) (by show w.heap.size ≤ W.heap.size; exact hAW.b.size)
            have r2 := bx_own (w := W.drew) hAW.r (by decide) (hb.same fun _ _ => rfl) hg
            have x2 := bx_own (w := W.drew) hx (by decide) (hb.same fun _ _ => rfl) hg
            have p2 := bx_own (w := W.drew) BW (by decide) (hb.same fun _ _ => rfl) hg
            have o2 := ol_own (w := W.drew) (hAW.o.stays ((Below.refl _ _).drew)) hn (hb.same fun _ _ => rfl) hg
            have b2 : Below w.heap.size w w2 := hAW.b.drew.grown hg (by show w.heap.size ≤ W.heap.size; exact hAW.b.size) (fun k_ hk_ => (hb.lt k_ hk_).1)
            have hoth : BB w.heap.size (.slice d1 s1.size e1) s1 w2 := ha.same fun g hg2 => hg.block g (ha.lt g hg2).2.1 fun e => hne g hg2 e.symm
            have hX := Aft.set1 (s := (s1, s2)) hn r2 x2 b2 o2 hv hoth (fun g hg2 h2 => by
              rcases how with e | e
              · rw [e] at h2; exact hne g hg2 h2
              · rw [e] at h2; have h3 := (ha.lt g hg2).2.1; have h4 := Option.some.inj h2; have h5 : W.drew.heap.size = W.heap.size := rfl; omega)
            obtain ⟨d3, e3, hv'⟩ := hv.slice
            obtain ⟨m3, hm3⟩ : ∃ q, (s2 ++ x).size = q := ⟨_, rfl⟩
            rw [hm3] at hv'
            subst hv'
            have HX := Lib.hid hX
            obtain ⟨ql, qr, qp, ⟨qc0, qc1⟩, qf0, qf1⟩ := hx.d2
            obtain ⟨pl, pr, pp, ⟨pc0, pc1, pc2⟩, _⟩ := BW.d3
            obtain ⟨_, _, _, ⟨qd0, qd1⟩, qg0, qg1⟩ := x2.d2
            obtain ⟨_, _, _, ⟨pd0, pd1, pd2⟩, _⟩ := p2.d3
            clear hA hAW hx ha hb hne hX aW BW hv hg how r2 x2 p2 o2 b2 hoth hm3
            clear hsz hxs hll hk3
            go_wp2_with fail
            refine (isZone_is (Lib.hid (show zoneB 1 = true from rfl)) _).mono ?_
            rintro e w1 ⟨rfl, rfl⟩
            go_wp2
            go_region
            clear hrun
            go_wp2
            go_roundw
            case rel => (repeat apply Exists.intro); exact ⟨⟨k + 1, by omega, by go_num, by rw [HSN.out]; exact HX.out⟩, rfl⟩
            case measure => simp [intOf]; omega
          · rw [hz1] at y0
            clear hz0 hz1
            obtain ⟨W, hW⟩ : ∃ Q_, wr.alloc (.cells #[.int .i64 1, .string x, .bool true] 52) = Q_ := ⟨_, rfl⟩
            have aW : Below wr.heap.size wr W := hW ▸ below1 _ _
            have BW : Bx W wr.heap.size #[.int .i64 1, .string x, .bool true] 52 := hW ▸ Bx.new _ _ _
            have hAW := hA.stays aW
            obtain ⟨d1, e1, d2, e2, hx, ha, hb, hne⟩ := hAW.h.open
            simp only at hx ha hb hne
            have hX := Aft.set1 (s := (s1, s2)) hn hAW.r hx hAW.b hAW.o (OwnB.nil 5 w.heap.size W) ha (fun g hg h2 => by simp [Value.ownBlock] at h2)
            have HX := Lib.hid hX
            obtain ⟨ql, qr, qp, ⟨qc0, qc1⟩, qf0, qf1⟩ := hx.d2
            obtain ⟨pl, pr, pp, ⟨pc0, pc1, pc2⟩, _⟩ := BW.d3
            clear hA hAW hx ha hb hne hX aW BW
            clear hsz hxs hll hk3
            go_wp2_with fail
            refine (isZone_is (Lib.hid (show zoneB 1 = true from rfl)) _).mono ?_
            rintro e w1 ⟨rfl, rfl⟩
            go_wp2
            go_roundw
            case rel => (repeat apply Exists.intro); exact ⟨⟨k + 1, by omega, by go_num, by rw [HSN.out]; exact HX.out⟩, rfl⟩
            case measure => simp [intOf]; omega
        · obtain rfl : k = n1 := by omega
          have HF : Hid (fin (a, b) (l.take k) = fin (a, b) l) := Lib.hid (by rw [← hll, List.take_length])
          obtain ⟨S, hS⟩ : ∃ q, fin (a, b) (l.take k) = q := ⟨_, rfl⟩
          rw [hS] at hA
          have HS := Lib.hid hS
          obtain ⟨s1, s2⟩ := S
          obtain ⟨d1, e1, d2, e2, hx, ha, hb, hne⟩ := hA.h.open
          simp only at hx ha hb hne
          have q1 := OwnB.told (P := Try.prog) wr 60 9 5 Try.underlying60 Try.underlying5 Try.underlying9 ha
          have q2 := OwnB.told (P := Try.prog) wr 60 9 5 Try.underlying60 Try.underlying5 Try.underlying9 hb
          obtain ⟨ql, qr, qp, ⟨qc0, qc1⟩, _⟩ := hx.d2
          obtain ⟨pl, pr, pp, _⟩ := hA.r.d2
          obtain ⟨X, hX⟩ : ∃ Q_, wr.setRow (w.heap.size + 1) #[.string s1, .string s2] = Q_ := ⟨_, rfl⟩
          have BX : Bx X (w.heap.size + 1) #[.string s1, .string s2] 25 := hX ▸ hA.r.put _
          have bX : Below w.heap.size w X := hX ▸ hA.b.trans (low_setRow _ (by omega))
          obtain ⟨_, r1, _⟩ := BX.d2
          clear hA hx ha hb hne hS BX hll
          go_wp2
          refine bodyPost_ret (v := .agg #[.string s1, .string s2]) (ret_Z1 Try.results33 _ _ rfl ?c1) rfl ⟨by rw [← HF.out, HS.out], bX⟩
          case c1 => simp [go_sem, *]
end Go.Proofs.Ytegepbifbhamnaa.Dk
