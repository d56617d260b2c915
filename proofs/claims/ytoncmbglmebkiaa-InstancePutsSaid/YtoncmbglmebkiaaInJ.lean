/- InstancePuts. -/
import Derived.Test.YtoncmbglmebkiaaInH
namespace Go.Proofs.Ytoncmbglmebkiaa.In
open Go.RowKit
set_option linter.unusedVariables false
open Go.Proofs.Ytoncmbglmebkiaa.Rw
open Go.Proofs.Ytoncmbglmebkiaa.Da
open Go.Proofs.Ytoncmbglmebkiaa.Bv
open Go.Proofs.Ytoncmbglmebkiaa.Rc (Ins ci zeroI okI)
open Go.Proofs.Ytoncmbglmebkiaa.St
theorem storeMidPl (ρ : Operand → Value) (dst : Option Tmp) (ty : TypeId) (pos : String) (after : Array Edge) (guard : Option (Nat × Bool)) (w : World) (p x : Operand) (h : thereOf w (ρ p) 2) (hs : (ρ x).cells.size = 2) (h1 : oneAll (ρ x) = true) (ha : ρ x = .agg (ρ x).cells) : (execOp ρ { dst, op := .store 24 p x, type := ty, pos, after, guard }).run Try.prog w = .ok .skip (putMid w (ρ p) (ρ x).cells) :=
  storeMid (by kernel_rfl) ρ dst ty pos after guard w p x h hs h1 ha
attribute [go_sem ↓] storeMidPl
theorem over_pl (r s : Int) : over (ci zeroI) 0 [.int .i64 r, .int .i64 s] = ci (placeI r s) := rfl
theorem last_take {l : List Ins} {k : Nat} (h : k < l.length) (r s : Int) : lastI (l.take (k + 1)) r s = if atP l[k] r s then (l[k], true) else lastI (l.take k) r s := by
  rw [List.take_succ_eq_append_getElem h, last_snoc]
theorem puts_take {l : List Ins} {k : Nat} (h : k < l.length) : puts [] (l.take (k + 1)) = putG l[k] (puts [] (l.take k)) := by
  rw [List.take_succ_eq_append_getElem h, puts_snoc, put_srt_eq (puts_srt _ srt_nil)]
theorem puts_len' (l : List Ins) : (puts [] l).length ≤ l.length := by have := puts_len [] l; simpa using this
set_option maxRecDepth 16000 in
set_option maxHeartbeats 16000000 in
theorem walkPuts (l : List Ins) (v : Value) (r s : Int) (w : World) (h : TI w.heap.size l v w) (_ : l.length ≤ maxLen ∧ capOk v) :
    Calls Try.prog 3 #[v, .agg #[.int .i64 r, .int .i64 s]] w fun e w' => e = .returned (.bool true) ∧ Below w.heap.size w w' := by
  obtain ⟨q, hq⟩ : ∃ q, q = w.heap.size := ⟨_, rfl⟩
  rw [← hq] at h
  have hq0 : q ≤ w.heap.size := by omega
  clear hq
  obtain ⟨a1, c1, rfl⟩ := h.len
  have H := Lib.hid h
  obtain ⟨m, hmm⟩ : ∃ m, l.length = m := ⟨_, rfl⟩
  have HN := Lib.hid hmm
  rw [hmm]
  obtain ⟨C, hC⟩ : ∃ Q_ : World, w.alloc (.cells #[.int .i64 r, .int .i64 s] 24) = Q_ := ⟨_, rfl⟩
  have bC : Below w.heap.size w C := hC ▸ below1 w _
  have xC : Bx C w.heap.size #[.int .i64 r, .int .i64 s] 24 := hC ▸ Bx.new _ _ _
  have lC : w.heap.size < C.heap.size := xC.lt
  have LC := Lib.hid lC
  clear h hmm
  by_cases hlen : 60 < m
  · have hd : decide ((m : Int) > 60) = true := decide_eq_true (by omega)
    go_enter Try.func3, Try.ntmps3
    go_wp2_with fail
    refine (awake_any _).mono ?_
    rintro e w1 ⟨rfl, hb1⟩
    go_wp2
    go_ret
    exact ⟨rfl, nx bC hb1⟩
  have hd : decide ((m : Int) > 60) = false := decide_eq_false (by omega)
  have hm6 : m ≤ 60 := by omega
  clear hlen
  go_enter Try.func3, Try.ntmps3
  go_wp2
  go_loopw [5, 25] (fun t x wr => ∃ k : Nat, k ≤ m ∧ x = .int .i64 k ∧ TI q (puts [] (l.take k)) t wr ∧ capOk t ∧ Below C.heap.size C wr) (fun _ x _ => m - (intOf x).toNat)
  case atStart => exact ⟨0, Nat.zero_le _, rfl, Is.nil _ _ _ _, Nat.le_refl 0, Below.refl _ _⟩
  case round =>
    obtain ⟨k, hk, rfl, ht, hcap, hb⟩ := hrel
    have HT := Lib.hid ht
    have HCap := Lib.hid hcap
    clear ht hcap
    have hsz := hb.size
    have bw := nx bC hb
    by_cases hlt : k < m
    · have hkl : k < l.length := by rw [HN.out]; exact hlt
      have hlt2 : (k : Int) < m := by omega
      obtain ⟨b, off, rfl, hbb, hK0⟩ := TI.all H.out bw hkl
      have hx := (hK0 wr (Below.refl _ _)).1
      have HPt := Lib.hid (puts_take hkl)
      have HPl : Hid ((puts [] (l.take k)).length ≤ 1000000) := Lib.hid (by have := puts_len' (l.take k); rw [List.length_take] at this; omega)
      obtain ⟨x, hxx⟩ : ∃ x, l[k] = x := ⟨_, rfl⟩
      rw [hxx] at hx HPt
      clear hxx hK0
      obtain ⟨V, hV⟩ : ∃ Q_ : World, (wr.alloc (.cells (ci zeroI) 35)).setRow wr.heap.size (ci x) = Q_ := ⟨_, rfl⟩
      have xV : Bx V wr.heap.size (ci x) 35 := hV ▸ Bx.put (Bx.new _ _ _) _
      have bV : Below wr.heap.size wr V := hV ▸ below_setRow (below1 _ _) (Nat.le_refl _) _
      have hplain := (Bx.new wr (ci zeroI) 35).plain (n := 25) rfl
      have rx := xV.row
      have hbV := hb.trans (bV.mono hsz)
      have hqV : q ≤ V.heap.size := by have := bV.size; omega
      have HTV := Lib.hid (HT.out.stays bV)
      go_wp2_with fail
      refine (put_any q _ _ x V HTV.out HCap.out hqV HPl.out).mono ?_
      rintro e w1 ⟨tv, rfl, hb1, ho1⟩
      rw [← HPt.out] at ho1
      have HO1 := Lib.hid (And.intro (ho1.ti hqV) ho1.cap)
      have hb2 := hbV.trans (hb1.mono (by have := bV.size; omega))
      clear ho1
      go_wp2
      go_roundw
      case rel => exact ⟨k + 1, by omega, by go_num, HO1.out.1, HO1.out.2, hb2⟩
      case measure => simp [intOf]; omega
    · obtain rfl : k = m := by omega
      obtain ⟨T, hT⟩ : ∃ T, puts [] (l.take k) = T := ⟨_, rfl⟩
      have HTl : Hid (T = puts [] l) := Lib.hid (by rw [← hT, ← HN.out, List.take_length])
      rw [hT] at HT
      have HSrt : Hid (Srt T) := Lib.hid (by rw [HTl.out]; exact puts_srt _ srt_nil)
      obtain ⟨a2, c2, ht⟩ := HT.out.len
      obtain ⟨n, hn⟩ : ∃ n, T.length = n := ⟨_, rfl⟩
      have hnm : n ≤ k := by rw [← hn, HTl.out, ← HN.out]; exact puts_len' l
      rw [hn] at ht
      subst ht
      have HNt := Lib.hid hn
      have HT6 : Hid (T.length ≤ 1000000) := Lib.hid (by rw [hn]; omega)
      have HGot := Lib.hid (got_puts l r s)
      obtain ⟨g, is, hgi⟩ : ∃ g is, lastI l r s = (g, is) := ⟨_, _, rfl⟩
      rw [hgi, ← HTl.out] at HGot
      have HLast := Lib.hid hgi
      clear hT hn hgi
      -- the instance wanted
      obtain ⟨Y, hY⟩ : ∃ Q_ : World, wr.alloc (.cells (ci zeroI) 35) = Q_ := ⟨_, rfl⟩
      have yY : Bx Y wr.heap.size (ci zeroI) 35 := hY ▸ Bx.new _ _ _
      have bY : Below wr.heap.size wr Y := hY ▸ below1 _ _
      have tY := yY.there (o := 0) (n := 2) (by decide)
      obtain ⟨Z, hZ⟩ : ∃ Q_ : World, Y.setCells wr.heap.size 0 [.int .i64 r, .int .i64 s] = Q_ := ⟨_, rfl⟩
      have zZ : Bx Z wr.heap.size (ci (placeI r s)) 35 := by
        have := Bx.sets (w := Y) [.int .i64 r, .int .i64 s] 0 Y _ yY
        rw [over_pl] at this
        exact hZ ▸ this
      have bZ : Below wr.heap.size wr Z := hZ ▸ bY.trans (low_setCells (Nat.le_refl _) _ _ _)
      have pr := xC.low hb lC
      have rp := (pr.stays bY).row
      have pZ := pr.stays bZ
      have bwZ := nx bw bZ
      have hwZ : wr.heap.size < Z.heap.size := zZ.lt
      have hwwr : w.heap.size < wr.heap.size := by omega
      have LW := Lib.hid hwwr
      have LZ := Lib.hid hwZ
      obtain ⟨B0, hB0⟩ : ∃ B0, wr.heap.size = B0 := ⟨_, rfl⟩
      rw [hB0] at zZ bZ hwZ LW LZ hwwr tY hZ
      have HTst : Hid (∀ u, Below B0 Z u → TI q T (.slice a2 n c2) u) := Lib.hid fun u hu => HT.out.stays (by rw [hB0]; exact bZ.trans hu)
      have HB0 := Lib.hid hB0
      clear yY bY hC pr bw
      go_wp2
      go_loopw [9, 37] (fun f x wx => ∃ j : Nat, j ≤ k ∧ x = .int .i64 j ∧ f = .bool (lastI (l.take j) r s).2 ∧ Bx wx B0 (ci (lastI (l.take j) r s).1) 35 ∧ Below B0 Z wx) (fun _ x _ => k - (intOf x).toNat)
      case atStart => exact ⟨0, Nat.zero_le _, rfl, rfl, zZ, Below.refl _ _⟩
      case round =>
        obtain ⟨j, hj, rfl, rfl, hwt, hb2⟩ := hrel
        have hsz2 := hb2.size
        have bw2 := bwZ.trans (hb2.mono (by omega))
        have pr2 := pZ.low hb2 hwwr
        have hBw : B0 < wr.heap.size := hwt.lt
        obtain ⟨y, f, hyf⟩ : ∃ y f, lastI (l.take j) r s = (y, f) := ⟨_, _, rfl⟩
        rw [hyf] at hwt ⊢
        have HYF := Lib.hid hyf
        clear hyf
        by_cases hlt2 : j < k
        · have hjl : j < l.length := by rw [HN.out]; exact hlt2
          have hlt3 : (j : Int) < k := by omega
          obtain ⟨b, off, rfl, hbb, hK0⟩ := TI.all H.out bw2 hjl
          have hx := (hK0 wr (Below.refl _ _)).1
          have hlt4 := last_take hjl r s
          obtain ⟨x, hxx⟩ : ∃ x, l[j] = x := ⟨_, rfl⟩
          rw [hxx] at hx hlt4
          rw [HYF.out] at hlt4
          have HLT := Lib.hid hlt4
          clear hxx hK0 hlt4
          obtain ⟨V, hV⟩ : ∃ Q_ : World, (wr.alloc (.cells (ci zeroI) 35)).setRow wr.heap.size (ci x) = Q_ := ⟨_, rfl⟩
          have xV : Bx V wr.heap.size (ci x) 35 := hV ▸ Bx.put (Bx.new _ _ _) _
          have bV : Below wr.heap.size wr V := hV ▸ below_setRow (below1 _ _) (Nat.le_refl _) _
          have hplain := (Bx.new wr (ci zeroI) 35).plain (n := 25) rfl
          have rx := xV.row
          have rp2 := (pr2.stays bV).row
          have wV := hwt.stays bV
          have wp := wV.plain (n := 25) rfl
          have hbV := hb2.trans (bV.mono (Nat.le_of_lt hBw))
          cases hat : atP x r s with
          | true =>
            have hq2 : (x.pr == r && x.ps == s) = true := hat
            have HF : Hid (lastI (l.take (j + 1)) r s = (x, true)) := Lib.hid (by rw [HLT.out, hat]; rfl)
            have HW := Lib.hid (wV.put (ci x))
            clear hat
            go_wp2
            go_roundw
            case rel => exact ⟨j + 1, by omega, by go_num, by rw [HF.out], by rw [HF.out]; exact HW.out, below_setRow hbV (Nat.le_refl _) _⟩
            case measure => simp [intOf]; omega
          | false =>
            have hq2 : (x.pr == r && x.ps == s) = false := hat
            have HF : Hid (lastI (l.take (j + 1)) r s = (y, f)) := Lib.hid (by rw [HLT.out, hat]; rfl)
            have HW := Lib.hid wV
            clear hat
            go_wp2
            go_roundw
            case rel => exact ⟨j + 1, by omega, by go_num, by rw [HF.out], by rw [HF.out]; exact HW.out, hbV⟩
            case measure => simp [intOf]; omega
        · obtain rfl : j = k := by omega
          have HE : Hid (y = g ∧ f = is) := Lib.hid (by
            have h1 := HYF.out
            rw [← HN.out, List.take_length, HLast.out] at h1
            exact ⟨(Prod.mk.inj h1).1.symm, (Prod.mk.inj h1).2.symm⟩)
          rw [HE.out.1] at hwt
          rw [HE.out.2]
          have rp2 := pr2.row
          have HTr := Lib.hid (HTst.out wr hb2)
          have HGet : Hid (gotI T r s = g ∧ hasI T r s = is) := Lib.hid ⟨(Prod.mk.inj HGot.out).1, (Prod.mk.inj HGot.out).2⟩
          go_wp2_with fail
          refine (get_is HGet _ wr HTr.out HT6.out).mono ?_
          rintro e w1 ⟨rfl, hb3⟩
          have w1w := hwt.stays hb3
          have bw3 := nx bw2 hb3
          have HT1 := Lib.hid (HTr.out.stays hb3)
          obtain ⟨G, hG⟩ : ∃ Q_ : World, (w1.alloc (.cells (ci zeroI) 35)).setRow w1.heap.size (ci g) = Q_ := ⟨_, rfl⟩
          have gG : Bx G w1.heap.size (ci g) 35 := hG ▸ Bx.put (Bx.new _ _ _) _
          have bG : Below w1.heap.size w1 G := hG ▸ below_setRow (below1 _ _) (Nat.le_refl _) _
          have gp := (Bx.new w1 (ci zeroI) 35).plain (n := 25) rfl
          have wG := w1w.stays bG
          have bwG := nx bw3 bG
          have HTG := Lib.hid (HT1.out.stays bG)
          have hBG : B0 < G.heap.size := wG.lt
          have hgG : w1.heap.size < G.heap.size := gG.lt
          have LG := Lib.hid (And.intro hBG hgG)
          clear rp2 pr2 hwt w1w hb2 hb3 bw2 bw3 hlt2
          go_wp2
          go_loopw [14] (fun x wx => ∃ i : Nat, x = .int .i64 ((i : Int) + 1) ∧ (i + 1 ≤ n ∨ i = 0) ∧ Below G.heap.size G wx) (fun x _ => n - (intOf x).toNat)
          case atStart => exact ⟨0, rfl, .inr rfl, Below.refl _ _⟩
          case round =>
            obtain ⟨i, rfl, hi, hb2⟩ := hrel
            have HTi := Lib.hid (HTG.out.stays hb2)
            have bw2 := nx bwG hb2
            by_cases hin : i + 1 < n
            · have hin2 : (i : Int) + 1 < n := by omega
              have hin3 : (i : Int) < n := by omega
              have hi1 : i < T.length := by rw [HNt.out]; omega
              have hi2 : i + 1 < T.length := by rw [HNt.out]; omega
              obtain ⟨b, off, rfl, hbb, hK1⟩ := TI.all HTi.out (Below.refl _ _) hi1
              obtain ⟨b2, off2, e2, hbb2, hK2⟩ := TI.all HTi.out (Below.refl _ _) hi2
              simp only [Option.some.injEq, Addr.mk.injEq] at e2
              obtain ⟨rfl, rfl, _⟩ := e2
              have hls := srt_two HSrt.out hi1 hi2 (by omega)
              obtain ⟨x, hxx⟩ : ∃ x, T[i] = x := ⟨_, rfl⟩
              obtain ⟨z, hzz⟩ : ∃ x, T[i + 1] = x := ⟨_, rfl⟩
              rw [hxx] at hK1 hls
              rw [hzz] at hK2 hls
              have HL : Hid (lessP x.pr x.ps z.pr z.ps = true) := Lib.hid hls
              have hj3 : IntKind.i64.wrap (i : Int) = i := IntWalk.i64_in _ (by omega)
              have hj4 : IntKind.i64.wrap ((i : Int) + 1) = (i : Int) + 1 := IntWalk.i64_in _ (by omega)
              have hj5 : ((i : Int) + 1).toNat = i + 1 := by omega
              have hj6 : (0 : Int) ≤ (i : Int) + 1 := by omega
              have hK : ∀ u, Below wr.heap.size wr u → (row u b).extract (off + i * 25) (off + i * 25 + 2) = #[.int .i64 x.pr, .int .i64 x.ps] ∧ (row u b).extract (off + (i + 1) * 25) (off + (i + 1) * 25 + 2) = #[.int .i64 z.pr, .int .i64 z.ps] := fun u hu => ⟨(hK1 u hu).2, (hK2 u hu).2⟩
              clear hxx hzz hls hK1 hK2
              go_wp2
              refine Rg.region (by kernel_rfl) (by kernel_rfl) (by kernel_rfl) (fun _ _ d _ _ h => by cases d <;> exact h) _ rfl ?_
              repeat (first | (refine Rg.Seq.skip (by rfl) ?_; simp only [Act.put, List.setIfInBounds_toArray, List.set_cons_zero, List.set_cons_succ]) | (refine Rg.Seq.pure (v := ?_) (by rfl) ?_ ?_; rotate_left; (intro w_ hS_; have hk_ := hK w_ hS_; go_simp <;> with_reducible rfl); simp only [Act.put, List.setIfInBounds_toArray, List.set_cons_zero, List.set_cons_succ]) | (refine Rg.Seq.call (v := ?_) (f := ?_) (args := ?_) (by rfl) ?_ ?_ ?_; rotate_left 3; (intro w_ hS_; have hk_ := hK w_ hS_; go_simp <;> first | with_reducible rfl | (constructor <;> with_reducible rfl)); (intro w_ hS_; first | (go_at_call 9; refine (less_is HL _).mono ?_; rintro e w_ ⟨rfl, hb_⟩; refine ⟨?_, nx hS_ hb_⟩; with_reducible rfl)); simp only [Act.put, List.setIfInBounds_toArray, List.set_cons_zero, List.set_cons_succ]))
              intro w2 hb3
              go_wp2
              go_roundw
              case rel => exact ⟨i + 1, by go_num, .inl (by omega), nx hb2 hb3⟩
              case measure => simp [intOf]; omega
            · have hd3 : decide ((i : Int) + 1 < n) = false := decide_eq_false (by omega)
              have gi := gG.stays hb2
              have wi := wG.stays hb2
              clear hin hi
              go_wp2
              go_loopw [74] (fun x wx => ∃ u : Nat, u ≤ j ∧ x = .int .i64 u ∧ Below G.heap.size G wx) (fun x _ => j - (intOf x).toNat)
              case atStart => exact ⟨0, Nat.zero_le _, rfl, hb2⟩
              case round =>
                obtain ⟨u, hu, rfl, hb4⟩ := hrel
                have bw4 := nx bwG hb4
                have HT4 := Lib.hid (HTG.out.stays hb4)
                by_cases hlt2 : u < j
                · have hul : u < l.length := by rw [HN.out]; exact hlt2
                  have hlt3 : (u : Int) < j := by omega
                  obtain ⟨b, off, rfl, hbb, hK0⟩ := TI.all H.out bw4 hul
                  have hx := (hK0 wr (Below.refl _ _)).1
                  have hhas := has_puts (List.getElem_mem hul)
                  obtain ⟨x, hxx⟩ : ∃ x, l[u] = x := ⟨_, rfl⟩
                  rw [hxx] at hx hhas
                  rw [← HTl.out] at hhas
                  have hkn := known_has hhas
                  obtain ⟨g2, hg2⟩ : ∃ g2, gotI T x.pr x.ps = g2 := ⟨_, rfl⟩
                  obtain ⟨kn, hkn2⟩ : ∃ kn, knownI T x.pr = kn := ⟨_, rfl⟩
                  rw [hkn2] at hkn
                  have HG2 := Lib.hid (And.intro hg2 hhas)
                  have HKn := Lib.hid hkn2
                  have hlk : decide (kn < x.ps) = false := decide_eq_false (by omega)
                  clear hxx hK0 hhas hg2 hkn2 hkn
                  obtain ⟨V, hV⟩ : ∃ Q_ : World, (wr.alloc (.cells (ci zeroI) 35)).setRow wr.heap.size (ci x) = Q_ := ⟨_, rfl⟩
                  have xV : Bx V wr.heap.size (ci x) 35 := hV ▸ Bx.put (Bx.new _ _ _) _
                  have bV : Below wr.heap.size wr V := hV ▸ below_setRow (below1 _ _) (Nat.le_refl _) _
                  have hplain := (Bx.new wr (ci zeroI) 35).plain (n := 25) rfl
                  have rx := xV.row
                  have HTV := Lib.hid (HT4.out.stays bV)
                  have hbV := nx hb4 bV
                  go_wp2_with fail
                  refine (get_is HG2 _ V HTV.out HT6.out).mono ?_
                  rintro e w5 ⟨rfl, hb5⟩
                  have x5 := xV.stays hb5
                  have h5 := nx hbV hb5
                  obtain ⟨R, hR⟩ : ∃ Q_ : World, (w5.alloc (.cells (ci zeroI) 35)).setRow w5.heap.size (ci g2) = Q_ := ⟨_, rfl⟩
                  have bR : Below w5.heap.size w5 R := hR ▸ below_setRow (below1 _ _) (Nat.le_refl _) _
                  have rpl := (Bx.new w5 (ci zeroI) 35).plain (n := 25) rfl
                  have xR := x5.stays bR
                  have hbR := nx h5 bR
                  have HTR := Lib.hid ((HTV.out.stays hb5).stays bR)
                  have hK : ∀ u, Below R.heap.size R u → TI q T (.slice a2 n c2) u ∧ u.cell? ⟨wr.heap.size, 0, none⟩ = some (.int .i64 x.pr) ∧ u.cell? ⟨wr.heap.size, 1, none⟩ = some (.int .i64 x.ps) := fun u hu => ⟨HTR.out.stays hu, (xR.stays hu).cell 0, (xR.stays hu).cell 1⟩
                  clear rx x5
                  go_wp2
                  refine Rf.region [0, 1, 2, 3, 4, 5, 6, 7, 8, 9, 10, 11, 12] (by kernel_rfl) (by kernel_rfl) (by kernel_rfl) (fun _ _ d _ _ h => by cases d <;> exact h) ?_
                  repeat (first | (refine Rf.Steps.skip (by rfl) (by kernel_rfl) (by rfl) ?_; simp only [Act.put, List.setIfInBounds_toArray, List.set_cons_zero, List.set_cons_succ]) | (refine Rf.Steps.pure (v := ?_) (by rfl) (by kernel_rfl) (by rfl) ?_ ?_; rotate_left; (intro w_ hS_; have hk_ := hK w_ hS_; go_simp <;> with_reducible rfl); simp only [Act.put, List.setIfInBounds_toArray, List.set_cons_zero, List.set_cons_succ]) | (refine Rf.Steps.call (v := ?_) (f := ?_) (args := ?_) (by rfl) (by kernel_rfl) (by rfl) ?_ ?_ ?_; rotate_left 3; (intro w_ hS_; have hk_ := hK w_ hS_; go_simp <;> first | with_reducible rfl | (constructor <;> with_reducible rfl)); (intro w_ hS_; have hk_ := hK w_ hS_; first | (go_at_call 10; refine (known_is HKn _ _ hk_.1 HT6.out).mono ?_; first | (rintro e w_ ⟨rfl, rfl⟩; refine ⟨?_, Below.refl _ _⟩; with_reducible rfl) | (rintro e w_ ⟨rfl, hb_⟩; refine ⟨?_, hb_⟩; with_reducible rfl))); simp only [Act.put, List.setIfInBounds_toArray, List.set_cons_zero, List.set_cons_succ]))
                  refine Rf.Steps.nil (by kernel_rfl) ?_
                  intro w6 h6
                  go_wp2
                  go_roundw
                  case rel => exact ⟨u + 1, by omega, by go_num, nx hbR h6⟩
                  case measure => simp [intOf]; omega
                · obtain rfl : u = j := by omega
                  have gu := gG.stays hb4
                  have wu := wG.stays hb4
                  have rg := gu.row
                  have rw1 := wu.row
                  have he := Rc.eqIns_refl g
                  have hle : decide ((n : Int) ≤ u) = true := decide_eq_true (by omega)
                  go_wp2_with fail
                  refine (awake_any _).mono ?_
                  rintro e w6 ⟨rfl, hb6⟩
                  go_wp2
                  go_ret
                  exact ⟨rfl, nx bw4 hb6⟩
end Go.Proofs.Ytoncmbglmebkiaa.In
