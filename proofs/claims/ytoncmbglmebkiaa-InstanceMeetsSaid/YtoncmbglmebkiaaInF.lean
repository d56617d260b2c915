/- Layer 18: lists of places in memory; package instance's Open. -/
import Derived.Test.YtoncmbglmebkiaaInE
import Derived.Test.YtoncmbglmebkiaaInC
namespace Go.Proofs.Ytoncmbglmebkiaa.In
open Go.RowKit
set_option linter.unusedVariables false
open Go.Proofs.Ytoncmbglmebkiaa.Rw
open Go.Proofs.Ytoncmbglmebkiaa.Da
open Go.Proofs.Ytoncmbglmebkiaa.Ro
open Go.Proofs.Ytoncmbglmebkiaa.Bv
open Go.Proofs.Ytoncmbglmebkiaa.Mv
open Go.Proofs.Ytoncmbglmebkiaa.Rc (Ins ci zeroI okI)
open Go.Proofs.Ytoncmbglmebkiaa.St
def cPl (p : Int × Int) : List Value := [.int .i64 p.1, .int .i64 p.2]
theorem cPl_one (p : Int × Int) : ∀ u ∈ cPl p, u.oneCell' = true := by
  intro u hu
  simp only [cPl, List.mem_cons, List.not_mem_nil, or_false] at hu
  rcases hu with rfl | rfl <;> rfl
def fPl : Flat (Int × Int) := ⟨2, cPl, fun _ => rfl, cPl_one⟩
def ePl : Enc (Int × Int) := fPl.enc
abbrev TP (n : Nat) (l : List (Int × Int)) (v : Value) (w : World) : Prop := Is ePl 24 (Bs.of n) l v w
abbrev OwnP (n Bo : Nat) (l : List (Int × Int)) (v : Value) (w : World) : Prop := Own ePl 24 (Bs.of n) Bo l v w
theorem typesPl : 24 ∉ ePl.ts := by decide
theorem infoPl : (Try.prog.info? 24).map (fun i => (i.zero, i.size, i.bytes)) = some (some (.agg #[.int .i64 0, .int .i64 0]), 2, 16) := by kernel_rfl
theorem elemPl : Elem Try.prog 48 24 fPl.k 16 := elem_of Try.underlying48 infoPl rfl (by decide)
theorem elemPl' : Elem Try.prog 48 24 ePl.k 16 := elemPl
theorem TP.stays {n : Nat} {l : List (Int × Int)} {v : Value} {w w' : World} (h : TP n l v w) (k : Below w.heap.size w w') : TP n l v w' := Is.stays ePl 24 h k
theorem OwnP.tp {n Bo : Nat} {l : List (Int × Int)} {v : Value} {w : World} (h : OwnP n Bo l v w) (hn : n ≤ Bo) : TP n l v w := h.is (by decide) ⟨hn, fun _ h => False.elim h⟩
theorem TP.one {n : Nat} (a b : Int) {w : World} (hn : n ≤ w.heap.size) : TP n [(a, b)] (.slice (some ⟨w.heap.size, 0, none⟩) 1 1) (w.alloc (.cells #[.int .i64 a, .int .i64 b] 24)) :=
  Is.one (e := ePl) (T := 24) (cs := cPl (a, b)) ⟨hn, fun _ h => False.elim h⟩ rfl
/-- What lies at a place of a list of places, in all later worlds. -/
theorem TP.all {n : Nat} {l : List (Int × Int)} {a : Option Addr} {m c : Nat} {w wr : World} (h : TP n l (.slice a m c) w) (hb : Below w.heap.size w wr) {k : Nat} (hk : k < l.length) :
    ∃ b off, a = some ⟨b, off, none⟩ ∧ b < wr.heap.size ∧ ∀ u, Below wr.heap.size wr u → (row u b).extract (off + k * 2) (off + k * 2 + 2) = #[.int .i64 l[k].1, .int .i64 l[k].2] := by
  have h2 := h.stays hb
  rcases h2.cases with ⟨e, _⟩ | ⟨e, b, off, c2, hv, hl⟩
  · rw [e] at hk; exact absurd hk (by simp)
  · simp only [Value.slice.injEq] at hv
    obtain ⟨rfl, -, rfl⟩ := hv
    refine ⟨b, off, rfl, hl.1, fun u hu => ?_⟩
    have h3 := h2.stays hu
    rcases h3.cases with ⟨e2, _⟩ | ⟨_, b2, off2, c3, hv, hl2⟩
    · exact absurd e2 e
    · simp only [Value.slice.injEq, Option.some.injEq, Addr.mk.injEq] at hv
      obtain ⟨⟨rfl, rfl, _⟩, _, _⟩ := hv
      obtain ⟨cs, rfl, hu2⟩ := hl2.at k hk
      exact part_of (cs := #[.int .i64 l[k].1, .int .i64 l[k].2]) (show 0 < 2 by decide) hu2
theorem own_row {n Bo : Nat} {l : List (Int × Int)} {v : Value} {w : World} (h : OwnP n Bo l v w) {b : Nat} (e : v.ownBlock = some b) : ∃ cs t fr, w.heap[b]? = some (.cells cs t fr) := by
  rcases Row.ofOwn (e := fPl) h with ⟨rfl, _⟩ | ⟨g, cap, rfl, _, _, hr⟩
  · cases e
  · obtain ⟨cur, hg, _⟩ := hr.ex
    cases e
    exact ⟨_, _, _, hg⟩
/-- An append of one place; a map lies apart. -/
theorem app_pl {n Bo : Nat} {l : List (Int × Int)} {v : Value} {w : World} (h : OwnP n Bo l v w) (hn : n ≤ Bo) (hB : Bo ≤ w.heap.size) (x y : Int) (hl : l.length ≤ 10000000) :
    ∃ v' w', appRun Try.prog 48 48 v (.slice (some ⟨w.heap.size, 0, none⟩) 1 1) (w.alloc (.cells #[.int .i64 x, .int .i64 y] 24)) = .ok v' w' ∧ OwnP n Bo (l ++ [(x, y)]) v' w' ∧ (∀ k w0, k ≤ Bo → Below k w0 w → Below k w0 w') ∧ ∀ t b m, MS t b m w → MS t b m w' := by
  have hw : OwnP n Bo l v (w.alloc (.cells #[.int .i64 x, .int .i64 y] 24)) := Own.stays h (below1 w _)
  obtain ⟨v', w', h1, h2, h4, h3, _⟩ := Own.append elemPl' 48 typesPl ⟨hn, fun _ h => False.elim h⟩ (by simp; omega) hw (TP.one x y (Nat.le_trans hn hB)) (m := [(x, y)]) (by simp; omega) (by decide)
  refine ⟨v', w', h1, h2, fun k w0 hk hb => h3 k w0 hk (hb.trans ((below1 w _).mono (Nat.le_trans hk hB))), fun t b m hM => ?_⟩
  have hM2 : MS t b m (w.alloc (.cells #[.int .i64 x, .int .i64 y] 24)) := MV.stays hM (below1 w _)
  refine MV.same hM2 (h4.block b (MV.lt hM2) fun e => ?_)
  obtain ⟨cs, t2, fr, e2⟩ := own_row hw e.symm
  obtain ⟨D, _, ⟨es, c, hb, _⟩, _⟩ := hM2
  rw [hb] at e2; cases e2
section
variable (ρ : Operand → Value) (dst : Option Tmp) (ty : TypeId) (pos : String) (after : Array Edge) (guard : Option (Nat × Bool)) (w : World)
theorem zPl : ∀ w, (zeroValue 24).run Try.prog w = .ok (.agg #[.int .i64 0, .int .i64 0]) w := fun w => by kernel_rfl
theorem allocPl : (execOp ρ { dst, op := .alloc 24, type := ty, pos, after, guard }).run Try.prog w = .ok (.value (.pointer (some ⟨w.heap.size, 0, none⟩))) (w.alloc (.cells #[.int .i64 0, .int .i64 0] 24)) :=
  exec_alloc ρ dst ty pos after guard w zPl
theorem storePl (p x : Operand) (h : plainAt 2 w (ρ p) = true) (hs : (ρ x).cells.size = 2) (h1 : oneAll (ρ x) = true) (ha : ρ x = .agg (ρ x).cells) : (execOp ρ { dst, op := .store 24 p x, type := ty, pos, after, guard }).run Try.prog w = .ok .skip (putRow w (ρ p) (ρ x).cells) :=
  exec_store (n := 1) ρ dst ty pos after guard w (by kernel_rfl) p x h hs h1 ha
theorem fillPl (x y : Int) (w : World) : (Instr.buildSlice 48 1 #[(0, .agg #[.int .i64 x, .int .i64 y])]).run Try.prog w = .ok (.slice (some ⟨w.heap.size, 0, none⟩) 1 1) (w.alloc (.cells #[.int .i64 x, .int .i64 y] 24)) := by
  obtain ⟨k, h1, h2, h3, h4⟩ := info_parts infoPl
  exact run_buildSlice w 48 24 1 _ #[.int .i64 x, .int .i64 y] k _ Try.underlying48 h1 h2 (by rw [h3]; decide) (by rw [h3]; decide) (by rw [h3]; kernel_rfl)
theorem noPl (w : World) : (Instr.buildSlice 48 0 #[]).run Try.prog w = .ok (.slice (some ⟨w.heap.size, 0, none⟩) 0 0) (w.alloc (.cells #[] 24)) := by kernel_rfl
end
theorem onePl (x y : Int) : oneAll (.agg #[.int .i64 x, .int .i64 y]) = true := by simp [oneAll, Value.cells, Value.oneCell']
attribute [go_sem ↓] allocPl storePl
attribute [go_sem] fillPl noPl onePl
def OpenP (q : Nat) (l : List Ins) (n : Int) (w : World) (e : Ending) (w' : World) : Prop := ∃ v, e = .returned v ∧ OwnP q w.heap.size (openI l n) v w' ∧ Below w.heap.size w w'
set_option maxRecDepth 16000 in
set_option maxHeartbeats 8000000 in
theorem open_any (q : Nat) (l : List Ins) (v : Value) (n : Int) (w : World) (h : TI q l v w) (hq : q ≤ w.heap.size) (hm : l.length ≤ 1000000) (hNu : Nums l) :
    Calls Try.prog 15 #[v, .int .i64 n] w (OpenP q l n w) := by
  obtain ⟨a1, c1, rfl⟩ := h.len
  have H := Lib.hid h
  have HNu := Lib.hid hNu
  obtain ⟨m, hmm⟩ : ∃ m, l.length = m := ⟨_, rfl⟩
  have HN := Lib.hid hmm
  rw [hmm] at hm ⊢
  obtain ⟨U, hU⟩ : ∃ Q_ : World, w.alloc (.cells #[] 24) = Q_ := ⟨_, rfl⟩
  have oU : Hid (OwnP q w.heap.size [] (.slice (some ⟨w.heap.size, 0, none⟩) 0 0) U) := Lib.hid (hU ▸ Own.made (Bs.of q) w w.heap.size (Nat.le_refl _))
  have bU : Below w.heap.size w U := hU ▸ below1 w _
  obtain ⟨N, hNn⟩ : ∃ N, (if 7 < n then 7 else n) = N := ⟨_, rfl⟩
  have HNn : Hid (min n 7 = N) := Lib.hid (by rw [← hNn]; split <;> omega)
  have hN7 : N ≤ 7 := by rw [← HNn.out]; omega
  have hTU := TI.stays h bU
  rw [hmm] at hTU
  clear h hmm hNu
  go_enter Try.func15, Try.ntmps15
  go_wp2_with fail
  refine (statuses_any q l _ U hTU (by rw [HN.out]; exact hm) HNu.out).mono ?_
  rintro e w1 ⟨b, sz, rfl, hbU, hM1, hb1⟩
  have HM1 := Lib.hid hM1
  have b1 := nx bU hb1
  have oU1 := Lib.hid (Own.stays oU.out hb1)
  clear hM1
  go_wp2
  go_loopw [5, 15] (fun t x wr => ∃ k : Nat, (k : Int) ≤ max N 0 ∧ x = .int .i64 k ∧ OwnP q w.heap.size (openN l k) t wr ∧ MS l b sz wr ∧ Below w.heap.size w wr) (fun _ x _ => 7 - (intOf x).toNat)
  case atStart => exact ⟨0, by omega, rfl, oU1.out, HM1.out, b1⟩
  case round =>
    obtain ⟨k, hk, rfl, ho, hM, hb⟩ := hrel
    have HO := Lib.hid ho
    have HM := Lib.hid hM
    have hk7 : k ≤ 7 := by omega
    have hlen := openN_len l k
    have HL := Lib.hid hlen
    clear ho hM hlen
    by_cases hlt : (k : Int) < N
    · have Hkn := Lib.hid (known_nonneg l k)
      obtain ⟨g, hg⟩ : ∃ g, knownI l k = g := ⟨_, rfl⟩
      have HG := Lib.hid hg
      obtain ⟨K, hK⟩ : ∃ K, (if 400 < g then 400 else g) = K := ⟨_, rfl⟩
      have HK : Hid (K = (slots l k : Nat)) := Lib.hid (by
        have := Hkn.out
        unfold slots; rw [hg, ← hK]; rw [hg] at this
        split <;> omega)
      have hTw := TI.stays H.out hb
      rw [HN.out] at hTw
      have HTw := Lib.hid hTw
      clear hg hTw
      have hK4 : K ≤ 400 := by rw [← hK]; split <;> omega
      go_wp2_with fail
      refine (known_is HG _ wr HTw.out (by rw [HN.out]; exact hm)).mono ?_
      rintro e w2 ⟨rfl, hb2⟩
      have HO2 := Lib.hid (Own.stays HO.out hb2)
      have HM2 := Lib.hid (MV.stays HM.out hb2)
      have bw2 := nx hb hb2
      go_wp2
      go_loopw [5, 22] (fun t x wr => ∃ j : Nat, (j : Int) ≤ max K 0 ∧ x = .int .i64 j ∧ OwnP q w.heap.size (openN l k ++ openR l k j) t wr ∧ MS l b sz wr ∧ Below w.heap.size w wr) (fun _ x _ => 400 - (intOf x).toNat)
      case atStart => exact ⟨0, by omega, rfl, by rw [openR_zero, List.append_nil]; exact HO2.out, HM2.out, bw2⟩
      case round =>
        obtain ⟨j, hj, rfl, ho3, hM3, hb3⟩ := hrel
        have HO3 := Lib.hid ho3
        have HM3 := Lib.hid hM3
        have hj4 : j ≤ 400 := by omega
        have HLr := Lib.hid (openR_len l k j)
        have HS := Lib.hid (openR_succ l k j)
        clear ho3 hM3
        have hsz := hb3.size
        by_cases hlt3 : (j : Int) < K
        · obtain ⟨V, hV⟩ : ∃ Q_ : World, (wr.alloc (.cells #[.int .i64 0, .int .i64 0] 24)).setRow wr.heap.size #[.int .i64 k, .int .i64 ((j : Int) + 1)] = Q_ := ⟨_, rfl⟩
          have xV : Bx V wr.heap.size #[.int .i64 k, .int .i64 ((j : Int) + 1)] 24 := hV ▸ Bx.put (Bx.new _ _ _) _
          have bV : Below wr.heap.size wr V := hV ▸ below_setRow (below1 _ _) (Nat.le_refl _) _
          have hplain := (Bx.new wr #[.int .i64 0, .int .i64 0] 24).plain (n := 2) rfl
          have rx := xV.row
          have bwV := nx hb3 bV
          have HMV := MV.stays HM3.out bV
          have hlk := MS.look HMV (r := (k : Int)) (s := (j : Int) + 1) (by unfold Num; omega) (by unfold Num; omega)
          obtain ⟨y, hy⟩ : ∃ y, (gotI l k ((j : Int) + 1)).st = y := ⟨_, rfl⟩
          rw [hy] at hlk
          have HY := Lib.hid hy
          clear hy
          by_cases hy3 : y = 3
          · have hne : (y != 3) = false := by rw [hy3]; rfl
            have HF : Hid (openR l k (j + 1) = openR l k j) := Lib.hid (by rw [HS.out, HY.out, hy3]; rfl)
            have HO4 := Lib.hid (Own.stays HO3.out bV)
            have HM4 := Lib.hid HMV
            clear hy3 HMV
            go_wp2
            go_roundw
            case rel => exact ⟨j + 1, by omega, by go_num, by rw [HF.out]; exact HO4.out, HM4.out, bwV⟩
            case measure => simp [intOf]; omega
          · have hne : (y != 3) = true := by simpa using hy3
            have HF : Hid (openR l k (j + 1) = openR l k j ++ [((k : Int), (j : Int) + 1)]) := Lib.hid (by
              rw [HS.out, HY.out, if_neg (by simpa using hy3)])
            obtain ⟨v', w', hrun, hown, hbl, hmp⟩ := app_pl (Own.stays HO3.out bV) hq (show w.heap.size ≤ V.heap.size by have := bwV.size; exact this) (k : Int) ((j : Int) + 1) (by
              rw [List.length_append]
              have := HL.out
              have := HLr.out
              have : 400 * k ≤ 400 * 7 := Nat.mul_le_mul_left _ hk7
              omega)
            have HO4 := Lib.hid hown
            have HM4 := Lib.hid (hmp _ _ _ HMV)
            have bl := hbl w.heap.size w (Nat.le_refl _) bwV
            clear hy3 HMV hown hbl hmp
            go_wp2
            go_roundw
            case rel => exact ⟨j + 1, by omega, by go_num, by rw [HF.out, ← List.append_assoc]; exact HO4.out, HM4.out, bl⟩
            case measure => simp [intOf]; omega
        · have hjK : j = slots l k := by
            have := HK.out
            omega
          have HF : Hid (openN l k ++ openR l k j = openN l (k + 1)) := Lib.hid (by rw [openN_succ, hjK])
          have HL2 := Lib.hid hjK
          clear hjK
          have hd : decide ((j : Int) < K) = false := decide_eq_false hlt3
          clear hlt3
          go_wp2
          go_roundw
          case rel => exact ⟨k + 1, by omega, by go_num, by rw [← HF.out]; exact HO3.out, HM3.out, hb3⟩
          case measure => simp [intOf]; omega
    · have hd : decide ((k : Int) < N) = false := decide_eq_false hlt
      have HF : Hid (openI l n = openN l k) := Lib.hid (by
        unfold openI
        rw [HNn.out]
        congr 1
        omega)
      clear hlt
      go_wp2
      go_ret
      exact ⟨_, rfl, by rw [HF.out]; exact HO.out, hb⟩
end Go.Proofs.Ytoncmbglmebkiaa.In
