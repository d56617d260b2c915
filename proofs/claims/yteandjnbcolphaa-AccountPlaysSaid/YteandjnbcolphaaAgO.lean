/- slices.SortedFunc(maps.Keys(m), compare): the keys of a map from purses, in their order. -/
import Derived.Test.YteandjnbcolphaaAgN
import Derived.Test.YteandjnbcolphaaAgSh
import Derived.Shelf.SlSortCmp.NoneTotal
namespace Go.Proofs.Yteandjnbcolphaa.Ac
open Go.RowKit Go.Maps Go.Sort Go.Shelf
open Go.Proofs.Yteandjnbcolphaa.Rw
open Go.Proofs.Yteandjnbcolphaa.Sl
open Go.Proofs.Yteandjnbcolphaa.Mg
theorem encL_one (x : Pu) : ∀ v ∈ encL x, v.oneCell' = true := by
  intro v hv; simp [encL] at hv; rcases hv with rfl | rfl <;> rfl
theorem swoP : SWO (ltOf cmpP) where
  irrefl x := by unfold ltOf; rw [cmpP_lt]; exact pless_irrefl x
  trans x y z h1 h2 := by unfold ltOf at *; rw [cmpP_lt] at *; exact pless_trans h1 h2
  ntrans x y z h1 h2 := by
    unfold ltOf at *
    rw [cmpP_lt] at *
    cases h : pless x z
    · rfl
    · cases k : pless y x
      · have e := pless_tri h1 k
        rw [e, h2] at h; cases h
      · rw [pless_trans k h] at h2; cases h2
theorem cmpLays (blk off size : Nat) (w : World) : Go.Proofs.CmpLays Try.prog 31 #[] encL 2 cmpP blk off size w :=
  fun _ _ _ _ x y => purses_ext x.1 x.2 y.1 y.2 _
theorem hold2 {w : World} {base : Nat} {g cap : Nat} {n : Nat} {l : List Pu} (h : OwnP base l (.slice (some ⟨g, 0, none⟩) n cap) w) (hn : l ≠ []) : HoldsK encL 2 w g 0 l.toArray ∧ g < w.heap.size ∧ base ≤ g := by
  have h1 := SL.own encL 2 encL_len (by decide) h
  rcases h.2 with ⟨e, _⟩ | ⟨g', cap', cur, e, hbase, hg, hnc, _, hcs, ht⟩
  · cases e
  · have eg : g = g' := by simp at e; exact e.1
    subst eg
    have hfz : ∀ o, w.frozen? ⟨g, o, none⟩ = false := fun o => by simp [World.frozen?, hg]
    have hat : At encL 2 l g 0 w := by
      rcases h1.2.cases with ⟨e2, _⟩ | ⟨_, b, off, c, e2, hat⟩
      · exact absurd e2 hn
      · simp at e2
        obtain ⟨⟨rfl, rfl⟩, _⟩ := e2
        exact hat
    refine ⟨fun t ht2 => ⟨?_, hfz _⟩, hat.1, hbase⟩
    rw [size_flatK] at ht2
    rw [get_flatK _ _ _ _ ht2]
    have hlt : t / 2 < l.length := by simp at ht2; omega
    have := hat.2 (t / 2) l[t / 2] (List.getElem?_eq_getElem hlt) (t % 2) (encL l[t / 2])[t % 2]! (by
      have h2 : t % 2 < 2 := Nat.mod_lt _ (by decide)
      have : t % 2 = 0 ∨ t % 2 = 1 := by omega
      rcases this with e | e <;> rw [e] <;> rfl)
    rw [show 0 + t / 2 * 2 + t % 2 = 0 + t by omega] at this
    rw [this]
    simp [hlt]
theorem at_holdsK {w : World} {g : Nat} {d : Array Pu} (h : HoldsK encL 2 w g 0 d) (hg : g < w.heap.size) : At encL 2 d.toList g 0 w := by
  refine ⟨hg, fun i x hx j u hu => ?_⟩
  obtain ⟨hi, rfl⟩ := List.getElem?_eq_some_iff.1 hx
  have hi2 : i < d.size := by simpa using hi
  have hj : j < 2 := by
    rcases Nat.lt_or_ge j 2 with h | h
    · exact h
    · rw [List.getElem?_eq_none (by rw [encL_len]; exact h)] at hu; cases hu
  have := (h.cell (i := i) (c := j) hi2 hj).1
  rw [this]
  have e : d[i]! = d[i] := getElem!_pos d i hi2
  rw [e]
  have : j = 0 ∨ j = 1 := by omega
  rcases this with rfl | rfl <;> simpa [encL] using hu
theorem grown_sorted {w : World} {g n : Nat} {os : Array Obj} (d : Array Pu) : w.grownBy (sortWorldK encL 2 w g 0 n d os) (some g) := by
  unfold sortWorldK putRowK
  refine ⟨rfl, rfl, rfl, by simp, fun k hk hne => ?_⟩
  rw [heap_grow_old _ _ (by simpa using hk)]
  have : g ≠ k := fun e => hne (by rw [e])
  simp [Go.Sort.putRow, mapBlock, Sort.ahead, Array.getElem?_modify, this]
/-- A list of purses in memory; where it has one, in a block of purses' cells. -/
def PL (ss : List Pu) (v : Value) (w : World) : Prop := ∃ a c, v = .slice a ss.length c ∧ (ss = [] ∨ ∃ g cur, a = some ⟨g, 0, none⟩ ∧ w.heap[g]? = some (.cells cur 24 (0, 0)) ∧ At encL 2 ss g 0 w)
theorem sorted_block {w : World} {g n : Nat} {os : Array Obj} {cur : Array Value} {d : Array Pu} (hb : w.heap[g]? = some (.cells cur 24 (0, 0))) :
    ∃ cur', (sortWorldK encL 2 w g 0 n d os).heap[g]? = some (.cells cur' 24 (0, 0)) := by
  unfold sortWorldK putRowK
  have hg : g < w.heap.size := (Array.getElem?_eq_some_iff.1 hb).1
  rw [heap_grow_old _ _ (by simpa using hg)]
  simp [Go.Sort.putRow, mapBlock, Sort.ahead, Array.getElem?_modify, hb, onCells]
def SortedPost (D : DataW Unit) (w : World) (e : Ending) (w' : World) : Prop := ∃ (v : Value) (ss : List Pu), e = .returned v ∧ Keys Try.prog 24 encP D ss ∧ ss.Pairwise (fun a b => pless a b = true) ∧ PL ss v w' ∧ ss.length ≤ 1000000 ∧ Below w.heap.size w w'
theorem sorted_pairwise {ss : List Pu} {d : Array Pu} (hp : PermIn 0 ss.toArray.size ss.toArray d) (hs : SortedIn (ltOf cmpP) 0 ss.toArray.size d) (hn : ss.Nodup) : d.toList.Perm ss ∧ d.toList.Pairwise (fun a b => pless a b = true) := by
  have hsz : d.size = ss.length := by simpa using hp.1
  have hpm : d.toList.Perm ss := by
    have := hp.2.2
    have e1 : d.extract 0 ss.toArray.size = d := by rw [show ss.toArray.size = d.size by simp [hsz]]; simp
    have e2 : ss.toArray.extract 0 ss.toArray.size = ss.toArray := by simp
    rw [e1, e2] at this
    simpa using this
  refine ⟨hpm, List.pairwise_iff_getElem.2 fun i j hi hj hij => ?_⟩
  have hi2 : i < d.size := by simpa using hi
  have hj2 : j < d.size := by simpa using hj
  have h1 := hs i j (Nat.zero_le _) hij (by simp; omega)
  rw [getElem!_pos d i hi2, getElem!_pos d j hj2] at h1
  unfold ltOf at h1
  rw [cmpP_lt] at h1
  simp only [Array.getElem_toList]
  cases h2 : pless d[i] d[j]
  · have e := pless_tri h1 h2
    have hnd := hpm.nodup_iff.2 hn
    have := List.pairwise_iff_getElem.1 hnd i j hi hj hij
    simp only [Array.getElem_toList] at this
    exact absurd e.symm this
  · rfl
set_option maxHeartbeats 2000000 in
theorem sorted_any (Bm b nn : Nat) (D : DataW Unit) (g : Pu → Int) (w : World) (h : MQ g b nn D w) (hBm : Bm < w.heap.size) (hm : w.cell? ⟨Bm, 0, none⟩ = some (.map (some b))) (hN : Maps.size D ≤ 1000000) :
    Calls Try.prog 39 #[.func (.func 44) #[] #[.pointer (some ⟨Bm, 0, none⟩)], .func (.func 31) #[] #[]] w (SortedPost D w) := by
  have hseq : SeqStopsK Fence.wide (5 - 1 - 1) Try.prog 44 #[.pointer (some ⟨Bm, 0, none⟩)] (fun x : Pu => #[.agg #[.int .i64 x.1, .int .i64 x.2]]) KeepsWalks (Keys Try.prog 24 encP D) (fun _ => True) (Maps.size D) w := keys_stops Fence.wide 3 trivial rfl (by decide) Bm b nn D w hBm hm h.2.1
  have hC := (callsIn_wide (n := 5)).1 (collect_in Fence.wide 5 trivial trivial rfl (by decide) _ _ trivial (enters_of Try.func44 (by kernel_rfl) rfl) _ _ hN w hseq)
  have HC := Lib.hid hC
  have HN := Lib.hid hN
  clear hseq hC h hm hN
  go_enter Try.func39, Try.ntmps39
  go_wp2_with fail
  refine HC.out.mono ?_
  rintro e w1 ⟨v, ss, rfl, hK, hown, hb1, hln⟩
  have eg : ∀ args w, (callFunc 31 args).run Try.prog w = .ok (.enter 31 args) w := enters_of Try.func31 (by kernel_rfl) rfl
  have HK := Lib.hid hK
  clear hK
  by_cases hss : ss = []
  · subst hss
    obtain ⟨p, cap, rfl⟩ : ∃ p cap, v = .slice p 0 cap := by
      obtain ⟨a, c, hv, _⟩ := (SL.own encL 2 encL_len (by decide) hown).2
      exact ⟨a, c, hv⟩
    have hS := AnyF.slices_SortFunc_none Try.sortP p cap (.func (.func 31) #[] #[]) w1
    change Calls Try.prog 43 _ _ _ at hS
    have HS := Lib.hid hS
    clear hS hown eg
    go_wp2_with fail
    refine HS.out.mono ?_
    rintro e w2 ⟨rfl, rfl⟩
    go_wp2
    go_ret
    exact ⟨_, [], rfl, HK.out, List.Pairwise.nil, ⟨_, _, rfl, .inl rfl⟩, by simp, hb1⟩
  · obtain ⟨g, cap, rfl⟩ : ∃ g cap, v = .slice (some ⟨g, 0, none⟩) ss.length cap := by
      rcases hown.2 with ⟨_, h0⟩ | ⟨g, cap, _, rfl, _⟩
      · exact absurd (List.eq_nil_of_length_eq_zero h0) hss
      · exact ⟨g, cap, rfl⟩
    obtain ⟨hH, hgl, hbase⟩ := hold2 hown hss
    obtain ⟨cur, hcur⟩ : ∃ cur, w1.heap[g]? = some (.cells cur 24 (0, 0)) := by
      rcases hown.2 with ⟨e, _⟩ | ⟨g', cap', cur, e, _, hg, _⟩
      · cases e
      · simp at e; rw [e.1]; exact ⟨cur, hg⟩
    have HCu := Lib.hid hcur
    clear hcur
    have hN1 := HN.out
    have hlen : ss.length < 4611686018427387904 := by omega
    clear hN1
    have hS := AnyQ.slices_SortFunc Try.sortP 2 Try.isAgg24 Try.sizeOf24 encL encL_len encL_one cmpP swoP 31 #[] g 0 cap ss.toArray w1 eg (cmpLays g 0 _ w1) hH hgl (by simpa using hlen)
    change Calls Try.prog 43 _ _ _ at hS
    rw [show ss.toArray.size = ss.length by simp] at hS
    have HH := Lib.hid hH
    have HS := Lib.hid hS
    clear hS hown eg hH hlen hss
    go_wp2_with fail
    refine HS.out.mono ?_
    rintro e w2 ⟨rfl, d, n, os, hp, hs, rfl⟩
    have hq := sorted_pairwise (by simpa using hp) (by simpa using hs) HK.out.1
    have hH2 := holdsK_sortWorldK_c encL 2 w1 g 0 ss.toArray d n os HH.out hgl (by simpa using hp.1)
    have hsz := size_sortWorldK_c encL 2 w1 g 0 n d os
    have hat := at_holdsK hH2 (by omega)
    have el : d.toList.length = ss.length := hq.1.length_eq
    obtain ⟨cur', hcur'⟩ := sorted_block (n := n) (os := os) (d := d) HCu.out
    have hsl : PL d.toList (.slice (some ⟨g, 0, none⟩) ss.length cap) (sortWorldK encL 2 w1 g 0 n d os) := ⟨_, cap, by rw [el], .inr ⟨g, cur', rfl, hcur', hat⟩⟩
    have hbw : Below w.heap.size w (sortWorldK encL 2 w1 g 0 n d os) := hb1.grown (grown_sorted d) hb1.size (fun j hj => by cases hj; exact hbase)
    have HSL := Lib.hid hsl
    have HQ := Lib.hid hq
    have HL : Hid (d.toList.length ≤ 1000000) := Lib.hid (by rw [el]; exact Nat.le_trans hln HN.out)
    clear hsl hq hH2 hat hp hs el hln hcur'
    go_wp2
    go_ret
    exact ⟨_, d.toList, rfl, HK.out.perm HQ.out.1, HQ.out.2, HSL.out, HL.out, hbw⟩
end Go.Proofs.Yteandjnbcolphaa.Ac
