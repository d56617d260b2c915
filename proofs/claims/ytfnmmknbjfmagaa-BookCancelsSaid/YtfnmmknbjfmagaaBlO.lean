/- Orders of package level: in a row of its own. What Cancel comes to, over all orders. -/
import Derived.Test.YtfnmmknbjfmagaaLvD
import Derived.Test.YtfnmmknbjfmagaaBlFo
namespace Go.Proofs.Ytfnmmknbjfmagaa.Bk
open Go.RowKit
set_option linter.unusedVariables false
open Go.Proofs.Ytfnmmknbjfmagaa.Rw
open Go.Proofs.Ytfnmmknbjfmagaa.Da
open Go.Proofs.Ytfnmmknbjfmagaa.Le
set_option maxHeartbeats 2000000 in
theorem ords_own (B : Bs) (l : List Lv) (v : Value) (w : World) (h : LL B l v w) (hB : B.le w.heap.size) (hm : l.length ≤ 1000000) (hf : (flat l).length ≤ 1000000) :
    Calls Try.prog 22 #[v] w (Post (OwnO B w.heap.size (flat l)) w) := by
  rcases h.cases with ⟨rfl, a, c, rfl⟩ | ⟨hne, b, off, c, rfl, hat⟩
  · clear h
    have hd : decide ((0 : Int) < 0) = false := by decide
    go_enter Try.func22, Try.ntmps22
    go_wp2
    go_loopw [3, 9] (fun t i wr => i = .int .i64 0 ∧ t = .slice (some ⟨w.heap.size, 0, none⟩) 0 0 ∧ Below w.heap.size w wr ∧ OwnO B w.heap.size [] (.slice (some ⟨w.heap.size, 0, none⟩) 0 0) wr) (fun _ i _ => 0)
    case atStart => exact ⟨rfl, rfl, below1 _ _, Own.made _ _ _ (Nat.le_refl _)⟩
    case round =>
      obtain ⟨rfl, rfl, hb, ho⟩ := hrel
      have HO := Lib.hid ho
      clear ho
      go_wp2
      go_ret
      exact ⟨_, rfl, hb, HO.out⟩
  · have hbb : b < w.heap.size := hat.1
    have HA := Lib.hid hat
    have HF := Lib.hid hf
    obtain ⟨n, hn⟩ : ∃ n, n = l.length := ⟨_, rfl⟩
    rw [← hn] at hm ⊢
    have HN := Lib.hid hn
    clear h hat hn hne hf
    go_enter Try.func22, Try.ntmps22
    go_wp2
    go_loopw [3, 9] (fun t i wr => ∃ k : Nat, k ≤ n ∧ i = .int .i64 k ∧ Below w.heap.size w wr ∧ OwnO B w.heap.size (flat (l.take k)) t wr) (fun _ i _ => n - (intOf i).toNat)
    case atStart => exact ⟨0, Nat.zero_le _, rfl, below1 _ _, Own.made _ _ _ (Nat.le_refl _)⟩
    case round =>
      obtain ⟨k, hk, rfl, hb, hown⟩ := hrel
      have HO := Lib.hid hown
      clear hown
      by_cases hlt : k < n
      · have hlt2 : (k : Int) < n := by omega
        have hkl : k < l.length := by rw [← HN.out]; exact hlt
        obtain ⟨x, q0, q1, hx⟩ := atL HA.out k hkl
        obtain ⟨c1, f1, r1, p1⟩ := bcell hb
        obtain ⟨⟨pr, os⟩, hlk⟩ : ∃ y, l[k] = y := ⟨_, rfl⟩
        have ht := flat_take_snoc hkl
        have hle := flat_take_le l (k + 1)
        rw [hlk] at q0 hx ht
        simp only at q0 hx ht
        have HT := Lib.hid ht
        have hs : (flat (l.take k)).length + os.length ≤ 1000000 := by rw [ht, List.length_append] at hle; have := HF.out; omega
        clear ht hle hlk
        obtain ⟨a2, c2, rfl⟩ := hx.len
        obtain ⟨V, hV⟩ : ∃ V, V = wr.alloc (.cells #[.int .i64 pr, .slice a2 os.length c2] 48) := ⟨_, rfl⟩
        have hbV : Below wr.heap.size wr V := hV ▸ below1 wr _
        have hsz := hb.size
        have hzV : wr.heap.size < V.heap.size := by rw [hV]; simp
        have hbw := nx hb hbV
        have HX := Lib.hid (Is.stays eO 31 (Is.stays eO 31 hx hb) hbV)
        obtain ⟨v2, w2, hrun, hown2, _, hbl, _⟩ := Own.append elemO 46 typesO hB (by omega) (HO.out.stays hbV) HX.out (by omega)  (by omega)
        have HO3 : Hid (OwnO B w.heap.size (flat (l.take (k + 1))) v2 w2) := Lib.hid (by rw [HT.out]; exact hown2)
        have hb2 := hbl _ _ (Nat.le_refl _) hbw
        rw [hV] at hrun
        clear hown2 hbl hV
        go_wp2
        go_roundw
        case rel => exact ⟨k + 1, by omega, by go_num, hb2, HO3.out⟩
        case measure => simp [intOf]; omega
      · obtain rfl : k = n := by omega
        have e1 : l.take k = l := by rw [HN.out, List.take_length]
        have ho := HO.out
        rw [e1] at ho
        have HZ := Lib.hid ho
        clear ho e1
        go_wp2
        go_ret
        exact ⟨_, rfl, hb, HZ.out⟩
/-- What BookCancels looks for among all orders. -/
def wnt (ow id w : Int) (x : Od) : Int := if x.1 = id then (if x.2.1 = ow then 0 else 9) else w
theorem wnt_none {ow id : Int} : ∀ (l : List Od) (w : Int), (∀ x ∈ l, x.1 ≠ id) → l.foldl (wnt ow id) w = w
  | [], _, _ => rfl
  | x :: r, w, h => by
    rw [List.foldl_cons, show wnt ow id w x = w from if_neg (h x List.mem_cons_self)]
    exact wnt_none r w fun y hy => h y (List.mem_cons_of_mem _ hy)
theorem wnt_one {ow id : Int} {o : Od} : ∀ (l : List Od) (w : Int), (l.map oid).Nodup → o ∈ l → o.1 = id → l.foldl (wnt ow id) w = if o.2.1 = ow then 0 else 9
  | [], _, _, h, _ => by cases h
  | x :: r, w, hn, h, e => by
    rw [List.map_cons, List.nodup_cons] at hn
    rw [List.foldl_cons]
    rcases List.mem_cons.1 h with rfl | h
    · rw [show wnt ow id w o = if o.2.1 = ow then 0 else 9 from if_pos e]
      exact wnt_none r _ fun y hy k => hn.1 (List.mem_map.2 ⟨y, hy, k.trans e.symm⟩)
    · exact wnt_one r _ hn.2 h e
def allB (b : Bk) : List Od := flat b.1 ++ flat b.2.1
theorem all_nodup {b : Bk} (h : RightB b) : ((allB b).map oid).Nodup := by
  unfold allB
  rw [List.map_append, List.nodup_append]
  refine ⟨h.buys.2.2.2, h.sells.2.2.2, fun x hx y hy e => ?_⟩
  obtain ⟨o, ho, rfl⟩ := List.mem_map.1 hx
  obtain ⟨z, hz, rfl⟩ := List.mem_map.1 hy
  exact h.apart o ho z hz e
structure CanS (b : Bk) (ow id : Int) (C : Bk × Option Od × Int) : Prop where
  wn : (allB b).foldl (wnt ow id) 8 = C.2.2
  eq : ∀ x ∈ allB b, x.1 = id → x.2.1 = ow → C.2.1 = some x
  no : C.2.2 ≠ 0 → C.1 = b
  yes : C.2.2 = 0 → allB C.1 = (allB b).filter (fun x => !hasId id x) ∧ C.1.2.2 = b.2.2
theorem fndB_all (b : Bk) (id : Int) : fndB b id = fnd (allB b) id := (fnd_app _ _ id).symm
theorem uniq {l : List Od} {o x : Od} (hn : (l.map oid).Nodup) (ho : o ∈ l) (hx : x ∈ l) (e : x.1 = o.1) : x = o := by
  induction l with
  | nil => cases ho
  | cons a r ih =>
    rw [List.map_cons, List.nodup_cons] at hn
    rcases List.mem_cons.1 ho with rfl | ho2
    · rcases List.mem_cons.1 hx with rfl | hx2
      · rfl
      · exact absurd (show oid o ∈ r.map oid from List.mem_map.2 ⟨x, hx2, e⟩) hn.1
    · rcases List.mem_cons.1 hx with rfl | hx2
      · exact absurd (show oid x ∈ r.map oid from List.mem_map.2 ⟨o, ho2, e.symm⟩) hn.1
      · exact ih hn.2 ho2 hx2
theorem can_spec {b : Bk} (ow id : Int) (h : RightB b) : CanS b ow id (cancel b ow id) := by
  have hn := all_nodup h
  rcases cancel_cases (ow := ow) (id := id) h with ⟨h1, h2⟩ | ⟨o, h1, h2, h3⟩ | ⟨o, h1, h2, h3, h4, h5, h6, h7⟩
  · rw [h2]
    rw [fndB_all] at h1
    have h1' := fnd_none.1 h1
    exact ⟨wnt_none _ _ h1', fun x hx e _ => absurd e (h1' x hx), fun _ => rfl, fun e => absurd (show (8 : Int) = 0 from e) (by decide)⟩
  · rw [h3]
    rw [fndB_all] at h1
    obtain ⟨k1, k2⟩ := fnd_some h1
    refine ⟨(wnt_one _ _ hn k1 k2).trans (if_neg h2), fun x hx e e2 => ?_, fun _ => rfl, fun e => absurd (show (9 : Int) = 0 from e) (by decide)⟩
    exact absurd (by rw [← uniq hn k1 hx (e.trans k2.symm)]; exact e2) h2
  · rw [h4]
    rw [fndB_all] at h1
    obtain ⟨k1, k2⟩ := fnd_some h1
    refine ⟨(wnt_one _ _ hn k1 k2).trans (if_pos h2), fun x hx e _ => by rw [uniq hn k1 hx (e.trans k2.symm)], fun e => absurd rfl e, fun _ => ⟨h6, h7⟩⟩
end Go.Proofs.Ytfnmmknbjfmagaa.Bk
