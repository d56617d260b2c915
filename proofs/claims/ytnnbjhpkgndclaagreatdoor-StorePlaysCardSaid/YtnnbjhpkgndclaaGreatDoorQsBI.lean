/- Layer 17: slices.Insert of an instance; package store's put. -/
import Derived.Test.YtnnbjhpkgndclaaGreatDoorQsZZ
import Derived.Test.YtnnbjhpkgndclaaGreatDoorQsBF
import Derived.Test.YtnnbjhpkgndclaaGreatDoorQsAG
import Derived.Test.YtnnbjhpkgndclaaGreatDoorQsAV
import Derived.Lib.Overlaps
import Derived.Test.YtnnbjhpkgndclaaGreatDoorQsBG
import Derived.Test.YtnnbjhpkgndclaaGreatDoorQsBH
import Derived.Test.YtnnbjhpkgndclaaGreatDoorQsAF
import Derived.Test.YtnnbjhpkgndclaaGreatDoorQsAS
set_option linter.unusedVariables false
namespace Go.Proofs.YtnnbjhpkgndclaaGreatDoor.St
open Go.RowKit
open Go.Proofs.YtnnbjhpkgndclaaGreatDoor.Rw
open Go.Proofs.YtnnbjhpkgndclaaGreatDoor.Da
open Go.Proofs.YtnnbjhpkgndclaaGreatDoor.Ro
open Go.Proofs.YtnnbjhpkgndclaaGreatDoor.Bv
open Go.Proofs.YtnnbjhpkgndclaaGreatDoor.Rc (Ins ci zeroI)
theorem zeroIv (w : World) : (zeroValue 44).run Tryz.prog w = .ok (.agg (ci zeroI)) w := Rc.zI w
def InsP (q Bo : Nat) (l : List Ins) (w : World) (e : Ending) (w' : World) : Prop := ∃ v,e = .returned v ∧ OwnI q Bo l v w' ∧ ∀ k w0,k ≤ Bo → Below k w0 w → Below k w0 w'
theorem row_own {q Bo g cap : Nat} {l : List Ins} {w : World} (h : RowI g cap l w) (hB : Bo ≤ g) (hc : cap ≤ maxLen) : OwnI q Bo l (.slice (some ⟨g,0,none⟩) l.length cap) w := Row.own (e := fI) (B := Bs.of q) h hB hc
set_option maxRecDepth 100000 in
set_option maxHeartbeats 4000000 in
theorem insert_end (q Bo b1 : Nat) (l : List Ins) (v : Value) (y : Ins) (w : World) (hq : q ≤ Bo) (hB : Bo ≤ w.heap.size) (h : OwnI q Bo l v w) (hm : l.length ≤ 1000000) (hv : TI q [y] (.slice (some ⟨b1,0,none⟩) 1 1) w) :
    Calls Tryz.prog 87 #[v,.int .i64 l.length,.slice (some ⟨b1,0,none⟩) 1 1] w (InsP q Bo (l ++ [y]) w) := by
  obtain ⟨v',w',hrun,hown,hbl⟩ := app_list h hv hq hB (by simp;omega)
  obtain ⟨a1,c1,rfl⟩ := (h.ti hq).len
  have HO := lH hown
  have HB := lH hbl
  obtain ⟨n,hn⟩ : ∃ n,l.length = n := ⟨_,rfl⟩
  rw [hn] at hm hrun ⊢
  have hc : n = 0 ∨ ∃ b,a1 = some b := by
    cases a1 with
    | none =>
      rcases (h.ti hq).cases with ⟨e,_⟩ | ⟨_,b,off,c,e,_⟩
      · exact .inl (by rw [← hn,e];rfl)
      · cases e
    | some b => exact .inr ⟨b,rfl⟩
  have hd : ((1 : Int) == 0) = false := by decide
  clear hown hbl h hv hn
  rcases hc with rfl | ⟨b,rfl⟩
  · cases a1 with
    | none =>
      go_enter Tryz.func87,Tryz.ntmps87
      go_wp2
      go_ret
      exact ⟨_,rfl,HO.out,HB.out⟩
    | some b =>
      go_enter Tryz.func87,Tryz.ntmps87
      go_wp2
      go_ret
      exact ⟨_,rfl,HO.out,HB.out⟩
  · go_enter Tryz.func87,Tryz.ntmps87
    go_wp2
    all_goals go_ret
    all_goals exact ⟨_,rfl,HO.out,HB.out⟩
set_option maxRecDepth 100000 in
set_option maxHeartbeats 4000000 in
theorem insert_new (q Bo g n cap i b1 : Nat) (hs : List Ins) (y : Ins) (w : World) (hBo : Bo ≤ w.heap.size) (hrow : RowI g cap hs w) (hl : n = hs.length) (hlt : i < n) (hm : n ≤ 1000000) (hcap : cap < n + 1) (hv : RowI b1 1 [y] w) :
    Calls Tryz.prog 87 #[.slice (some ⟨g,0,none⟩) n cap,.int .i64 i,.slice (some ⟨b1,0,none⟩) 1 1] w (InsP q Bo (hs.take i ++ [y] ++ hs.drop i) w) := by
  have HR := lH hrow
  have HV := lH hv
  have HL := lH hl
  have hci : i ≤ cap := by have := hrow.le;omega
  obtain ⟨c2,w2,hrun,hr2,hb2,hc2⟩ := Row.growz (u := 3) (ik := .i64) elemI Tryz.underlying3 29 zeroIv (x0 := zeroI) rfl hrow (n := i) (m := n + 1 - i) (by omega) (by omega) (by omega) (by decide)
  have e1 : i + (n + 1 - i) = n + 1 := by omega
  have e2 : ((n + 1 - i : Nat) : Int) = (n : Int) + 1 - i := by omega
  rw [e1,e2] at hrun
  have hg2 : w.heap.size < w2.heap.size := hr2.lt
  have hle2 : n + 1 ≤ c2 := by have := hr2.le;rw [List.length_append,List.length_take,List.length_replicate] at this;omega
  have hlen2 : (hs.take i ++ List.replicate (n + 1 - i) zeroI).length = n + 1 := by rw [List.length_append,List.length_take,List.length_replicate];omega
  obtain ⟨w3,hrun3,hr3,hg3⟩ := Row.copy (u := 29) elemI 3 hr2 (ys := [y]) (o := i) (dl := n + 1 - i) (dc := c2 - i) (by omega) (by simp;omega) (by simp;omega) ⟨b1,0,none⟩ 1 (hv.stays hb2).cells0
  simp only [List.length_singleton,show fI.k = 25 from rfl] at hrun3
  have hb3 : Below w.heap.size w w3 := hb2.grown hg3 hb2.size (fun k hk => by injection hk with e;omega)
  have hgz := hrow.lt
  have HR3 := lH hr3
  have HRo := lH ((hrow.stays hb2).apart hg3 (by omega))
  have hi1 : (i : Int) < n := by omega
  have hi2 : (i : Int) ≤ n := by omega
  have hi3 : (i : Int) ≤ n + 1 := by omega
  have hi4 : (i : Int) < c2 := by omega
  have hd1 : ((1 : Int) == 0) = false := by decide
  have hd2 : ((i : Int) == n) = false := by simp;omega
  have hd3 : decide ((cap : Int) < n + 1) = true := decide_eq_true (by omega)
  have hd4 : decide (cap < n + 1) = true := decide_eq_true (by omega)
  have hd5 : decide ((n : Int) + 1 > cap) = true := decide_eq_true (by omega)
  have hd6 : (i : Int) ≤ cap := by omega
  have HC2 := lH hc2
  have HC3 : Hid (∀ u,Below w3.heap.size w3 u → ∃ w',copyRun Tryz.prog 29 29 3 (.slice (some ⟨w.heap.size,(i + 1) * 25,none⟩) (n - i) (c2 - (i + 1))) (.slice (some ⟨g,i * 25,none⟩) (n - i) (cap - i)) u = .ok (.int .i64 ((n - i : Nat) : Int)) w' ∧ RowI w.heap.size c2 (hs.take i ++ [y] ++ hs.drop i) w' ∧ Below w.heap.size w w') := lH fun u hu => by
    have hlen3 : (((hs.take i ++ List.replicate (n + 1 - i) zeroI).take i ++ [y] ++ (hs.take i ++ List.replicate (n + 1 - i) zeroI).drop (i + [y].length))).length = n + 1 := by
      simp only [List.length_append,List.length_take,List.length_drop,List.length_singleton,List.length_replicate];omega
    have hdl : (hs.drop i).length = n - i := by rw [List.length_drop];omega
    obtain ⟨w',h1,h2,h3⟩ := Row.copy (u := 29) elemI 3 (HR3.out.stays hu) (ys := hs.drop i) (o := i + 1) (dl := n - i) (dc := c2 - (i + 1)) (by omega) (by omega) (by omega) ⟨g,i * 25,none⟩ (cap - i) ((HRo.out.stays hu).cells i)
    rw [hdl] at h1
    have hbu := hb3.trans (hu.mono hb3.size)
    refine ⟨w',h1,?_,hbu.grown h3 hbu.size (fun k hk => by injection hk with e;omega)⟩
    have e1 : ((hs.take i ++ List.replicate (n + 1 - i) zeroI).take i ++ [y] ++ (hs.take i ++ List.replicate (n + 1 - i) zeroI).drop (i + [y].length)).take (i + 1) = hs.take i ++ [y] := by
      rw [List.take_append_of_le_length (by simp only [List.length_append,List.length_take,List.length_singleton,List.length_replicate];omega)]
      rw [List.take_of_length_le (by simp only [List.length_append,List.length_take,List.length_singleton,List.length_replicate];omega)]
      rw [List.take_append_of_le_length (by rw [List.length_take];omega),List.take_take,Nat.min_self]
    have e3 : ((hs.take i ++ List.replicate (n + 1 - i) zeroI).take i ++ [y] ++ (hs.take i ++ List.replicate (n + 1 - i) zeroI).drop (i + [y].length)).drop (i + 1 + (n - i)) = [] := List.drop_of_length_le (by rw [hlen3];omega)
    rw [e1,hdl,e3,List.append_nil] at h2
    exact h2
  have k1 : IntKind.i64.wrap ((i : Int) + 1) = (i : Int) + 1 := IntWalk.i64_in _ (by omega)
  have k2 : ((i : Int) + 1).toNat = i + 1 := by omega
  have k3 : (0 : Int) ≤ (i : Int) + 1 := by omega
  have k4 : (i : Int) + 1 ≤ n + 1 := by omega
  have k5 : ¬ c2 = i + 1 := by omega
  have k6 : ¬ (c2 : Int) = (i : Int) + 1 := by omega
  have k8 : ¬ n = i := by omega
  have k7 : ((n - i : Nat) : Int) = (n : Int) - i := by omega
  have k9 : ¬ cap = i := by have := hrow.le;omega
  have HLen : Hid ((hs.take i ++ [y] ++ hs.drop i).length = n + 1) := lH (by simp only [List.length_append,List.length_take,List.length_drop,List.length_singleton];omega)
  clear hrow hv hr2 hr3 hl e1 e2 hc2
  go_enter Tryz.func87,Tryz.ntmps87
  go_wp2
  refine Rh.rg (fun _ => True) (fun u => Below w3.heap.size w3 u) (fun _ _ _ _ => trivial) (fun _ _ h k => nx h k) (trivial) ((Below.refl _ _).drew) [0,1,2,3,4,5,6,7,8] ?_
  repeat (first | (refine Rh.Steps.sk ?_;simp only [Act.put,sA,sB,sC]) | (refine Rh.Steps.pu (v := ?_) ?_ ?_;rotate_left;(intro w_ hS_;skip;go_simp <;> with_reducible rfl);simp only [Act.put,sA,sB,sC]))
  refine Rh.Steps.forced (i := 8) (by kernel_rfl) ?_
  refine Rh.One.new (fun v u => RowI w.heap.size c2 (hs.take i ++ [y] ++ hs.drop i) u ∧ Below w.heap.size w u) (fun v _ _ h k => ⟨h.1.stays k,nx h.2 k⟩) (by rfl) (by rfl) ?_ ?_
  · intro w_ hS_ hG_
    obtain ⟨w',h1,h2,h3⟩ := HC3.out w_ hG_
    rw [k7] at h1
    refine ⟨.int .i64 ((n : Int) - i),w',?_,trivial,h2,h3⟩
    go_simp
  intro v4 u5 hv4
  simp only [Act.put,sA,sB,sC]
  refine Rh.Steps.nil (by kernel_rfl) ?_
  intro w4 _ hG4
  have HG := lH hG4
  clear hG4
  go_wp2
  go_ret
  refine ⟨_,rfl,?_,fun k w0 hk hb => hb.trans (HG.out.2.mono (Nat.le_trans hk hBo))⟩
  have ho := row_own (q := q) (Bo := Bo) HG.out.1 hBo HC2.out
  rw [HLen.out] at ho
  exact ho
theorem sizeI : ∀ w,(Go.sizeOf 44).run Tryz.prog w = .ok 25 w := Tryz.sizeOf44
theorem apart_run {g b1 cap : Nat} {hs ys : List Ins} {w : World} (h : RowI g cap hs w) (hv : RowI b1 1 ys w) (hne : b1 ≠ g) (hcap : 0 < cap) (o lb cb : Nat) :
    (callFunc 115 #[.slice (some ⟨b1,0,none⟩) 1 1,.slice (some ⟨g,o,none⟩) lb cb]).run Tryz.prog w = .ok (.value (.bool false)) w := by
  obtain ⟨cur,hg,hgl,_⟩ := h.ex
  obtain ⟨cur1,hg1,hgl1,_⟩ := hv.ex
  have s1 : w.shape? b1 = some (44,25) := by simp [World.shape?,hg1,hgl1];rfl
  have s2 : w.shape? g = some (44,cap * 25) := by simp [World.shape?,hg,hgl];rfl
  rw [run_callFunc_extern Tryz.func115 (by kernel_rfl) (by kernel_rfl) (by kernel_rfl) (e := Extern.SlicesOverlaps.overlaps #[29,29] #[4]) (by kernel_rfl),
    Lib.run_overlaps_apart w 29 4 44 Tryz.underlying29 25 sizeI ⟨b1,0,none⟩ ⟨g,o,none⟩ 1 1 lb cb hne 44 44 25 (cap * 25) s1 s2 (by omega) (hv.frozen _) (hv.frozen _)]
  rfl
set_option maxRecDepth 100000 in
set_option maxHeartbeats 4000000 in
theorem insert_room (q Bo g n cap i b1 : Nat) (hs : List Ins) (y : Ins) (w : World) (hBo : Bo ≤ g) (hrow : RowI g cap hs w) (hl : n = hs.length) (hlt : i < n) (hm : n ≤ 1000000) (hcap : n + 1 ≤ cap) (hc63 : cap ≤ maxLen) (hv : RowI b1 1 [y] w) (hne : b1 ≠ g) :
    Calls Tryz.prog 87 #[.slice (some ⟨g,0,none⟩) n cap,.int .i64 i,.slice (some ⟨b1,0,none⟩) 1 1] w (InsP q Bo (hs.take i ++ [y] ++ hs.drop i) w) := by
  have HR := lH hrow
  have HV := lH hv
  have HL := lH hl
  have HC63 := lH hc63
  unfold maxLen at hc63
  have hgz := hrow.lt
  have hov : ∀ lb cb,(callFunc 115 #[.slice (some ⟨b1,0,none⟩) 1 1,.slice (some ⟨g,(i + 1) * 25,none⟩) lb cb]).run Tryz.prog w = .ok (.value (.bool false)) w := fun lb cb => apart_run hrow hv hne (by omega) _ lb cb
  have hi1 : (i : Int) < n := by omega
  have hi2 : (i : Int) ≤ n := by omega
  have hi3 : (i : Int) ≤ n + 1 := by omega
  have hi4 : (i : Int) < cap := by omega
  have hi5 : (i : Int) ≤ cap := by omega
  have hi6 : (n : Int) + 1 ≤ cap := by omega
  have hd1 : ((1 : Int) == 0) = false := by decide
  have hd2 : ((i : Int) == n) = false := by simp;omega
  have hd5 : decide ((n : Int) + 1 > cap) = false := decide_eq_false (by omega)
  have hd4 : decide ((cap : Int) < n + 1) = false := decide_eq_false (by omega)
  have k1 : IntKind.i64.wrap ((i : Int) + 1) = (i : Int) + 1 := IntWalk.i64_in _ (by omega)
  have k2 : ((i : Int) + 1).toNat = i + 1 := by omega
  have k3 : (0 : Int) ≤ (i : Int) + 1 := by omega
  have k4 : (i : Int) + 1 ≤ n + 1 := by omega
  have k5 : ¬ cap = i + 1 := by omega
  have k6 : ¬ (cap : Int) = (i : Int) + 1 := by omega
  have k8 : ¬ n = i := by omega
  have k7 : ((n - i : Nat) : Int) = (n : Int) - i := by omega
  have k9 : ¬ cap = i := by omega
  have HC : Hid (∀ u,Below w.heap.size w u → ∃ w1,copyRun Tryz.prog 29 29 3 (.slice (some ⟨g,(i + 1) * 25,none⟩) (n - i) (cap - (i + 1))) (.slice (some ⟨g,i * 25,none⟩) (n + 1 - i) (cap - i)) u = .ok (.int .i64 ((n - i : Nat) : Int)) w1 ∧ RowI g cap (hs.take (i + 1) ++ hs.drop i) w1 ∧ u.grownBy w1 (some g)) := lH fun u hu => by
    have hdl : (hs.drop i).length = n - i := by rw [List.length_drop];omega
    obtain ⟨w1,h1,h2,h3⟩ := Row.copy2 (u := 29) elemI 3 (HR.out.stays hu) (ys := hs.drop i) (o := i + 1) (dl := n - i) (dc := cap - (i + 1)) (sl := n + 1 - i) (by omega) (by rw [hdl];exact Nat.min_eq_right (by omega)) (by omega) ⟨g,i * 25,none⟩ (cap - i) ((HR.out.stays hu).cells i)
    rw [hdl] at h1 h2
    rw [show hs.drop (i + 1 + (n - i)) = [] from List.drop_of_length_le (by omega),List.append_nil] at h2
    exact ⟨w1,h1,h2,h3⟩
  have HD : Hid (∀ u,RowI g cap (hs.take (i + 1) ++ hs.drop i) u → w.grownBy u (some g) → ∃ w1,copyRun Tryz.prog 29 29 3 (.slice (some ⟨g,i * 25,none⟩) (n + 1 - i) (cap - i)) (.slice (some ⟨b1,0,none⟩) 1 1) u = .ok (.int .i64 1) w1 ∧ RowI g cap (hs.take i ++ [y] ++ hs.drop i) w1 ∧ w.grownBy w1 (some g)) := lH fun u hu hgu => by
    have hlen : (hs.take (i + 1) ++ hs.drop i).length = n + 1 := by simp only [List.length_append,List.length_take,List.length_drop];omega
    obtain ⟨w1,h1,h2,h3⟩ := Row.copy2 (u := 29) elemI 3 hu (ys := [y]) (o := i) (dl := n + 1 - i) (dc := cap - i) (sl := 1) (by omega) (Nat.min_eq_left (by omega)) (by simp;omega) ⟨b1,0,none⟩ 1 (HV.out.apart hgu hne).cells0
    refine ⟨w1,h1,?_,grown_trans hgu h3⟩
    have e1 : (hs.take (i + 1) ++ hs.drop i).take i = hs.take i := by
      rw [List.take_append_of_le_length (by rw [List.length_take];omega),List.take_take,Nat.min_eq_left (by omega)]
    have e2 : (hs.take (i + 1) ++ hs.drop i).drop (i + [y].length) = hs.drop i := by
      rw [List.drop_append,List.drop_of_length_le (by rw [List.length_take,List.length_singleton];omega),List.nil_append,List.length_take,List.length_singleton,show i + 1 - min (i + 1) hs.length = 0 by omega,List.drop_zero]
    rw [e1,e2] at h2
    exact h2
  have HLen : Hid ((hs.take i ++ [y] ++ hs.drop i).length = n + 1) := lH (by simp only [List.length_append,List.length_take,List.length_drop,List.length_singleton];omega)
  clear hrow hv hl hc63
  go_enter Tryz.func87,Tryz.ntmps87
  go_wp2_with (simp only [hov])
  refine Rh.rg (fun _ => True) (fun u => Below w.heap.size w u) (fun _ _ _ _ => trivial) (fun _ _ h k => nx h k) (trivial) ((Below.refl _ _).drew) [0,1,2,3,4,5,6,7,8] ?_
  repeat (first | (refine Rh.Steps.sk ?_;simp only [Act.put,sA,sB,sC]) | (refine Rh.Steps.pu (v := ?_) ?_ ?_;rotate_left;(intro w_ hS_;skip;go_simp <;> with_reducible rfl);simp only [Act.put,sA,sB,sC]))
  refine Rh.Steps.forced (i := 8) (by kernel_rfl) ?_
  refine Rh.One.new (fun v u => RowI g cap (hs.take (i + 1) ++ hs.drop i) u ∧ w.grownBy u (some g)) (fun v _ _ h k => ⟨h.1.stays k,grown_trans h.2 (grown_below _ k)⟩) (by rfl) (by rfl) ?_ ?_
  · intro w_ hS_ hG_
    obtain ⟨w1,h1,h2,h3⟩ := HC.out w_ hG_
    rw [k7] at h1
    refine ⟨.int .i64 ((n : Int) - i),w1,?_,trivial,h2,grown_trans (grown_below _ hG_) h3⟩
    go_simp
  intro v4 u5 hv4
  simp only [Act.put,sA,sB,sC]
  refine Rh.Steps.nil (by kernel_rfl) ?_
  intro w4 _ hG4
  obtain ⟨w5,hrun5,hr5,hg5⟩ := HD.out w4 hG4.1 hG4.2
  have HG := lH (⟨hr5,hg5⟩ : RowI g cap (hs.take i ++ [y] ++ hs.drop i) w5 ∧ w.grownBy w5 (some g))
  clear hG4 hr5 hg5
  go_wp2
  go_ret
  refine ⟨_,rfl,?_,fun k w0 hk hb => hb.grown HG.out.2 (by omega) (fun j hj => by injection hj with e;omega)⟩
  have ho := row_own (q := q) (Bo := Bo) HG.out.1 hBo HC63.out
  rw [HLen.out] at ho
  exact ho
theorem insert_any (q Bo : Nat) (l : List Ins) (v : Value) (i : Nat) (y : Ins) (w0 : World) (hq : q ≤ Bo) (hB : Bo ≤ w0.heap.size) (h : OwnI q Bo l v w0) (hi : i ≤ l.length) (hm : l.length ≤ 1000000) :
    Calls Tryz.prog 87 #[v,.int .i64 i,.slice (some ⟨w0.heap.size,0,none⟩) 1 1] (w0.alloc (.cells (ci y) 44)) (InsP q Bo (l.take i ++ [y] ++ l.drop i) w0) := by
  obtain ⟨w,hw⟩ : ∃ Q_ : World,w0.alloc (.cells (ci y) 44) = Q_ := ⟨_,rfl⟩
  have hbw : Below w0.heap.size w0 w := hw ▸ below1 w0 _
  have hv : RowI w0.heap.size 1 [y] w := by
    refine ⟨⟨cI y,hw ▸ heap_alloc_new w0 _,rfl,fun j x hx k u hu => ?_⟩,Nat.le_refl _⟩
    cases j with
    | zero => simp only [List.getElem?_cons_zero,Option.some.injEq] at hx;subst hx;rw [Nat.zero_mul,Nat.zero_add];exact hu
    | succ j => simp at hx
  have ho := h.stays hbw
  have hsz : Bo ≤ w.heap.size := Nat.le_trans hB hbw.size
  have key : ∀ e w',InsP q Bo (l.take i ++ [y] ++ l.drop i) w e w' → InsP q Bo (l.take i ++ [y] ++ l.drop i) w0 e w' := fun e w' ⟨v,h1,h2,h3⟩ => ⟨v,h1,h2,fun k u hk hb => h3 k u hk (hb.trans (hbw.mono (Nat.le_trans hk hB)))⟩
  rw [hw]
  by_cases he : i = l.length
  · subst he
    rw [List.take_length,List.drop_length,List.append_nil] at key ⊢
    exact (insert_end q Bo w0.heap.size l v y w hq hsz ho hm (hw ▸ TI.one y (Nat.le_trans hq hB))).mono key
  · rcases Row.ofOwn (e := fI) ho with ⟨_,rfl⟩ | ⟨g,cap,rfl,hg,hc,hr⟩
    · exact absurd (Nat.le_zero.1 hi) he
    · have hgl : g < w0.heap.size := by
        rcases Row.ofOwn (e := fI) h with ⟨e,_⟩ | ⟨g',cap',e,_,_,hr'⟩
        · cases e
        · simp only [Value.slice.injEq,Option.some.injEq,Addr.mk.injEq] at e
          rw [e.1.1];exact hr'.lt
      by_cases hcap : cap < l.length + 1
      · exact (insert_new q Bo g l.length cap i w0.heap.size l y w hsz hr rfl (by omega) hm hcap hv).mono key
      · exact (insert_room q Bo g l.length cap i w0.heap.size l y w hg hr rfl (by omega) hm (by omega) hc hv (by omega)).mono key
theorem insert_is {q Bo : Nat} {l m : List Ins} {v : Value} {i : Nat} {y : Ins} (H : Hid (l.take i ++ [y] ++ l.drop i = m)) (w0 : World) (hq : q ≤ Bo) (hB : Bo ≤ w0.heap.size) (h : OwnI q Bo l v w0) (hi : i ≤ l.length) (hm : l.length ≤ 1000000) :
    Calls Tryz.prog 87 #[v,.int .i64 i,.slice (some ⟨w0.heap.size,0,none⟩) 1 1] (w0.alloc (.cells (ci y) 44)) (InsP q Bo m w0) := by
  rw [← H.out];exact insert_any q Bo l v i y w0 hq hB h hi hm
theorem search_is {q : Nat} {l : List Ins} {v : Value} {i : Ins} {c : Nat} {b : Bool} (H : Hid (cntI i l = c ∧ hitI i l = b)) (w : World) (h : TI q l v w) (hm : l.length ≤ 1000000) (hr : Srt l) :
    Calls Tryz.prog 85 #[v,.agg #[.int .i64 i.pr,.int .i64 i.ps],.func (.func 86) #[] #[]] w fun e w' => e = .returned (.tuple #[.int .i64 c,.bool b]) ∧ Below w.heap.size w w' := by
  obtain ⟨rfl,rfl⟩ := H.out
  exact search_any q l v i w h hm hr
attribute [go_sem ↓] storeMidI
theorem ci_cells (i : Ins) : (Value.agg (ci i)).cells = ci i := rfl
attribute [go_sem] ci_cells
set_option maxRecDepth 8000 in
set_option maxHeartbeats 4000000 in
theorem put_any (q Bo : Nat) (l : List Ins) (v : Value) (i : Ins) (w : World) (hq : q ≤ Bo) (hB : Bo ≤ w.heap.size) (h : OwnI q Bo l v w) (hm : l.length ≤ 1000000) (hs : Srt l) :
    Calls Tryz.prog 52 #[v,.agg (ci i)] w (InsP q Bo (put i l) w) := by
  obtain ⟨c,hc⟩ : ∃ c,cntI i l = c := ⟨_,rfl⟩
  have hcl : c ≤ l.length := hc ▸ cntI_le i l
  obtain ⟨W,hW⟩ : ∃ Q_ : World,w.alloc (.cells (ci i) 44) = Q_ := ⟨_,rfl⟩
  have bW : Below w.heap.size w W := hW ▸ below1 w _
  have xW : Bx W w.heap.size (ci i) 44 := hW ▸ Bx.new _ _ _
  have hW1 : w.heap.size < W.heap.size := xW.lt
  have oW := h.stays bW
  have rW := xW.row
  cases hb : hitI i l with
  | false =>
    have HS := lH (⟨hc,hb⟩ : cntI i l = c ∧ hitI i l = false)
    have HM : Hid (l.take c ++ [i] ++ l.drop c = put i l) := lH (by rw [← hc];exact (put_miss i hs hb).symm)
    obtain ⟨m,hm2⟩ : ∃ m,put i l = m := ⟨_,rfl⟩
    rw [hm2] at HM ⊢
    have HOW := lH oW
    clear hb hc hm2 oW h
    go_enter Tryz.func52,Tryz.ntmps52
    go_wp2_with fail
    refine (search_is HS _ (OwnI.ti HOW.out hq) hm hs).mono ?_
    rintro e w1 ⟨rfl,hb1⟩
    have x1 := xW.stays hb1
    have r1 := x1.row
    have HO1 := lH (HOW.out.stays hb1)
    have b1 := nx bW hb1
    clear xW rW hW
    go_wp2_with fail
    refine (insert_is HM w1 hq (Nat.le_trans hB b1.size) HO1.out hcl hm).mono ?_
    rintro e w2 ⟨v2,rfl,ho2,hb2⟩
    have HO2 := lH ho2
    go_wp2
    go_ret
    exact ⟨_,rfl,HO2.out,fun k w0 hk hb => hb2 k w0 hk (hb.trans (b1.mono (Nat.le_trans hk hB)))⟩
  | true =>
    have HS := lH (⟨hc,hb⟩ : cntI i l = c ∧ hitI i l = true)
    have hlt : c < l.length := hc ▸ hit_set i hb
    have HM : Hid (put i l = l.set c i) := lH (by rw [← hc];exact put_hit i hs hb)
    rw [HM.out]
    rcases Row.ofOwn (e := fI) oW with ⟨_,rfl⟩ | ⟨g,cap,rfl,hg,hcap,hr⟩
    · exact absurd hlt (by simp)
    have HR := lH hr
    have HOW := lH oW
    obtain ⟨n,hn⟩ : ∃ n,l.length = n := ⟨_,rfl⟩
    have HN := lH hn
    have hlt2 : (c : Int) < (n : Int) := by omega
    have hlt3 : c < n := by omega
    rw [hn]
    clear hb hc oW h hr hn
    go_enter Tryz.func52,Tryz.ntmps52
    go_wp2_with fail
    rw [← HN.out]
    refine (search_is HS _ (OwnI.ti HOW.out hq) hm hs).mono ?_
    rintro e w1 ⟨rfl,hb1⟩
    have x1 := xW.stays hb1
    have r1 := x1.row
    have hr1 := HR.out.stays hb1
    have HR1 := lH hr1
    have b1 := nx bW hb1
    have hth : w1.there g (c * 25) 25 := by
      obtain ⟨cur,hcu,hcl2,_⟩ := hr1.ex
      have hbx : Bx w1 g cur.toArray 44 := hcu
      refine hbx.there ?_
      have := hr1.le
      have h25 : fI.k = 25 := rfl
      rw [List.size_toArray,hcl2,h25];omega
    have hg1 := hr1.lt
    clear xW rW hW hr1
    rw [HN.out]
    go_wp2
    go_ret
    have hs2 := row_sets HR1.out (i := c) (by omega) i
    have ho2 := row_own (q := q) (Bo := Bo) hs2 hg hcap
    rw [List.length_set,HN.out] at ho2
    exact ⟨_,rfl,ho2,fun k w0 hk hb => (hb.trans (b1.mono (Nat.le_trans hk hB))).grown (sets_grown _ _ _) (by have := b1.size;omega) (fun j hj => by injection hj with e;omega)⟩
theorem put_is {q Bo : Nat} {l m : List Ins} {v : Value} {i : Ins} (H : Hid (put i l = m)) (w : World) (hq : q ≤ Bo) (hB : Bo ≤ w.heap.size) (h : OwnI q Bo l v w) (hm : l.length ≤ 1000000) (hs : Srt l) :
    Calls Tryz.prog 52 #[v,.agg (ci i)] w (InsP q Bo m w) := by
  rw [← H.out];exact put_any q Bo l v i w hq hB h hm hs
end Go.Proofs.YtnnbjhpkgndclaaGreatDoor.St
namespace Go.Proofs.YtnnbjhpkgndclaaGreatDoor.St
open Go.RowKit
open Go.Proofs.YtnnbjhpkgndclaaGreatDoor.Rw
open Go.Proofs.YtnnbjhpkgndclaaGreatDoor.Da
open Go.Proofs.YtnnbjhpkgndclaaGreatDoor.Ro
open Go.Proofs.YtnnbjhpkgndclaaGreatDoor.Bv
open Go.Proofs.YtnnbjhpkgndclaaGreatDoor.Fx (enc enc_size)
open Go.Proofs.YtnnbjhpkgndclaaGreatDoor.Rc (Ins ci zeroI okI wrS wrE insF cat write_is)
open Go.Proofs.YtnnbjhpkgndclaaGreatDoor.Cm (Tab)
open Go.Proofs.YtnnbjhpkgndclaaGreatDoor.Wa (TL OwnT eT elemT typesT app_one cellsT)
def Post (F : Value → World → Prop) (w : World) (e : Ending) (w' : World) : Prop := ∃ v,e = .returned v ∧ Below w.heap.size w w' ∧ F v w'
def fT : Flat ByteArray := ⟨1,cellsT,fun _ => rfl,fun s u hu => by simp [cellsT] at hu;subst hu;rfl⟩
theorem elemFT : Elem Tryz.prog 75 9 fT.k 16 := elemT
theorem zeroT (w : World) : (zeroValue 9).run Tryz.prog w = .ok (.string ⟨#[]⟩) w := by kernel_rfl
theorem own_roomT {n : Nat} {Bo g c : Nat} {hs : List ByteArray} {w : World} (h : Row fT 9 g c hs w) (hB : Bo ≤ g) (hc : c ≤ maxLen) : OwnT n Bo [] (.slice (some ⟨g,0,none⟩) 0 c) w := by
  have := (h.take 0).owns hB hc
  rw [List.take_zero] at this
  exact ⟨[],rfl,by simp,this⟩
theorem OwnT.keep {q Bo : Nat} {l : List ByteArray} {v : Value} {w w' : World} (h : OwnT q Bo l v w) (k : Below w.heap.size w w') : OwnT q Bo l v w' := Own.stays h k
set_option maxRecDepth 8000 in
set_option maxHeartbeats 1000000 in
theorem growT_any (q : Nat) (n : Nat) (hn : n ≤ 4000000) (w : World) : Calls Tryz.prog 109 #[.slice none 0 0,.int .i64 n] w (Post (OwnT q w.heap.size []) w) := by
  by_cases h0 : n = 0
  · subst h0
    go_enter Tryz.func109,Tryz.ntmps109
    go_wp2
    go_ret
    exact ⟨_,rfl,Below.refl _ _,Own.nil _ _ _⟩
  · have h1 : (0 : Int) < n := by omega
    obtain ⟨c2,w2,hrun,hr2,hb2,hc2⟩ := growz_val (e := fT) (u := 3) (ik := .i64) elemFT Tryz.underlying3 75 (Z := .string ⟨#[]⟩) rfl zeroT (x0 := ByteArray.empty) rfl (w := w) (m := n) (by omega) (by omega) (by decide)
    have HO := lH (own_roomT (n := q) hr2 (Nat.le_refl _) hc2)
    have k2 : (0 : Int) ≤ c2 := by omega
    clear hr2 hc2 h0
    go_enter Tryz.func109,Tryz.ntmps109
    go_wp2
    go_ret
    exact ⟨_,rfl,hb2,HO.out⟩
theorem flat_take {α : Type} {ls : List (List α)} {k : Nat} (h : k < ls.length) : (ls.take (k + 1)).flatten = (ls.take k).flatten ++ ls[k] := by
  rw [List.take_succ_eq_append_getElem h,List.flatten_append];simp
theorem flat_le {α : Type} (ls : List (List α)) (k : Nat) : (ls.take k).flatten.length ≤ ls.flatten.length := by
  have := congrArg (fun x : List (List α) => x.flatten.length) (List.take_append_drop k ls)
  simp only [List.flatten_append,List.length_append] at this;omega
set_option maxRecDepth 8000 in
set_option maxHeartbeats 2000000 in
theorem concatT_any (q : Nat) (ls : List (List ByteArray)) (p : Nat) (w : World) (hp : p < w.heap.size) (hq : q ≤ w.heap.size) (hc : ∀ k (hk : k < ls.length),∃ v,w.cell? ⟨p,k,none⟩ = some v ∧ TL q ls[k] v w) (hm : ls.flatten.length ≤ 1000000) (hls : ls.length ≤ 1000) :
    Calls Tryz.prog 78 #[.slice (some ⟨p,0,none⟩) ls.length ls.length] w (Post (OwnT q w.heap.size ls.flatten) w) := by
  have HM := lH hm
  have HC : Hid (∀ u,Below w.heap.size w u → ∀ k (hk : k < ls.length),∃ a c,u.cell? ⟨p,k,none⟩ = some (.slice a ls[k].length c) ∧ TL q ls[k] (.slice a ls[k].length c) u) := lH fun u hu k hk => by
    obtain ⟨v,h1,h2⟩ := hc k hk
    obtain ⟨a,c,rfl⟩ := h2.len
    exact ⟨a,c,(hu.cell (p := ⟨p,k,none⟩) hp).trans h1,h2.stays hu⟩
  obtain ⟨n,hn⟩ : ∃ n,ls.length = n := ⟨_,rfl⟩
  have HN := lH hn
  rw [hn] at hls ⊢
  clear hc hm hn
  go_enter Tryz.func78,Tryz.ntmps78
  go_wp2
  go_loopw [3,11] (fun s i wr => ∃ k : Nat,k ≤ n ∧ i = .int .i64 k ∧ s = .int .i64 ((ls.take k).flatten.length : Nat) ∧ w = wr) (fun _ i _ => n - (intOf i).toNat)
  case atStart => exact ⟨0,Nat.zero_le _,rfl,rfl,rfl⟩
  case round =>
    obtain ⟨k,hk,rfl,rfl,rfl⟩ := hrel
    by_cases hlt : k < n
    · have hkl : k < ls.length := by rw [HN.out];exact hlt
      have hlt2 : (k : Int) < n := by omega
      obtain ⟨a,c,d0,_⟩ := HC.out w (Below.refl _ _) k hkl
      have hs1 := flat_le ls (k + 1)
      have HS := lH (congrArg List.length (flat_take hkl))
      have hs2 := HS.out
      rw [List.length_append] at hs2
      have hmm := HM.out
      obtain ⟨z,hz⟩ : ∃ z,(ls.take k).flatten.length = z := ⟨_,rfl⟩
      obtain ⟨y,hy⟩ : ∃ y,ls[k].length = y := ⟨_,rfl⟩
      rw [hz,hy] at hs2
      rw [hy] at d0
      rw [hz]
      have HR := lH hs2
      have h9 : z + y ≤ 1000000 := by omega
      have h8 : decide ((z : Int) + (y : Int) < 0) = false := decide_eq_false (by omega)
      clear hz hy hs1 hs2 hmm
      go_wp2
      go_roundw
      case rel => exact ⟨k + 1,by omega,by go_num,by rw [HR.out];push_cast;go_num,trivial⟩
      case measure => simp [intOf];omega
    · obtain rfl : k = n := by omega
      obtain ⟨z,hz⟩ : ∃ z,(ls.take k).flatten.length = z := ⟨_,rfl⟩
      have hz1 : z ≤ 1000000 := by have := flat_le ls k;have := HM.out;omega
      rw [hz]
      clear hz
      go_wp2_with fail
      refine (growT_any q z (by omega) _).mono ?_
      rintro e w1 ⟨v1,rfl,hb1,ho1⟩
      have HO1 := lH ho1
      clear ho1
      go_wp2
      go_loopw [6,27] (fun t i wr => ∃ j : Nat,j ≤ k ∧ i = .int .i64 j ∧ OwnT q w.heap.size (ls.take j).flatten t wr ∧ Below w.heap.size w wr) (fun _ i _ => k - (intOf i).toNat)
      case atStart => exact ⟨0,Nat.zero_le _,rfl,HO1.out,hb1⟩
      case round =>
        obtain ⟨j,hj,rfl,ho9,hb⟩ := hrel
        by_cases hlt : j < k
        · have hkl : j < ls.length := by rw [HN.out];exact hlt
          have hlt2 : (j : Int) < k := by omega
          obtain ⟨a,c,d0,htl⟩ := HC.out wr hb j hkl
          have hs1 := flat_le ls (j + 1)
          have hs2 := congrArg List.length (flat_take hkl)
          rw [List.length_append] at hs2
          have hmm := HM.out
          obtain ⟨v',w',hrun,hown',_,hbl,_⟩ := Own.append elemT 75 typesT (B := Bs.of q) ⟨hq,fun _ h => False.elim h⟩ hb.size ho9 htl (by omega) (by decide)
          have HR := lH (show OwnT q w.heap.size (ls.take (j + 1)).flatten v' w' ∧ Below w.heap.size w w' from ⟨by rw [flat_take hkl];exact hown',hbl _ _ (Nat.le_refl _) hb⟩)
          clear hown' hbl hs1 hs2 hmm htl ho9
          go_wp2
          go_roundw
          case rel => exact ⟨j + 1,by omega,by go_num,HR.out.1,HR.out.2⟩
          case measure => simp [intOf];omega
        · obtain rfl : j = k := by omega
          rw [List.take_of_length_le (by rw [HN.out];exact Nat.le_refl _)] at ho9
          have HO9 := lH ho9
          clear ho9
          go_wp2
          go_ret
          exact ⟨_,rfl,hb,HO9.out⟩
theorem concat3 (q p : Nat) (x z : ByteArray) (L M : List ByteArray) (w : World) (hM : Hid (x :: (L ++ [z]) = M)) (hp : p < w.heap.size) (hq : q ≤ w.heap.size) (u0 u1 u2 : Value) (c0 : w.cell? ⟨p,0,none⟩ = some u0) (c1 : w.cell? ⟨p,1,none⟩ = some u1) (c2 : w.cell? ⟨p,2,none⟩ = some u2) (h0 : TL q [x] u0 w) (h1 : TL q L u1 w) (h2 : TL q [z] u2 w) (hm : L.length ≤ 100000) :
    Calls Tryz.prog 78 #[.slice (some ⟨p,0,none⟩) 3 3] w (Post (OwnT q w.heap.size M) w) := by
  have h := concatT_any q [[x],L,[z]] p w hp hq (fun k hk => by
    match k,hk with
    | 0,_ => exact ⟨u0,c0,h0⟩
    | 1,_ => exact ⟨u1,c1,h1⟩
    | 2,_ => exact ⟨u2,c2,h2⟩) (by simp;omega) (by simp)
  have e : [[x],L,[z]].flatten = M := by rw [← hM.out];simp
  rw [e] at h
  exact h
theorem tl_one {q : Nat} (x : ByteArray) {w : World} (hq : q ≤ w.heap.size) : TL q [x] (.slice (some ⟨w.heap.size,0,none⟩) 1 1) (w.alloc (.cells #[.string x] 9)) :=
  Is.one (e := eT) (T := 9) (cs := [.string x]) ⟨hq,fun _ h => False.elim h⟩ rfl
set_option maxRecDepth 8000 in
set_option maxHeartbeats 2000000 in
theorem enclose_any (q : Nat) (L : List ByteArray) (v : Value) (g : Int) (w : World) (h : TL q L v w) (hq : q ≤ w.heap.size) (hm : L.length ≤ 100000) (hg : 0 ≤ g ∧ g < 4294967296) :
    Calls Tryz.prog 47 #[v,.int .i64 g] w (Post (OwnT q w.heap.size (mark 72 g :: (L ++ [mark 67 g]))) w) := by
  obtain ⟨x,hx⟩ : ∃ x,mark 72 g = x := ⟨_,rfl⟩
  obtain ⟨z,hz⟩ : ∃ z,mark 67 g = z := ⟨_,rfl⟩
  have HX := lH hx
  have HZ := lH hz
  obtain ⟨M,hM⟩ : ∃ M,x :: (L ++ [z]) = M := ⟨_,rfl⟩
  have HM := lH hM
  rw [hx,hz,hM]
  have H := lH h
  clear hx hz hM h
  go_enter Tryz.func47,Tryz.ntmps47
  go_wp2_with fail
  refine (mark_is hg HX _).mono ?_
  rintro e w1 ⟨rfl,hb1⟩
  obtain ⟨W2,hW2⟩ : ∃ Q_ : World,w1.alloc (.cells #[.string x] 9) = Q_ := ⟨_,rfl⟩
  have t2 := hW2 ▸ tl_one x (w := w1) (Nat.le_trans hq hb1.size)
  have b2 : Below w.heap.size w W2 := nx hb1 (hW2 ▸ below1 w1 _)
  have T2 := lH t2
  clear t2
  go_wp2_with fail
  refine (mark_is hg HZ _).mono ?_
  rintro e w3 ⟨rfl,hb3⟩
  have b3 := nx b2 hb3
  have T3 := lH (T2.out.stays hb3)
  obtain ⟨W4,hW4⟩ : ∃ Q_ : World,w3.alloc (.cells #[.string z] 9) = Q_ := ⟨_,rfl⟩
  have t4 := hW4 ▸ tl_one z (w := w3) (Nat.le_trans hq b3.size)
  have hb4 : Below w3.heap.size w3 W4 := hW4 ▸ below1 w3 _
  have b4 := nx b3 hb4
  obtain ⟨W5,hW5⟩ : ∃ Q_ : World,W4.alloc (.cells #[.slice (some ⟨w1.heap.size,0,none⟩) 1 1,v,.slice (some ⟨w3.heap.size,0,none⟩) 1 1] 75) = Q_ := ⟨_,rfl⟩
  have hb5 : Below W4.heap.size W4 W5 := hW5 ▸ below1 W4 _
  have x5 : Bx W5 W4.heap.size #[.slice (some ⟨w1.heap.size,0,none⟩) 1 1,v,.slice (some ⟨w3.heap.size,0,none⟩) 1 1] 75 := hW5 ▸ Bx.new _ _ _
  have b5 := nx b4 hb5
  have T4 := lH (show TL q [x] (.slice (some ⟨w1.heap.size,0,none⟩) 1 1) W5 ∧ TL q L v W5 ∧ TL q [z] (.slice (some ⟨w3.heap.size,0,none⟩) 1 1) W5 from ⟨(T3.out.stays hb4).stays hb5,H.out.stays b5,t4.stays hb5⟩)
  clear t4
  obtain ⟨a1,c1,rfl⟩ := H.out.len
  go_wp2_with fail
  refine (concat3 q W4.heap.size x z L M _ HM x5.lt (Nat.le_trans hq b5.size) _ _ _ (x5.cell 0) (x5.cell 1) (x5.cell 2) T4.out.1 T4.out.2.1 T4.out.2.2 hm).mono ?_
  rintro e w6 ⟨v6,rfl,hb6,ho⟩
  have HO := lH ho
  clear ho
  go_wp2
  go_ret
  exact ⟨_,rfl,nx b5 hb6,own_less b5.size HO.out⟩
theorem enclose_is {q : Nat} {L M : List ByteArray} {v : Value} {g : Int} (H : Hid (mark 72 g :: (L ++ [mark 67 g]) = M)) (w : World) (h : TL q L v w) (hq : q ≤ w.heap.size) (hm : L.length ≤ 100000) (hg : 0 ≤ g ∧ g < 4294967296) :
    Calls Tryz.prog 47 #[v,.int .i64 g] w (Post (OwnT q w.heap.size M) w) := by
  rw [← H.out];exact enclose_any q L v g w h hq hm hg
def EntP (q Bo : Nat) (k : Int) (l : List Ins) (w : World) (e : Ending) (w' : World) : Prop :=
  ∃ v,e = .returned (.tuple #[v,.int .i64 (if okT l k then 0 else 1)]) ∧ Below w.heap.size w w' ∧ (okT l k = true → OwnT q Bo (l.map (ent k)) v w') ∧ (okT l k = false → v = .slice none 0 0)
theorem okT_take {l : List Ins} {k : Nat} {n : Int} (h : k < l.length) : okT (l.take (k + 1)) n = (okT (l.take k) n && okI l[k] n) := by
  unfold okT;rw [List.take_succ_eq_append_getElem h,List.all_append];simp
theorem okT_bad {l : List Ins} {k : Nat} {n : Int} (h : k < l.length) (hb : okI l[k] n = false) : okT l n = false := by
  rw [← Bool.not_eq_true];intro h1
  have := okT_iff.1 h1 _ (List.getElem_mem h)
  rw [this] at hb;cases hb
theorem own_made (q : Nat) (n : Nat) (w : World) (hn : n ≤ maxLen) : OwnT q w.heap.size [] (.slice (some ⟨w.heap.size,0,none⟩) 0 n) (w.alloc (.cells (madeCells #[.string ⟨#[]⟩] n) 9)) := by
  have h := Row.made (e := fT) (T := 9) (w := w) (n := n) (z := #[.string ⟨#[]⟩]) ByteArray.empty rfl (by decide)
  rw [show n * fT.k = n from Nat.mul_one n] at h
  exact own_roomT h (Nat.le_refl _) hn
theorem makeT (m : Nat) (hm : m ≤ 1000000) (w : World) : (Instr.makeSlice 75 (.int .i64 0) (.int .i64 m)).run Tryz.prog w = .ok (.slice (some ⟨w.heap.size,0,none⟩) 0 m) (w.alloc (.cells (madeCells #[.string ⟨#[]⟩] m) 9)) := by
  obtain ⟨i,h1,h2,h3,h4⟩ := info_parts Wa.infoT
  have := run_make (P := Tryz.prog) w 75 9 i _ Tryz.underlying75 h1 h2 .i64 .i64 (0 : Nat) m (by omega) (by omega) (by rw [h4];omega) (by omega)
  rw [h3] at this
  simpa [Value.cells] using this
set_option maxRecDepth 8000 in
set_option maxHeartbeats 4000000 in
theorem entries_any (q : Nat) (l : List Ins) (v : Value) (n : Int) (w : World) (h : TI q l v w) (hq : q ≤ w.heap.size) (hm : l.length ≤ 100000) (ht : Tab w) (htb : Rc.Tb w) :
    Calls Tryz.prog 46 #[v,.int .i64 n] w (EntP q w.heap.size n l w) := by
  obtain ⟨a1,c1,rfl⟩ := h.len
  have H := lH h
  have HT := lH ht
  have HTb := lH htb
  obtain ⟨m,hmn⟩ : ∃ m,l.length = m := ⟨_,rfl⟩
  have HN := lH hmn
  rw [hmn] at hm ⊢
  clear h ht htb hmn
  have OM := lH (own_made q m w (by unfold maxLen;omega))
  have hmk := makeT m (by omega) w
  go_enter Tryz.func46,Tryz.ntmps46
  go_wp2
  obtain ⟨W,hW⟩ : ∃ Q_ : World,w.alloc (.cells (madeCells #[.string ⟨#[]⟩] m) 9) = Q_ := ⟨_,rfl⟩
  rw [hW] at OM ⊢
  have bW : Below w.heap.size w W := hW ▸ below1 w _
  clear hW hmk
  go_loopw [6,16] (fun t i wr => ∃ k : Nat,k ≤ m ∧ i = .int .i64 k ∧ OwnT q w.heap.size ((l.take k).map (ent n)) t wr ∧ okT (l.take k) n = true ∧ Below w.heap.size w wr) (fun _ i _ => m - (intOf i).toNat)
  case atStart => exact ⟨0,Nat.zero_le _,rfl,OM.out,rfl,bW⟩
  case round =>
    obtain ⟨k,hk,rfl,ho,hok,hb⟩ := hrel
    have HO := lH ho
    have HOK := lH hok
    clear ho hok
    by_cases hlt : k < m
    · have hkl : k < l.length := by rw [HN.out];exact hlt
      have hlt2 : (k : Int) < m := by omega
      obtain ⟨b,off,c,e,hx,_,hbb⟩ := TI.get H.out hb hkl
      rw [HN.out] at e
      simp only [Value.slice.injEq] at e
      obtain ⟨rfl,-,rfl⟩ := e
      have HTk := lH (okT_take (n := n) hkl)
      have HB := lH (fun hbad => okT_bad (n := n) hkl hbad)
      obtain ⟨i,hi⟩ : ∃ i,l[k] = i := ⟨_,rfl⟩
      have HI := lH hi
      rw [hi] at hx HTk HB
      obtain ⟨V,hV⟩ : ∃ Q_ : World,(wr.alloc (.cells (ci zeroI) 44)).setRow wr.heap.size (ci i) = Q_ := ⟨_,rfl⟩
      have xV : Bx V wr.heap.size (ci i) 44 := hV ▸ Bx.put (Bx.new _ _ _) _
      have bV : Below wr.heap.size wr V := hV ▸ below_setRow (below1 _ _) (Nat.le_refl _) _
      have b1 := nx hb bV
      have r1 := xV.row
      have hplain := (Bx.new wr (ci zeroI) 44).plain (n := 25) rfl
      clear hi
      cases ho : okI i n with
      | true =>
        have hwr : Hid (wrS i n = cat (insF i n.toNat) ∧ wrE i n = 0) := lH (by unfold wrS wrE;rw [ho];exact ⟨rfl,rfl⟩)
        obtain ⟨y,hy⟩ : ∃ y,cat (insF i n.toNat) = y := ⟨_,rfl⟩
        have hys : y.size ≤ 1000 := by rw [← hy,Rc.ins_size];have := (Rc.okI_iff.1 ho).1;omega
        have hys2 : 1 + y.size ≤ 9223372036854775807 := by omega
        rw [hy] at hwr
        have HE : Hid ((l.take (k + 1)).map (ent n) = (l.take k).map (ent n) ++ [⟨#[82]⟩ ++ y]) := lH (by
          rw [List.take_succ_eq_append_getElem hkl,List.map_append,HI.out];simp [ent,hy])
        have HK1 : Hid (okT (l.take (k + 1)) n = true) := lH (by rw [HTk.out,HOK.out,ho];rfl)
        clear hy ho
        go_wp2_with fail
        refine (write_is hwr _ (HT.out.below b1) (HTb.out.below b1)).mono ?_
        rintro e w1 ⟨rfl,hb1⟩
        have b2 := nx b1 hb1
        obtain ⟨v',w',hrun,hown',hbl⟩ := app_one ((HO.out.stays bV).stays hb1) hq b2.size (⟨#[82]⟩ ++ y) (by rw [List.length_map,List.length_take];omega)
        have HR := lH (show OwnT q w.heap.size ((l.take (k + 1)).map (ent n)) v' w' ∧ Below w.heap.size w w' from ⟨by rw [HE.out];exact hown',hbl _ _ (Nat.le_refl _) b2⟩)
        clear hown' hbl xV r1 hplain
        go_wp2
        go_roundw
        case rel => exact ⟨k + 1,by omega,by go_num,HR.out.1,HK1.out,HR.out.2⟩
        case measure => simp [intOf];omega
      | false =>
        have hwr : Hid (wrS i n = ByteArray.empty ∧ wrE i n = 1) := lH (by unfold wrS wrE;rw [ho];exact ⟨rfl,rfl⟩)
        have HF := lH (HB.out ho)
        clear ho
        go_wp2_with fail
        refine (write_is hwr _ (HT.out.below b1) (HTb.out.below b1)).mono ?_
        rintro e w1 ⟨rfl,hb1⟩
        go_wp2
        go_ret2
        exact ⟨_,by rw [HF.out];rfl,nx b1 hb1,(fun h => absurd (HF.out.symm.trans h) (by decide)),fun _ => rfl⟩
    · obtain rfl : k = m := by omega
      rw [List.take_of_length_le (by rw [HN.out];exact Nat.le_refl _)] at HO HOK
      go_wp2
      go_ret2
      exact ⟨_,by rw [HOK.out];rfl,hb,fun _ => HO.out,fun h => absurd (HOK.out.symm.trans h) (by decide)⟩
theorem eqlNi (a : Option Addr) (n c : Nat) (w : World) : (binOp .eql 29 (.slice a n c) (.slice none 0 0)).run Tryz.prog w = .ok (.bool a.isNone) w := Lib.run_eql_slice_nil w _ _ a n c 0 0 Tryz.underlying29
theorem guardNi (p q : Operand) (a : Option Addr) (n c : Nat) (w : World) : (eqGuard .eql 29 p q (.slice a n c) (.slice none 0 0)).run Tryz.prog w = .ok () w := rfl
attribute [go_sem ↓] eqlNi guardNi
set_option maxRecDepth 8000 in
set_option maxHeartbeats 1000000 in
theorem clone_any (q : Nat) (l : List Ins) (x : Value) (w : World) (h : TI q l x w) (hq : q ≤ w.heap.size) (hm : l.length ≤ 1000000) :
    Calls Tryz.prog 51 #[x] w (Post (OwnI q w.heap.size l) w) := by
  obtain ⟨a2,c2,rfl,hel⟩ := id h
  cases a2 with
  | none =>
    rcases hel with ⟨rfl,hc⟩ | ⟨b,off,e,_⟩
    · obtain rfl := hc rfl
      clear h
      go_enter Tryz.func51,Tryz.ntmps51
      go_wp2
      go_ret
      exact ⟨_,rfl,Below.refl _ _,Own.nil _ _ _⟩
    · cases e
  | some ad =>
    have hb1 := below1 w (.cells #[] 44)
    obtain ⟨v2,w2,hrun,hown2,hbl⟩ := app_list (Own.made (Bs.of q) w w.heap.size (Nat.le_refl _)) (h.stays hb1) hq hb1.size (by simp;omega)
    have hb2 := hbl _ _ (Nat.le_refl _) hb1
    have HO := lH hown2
    obtain ⟨m,hmm⟩ : ∃ m,m = l.length := ⟨_,rfl⟩
    rw [← hmm] at hrun ⊢
    clear hown2 hbl h hel hmm
    go_enter Tryz.func51,Tryz.ntmps51
    go_wp2
    go_ret
    exact ⟨_,rfl,hb2,HO.out⟩
set_option maxRecDepth 8000 in
set_option maxHeartbeats 4000000 in
theorem with_any (q : Nat) (t l : List Ins) (v x : Value) (w : World) (h : TI q t v w) (k : TI q l x w) (hq : q ≤ w.heap.size) (hm : t.length ≤ 100000) (hl : l.length ≤ 100000) (hs : Srt t) :
    Calls Tryz.prog 29 #[v,x] w (Post (OwnI q w.heap.size (puts t l)) w) := by
  obtain ⟨a1,c1,rfl⟩ := k.len
  have H := lH h
  have K := lH k
  obtain ⟨m,hmn⟩ : ∃ m,l.length = m := ⟨_,rfl⟩
  have HN := lH hmn
  have HS := lH hs
  rw [hmn] at hl ⊢
  clear h k hmn hs
  go_enter Tryz.func29,Tryz.ntmps29
  go_wp2_with fail
  refine (clone_any q t v w H.out hq (by omega)).mono ?_
  rintro e w1 ⟨v1,rfl,hb1,ho1⟩
  have HO1 := lH ho1
  clear ho1
  go_wp2
  go_loopw [0,11] (fun t' i wr => ∃ k : Nat,k ≤ m ∧ i = .int .i64 k ∧ OwnI q w.heap.size (puts t (l.take k)) t' wr ∧ Below w.heap.size w wr) (fun _ i _ => m - (intOf i).toNat)
  case atStart => exact ⟨0,Nat.zero_le _,rfl,HO1.out,hb1⟩
  case round =>
    obtain ⟨k,hk,rfl,ho,hb⟩ := hrel
    have HO := lH ho
    clear ho
    by_cases hlt : k < m
    · have hkl : k < l.length := by rw [HN.out];exact hlt
      have hlt2 : (k : Int) < m := by omega
      obtain ⟨b,off,c,e,hx,_,hbb⟩ := TI.get K.out hb hkl
      rw [HN.out] at e
      simp only [Value.slice.injEq] at e
      obtain ⟨rfl,-,rfl⟩ := e
      have HE : Hid (put l[k] (puts t (l.take k)) = puts t (l.take (k + 1))) := lH (by rw [List.take_succ_eq_append_getElem hkl,puts_app];rfl)
      obtain ⟨i,hi⟩ : ∃ i,l[k] = i := ⟨_,rfl⟩
      rw [hi] at hx HE
      have HSk := lH (puts_srt (l.take k) HS.out)
      have hlen : (puts t (l.take k)).length ≤ 1000000 := by have := puts_len t (l.take k);rw [List.length_take] at this;omega
      obtain ⟨V,hV⟩ : ∃ Q_ : World,(wr.alloc (.cells (ci zeroI) 44)).setRow wr.heap.size (ci i) = Q_ := ⟨_,rfl⟩
      have xV : Bx V wr.heap.size (ci i) 44 := hV ▸ Bx.put (Bx.new _ _ _) _
      have bV : Below wr.heap.size wr V := hV ▸ below_setRow (below1 _ _) (Nat.le_refl _) _
      have b1 := nx hb bV
      have r1 := xV.row
      have hplain := (Bx.new wr (ci zeroI) 44).plain (n := 25) rfl
      clear hi
      go_wp2_with fail
      refine (put_is HE _ hq b1.size (HO.out.stays bV) hlen HSk.out).mono ?_
      rintro e w2 ⟨v2,rfl,ho2,hb2⟩
      have HR := lH (show OwnI q w.heap.size (puts t (l.take (k + 1))) v2 w2 ∧ Below w.heap.size w w2 from ⟨ho2,hb2 _ _ (Nat.le_refl _) b1⟩)
      clear ho2 hb2 xV r1 hplain
      go_wp2
      go_roundw
      case rel => exact ⟨k + 1,by omega,by go_num,HR.out.1,HR.out.2⟩
      case measure => simp [intOf];omega
    · obtain rfl : k = m := by omega
      rw [List.take_of_length_le (by rw [HN.out];exact Nat.le_refl _)] at HO
      go_wp2
      go_ret
      exact ⟨_,rfl,hb,HO.out⟩
end Go.Proofs.YtnnbjhpkgndclaaGreatDoor.St
namespace Go.Proofs.YtnnbjhpkgndclaaGreatDoor.St
open Go.RowKit
open Go.Proofs.YtnnbjhpkgndclaaGreatDoor.Rw
open Go.Proofs.YtnnbjhpkgndclaaGreatDoor.Da
open Go.Proofs.YtnnbjhpkgndclaaGreatDoor.Ro
open Go.Proofs.YtnnbjhpkgndclaaGreatDoor.Bv
open Go.Proofs.YtnnbjhpkgndclaaGreatDoor.Fx (enc enc_size)
open Go.Proofs.YtnnbjhpkgndclaaGreatDoor.Rc (Ins ci zeroI)
open Go.Proofs.YtnnbjhpkgndclaaGreatDoor.Wa (TL OwnT scan ScP)
abbrev cZ (g : Int) (t : Value) (c w : Bool) : Array Value := #[.int .i64 g,t,.bool c,.bool w]
section
variable (ρ : Operand → Value) (dst : Option Tmp) (ty : TypeId) (pos : String) (after : Array Edge) (guard : Option (Nat × Bool)) (w : World)
theorem loadS (x : Operand) (h : (rowOf w (ρ x)).size = 4) : (execOp ρ { dst,op := .load 87 x,type := ty,pos,after,guard }).run Tryz.prog w = .ok (.value (.agg (rowOf w (ρ x)))) w :=
  exec_load (n := 3) ρ dst ty pos after guard w Tryz.underlying87 rfl (by kernel_rfl) x h
theorem storeS (p x : Operand) (h : plainAt 4 w (ρ p) = true) (hs : (ρ x).cells.size = 4) (h1 : oneAll (ρ x) = true) (ha : ρ x = .agg (ρ x).cells) : (execOp ρ { dst,op := .store 87 p x,type := ty,pos,after,guard }).run Tryz.prog w = .ok .skip (putRow w (ρ p) (ρ x).cells) :=
  exec_store (n := 3) ρ dst ty pos after guard w (by kernel_rfl) p x h hs h1 ha
end
attribute [go_sem ↓] loadS storeS
theorem oneZ (g : Int) (a : Option Addr) (m c : Nat) (x y : Bool) : oneAll (.agg #[.int .i64 g,.slice a m c,.bool x,.bool y]) = true := by simp [oneAll,Value.cells,Value.oneCell']
theorem size4 (a b c d : Value) : (#[a,b,c,d] : Array Value).size = 4 := rfl
attribute [go_sem] oneZ size4
theorem ret_S1 {fn : Func} {p : Tmp} (h : fn.results = #[.cell p 87]) (tmps : Array Value) (w : World) {cs : Array Value} (hs : cs.size = 4) (hr : rowOf w (tmps.getD p undef) = cs) : (results fn tmps).run Tryz.prog w = .ok (.agg cs) w :=
  ret1 (n := 3) h Tryz.underlying87 rfl (by kernel_rfl) tmps w hs hr
theorem stay_own {q Bo : Nat} {l : List Ins} {v : Value} {w w' : World} (hq : q ≤ Bo) (h : OwnI q Bo l v w) (k : Keeps (Bs.of q) [44] w w') : OwnI q Bo l v w' := Own.keep ⟨hq,fun _ h => False.elim h⟩ h k
theorem mkN_iff {x : ByteArray} {c : UInt8} {g : Int} (h : 0 < g ∧ g < 4294967296) : mkN x c = g ↔ x = mark c g := by
  constructor
  · intro e
    unfold mkN at e
    split at e
    · rename_i hx
      rw [← e];exact (mark_iff (by omega)).2 hx
    · omega
  · intro e;rw [e];exact mkN_mark c ⟨by omega,h.2⟩
structure Tbs (w : World) : Prop where
  cr : Cr.Tab w
  cm : Cm.Tab w
  rc : Rc.Tb w
theorem Tbs.below {w w' : World} (h : Tbs w) (k : Below w.heap.size w w') : Tbs w' := ⟨h.cr.below k,h.cm.below k,h.rc.below k⟩
def StP (q : Nat) (z : Zs) (w : World) (e : Ending) (w' : World) : Prop := ∃ v,e = .returned (.agg (cZ z.g v z.c z.w)) ∧ Below w.heap.size w w' ∧ OwnI q w.heap.size z.t v w'
theorem zs_form {s : ByteArray} {n : Int} {x : ByteArray} {r : List ByteArray} {a : Nat} (h : scan s = (x :: r,a)) (h0 : mkN x 72 ≠ 0) : zs s n = ⟨mkN x 72,(vis n (mkN x 72) r [] false).1,(vis n (mkN x 72) r [] false).2.1,(vis n (mkN x 72) r [] false).2.2 && decide (a = s.size)⟩ := by
  unfold zs;rw [h,stL,if_neg h0]
theorem zs_zero {s : ByteArray} {n : Int} {L : List ByteArray} {a : Nat} (h : scan s = (L,a)) (h0 : genN L = 0) : zs s n = zero := by
  unfold zs;rw [h]
  cases L with
  | nil => rfl
  | cons x r => rw [stL,if_pos (show mkN x 72 = 0 from h0)];rfl
theorem tl_from {q : Nat} {x : ByteArray} {r : List ByteArray} {b : Addr} {c : Nat} {w u : World} (h : TL q (x :: r) (.slice (some b) (r.length + 1) c) w) (hb : Below w.heap.size w u) : ∃ g off,b = ⟨g,off,none⟩ ∧ ∀ k (hk : k < r.length),u.cell? ⟨g,off + 1 + k,none⟩ = some (.string r[k]) := by
  obtain ⟨g,off,c',e,_,_⟩ := Wa.TL.get h (Below.refl _ _) (k := 0) (by simp)
  simp only [Value.slice.injEq,Option.some.injEq] at e
  obtain ⟨rfl,_,rfl⟩ := e
  refine ⟨g,off,rfl,fun k hk => ?_⟩
  obtain ⟨g',off',c'',e',h1,_⟩ := Wa.TL.get h hb (k := k + 1) (by simp;omega)
  simp only [Value.slice.injEq,Option.some.injEq,Addr.mk.injEq] at e'
  obtain ⟨⟨rfl,rfl,_⟩,_,rfl⟩ := e'
  rw [show off + 1 + k = off + (k + 1) by omega,h1];rfl
set_option maxRecDepth 8000 in
set_option maxHeartbeats 4000000 in
theorem stated_any (q : Nat) (s : ByteArray) (n : Int) (w : World) (hs : s.size ≤ 1000000) (hq : q ≤ w.heap.size) (ht : Tbs w) :
    Calls Tryz.prog 43 #[.string s,.int .i64 n] w (StP q (zs s n) w) := by
  obtain ⟨⟨L,a⟩,hr⟩ : ∃ p,scan s = p := ⟨_,rfl⟩
  obtain ⟨hfew,hal⟩ := Wa.scan_few hr
  have HR := lH hr
  have HSz : Hid (∀ x ∈ L,x.size ≤ 1000000) := lH (by
    have h1 := (Wa.scan_spec s).1
    rw [hr] at h1
    intro x hx
    have := (Wa.sc_back h1 (Nat.zero_le _)).1 x hx
    omega)
  have HT := lH ht
  obtain ⟨U,hU⟩ : ∃ Q_ : World,w.alloc (.cells (cZ 0 (.slice none 0 0) false false) 87) = Q_ := ⟨_,rfl⟩
  have xU : Bx U w.heap.size (cZ 0 (.slice none 0 0) false false) 87 := hU ▸ Bx.new _ _ _
  have bU : Below w.heap.size w U := hU ▸ below1 w _
  obtain ⟨g,hg⟩ : ∃ g,genN L = g := ⟨_,rfl⟩
  have HG := lH hg
  clear ht hr
  by_cases h0 : g = 0
  · subst h0
    have HZ : Hid (zs s n = zero) := lH (zs_zero HR.out HG.out)
    rw [HZ.out]
    clear hg
    go_enter Tryz.func43,Tryz.ntmps43
    go_wp2_with fail
    go_step3
    go_wp2_with fail
    refine (Wa.scan_is2 HR q hs _ (Nat.le_trans hq bU.size) (HT.out.below bU).cr).mono ?_
    rintro e w1 ⟨v1,rfl,hb1,ho1⟩
    have htl := ho1.tl (Nat.le_trans hq bU.size)
    have x1 := xU.stays hb1
    have HTl := lH htl
    clear htl ho1 xU hU
    go_wp2_with fail
    refine (gen_any q L v1 _ HTl.out (by omega) HSz.out).mono ?_
    rintro e w2 ⟨rfl,hb2⟩
    rw [HG.out]
    have x2 := x1.stays hb2
    have r2 := x2.row
    have p2 := x2.plain (n := 4) rfl
    go_wp2
    exact bodyPost_ret (v := .agg (cZ 0 (.slice none 0 0) false false)) (ret_S1 Tryz.results43 _ _ rfl (x2.put _).row) rfl ⟨.slice none 0 0,rfl,below_setRow (nx (nx bU hb1) hb2) (Nat.le_refl _) _,Own.nil _ _ _⟩
  · cases L with
    | nil => exact absurd hg.symm h0
    | cons x r =>
      have hgx : mkN x 72 = g := hg
      have hgp : 0 < g ∧ g < 4294967296 := by
        have : 0 ≤ g ∧ g < 4294967296 := by
          rw [← hgx];unfold mkN;split
          · exact gen_rep x
          · omega
        omega
      obtain ⟨⟨T,C,A⟩,hv⟩ : ∃ p,vis n g r [] false = p := ⟨_,rfl⟩
      have HZ : Hid (zs s n = ⟨g,T,C,A && decide (a = s.size)⟩) := lH (by rw [zs_form HR.out (by rw [hgx];exact h0),hgx,hv])
      have HV := lH hv
      rw [HZ.out]
      have hrl : r.length ≤ 200000 := by simp at hfew;omega
      have hg0 : (g == 0) = false := by simpa using h0
      obtain ⟨last,hlast⟩ : ∃ y,mark 67 g = y := ⟨_,rfl⟩
      have HL := lH hlast
      have HSr : Hid (∀ k (hk : k < r.length),r[k].size ≤ 1000000) := lH fun k hk => HSz.out _ (List.mem_cons_of_mem _ (List.getElem_mem hk))
      obtain ⟨m,hm⟩ : ∃ m,r.length = m := ⟨_,rfl⟩
      have hlen : (x :: r).length = m + 1 := by simp [hm]
      rw [hm] at hrl
      clear hg hv hgx hlast
      go_enter Tryz.func43,Tryz.ntmps43
      go_wp2_with fail
      go_step3
      go_wp2_with fail
      refine (Wa.scan_is2 HR q hs _ (Nat.le_trans hq bU.size) (HT.out.below bU).cr).mono ?_
      rintro e w1 ⟨v1,rfl,hb1,ho1⟩
      have htl := ho1.tl (Nat.le_trans hq bU.size)
      have x1 := xU.stays hb1
      obtain ⟨a5,c5,rfl⟩ := htl.len
      have hcap : capOk (.slice a5 (x :: r).length c5) := ho1.cap
      simp only at htl ⊢
      rw [hlen] at htl hcap ⊢
      have hcap' : m + 1 ≤ c5 := hcap
      obtain ⟨b,off,c',e',_,hbw1⟩ := Wa.TL.get htl (Below.refl _ _) (k := 0) (by simp)
      simp only [Value.slice.injEq] at e'
      obtain ⟨rfl,-,rfl⟩ := e'
      have HTl := lH htl
      have HM := lH hm
      clear htl ho1 xU hU hlen hm hfew hcap
      go_wp2_with fail
      refine (gen_any q (x :: r) (.slice (some ⟨b,off,none⟩) (m + 1) c5) w1 HTl.out (by simp only [List.length_cons,HM.out];omega) HSz.out).mono ?_
      rintro e w2 ⟨rfl,hb2⟩
      rw [HG.out]
      have x2 := x1.stays hb2
      have b2 := nx (nx bU hb1) hb2
      clear x1
      obtain ⟨wh,hwh⟩ : ∃ wh,((a : Int) == (s.size : Int)) = wh := ⟨_,rfl⟩
      have HWh : Hid (decide (a = s.size) = wh) := lH (by rw [← hwh,Bool.eq_iff_iff];simp;omega)
      obtain ⟨W3,hW3⟩ : ∃ Q_ : World,(w2.alloc (.cells (cZ 0 (.slice none 0 0) false false) 87)).setRow w2.heap.size (cZ g (.slice none 0 0) false wh) = Q_ := ⟨_,rfl⟩
      have x3 : Bx W3 w2.heap.size (cZ g (.slice none 0 0) false wh) 87 := hW3 ▸ Bx.put (Bx.new _ _ _) _
      have hb3 : Below w2.heap.size w2 W3 := hW3 ▸ below_setRow (below1 _ _) (Nat.le_refl _) _
      have y3 := x2.stays hb3
      have b3 := nx b2 hb3
      have hne : w.heap.size ≠ w2.heap.size := by have := x2.lt;omega
      have hp3 := (Bx.new w2 (cZ 0 (.slice none 0 0) false false) 87).plain (n := 4) rfl
      go_wp2_with fail
      refine (mark_is ⟨by omega,hgp.2⟩ HL _).mono ?_
      rintro e w4 ⟨rfl,hb4⟩
      have x4 := x3.stays hb4
      have y4 := y3.stays hb4
      have b4 := nx b3 hb4
      have HTl4 := lH (TL.stays (TL.stays (TL.stays HTl.out hb2) hb3) hb4)
      clear x3 y3 x2 hp3 hW3
      go_wp2
      go_step3
      have hF : ∀ u,Below w4.heap.size w4 u → ∀ k (hk : k < r.length),u.cell? ⟨b,off + 1 + k,none⟩ = some (.string r[k]) := fun u hu k hk => by
        obtain ⟨b',off',e',h'⟩ := tl_from (b := ⟨b,off,none⟩) (c := c5) (by rw [HM.out];exact HTl4.out) hu
        simp only [Addr.mk.injEq] at e'
        obtain ⟨rfl,rfl,_⟩ := e'
        exact h' k hk
      have HF := lH hF
      clear hF
      by_cases hm0 : m = 0
      · subst hm0
        obtain rfl : r = [] := List.eq_nil_of_length_eq_zero HM.out
        obtain ⟨rfl,rfl,rfl⟩ : [] = T ∧ false = C ∧ true = A := by have := HV.out;simpa [vis] using this
        have r4 := x4.row
        have p4 := y4.plain (n := 4) rfl
        go_wp2
        all_goals go_loopw [35] (fun i wr => i = .int .i64 0 ∧ w4 = wr) (fun i _ => 0)
        case atStart | atStart => exact ⟨rfl,rfl⟩
        all_goals obtain ⟨rfl,rfl⟩ := hrel
        all_goals go_wp2
        all_goals exact bodyPost_ret (v := .agg (cZ g (.slice none 0 0) false wh)) (ret_S1 Tryz.results43 _ _ rfl (y4.put _).row) rfl ⟨.slice none 0 0,by simp only [HWh.out,Bool.true_and],below_setRow b4 (Nat.le_refl _) _,Own.nil _ _ _⟩
      · have hc2 : ¬ c5 = 1 := by omega
        obtain ⟨tv0,htv0⟩ : ∃ v,v = Value.slice none 0 0 := ⟨_,rfl⟩
        have hw2 : w2.heap.size < w4.heap.size := x4.lt
        have hww : w.heap.size < w4.heap.size := y4.lt
        have hsz4 : w.heap.size ≤ w2.heap.size := b2.size
        have hbw2 : b < w2.heap.size := Nat.lt_of_lt_of_le hbw1 hb2.size
        go_wp2
        go_loopw [35] (fun i wr => ∃ (k : Nat) (t : List Ins) (c : Bool) (a : Option Addr) (cc : Nat),k ≤ m ∧ i = .int .i64 k ∧ Bx wr w2.heap.size (cZ g (.slice a t.length cc) c wh) 87 ∧ Bx wr w.heap.size (cZ 0 (.slice none 0 0) false false) 87 ∧ OwnI q w4.heap.size t (.slice a t.length cc) wr ∧ Srt t ∧ t.length ≤ k ∧ vis n g (r.drop k) t c = (T,C,A) ∧ Below w.heap.size w wr ∧ (∀ k (hk : k < r.length),wr.cell? ⟨b,off + 1 + k,none⟩ = some (.string r[k])) ∧ w4.heap.size ≤ wr.heap.size) (fun i _ => m - (intOf i).toNat)
        case atStart => exact ⟨0,[],false,none,0,Nat.zero_le _,rfl,x4,y4,Own.nil _ _ _,List.Pairwise.nil,Nat.le_refl _,HV.out,b4,HF.out _ (Below.refl _ _),Nat.le_refl _⟩
        case round =>
          obtain ⟨k,t,c,ta,tc,hk,rfl,xz,yz,ho,hsr,htl,hvis,hb,hcell,hsz⟩ := hrel
          have HO := lH ho
          have HSt := lH hsr
          have HCl := lH hcell
          have HVk := lH hvis
          clear ho hsr hcell hvis
          by_cases hlt : k < m
          · have hkl : k < r.length := by rw [HM.out];exact hlt
            have hlt2 : (k : Int) < m := by omega
            have hc := HCl.out k hkl
            have hys := HSr.out k hkl
            have hvk := HVk.out
            rw [List.drop_eq_getElem_cons hkl,vis] at hvk
            obtain ⟨y,hy⟩ : ∃ y,r[k] = y := ⟨_,rfl⟩
            rw [hy] at hc hys hvk
            have HVk2 := lH hvk
            clear hy hvk
            have hcl2 := HCl.out
            have hbwr : b < wr.heap.size := by omega
            cases hE : isE y n with
            | true =>
              have HE := lH hE
              have HI : Hid (enI y n = inI y n) := lH (by unfold enI;rw [hE];rfl)
              have HV3 : Hid (vis n g (r.drop (k + 1)) (put (inI y n) t) c = (T,C,A)) := lH (by have := HVk2.out;rwa [if_pos hE] at this)
              obtain ⟨i,hi⟩ : ∃ i,inI y n = i := ⟨_,rfl⟩
              rw [hi] at HI HV3
              clear hE hi HVk2 HVk hcl2
              go_wp2_with fail
              refine (entered_any y n hys _ (HT.out.below hb).cm (HT.out.below hb).rc).mono ?_
              rintro e w5 ⟨rfl,hb5⟩
              rw [HE.out,HI.out]
              obtain ⟨V,hV⟩ : ∃ Q_ : World,(w5.alloc (.cells (ci zeroI) 44)).setRow w5.heap.size (ci i) = Q_ := ⟨_,rfl⟩
              have xV : Bx V w5.heap.size (ci i) 44 := hV ▸ Bx.put (Bx.new _ _ _) _
              have bV : Below wr.heap.size wr V := nx hb5 (hV ▸ below_setRow (below1 _ _) (Nat.le_refl _) _)
              have r1 := xV.row
              have hplain := (Bx.new w5 (ci zeroI) 44).plain (n := 25) rfl
              have zV := xz.stays bV
              have yV := yz.stays bV
              have c1 := zV.cell 1
              have szV : w4.heap.size ≤ V.heap.size := Nat.le_trans hsz bV.size
              go_wp2_with fail
              refine (put_any q w4.heap.size t _ i V (by omega) szV (HO.out.stays bV) (by omega) HSt.out).mono ?_
              rintro e w6 ⟨v6,rfl,ho6,hb6⟩
              obtain ⟨a6,c6,rfl⟩ := (OwnI.ti ho6 (by omega)).len
              have bl6 := hb6 _ V (Nat.le_refl _) (Below.refl _ _)
              have z6 := zV.low bl6 hw2
              have y6 := yV.low bl6 hww
              have t6 := z6.thawed 1
              have l6 := z6.lt
              have b6 := hb6 w.heap.size w (Nat.le_of_lt hww) (hb.trans (bV.mono hb.size))
              have k6 := z6.cell 1
              clear r1 hplain xV hV c1 xz yz
              go_wp2
              go_roundw
              case rel =>
                refine ⟨k + 1,put i t,c,a6,c6,by omega,by go_num,z6.set 1 _,y6.set' (by omega) 1 _,stay_own (by omega) ho6 (Dk.keeps_setCell 1 _ z6 (by decide) (show q ≤ w2.heap.size by omega)),put_srt i HSt.out,by have := put_len i t;omega,HV3.out,b6.trans (low_setCell 1 _ hsz4),fun j hj => ?_,by have := bl6.size;simp [World.setCell];omega⟩
                rw [World.cell?_of_block (w := wr) ?_]
                · exact HCl.out j hj
                · rw [Below.heap_setCell _ _ _ _ (by show b ≠ w2.heap.size;omega),bl6.block b (by omega),bV.block b hbwr]
              case measure => simp [intOf];omega
            | false =>
              have HE := lH hE
              have HV3 : Hid ((if mkN y 67 = g ∧ c = false then vis n g (r.drop (k + 1)) t true else (t,c,false)) = (T,C,A)) := lH (by have := HVk2.out;rwa [if_neg (by rw [hE];decide)] at this)
              clear hE HVk2 HVk hcl2
              by_cases hyl : y = last ∧ c = false
              · obtain ⟨rfl,rfl⟩ := hyl
                have HV4 : Hid (vis n g (r.drop (k + 1)) t true = (T,C,A)) := lH (by have := HV3.out;rwa [if_pos ⟨by rw [mkN_iff hgp];exact HL.out.symm,rfl⟩] at this)
                have heq : (y.toList == y.toList) = true := beq_self_eq_true _
                clear HV3
                go_wp2_with fail
                refine (entered_any y n hys _ (HT.out.below hb).cm (HT.out.below hb).rc).mono ?_
                rintro e w5 ⟨rfl,hb5⟩
                rw [HE.out]
                obtain ⟨V,hV⟩ : ∃ Q_ : World,(w5.alloc (.cells (ci zeroI) 44)).setRow w5.heap.size (ci (enI y n)) = Q_ := ⟨_,rfl⟩
                have bV : Below wr.heap.size wr V := nx hb5 (hV ▸ below_setRow (below1 _ _) (Nat.le_refl _) _)
                have hplain := (Bx.new w5 (ci zeroI) 44).plain (n := 25) rfl
                have zV := xz.stays bV
                have yV := yz.stays bV
                have c2 := zV.cell 2
                have t2 := zV.thawed 2
                have l2 := zV.lt
                clear xz yz
                go_wp2
                go_roundw
                case rel =>
                  refine ⟨k + 1,t,true,ta,tc,by omega,by go_num,zV.set 2 _,yV.set' (by omega) 2 _,stay_own (by omega) (HO.out.stays bV) (Dk.keeps_setCell 2 _ zV (by decide) (show q ≤ w2.heap.size by omega)),HSt.out,by omega,HV4.out,(hb.trans (bV.mono hb.size)).trans (low_setCell 2 _ hsz4),fun j hj => ?_,by have := bV.size;simp [World.setCell];omega⟩
                  rw [World.cell?_of_block (w := wr) ?_]
                  · exact HCl.out j hj
                  · rw [Below.heap_setCell _ _ _ _ (by show b ≠ w2.heap.size;omega),bV.block b hbwr]
                case measure => simp [intOf];omega
              · have hv9 := HV3.out
                rw [if_neg (fun h => hyl ⟨by rw [mkN_iff hgp] at h;rw [h.1];exact HL.out,h.2⟩)] at hv9
                obtain ⟨rfl,rfl,rfl⟩ : t = T ∧ c = C ∧ false = A := by simpa using hv9
                obtain ⟨f,hf,hfc⟩ : ∃ f,(y.toList == last.toList) = f ∧ (f = true → c = true) := ⟨_,rfl,fun h => by
                  by_cases e : y = last
                  · cases c with
                    | true => rfl
                    | false => exact absurd ⟨e,rfl⟩ hyl
                  · rw [Wa.str_ne e] at h;cases h⟩
                clear HV3 hv9 hyl
                go_wp2_with fail
                refine (entered_any y n hys _ (HT.out.below hb).cm (HT.out.below hb).rc).mono ?_
                rintro e w5 ⟨rfl,hb5⟩
                rw [HE.out]
                obtain ⟨V,hV⟩ : ∃ Q_ : World,(w5.alloc (.cells (ci zeroI) 44)).setRow w5.heap.size (ci (enI y n)) = Q_ := ⟨_,rfl⟩
                have bV : Below wr.heap.size wr V := nx hb5 (hV ▸ below_setRow (below1 _ _) (Nat.le_refl _) _)
                have hplain := (Bx.new w5 (ci zeroI) 44).plain (n := 25) rfl
                have zV := xz.stays bV
                have yV := yz.stays bV
                have c2 := zV.cell 2
                have c3 := zV.cell 3
                have t3 := zV.thawed 3
                have l2 := zV.lt
                obtain ⟨X,hX⟩ : ∃ Q_ : World,V.setCell ⟨w2.heap.size,3,none⟩ (.bool false) = Q_ := ⟨_,rfl⟩
                have zX : Bx X w2.heap.size (cZ g (.slice ta t.length tc) c false) 87 := hX ▸ zV.set 3 _
                have yX : Bx X w.heap.size (cZ 0 (.slice none 0 0) false false) 87 := hX ▸ yV.set' (by omega) 3 _
                have oX : OwnI q w4.heap.size t (.slice ta t.length tc) X := hX ▸ stay_own (by omega) (HO.out.stays bV) (Dk.keeps_setCell 3 _ zV (by decide) (show q ≤ w2.heap.size by omega))
                have bX : Below w.heap.size w X := hX ▸ (hb.trans (bV.mono hb.size)).trans (low_setCell 3 _ hsz4)
                have rX := zX.row
                have pX := yX.plain (n := 4) rfl
                have OX := lH oX
                clear xz yz oX
                cases f with
                | true =>
                  obtain rfl := hfc rfl
                  go_wp2
                  exact bodyPost_ret (v := .agg (cZ g (.slice ta t.length tc) true false)) (ret_S1 Tryz.results43 _ _ rfl (yX.put _).row) rfl ⟨_,rfl,below_setRow bX (Nat.le_refl _) _,own_less (Nat.le_of_lt hww) (stay_own (by omega) OX.out (Dk.keeps_setRow _ yX (by decide) hq))⟩
                | false =>
                  go_wp2
                  exact bodyPost_ret (v := .agg (cZ g (.slice ta t.length tc) c false)) (ret_S1 Tryz.results43 _ _ rfl (yX.put _).row) rfl ⟨_,rfl,below_setRow bX (Nat.le_refl _) _,own_less (Nat.le_of_lt hww) (stay_own (by omega) OX.out (Dk.keeps_setRow _ yX (by decide) hq))⟩
          · obtain rfl : k = m := by omega
            have hvk := HVk.out
            rw [List.drop_of_length_le (by rw [HM.out];exact Nat.le_refl _),vis] at hvk
            obtain ⟨rfl,rfl,rfl⟩ : t = T ∧ c = C ∧ true = A := by simpa using hvk
            have rz := xz.row
            have pz := yz.plain (n := 4) rfl
            go_wp2
            exact bodyPost_ret (v := .agg (cZ g (.slice ta t.length tc) c wh)) (ret_S1 Tryz.results43 _ _ rfl (yz.put _).row) rfl ⟨_,by simp only [HWh.out],below_setRow hb (Nat.le_refl _) _,own_less (Nat.le_of_lt hww) (stay_own (by omega) HO.out (Dk.keeps_setRow _ yz (by decide) hq))⟩
end Go.Proofs.YtnnbjhpkgndclaaGreatDoor.St
namespace Go.Proofs.YtnnbjhpkgndclaaGreatDoor.St
open Go.RowKit
set_option maxRecDepth 20000
open Go.Proofs.YtnnbjhpkgndclaaGreatDoor.Rw
abbrev laid1 : List (String × DataW Unit) := [("cambist/command.widths",Rows.laid_cambist_command_widths),("cambist/crc.halfSums",Rows.laid_cambist_crc_halfSums),("cambist/record.widths",Rows.laid_cambist_record_widths)]
theorem met (os : Os) (args : Array Value) : laidMetH Tryz.prog laid1 ((World.doorLaid Tryz.prog 400 os).forCall (fun _ _ => 0) ⟨#[],args,[]⟩).memory :=
  laidMetH_of_parts3 (fuel := 8) (laidMet_of_run' 8 (by kernel_rfl) (by kernel_rfl)) (by kernel_rfl) (by kernel_rfl)
theorem tab_of {W : World} (h : laidMetH Tryz.prog laid1 W) : Tbs W := by
  rw [MakeChecks.laidMetH_plain _ _ _ (by kernel_rfl)] at h
  have t1 := Rc.laid_tail h
  have t2 := Rc.laid_tail t1
  refine ⟨?_,?_,?_⟩
  · have hT := Lib.tabIs_of_head (k := .u32) (zs := Cr.tab) Cr.gT Cr.gTType Tryz.underlying187 Tryz.underlying169 Cr.cellsE Cr.cellsT t1
    intro i hi
    have h2 := hT.cell Cr.gT i hi
    rwa [Cr.tab_at i hi] at h2
  · have hT := Lib.tabIs_of_head (k := .i64) (zs := Cm.wdL) Cm.gT Cm.gTType Tryz.underlying185 Tryz.underlying3 Cm.cellsI Cm.cellsT h
    unfold Lib.TabIs World.var? at hT
    rw [Cm.gT] at hT
    simp only [Option.bind_some] at hT
    unfold Cm.Tab row
    split at hT
    · rename_i cs t fr e
      rw [e]
      exact Option.some.inj hT
    · cases hT
  · have hT := Lib.tabIs_of_head (k := .i64) (zs := Rc.whL) (rest := []) Rc.gR Rc.gRType Tryz.underlying160 Tryz.underlying3 Cm.cellsI Rc.cellsR t2
    unfold Lib.TabIs World.var? at hT
    rw [Rc.gR] at hT
    simp only [Option.bind_some] at hT
    unfold Rc.Tb row
    split at hT
    · rename_i cs t fr e
      rw [e]
      exact Option.some.inj hT
    · cases hT
end Go.Proofs.YtnnbjhpkgndclaaGreatDoor.St
