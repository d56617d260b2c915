/- Layer 17, plain mathematics: a new disk that is opened; what the statement of a call that is awake says. -/
import Derived.Test.YtnnbjhpkgndclaaGreatDoorQsZZ
import Derived.Test.YtnnbjhpkgndclaaGreatDoorQsAX
set_option linter.unusedVariables false
namespace Go.Proofs.YtnnbjhpkgndclaaGreatDoor.St
open Go.RowKit
open Go.Proofs.YtnnbjhpkgndclaaGreatDoor.Rc (Ins okI)
open Go.Proofs.YtnnbjhpkgndclaaGreatDoor.Wa (laid wl)
open Go.Proofs.YtnnbjhpkgndclaaGreatDoor.Dk hiding wl
theorem open_new (room : Int) :
    (lim room 60000 < 22 ∧ (opnP (newP room) 3).e = 10) ∨
    (22 ≤ lim room 60000 ∧ (opnP (newP room) 3).e = 0 ∧ (opnP (newP room) 3).t = [] ∧ (opnP (newP room) 3).z = 0 ∧ (opnP (newP room) 3).g = 1 ∧ (opnP (newP room) 3).d.c = lim room 60000 ∧ (opnP (newP room) 3).d.f = -1 ∧ Top 3 (opnP (newP room) 3).d [] 0 1 true ∧ at2 ((opnP (newP room) 3).d.a,(opnP (newP room) 3).d.b) 0 = laid (rwL [] 1 3)) := by
  obtain ⟨d,hd⟩ : ∃ d,newP room = d := ⟨_,rfl⟩
  have hl : d.l = [] := by rw [← hd];rfl
  have hn : d.n = false := by rw [← hd];rfl
  have hf : d.f = -1 := by rw [← hd];rfl
  have hc : d.c = lim room 60000 := by rw [← hd];rfl
  have ha : d.a = nul := by rw [← hd];rfl
  have hb : d.b = nul := by rw [← hd];rfl
  have hbd := lim_bd room 60000 (by omega)
  have hnow : d.now = (nul,nul) := by unfold Ds.now;rw [hl,ha,hb];rfl
  have hz := zs_nul 3
  have htab : tabP d 3 = (zero,0) := by
    unfold tabP
    rw [hn,if_neg (by decide),hnow]
    unfold pick
    simp only
    rw [hz,if_neg (fun k => absurd k.1 (by decide)),if_neg (by decide)]
  have ho : opnP d 3 = if (rewP d [] 0 0 3).2 = 0 then ⟨(rewP d [] 0 0 3).1,[],0,1,0⟩ else ⟨(rewP d [] 0 0 3).1,[],0,0,(rewP d [] 0 0 3).2⟩ := by
    unfold opnP
    rw [hn,if_neg (by decide),if_pos (by decide),htab]
    rfl
  have hwl : wl (rwL [] 1 3) = 22 := by rw [wl_rw];rfl
  rw [hd,ho]
  rcases rew_out (n := 3) (d := d) (t := []) (z := 0) (g := 0) rfl (by decide) hl hn (.inl rfl) (by omega) (by omega) with ⟨e,_,h⟩ | ⟨e,_,h⟩ | ⟨e,_,e1,e2,e3,e4,e5,e6,e7,e8⟩
  · left
    rw [e,if_neg (by decide)]
    rw [hwl] at h
    exact ⟨by omega,rfl⟩
  · exact absurd hf h.1
  · right
    rw [hwl] at e8
    rw [e,if_pos rfl]
    have hG := good_rw (n := 3) (g := 1) (t := []) (by decide) rfl (fun i hi => by cases hi) List.Pairwise.nil
    refine ⟨by omega,rfl,rfl,rfl,rfl,by simp only;rw [e4,hc],e6 hf,⟨e3,e5,.inl rfl,by decide,?_,fun _ => ?_,?_⟩,e1⟩
    · simp only;rw [show (1 : Int) = 0 + 1 from rfl,e1];exact hG.zs
    · simp only;rw [e1];exact hG
    · simp only
      intro h
      rw [e2,show at2 (d.a,d.b) (1 - 0) = nul from by rw [ha,hb];rfl,hz] at h
      exact absurd h (by decide)
theorem wri_ok' {W L : Nat} {d : Ds} (h : Ok W L d) (z : Int) (x : ByteArray) : Ok (W + x.size) (L + 1) (wriP d z x).1 := by
  unfold wriP
  split
  · exact (h.appP z x).synP
  · exact h.appP z x
theorem rew_ok {W L : Nat} {d : Ds} (h : Ok W L d) (t : List Ins) (z g n : Int) : Ok (W + 60000) (L + 2) (rewP d t z g n).1 := by
  have h0 : Ok (W + 60000) (L + 2) d := h.mono (by omega) (by omega)
  unfold rewP
  split
  · split
    · exact h0
    · split
      · split
        · split
          · have hm := Wa.layN_max ByteArray.empty (rwL t (g + 1) n) (by decide)
            exact (wri_ok' (h.eraP z) z _).mono (by omega) (by omega)
          · exact (h.eraP z).mono (by omega) (by omega)
        · exact h0
      · exact h0
  · exact h0
theorem opn_ok {W L : Nat} {d : Ds} (h : Ok W L d) (n : Int) : Ok (W + 60000) (L + 2) (opnP d n).d := by
  have h0 : Ok (W + 60000) (L + 2) d := h.mono (by omega) (by omega)
  unfold opnP
  generalize (if 0 < (tabP d n).1.g then 1 - (tabP d n).2 else 0) = to
  split
  · exact h0
  · split
    · split
      · exact h0
      · split
        · exact rew_ok h _ _ _ _
        · exact rew_ok h _ _ _ _
    · exact h0
theorem add_ok {W L : Nat} {d : Ds} (h : Ok W L d) (t : List Ins) (z g n : Int) (l : List Ins) : Ok (W + 60000) (L + 2) (addP d t z g n l).d := by
  have h0 : Ok (W + 60000) (L + 2) d := h.mono (by omega) (by omega)
  have hm := Wa.layN_max ByteArray.empty (l.map (ent n)) (by decide)
  have h1 : Ok (W + 60000) (L + 2) (wriP d z (Wa.layN ByteArray.empty (l.map (ent n))).1).1 := (wri_ok' h z _).mono (by omega) (by omega)
  unfold addP
  split
  · exact h0
  · split
    · split
      · split
        · exact h1
        · split
          · split
            · exact rew_ok h _ _ _ _
            · exact rew_ok h _ _ _ _
          · exact h1
      · exact h0
    · exact h0
end Go.Proofs.YtnnbjhpkgndclaaGreatDoor.St
namespace Go.Proofs.YtnnbjhpkgndclaaGreatDoor.St
open Go.RowKit
open Go.Proofs.YtnnbjhpkgndclaaGreatDoor.Rc (Ins okI)
open Go.Proofs.YtnnbjhpkgndclaaGreatDoor.Wa (laid wl layN fitsN)
open Go.Proofs.YtnnbjhpkgndclaaGreatDoor.Dk hiding wl
def Few (a b : ByteArray) (l : List Do) : Prop :=
  (∃ z x,∃ k : Nat,l = [((z,x,false) : Do)].take k ∧ (cond z b a).size + x.size ≤ 60000) ∨ (∃ z x,∃ k : Nat,l = [((z,nul,true) : Do),(z,x,false)].take k ∧ x.size ≤ 60000)
structure Fine (d : Ds) : Prop where
  a : d.a.size ≤ 60000
  b : d.b.size ≤ 60000
  f : -1 ≤ d.f ∧ d.f ≤ 9223372036854775807
  c : 0 ≤ d.c ∧ d.c ≤ 60000
  up : d.n = false → d.l = []
  few : Few d.a d.b d.l
theorem few_nil {a : ByteArray} (b : ByteArray) (h : a.size ≤ 60000) : Few a b [] := .inl ⟨false,nul,0,rfl,h⟩
theorem Fine.ok {d : Ds} (h : Fine d) : Ok 300000 300 d := by
  have ha := h.a
  have hb := h.b
  refine ⟨?_,?_,h.f,h.c⟩
  · unfold Ds.wt
    rcases h.few with ⟨z,x,k,e,hx⟩ | ⟨z,x,k,e,hx⟩
    · have h1 := Dk.wl_take [((z,x,false) : Do)] k
      have h2 : Dk.wl [((z,x,false) : Do)] = x.size := by simp [Dk.wl]
      rw [e];omega
    · have h1 := Dk.wl_take [((z,nul,true) : Do),(z,x,false)] k
      have h2 : Dk.wl [((z,nul,true) : Do),(z,x,false)] = x.size := by simp [Dk.wl,nul_size]
      rw [e];omega
  · rcases h.few with ⟨z,x,k,e,hx⟩ | ⟨z,x,k,e,hx⟩ <;> rw [e,List.length_take] <;> simp only [List.length_cons,List.length_nil] <;> omega
theorem fine_new (room : Int) : Fine (newP room) :=
  ⟨Nat.zero_le _,Nat.zero_le _,⟨by show (-1 : Int) ≤ -1;omega,by show (-1 : Int) ≤ _;omega⟩,lim_bd room 60000 (by decide),fun _ => rfl,few_nil _ (Nat.zero_le _)⟩
theorem Fine.arm {d : Ds} (h : Fine d) (n : Int) (hn : n ≤ 9223372036854775807) : Fine (armP d n) := by
  refine ⟨h.a,h.b,?_,h.c,h.up,h.few⟩
  show -1 ≤ max n (-1) ∧ max n (-1) ≤ 9223372036854775807
  omega
theorem Fine.roo {d : Ds} (h : Fine d) (n : Int) : Fine (rooP d n) := ⟨h.a,h.b,h.f,lim_bd n 60000 (by decide),h.up,h.few⟩
theorem done_small {s : ByteArray × ByteArray} {z : Bool} {x : ByteArray} (ha : s.1.size ≤ 60000) (hb : s.2.size ≤ 60000) (h : (cond z s.2 s.1).size + x.size ≤ 60000) : (done s (z,x,false)).1.size ≤ 60000 ∧ (done s (z,x,false)).2.size ≤ 60000 := by
  cases z
  · have h' : s.1.size + x.size ≤ 60000 := h
    exact ⟨by show (s.1 ++ x).size ≤ 60000;rw [ByteArray.size_append];exact h',hb⟩
  · have h' : s.2.size + x.size ≤ 60000 := h
    exact ⟨ha,by show (s.2 ++ x).size ≤ 60000;rw [ByteArray.size_append];exact h'⟩
theorem nul_small {s : ByteArray × ByteArray} {z : Bool} (ha : s.1.size ≤ 60000) (hb : s.2.size ≤ 60000) : (done s (z,nul,true)).1.size ≤ 60000 ∧ (done s (z,nul,true)).2.size ≤ 60000 ∧ (cond z (done s (z,nul,true)).2 (done s (z,nul,true)).1).size = 0 := by
  cases z
  · exact ⟨Nat.zero_le _,hb,rfl⟩
  · exact ⟨ha,Nat.zero_le _,rfl⟩
theorem Fine.back {d : Ds} (h : Fine d) (keep torn : Int) : Fine (back d keep torn) := by
  obtain ⟨h1,h2,h3,h4,h5⟩ := back_is d keep torn
  have ha := h.a
  have hb := h.b
  have key : (fin (d.a,d.b) (reach d.l keep torn)).1.size ≤ 60000 ∧ (fin (d.a,d.b) (reach d.l keep torn)).2.size ≤ 60000 := by
    rcases h.few with ⟨z,x,k,e,hx⟩ | ⟨z,x,k,e,hx⟩
    · obtain ⟨m,hm,e2⟩ := crash_app (d.a,d.b) z x k keep torn
      rw [e,e2]
      refine done_small ha hb ?_
      have : (x.extract 0 m).size ≤ x.size := by rw [ByteArray.size_extract];omega
      simp only
      omega
    · rcases crash_rw (d.a,d.b) z x k keep torn with e2 | ⟨m,hm,e2⟩
      · rw [e,e2];exact ⟨ha,hb⟩
      · rw [e,e2]
        obtain ⟨k1,k2,k3⟩ := nul_small (s := (d.a,d.b)) (z := z) ha hb
        refine done_small k1 k2 ?_
        have : (x.extract 0 m).size ≤ x.size := by rw [ByteArray.size_extract];omega
        omega
  rw [← h1] at key
  refine ⟨key.1,key.2,by rw [h4];omega,by rw [h5];exact h.c,fun _ => h2,?_⟩
  rw [h2]
  exact few_nil _ key.1
theorem cond_at {s : ByteArray × ByteArray} {z : Int} (h : z = 0 ∨ z = 1) : cond (z == 1) s.2 s.1 = at2 s z := by
  rcases h with rfl | rfl <;> rfl
theorem Fine.wri {d : Ds} (h : Fine d) (hn : d.n = false) {z : Int} (hz : z = 0 ∨ z = 1) {x : ByteArray} (hx : x.size ≠ 0) : Fine (wriP d z x).1 := by
  have hl := h.up hn
  have ha := h.a
  have hb := h.b
  have hc := h.c
  obtain ⟨_,_,hf,_⟩ := wri_ok' h.ok z x
  rcases wri_out hl hn hz hx h.f.1 with ⟨_,e,_⟩ | ⟨h1,h2⟩ | ⟨_,e,e2,e3,e4,_,_,hs⟩
  · rw [e];exact h
  · by_cases hs : d.c < (at2 (d.a,d.b) z).size + x.size
    · exfalso
      have hnow : d.now = (d.a,d.b) := by unfold Ds.now;rw [hl];rfl
      have e : appP d z x = (d,10) := by
        unfold appP;rw [readE_of hn hz,if_neg (by simp),if_neg hx,hnow,if_pos hs]
      have e5 : wriP d z x = (d,10) := by unfold wriP;rw [e,if_neg (by simp)]
      rw [e5] at h1
      cases h1
    · obtain ⟨_,k1,k2,k3,k4,k,k5⟩ := h2
      refine ⟨by rw [k2];exact ha,by rw [k3];exact hb,hf,by rw [k4];exact hc,(fun k6 => by rw [k1] at k6;cases k6),?_⟩
      rw [k2,k3,k5]
      refine .inl ⟨_,_,_,rfl,?_⟩
      have := cond_at (s := (d.a,d.b)) hz
      simp only at this
      rw [this];omega
  · have key := done_small (s := (d.a,d.b)) (z := z == 1) (x := x) ha hb (by rw [cond_at hz];omega)
    rw [← e] at key
    exact ⟨key.1,key.2,hf,by rw [e3];exact hc,fun _ => e2,by rw [e2];exact few_nil _ key.1⟩
theorem Fine.rew {d : Ds} (h : Fine d) (hn : d.n = false) {t : List Ins} {z g n : Int} (hg : 0 ≤ g) (hz : z = 0 ∨ z = 1) : Fine (rewP d t z g n).1 := by
  have hl := h.up hn
  have ha := h.a
  have hb := h.b
  have hc := h.c
  obtain ⟨_,_,hf,_⟩ := rew_ok h.ok t z g n
  cases hk : okT t n with
  | false =>
    have e : rewP d t z g n = (d,1) := by unfold rewP;rw [hk];rfl
    rw [e];exact h
  | true =>
    have hw : wl (rwL t (g + 1) n) = wl (rwL t 1 n) := by rw [wl_rw,wl_rw]
    rcases rew_out hk hg hl hn hz h.f.1 hc.2 with ⟨_,e,_⟩ | ⟨h1,hg2,h2⟩ | ⟨_,hg2,e,e1,e2,e3,e4,_,_,hs⟩
    · rw [e];exact h
    · by_cases hs : (wl (rwL t (g + 1) n) : Int) ≤ d.c
      · obtain ⟨_,k1,k2,k3,k4,k,k5⟩ := h2
        refine ⟨by rw [k2];exact ha,by rw [k3];exact hb,hf,by rw [k4];exact hc,(fun k6 => by rw [k1] at k6;cases k6),?_⟩
        rw [k2,k3,k5]
        refine .inr ⟨_,_,_,rfl,?_⟩
        rw [Wa.laid_size];omega
      · exfalso
        have hfit : fitsN d.c (rwL t (g + 1) n) = false := by rw [Wa.fitsN_is d.c _ (short_rw hk)];exact decide_eq_false hs
        have e : rewP d t z g n = (d,10) := by unfold rewP;rw [if_pos hk,if_neg (by omega),hfit,if_neg (by simp)]
        rw [e] at h1
        cases h1
    · have hX : (laid (rwL t (g + 1) n)).size ≤ 60000 := by rw [Wa.laid_size];omega
      have key : ((rewP d t z g n).1.a).size ≤ 60000 ∧ ((rewP d t z g n).1.b).size ≤ 60000 := by
        rcases hz with rfl | rfl
        · have q1 : (rewP d t 0 g n).1.a = laid (rwL t (g + 1) n) := e
          have q2 : (rewP d t 0 g n).1.b = d.b := e1
          rw [q1,q2];exact ⟨hX,hb⟩
        · have q1 : (rewP d t 1 g n).1.b = laid (rwL t (g + 1) n) := e
          have q2 : (rewP d t 1 g n).1.a = d.a := e1
          rw [q1,q2];exact ⟨ha,hX⟩
      exact ⟨key.1,key.2,hf,by rw [e3];exact hc,fun _ => e2,by rw [e2];exact few_nil _ key.1⟩
structure Tab9 (n : Int) (t : List Ins) (z g : Int) : Prop where
  srt : Srt t
  ok : okT t n = true
  len : t.length ≤ 10000
  z : z = 0 ∨ z = 1
  g : 0 ≤ g ∧ g ≤ 4294967296
theorem pick_or (a b : Zs) : pick a b = (b,1) ∨ pick a b = (a,0) ∨ pick a b = (zero,0) := by
  unfold pick
  by_cases h : b.c ∧ (if a.c then a else zero).g < b.g
  · rw [if_pos h];exact .inl rfl
  · rw [if_neg h]
    by_cases h2 : a.c = true
    · rw [if_pos h2];exact .inr (.inl rfl)
    · rw [if_neg h2];exact .inr (.inr rfl)
theorem opn_or (d : Ds) (n : Int) : opnP d n = ⟨d,[],0,0,15⟩ ∨ opnP d n = ⟨d,[],0,0,1⟩ ∨ d.n = false ∧ (opnP d n = ⟨d,(tabP d n).1.t,(tabP d n).2,(tabP d n).1.g,0⟩ ∨
    opnP d n = ⟨(rewP d (tabP d n).1.t (if 0 < (tabP d n).1.g then 1 - (tabP d n).2 else 0) (tabP d n).1.g n).1,(tabP d n).1.t,if 0 < (tabP d n).1.g then 1 - (tabP d n).2 else 0,(tabP d n).1.g + 1,0⟩ ∨
    opnP d n = ⟨(rewP d (tabP d n).1.t (if 0 < (tabP d n).1.g then 1 - (tabP d n).2 else 0) (tabP d n).1.g n).1,[],0,0,(rewP d (tabP d n).1.t (if 0 < (tabP d n).1.g then 1 - (tabP d n).2 else 0) (tabP d n).1.g n).2⟩) := by
  unfold opnP
  by_cases h1 : d.n = true
  · rw [if_pos h1];exact .inl rfl
  rw [if_neg h1]
  have h1' : d.n = false := by simpa using h1
  by_cases h2 : 1 ≤ n ∧ n ≤ 7
  · rw [if_pos h2]
    refine .inr (.inr ⟨h1',?_⟩)
    by_cases h3 : (tabP d n).1.w = true
    · rw [if_pos h3];exact .inl rfl
    rw [if_neg h3]
    by_cases h4 : (rewP d (tabP d n).1.t (if 0 < (tabP d n).1.g then 1 - (tabP d n).2 else 0) (tabP d n).1.g n).2 = 0
    · rw [if_pos h4];exact .inr (.inl rfl)
    · rw [if_neg h4];exact .inr (.inr rfl)
  · rw [if_neg h2];exact .inr (.inl rfl)
theorem Fine.tab {d : Ds} (h : Fine d) (n : Int) : Tab9 n (tabP d n).1.t (tabP d n).2 (tabP d n).1.g := by
  have ha := h.a
  have hb := h.b
  have z0 : Tab9 n zero.t 0 zero.g := ⟨List.Pairwise.nil,rfl,Nat.zero_le _,.inl rfl,by decide⟩
  unfold tabP
  split
  · exact z0
  · rename_i hn
    have hl := h.up (by simpa using hn)
    have hnow : d.now = (d.a,d.b) := by unfold Ds.now;rw [hl];rfl
    rw [hnow]
    obtain ⟨a1,a2,a3,a4,a5,a6,_⟩ := zs_table d.a n
    obtain ⟨b1,b2,b3,b4,b5,b6,_⟩ := zs_table d.b n
    have A : Tab9 n (zs d.a n).t 0 (zs d.a n).g := ⟨a1,a2,by omega,.inl rfl,by omega⟩
    have B : Tab9 n (zs d.b n).t 1 (zs d.b n).g := ⟨b1,b2,by omega,.inr rfl,by omega⟩
    have hp := pick_or (zs d.a n) (zs d.b n)
    simp only
    rcases hp with e | e | e <;> rw [e]
    · exact B
    · exact A
    · exact z0
theorem zone_ok {z g : Int} (h : z = 0 ∨ z = 1) : (if 0 < g then 1 - z else 0) = 0 ∨ (if 0 < g then 1 - z else 0) = 1 := by
  split <;> omega
theorem tab_gen (d : Ds) (n : Int) : (tabP d n).1.g < 4294967296 := by
  unfold tabP
  split
  · decide
  · obtain ⟨_,_,_,_,_,a6,_⟩ := zs_table d.now.1 n
    obtain ⟨_,_,_,_,_,b6,_⟩ := zs_table d.now.2 n
    rcases pick_or (zs d.now.1 n) (zs d.now.2 n) with e | e | e <;> rw [e]
    · exact b6
    · exact a6
    · decide
theorem Fine.opn {d : Ds} (h : Fine d) (n : Int) : Fine (opnP d n).d ∧ Tab9 n (opnP d n).t (opnP d n).z (opnP d n).g := by
  have hT := h.tab n
  have z0 : Tab9 n [] 0 0 := ⟨List.Pairwise.nil,rfl,Nat.zero_le _,.inl rfl,by decide⟩
  have hg := hT.g
  have hg2 := tab_gen d n
  rcases opn_or d n with e | e | ⟨hn,e | e | e⟩ <;> rw [e]
  · exact ⟨h,z0⟩
  · exact ⟨h,z0⟩
  · exact ⟨h,hT⟩
  · exact ⟨h.rew hn hg.1 (zone_ok hT.z),hT.srt,hT.ok,hT.len,zone_ok hT.z,by simp only;omega⟩
  · exact ⟨h.rew hn hg.1 (zone_ok hT.z),z0⟩
theorem Fine.add {d : Ds} (h : Fine d) (t : List Ins) (z g n : Int) (l : List Ins) : Fine (addP d t z g n l).d := by
  unfold addP
  split
  · exact h
  · rename_i hn
    have hn' : d.n = false := by simpa using hn
    split
    · rename_i hc
      obtain ⟨h1,h2,h3,h4⟩ := hc
      split
      · rename_i h5
        obtain ⟨e,hs⟩ := Wa.layN_ok _ _ h5
        have hx : (layN ByteArray.empty (l.map (ent n))).1.size ≠ 0 := by
          rw [e,ByteArray.size_append,Wa.laid_size]
          cases l with
          | nil => exact absurd rfl h1
          | cons i r => rw [List.map_cons,wl];omega
        have hw := h.wri hn' h2 hx
        split
        · exact hw
        · split
          · have hr := h.rew (t := puts t l) (n := n) hn' (show 0 ≤ g by omega) (zone1 h2)
            split
            · exact hr
            · exact hr
          · exact hw
      · exact h
    · exact h
theorem add_tab {d : Ds} {t : List Ins} {z g n : Int} {l : List Ins} (hs : Srt t) : Srt (addP d t z g n l).t ∧ (addP d t z g n l).t.length ≤ t.length + l.length ∧ ((addP d t z g n l).g = g ∨ (addP d t z g n l).g = g + 1) := by
  have A : Srt t ∧ t.length ≤ t.length + l.length ∧ (g = g ∨ g = g + 1) := ⟨hs,Nat.le_add_right _ _,.inl rfl⟩
  have B : Srt (puts t l) ∧ (puts t l).length ≤ t.length + l.length := ⟨puts_srt l hs,puts_len t l⟩
  unfold addP
  split
  · exact A
  · split
    · split
      · split
        · exact ⟨B.1,B.2,.inl rfl⟩
        · split
          · split
            · exact ⟨B.1,B.2,.inr rfl⟩
            · exact A
          · exact A
      · exact A
    · exact A
end Go.Proofs.YtnnbjhpkgndclaaGreatDoor.St
