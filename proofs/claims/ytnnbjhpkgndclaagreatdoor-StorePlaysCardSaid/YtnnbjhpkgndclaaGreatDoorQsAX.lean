/- Layer 17 (store), plain mathematics: what a zone states, a table, and what each call makes of a disk. -/
import Derived.Test.YtnnbjhpkgndclaaGreatDoorQsZZ
import Derived.Test.YtnnbjhpkgndclaaGreatDoorQsAL
import Derived.Test.YtnnbjhpkgndclaaGreatDoorQsAF
import Derived.Test.YtnnbjhpkgndclaaGreatDoorQsAW
set_option linter.unusedVariables false
namespace Go.Proofs.YtnnbjhpkgndclaaGreatDoor.St
open Go.RowKit
open Go.Proofs.YtnnbjhpkgndclaaGreatDoor.Fx
open Go.Proofs.YtnnbjhpkgndclaaGreatDoor.Rc (Ins okI insF insAt rdE cat Same)
open Go.Proofs.YtnnbjhpkgndclaaGreatDoor.Wa (laid wl Short scan layN fitsN)
open Go.Proofs.YtnnbjhpkgndclaaGreatDoor.Dk hiding wl
def cn (i : Ins) : Ins := { i with c := fun k => if k < 9 then i.c k else 0,d := fun k => if k < 7 then i.d k else 0 }
theorem cn_same (i : Ins) : Same (cn i) i := ⟨rfl,rfl,rfl,rfl,rfl,rfl,rfl,fun k hk => if_pos hk,rfl,fun k hk => if_pos hk,rfl⟩
theorem cn_eq {i j : Ins} (h : Same i j) : cn i = cn j := by
  obtain ⟨h1,h2,h3,h4,h5,h6,h7,h8,h9,h10,h11⟩ := h
  have e1 : (fun k => if k < 9 then i.c k else 0) = (fun k => if k < 9 then j.c k else 0) := by
    funext k
    by_cases hk : k < 9
    · rw [if_pos hk,if_pos hk];exact h8 k hk
    · rw [if_neg hk,if_neg hk]
  have e2 : (fun k => if k < 7 then i.d k else 0) = (fun k => if k < 7 then j.d k else 0) := by
    funext k
    by_cases hk : k < 7
    · rw [if_pos hk,if_pos hk];exact h10 k hk
    · rw [if_neg hk,if_neg hk]
  unfold cn;rw [h1,h2,h3,h4,h5,h6,h7,h9,h11,e1,e2]
def lessI (a b : Ins) : Bool := decide (a.pr < b.pr ∨ (a.pr = b.pr ∧ a.ps < b.ps))
def atI (a b : Ins) : Bool := decide (a.pr = b.pr ∧ a.ps = b.ps)
def put (i : Ins) : List Ins → List Ins
  | [] => [i]
  | x :: l => if lessI x i then x :: put i l else if atI x i then i :: l else i :: x :: l
def Srt (l : List Ins) : Prop := l.Pairwise fun a b => lessI a b = true
theorem lessI_iff {a b : Ins} : lessI a b = true ↔ (a.pr < b.pr ∨ (a.pr = b.pr ∧ a.ps < b.ps)) := by simp [lessI]
theorem atI_iff {a b : Ins} : atI a b = true ↔ (a.pr = b.pr ∧ a.ps = b.ps) := by simp [atI]
theorem less_trans {a b c : Ins} (h : lessI a b = true) (k : lessI b c = true) : lessI a c = true := by rw [lessI_iff] at *;omega
theorem put_mem {i x : Ins} {l : List Ins} (h : x ∈ put i l) : x = i ∨ x ∈ l := by
  induction l with
  | nil => simp [put] at h;exact .inl h
  | cons y l ih =>
    rw [put] at h
    split at h
    · rcases List.mem_cons.1 h with rfl | h
      · exact .inr List.mem_cons_self
      · exact (ih h).imp id (List.mem_cons_of_mem _)
    split at h
    · rcases List.mem_cons.1 h with rfl | h
      · exact .inl rfl
      · exact .inr (List.mem_cons_of_mem _ h)
    · rcases List.mem_cons.1 h with rfl | h
      · exact .inl rfl
      · exact .inr h
theorem put_srt (i : Ins) {l : List Ins} (h : Srt l) : Srt (put i l) := by
  induction l with
  | nil => simp [put,Srt]
  | cons y l ih =>
    obtain ⟨h1,h2⟩ := List.pairwise_cons.1 h
    rw [put]
    split
    · rename_i hy
      refine List.pairwise_cons.2 ⟨fun x hx => ?_,ih h2⟩
      rcases put_mem hx with rfl | hx
      · exact hy
      · exact h1 x hx
    split
    · rename_i hn ha
      refine List.pairwise_cons.2 ⟨fun x hx => ?_,h2⟩
      have := h1 x hx
      rw [lessI_iff] at this ⊢;rw [atI_iff] at ha;omega
    · rename_i hn ha
      have hl : lessI i y = true := by
        rw [lessI_iff];rw [lessI_iff] at hn;rw [atI_iff] at ha;omega
      refine List.pairwise_cons.2 ⟨fun x hx => ?_,h⟩
      rcases List.mem_cons.1 hx with rfl | hx
      · exact hl
      · exact less_trans hl (h1 x hx)
theorem put_len (i : Ins) (l : List Ins) : (put i l).length ≤ l.length + 1 := by
  induction l with
  | nil => simp [put]
  | cons y l ih =>
    rw [put]
    split
    · simp;omega
    split
    · simp
    · simp
theorem put_last {i : Ins} {l : List Ins} (h : ∀ x ∈ l,lessI x i = true) : put i l = l ++ [i] := by
  induction l with
  | nil => rfl
  | cons y l ih => rw [put,if_pos (h y List.mem_cons_self),ih (fun x hx => h x (List.mem_cons_of_mem _ hx))];rfl
def puts (t l : List Ins) : List Ins := l.foldl (fun t i => put i t) t
theorem puts_nil (t : List Ins) : puts t [] = t := rfl
theorem puts_cons (t : List Ins) (i : Ins) (l : List Ins) : puts t (i :: l) = puts (put i t) l := rfl
theorem puts_app (t l m : List Ins) : puts t (l ++ m) = puts (puts t l) m := List.foldl_append
theorem puts_srt {t : List Ins} (l : List Ins) (h : Srt t) : Srt (puts t l) := by
  induction l generalizing t with
  | nil => exact h
  | cons i l ih => exact ih (put_srt i h)
theorem puts_mem {t l : List Ins} {x : Ins} (h : x ∈ puts t l) : x ∈ t ∨ x ∈ l := by
  induction l generalizing t with
  | nil => exact .inl h
  | cons i l ih =>
    rcases ih h with h | h
    · rcases put_mem h with rfl | h
      · exact .inr List.mem_cons_self
      · exact .inl h
    · exact .inr (List.mem_cons_of_mem _ h)
theorem puts_len (t l : List Ins) : (puts t l).length ≤ t.length + l.length := by
  induction l generalizing t with
  | nil => exact Nat.le_refl _
  | cons i l ih => have := ih (put i t);have := put_len i t;rw [puts_cons,List.length_cons];omega
theorem puts_ahead {t l : List Ins} (h : Srt (t ++ l)) : puts t l = t ++ l := by
  induction l generalizing t with
  | nil => simp [puts_nil]
  | cons i l ih =>
    have h1 : ∀ x ∈ t,lessI x i = true := fun x hx => (List.pairwise_append.1 h).2.2 x hx i List.mem_cons_self
    rw [puts_cons,put_last h1,ih (by simpa [List.append_assoc] using h)];simp
theorem puts_self {t : List Ins} (h : Srt t) : puts [] t = t := puts_ahead h
def mark (c : UInt8) (g : Int) : ByteArray := ⟨#[c]⟩ ++ enc g 4
theorem mark_size (c : UInt8) (g : Int) : (mark c g).size = 5 := by simp [mark,ByteArray.size_append,enc_size];rfl
def mkN (s : ByteArray) (c : UInt8) : Int := if s.size = 5 ∧ s.data[0]? = some c then dec s 1 4 else 0
def ent (n : Int) (i : Ins) : ByteArray := ⟨#[82]⟩ ++ cat (insF i n.toNat)
theorem ent_size (n : Int) (i : Ins) : (ent n i).size = 50 + 2 * n.toNat := by simp [ent,ByteArray.size_append,Rc.ins_size];show 1 + _ = _;omega
def rest (x : ByteArray) : ByteArray := x.extract 1 x.size
def isE (x : ByteArray) (n : Int) : Bool := decide (x.data[0]? = some 82 ∧ rdE (rest x) n = 0)
def inI (x : ByteArray) (n : Int) : Ins := cn (insAt (rest x) n)
structure Zs where
  g : Int
  t : List Ins
  c : Bool
  w : Bool
def zero : Zs := ⟨0,[],false,false⟩
def vis (n g : Int) : List ByteArray → List Ins → Bool → List Ins × Bool × Bool
  | [],t,c => (t,c,true)
  | x :: r,t,c => if isE x n then vis n g r (put (inI x n) t) c else if mkN x 67 = g ∧ c = false then vis n g r t true else (t,c,false)
def stL (n : Int) : List ByteArray → Zs
  | [] => zero
  | x :: r => if mkN x 72 = 0 then zero else ⟨mkN x 72,(vis n (mkN x 72) r [] false).1,(vis n (mkN x 72) r [] false).2.1,(vis n (mkN x 72) r [] false).2.2⟩
def zs (s : ByteArray) (n : Int) : Zs := { stL n (scan s).1 with w := (stL n (scan s).1).w && decide ((scan s).2 = s.size) }
def pick (a b : Zs) : Zs × Int :=
  if b.c ∧ (if a.c then a else zero).g < b.g then (b,1) else (if a.c then a else zero,0)
def tabP (d : Ds) (n : Int) : Zs × Int := if d.n then (zero,0) else pick (zs d.now.1 n) (zs d.now.2 n)
def rwL (t : List Ins) (g n : Int) : List ByteArray := mark 72 g :: (t.map (ent n) ++ [mark 67 g])
def okT (t : List Ins) (n : Int) : Bool := t.all fun i => okI i n
def wriP (d : Ds) (z : Int) (s : ByteArray) : Ds × Int := if (appP d z s).2 = 0 then synP (appP d z s).1 else appP d z s
def rewP (d : Ds) (t : List Ins) (z g n : Int) : Ds × Int :=
  if okT t n then (if 1073741824 ≤ g then (d,10) else if fitsN d.c (rwL t (g + 1) n) then (if (layN ByteArray.empty (rwL t (g + 1) n)).2 = 0 then (if (eraP d z).2 = 0 then wriP (eraP d z).1 z (layN ByteArray.empty (rwL t (g + 1) n)).1 else eraP d z) else (d,(layN ByteArray.empty (rwL t (g + 1) n)).2)) else (d,10)) else (d,1)
structure An where
  d : Ds
  t : List Ins
  z : Int
  g : Int
  e : Int
def opnP (d : Ds) (n : Int) : An :=
  if d.n then ⟨d,[],0,0,15⟩ else if 1 ≤ n ∧ n ≤ 7 then
    (if (tabP d n).1.w then ⟨d,(tabP d n).1.t,(tabP d n).2,(tabP d n).1.g,0⟩
     else if (rewP d (tabP d n).1.t (if 0 < (tabP d n).1.g then 1 - (tabP d n).2 else 0) (tabP d n).1.g n).2 = 0 then
      ⟨(rewP d (tabP d n).1.t (if 0 < (tabP d n).1.g then 1 - (tabP d n).2 else 0) (tabP d n).1.g n).1,(tabP d n).1.t,if 0 < (tabP d n).1.g then 1 - (tabP d n).2 else 0,(tabP d n).1.g + 1,0⟩
     else ⟨(rewP d (tabP d n).1.t (if 0 < (tabP d n).1.g then 1 - (tabP d n).2 else 0) (tabP d n).1.g n).1,[],0,0,(rewP d (tabP d n).1.t (if 0 < (tabP d n).1.g then 1 - (tabP d n).2 else 0) (tabP d n).1.g n).2⟩)
  else ⟨d,[],0,0,1⟩
def addP (d : Ds) (t : List Ins) (z g n : Int) (l : List Ins) : An :=
  if d.n then ⟨d,t,z,g,15⟩
  else if l ≠ [] ∧ (z = 0 ∨ z = 1) ∧ 1 ≤ g ∧ okT l n = true then
    (if (layN ByteArray.empty (l.map (ent n))).2 = 0 then
      (if (wriP d z (layN ByteArray.empty (l.map (ent n))).1).2 = 0 then ⟨(wriP d z (layN ByteArray.empty (l.map (ent n))).1).1,puts t l,z,g,0⟩
       else if (wriP d z (layN ByteArray.empty (l.map (ent n))).1).2 = 10 then
        (if (rewP d (puts t l) (1 - z) g n).2 = 0 then ⟨(rewP d (puts t l) (1 - z) g n).1,puts t l,1 - z,g + 1,0⟩ else ⟨(rewP d (puts t l) (1 - z) g n).1,t,z,g,(rewP d (puts t l) (1 - z) g n).2⟩)
       else ⟨(wriP d z (layN ByteArray.empty (l.map (ent n))).1).1,t,z,g,(wriP d z (layN ByteArray.empty (l.map (ent n))).1).2⟩)
     else ⟨d,t,z,g,(layN ByteArray.empty (l.map (ent n))).2⟩)
  else ⟨d,t,z,g,1⟩
def sizP (t : List Ins) (n : Int) : Int := if okT t n then wl (rwL t 1 n) else 0
end Go.Proofs.YtnnbjhpkgndclaaGreatDoor.St
namespace Go.Proofs.YtnnbjhpkgndclaaGreatDoor.St
open Go.RowKit
open Go.Proofs.YtnnbjhpkgndclaaGreatDoor.Fx
open Go.Proofs.YtnnbjhpkgndclaaGreatDoor.Cr (openE frm)
open Go.Proofs.YtnnbjhpkgndclaaGreatDoor.Rc (Ins okI insF insAt rdE cat Same)
open Go.Proofs.YtnnbjhpkgndclaaGreatDoor.Wa (laid wl Short scan layN fitsN Sc Stop)
open Go.Proofs.YtnnbjhpkgndclaaGreatDoor.Dk hiding wl
theorem mark_data (c : UInt8) (m : Nat) : (mark c m).data.toList = c :: bl m 4 := by rw [mark,app_list,enc_data];rfl
theorem mark_dec (c : UInt8) (m : Nat) (h : m < 4294967296) : dec (mark c m) 1 4 = m :=
  dec_app (mark c m) [c] [] m 4 (by rw [mark_data,List.append_nil];rfl) h
theorem mark_head (c : UInt8) (g : Int) : (mark c g).data[0]? = some c := by
  rw [← Array.getElem?_toList,mark,app_list];rfl
theorem mkN_mark (c : UInt8) {g : Int} (h : 0 ≤ g ∧ g < 4294967296) : mkN (mark c g) c = g := by
  obtain ⟨m,rfl⟩ : ∃ m : Nat,g = m := ⟨g.toNat,by omega⟩
  unfold mkN
  rw [if_pos ⟨mark_size _ _,mark_head _ _⟩,mark_dec c m (by omega)]
theorem isE_mark {c : UInt8} (h : c ≠ 82) (g n : Int) : isE (mark c g) n = false := by
  unfold isE;rw [mark_head]
  exact decide_eq_false fun k => h (Option.some.inj k.1)
theorem ent_head (n : Int) (i : Ins) : (ent n i).data[0]? = some 82 := by
  rw [← Array.getElem?_toList,ent,app_list];rfl
theorem rest_ent (n : Int) (i : Ins) : rest (ent n i) = cat (insF i n.toNat) := by
  apply ByteArray.ext;apply Array.ext'
  rw [rest,Lib.extract_data,ent_size,ent,app_list]
  show (cat (insF i n.toNat)).data.toList.take _ = _
  rw [List.take_of_length_le]
  rw [size_len,Rc.ins_size];omega
theorem isE_ent {n : Int} {i : Ins} (h : okI i n = true) : isE (ent n i) n = true := by
  unfold isE;rw [ent_head,rest_ent,(Rc.read_write h).1];rfl
theorem inI_ent {n : Int} {i : Ins} (h : okI i n = true) : inI (ent n i) n = cn i := by
  unfold inI;rw [rest_ent];exact cn_eq (Rc.read_write h).2
theorem cn_cn (i : Ins) : cn (cn i) = cn i := cn_eq (cn_same i)
theorem isE_ok {n : Int} {x : ByteArray} (h : isE x n = true) : okI (inI x n) n = true := by
  have h1 := of_decide_eq_true h
  exact Rc.okI_congr (cn_same _) (Rc.write_read h1.2).1
def CN (l : List Ins) : Prop := ∀ i ∈ l,cn i = i
theorem okT_iff {t : List Ins} {n : Int} : okT t n = true ↔ ∀ i ∈ t,okI i n = true := by unfold okT;rw [List.all_eq_true]
theorem okT_puts {t l : List Ins} {n : Int} (h : okT t n = true) (k : okT l n = true) : okT (puts t l) n = true := by
  rw [okT_iff] at *
  exact fun i hi => (puts_mem hi).elim (h i) (k i)
theorem CN.puts {t l : List Ins} (h : CN t) (k : CN l) : CN (puts t l) := fun i hi => (puts_mem hi).elim (h i) (k i)
theorem vis_ents {n g : Int} {l : List Ins} (hk : okT l n = true) (hc : CN l) (r : List ByteArray) (t : List Ins) (c : Bool) : vis n g (l.map (ent n) ++ r) t c = vis n g r (puts t l) c := by
  induction l generalizing t with
  | nil => rfl
  | cons i l ih =>
    have hk' := okT_iff.1 hk
    have hi := hk' i List.mem_cons_self
    rw [List.map_cons,List.cons_append,vis,if_pos (isE_ent hi),inI_ent hi,hc i List.mem_cons_self,ih (okT_iff.2 fun j hj => hk' j (List.mem_cons_of_mem _ hj)) (fun j hj => hc j (List.mem_cons_of_mem _ hj))];rfl
theorem vis_mark {n g : Int} (hg : 0 ≤ g ∧ g < 4294967296) (r : List ByteArray) (t : List Ins) : vis n g (mark 67 g :: r) t false = vis n g r t true := by
  rw [vis,if_neg (by rw [isE_mark (by decide)];decide),if_pos ⟨mkN_mark 67 hg,rfl⟩]
theorem vis_app (n g : Int) (A B : List ByteArray) (t : List Ins) (c : Bool) : vis n g (A ++ B) t c = if (vis n g A t c).2.2 then vis n g B (vis n g A t c).1 (vis n g A t c).2.1 else vis n g A t c := by
  induction A generalizing t c with
  | nil => rfl
  | cons x A ih =>
    rw [List.cons_append,vis,vis]
    by_cases h1 : isE x n = true
    · rw [if_pos h1,if_pos h1,ih]
    · rw [if_neg h1,if_neg h1]
      by_cases h2 : mkN x 67 = g ∧ c = false
      · rw [if_pos h2,if_pos h2,ih]
      · rw [if_neg h2,if_neg h2];rfl
theorem vis_mem (n g : Int) (A : List ByteArray) (t : List Ins) (c : Bool) : ∀ i ∈ (vis n g A t c).1,i ∈ t ∨ (okI i n = true ∧ cn i = i) := by
  induction A generalizing t c with
  | nil => exact fun i hi => .inl hi
  | cons x A ih =>
    intro i hi
    rw [vis] at hi
    by_cases h1 : isE x n = true
    · rw [if_pos h1] at hi
      rcases ih _ _ i hi with h | h
      · rcases put_mem h with rfl | h
        · exact .inr ⟨isE_ok h1,cn_cn _⟩
        · exact .inl h
      · exact .inr h
    · rw [if_neg h1] at hi
      by_cases h2 : mkN x 67 = g ∧ c = false
      · rw [if_pos h2] at hi;exact ih _ _ i hi
      · rw [if_neg h2] at hi;exact .inl hi
theorem vis_srt (n g : Int) (A : List ByteArray) (t : List Ins) (c : Bool) (h : Srt t) : Srt (vis n g A t c).1 ∧ (vis n g A t c).1.length ≤ t.length + A.length := by
  induction A generalizing t c with
  | nil => exact ⟨h,Nat.le_refl _⟩
  | cons x A ih =>
    rw [vis]
    by_cases h1 : isE x n = true
    · rw [if_pos h1]
      have := ih (put (inI x n) t) c (put_srt _ h)
      have hl := put_len (inI x n) t
      rw [List.length_cons];exact ⟨this.1,by omega⟩
    · rw [if_neg h1]
      by_cases h2 : mkN x 67 = g ∧ c = false
      · rw [if_pos h2];have := ih t true h;rw [List.length_cons];exact ⟨this.1,by omega⟩
      · rw [if_neg h2];exact ⟨h,by simp⟩
theorem zs_table (s : ByteArray) (n : Int) : Srt (zs s n).t ∧ okT (zs s n).t n = true ∧ CN (zs s n).t ∧ (zs s n).t.length * 6 ≤ s.size ∧ 0 ≤ (zs s n).g ∧ (zs s n).g < 4294967296 ∧ ((zs s n).c = true → 0 < (zs s n).g) := by
  show Srt (stL n (scan s).1).t ∧ okT (stL n (scan s).1).t n = true ∧ CN (stL n (scan s).1).t ∧ (stL n (scan s).1).t.length * 6 ≤ s.size ∧ 0 ≤ (stL n (scan s).1).g ∧ (stL n (scan s).1).g < 4294967296 ∧ ((stL n (scan s).1).c = true → 0 < (stL n (scan s).1).g)
  have hm := (Wa.scan_spec s).1.many (Nat.zero_le _)
  have hb := Wa.sc_back (Wa.scan_spec s).1 (Nat.zero_le _)
  have hz : Srt zero.t ∧ okT zero.t n = true ∧ CN zero.t ∧ zero.t.length * 6 ≤ s.size ∧ 0 ≤ zero.g ∧ zero.g < 4294967296 ∧ (zero.c = true → 0 < zero.g) := ⟨List.Pairwise.nil,rfl,(fun i hi => by cases hi),Nat.zero_le _,by decide,by decide,fun h => by cases h⟩
  generalize (scan s).1 = L at *
  cases L with
  | nil => exact hz
  | cons x r =>
    rw [stL]
    by_cases h : mkN x 72 = 0
    · rw [if_pos h];exact hz
    · rw [if_neg h]
      have hg : 0 ≤ mkN x 72 ∧ mkN x 72 < 4294967296 := by
        unfold mkN
        split
        · have := dec_lt x 1 4;omega
        · omega
      have h1 := vis_mem n (mkN x 72) r [] false
      have h2 := vis_srt n (mkN x 72) r [] false List.Pairwise.nil
      simp only [List.length_cons,List.length_nil] at hm h2
      exact ⟨h2.1,okT_iff.2 fun i hi => ((h1 i hi).resolve_left (by simp)).1,fun i hi => ((h1 i hi).resolve_left (by simp)).2,by simp only;omega,hg.1,hg.2,fun _ => by simp only;omega⟩
theorem stL_app {n g : Int} {t : List Ins} {L : List ByteArray} (M : List ByteArray) (h : stL n L = ⟨g,t,true,true⟩) (hg : g ≠ 0) : stL n (L ++ M) = ⟨g,(vis n g M t true).1,(vis n g M t true).2.1,(vis n g M t true).2.2⟩ := by
  cases L with
  | nil => exact absurd (congrArg Zs.g h).symm hg
  | cons x r =>
    rw [stL] at h
    rw [List.cons_append,stL]
    by_cases h0 : mkN x 72 = 0
    · rw [if_pos h0] at h;exact absurd (congrArg Zs.g h).symm hg
    · rw [if_neg h0] at h ⊢
      injection h with e1 e2 e3 e4
      rw [vis_app,e1] at *
      rw [e4,if_pos rfl,e2,e3]
theorem zs_laid {n : Int} {L : List ByteArray} (h : Short L) : zs (laid L) n = stL n L := by
  unfold zs
  rw [Wa.scan_is (Wa.sc_all L h)]
  simp
def Good (n g : Int) (t : List Ins) (s : ByteArray) : Prop := (0 < g ∧ g < 4294967296) ∧ ∃ L,Short L ∧ s = laid L ∧ stL n L = ⟨g,t,true,true⟩
theorem Good.zs {n g : Int} {t : List Ins} {s : ByteArray} (h : Good n g t s) : zs s n = ⟨g,t,true,true⟩ := by
  obtain ⟨_,L,h1,rfl,h2⟩ := h
  rw [zs_laid h1,h2]
theorem short_ents {n : Int} {l : List Ins} (hk : okT l n = true) : Short (l.map (ent n)) := fun x hx => by
  obtain ⟨i,hi,rfl⟩ := List.mem_map.1 hx
  have := (Rc.okI_iff.1 (okT_iff.1 hk i hi)).1
  rw [ent_size];omega
theorem short_rw {n g : Int} {t : List Ins} (hk : okT t n = true) : Short (rwL t g n) := fun x hx => by
  rcases List.mem_cons.1 hx with rfl | hx
  · rw [mark_size];decide
  rcases List.mem_append.1 hx with hx | hx
  · exact short_ents hk x hx
  · rw [List.mem_singleton.1 hx,mark_size];decide
theorem wl_ents (n : Int) (l : List Ins) : wl (l.map (ent n)) = l.length * (56 + 2 * n.toNat) := by
  induction l with
  | nil => simp [wl]
  | cons i l ih => rw [List.map_cons,wl,ih,ent_size,List.length_cons,Nat.add_mul,Nat.one_mul];omega
theorem wl_rw (n g : Int) (t : List Ins) : wl (rwL t g n) = 22 + t.length * (56 + 2 * n.toNat) := by
  rw [rwL,wl,Wa.wl_append,wl_ents,mark_size,wl,mark_size,wl];omega
theorem good_rw {n g : Int} {t : List Ins} (hg : 0 < g ∧ g < 4294967296) (hk : okT t n = true) (hc : CN t) (hs : Srt t) : Good n g t (laid (rwL t g n)) := by
  refine ⟨hg,_,short_rw hk,rfl,?_⟩
  have h1 := mkN_mark 72 (g := g) ⟨by omega,hg.2⟩
  rw [rwL,stL,h1,if_neg (by omega),vis_ents hk hc,puts_self hs,vis_mark ⟨by omega,hg.2⟩]
  rfl
theorem good_add {n g : Int} {t l : List Ins} {s : ByteArray} (h : Good n g t s) (hk : okT l n = true) (hc : CN l) : Good n g (puts t l) (s ++ laid (l.map (ent n))) := by
  obtain ⟨hg,L,h1,rfl,h2⟩ := h
  refine ⟨hg,L ++ l.map (ent n),fun x hx => (List.mem_append.1 hx).elim (h1 x) (short_ents hk x),(Wa.laid_append _ _).symm,?_⟩
  have h3 := vis_ents (g := g) hk hc [] t true
  rw [List.append_nil] at h3
  rw [stL_app _ h2 (by omega),h3];rfl
theorem cut_at (M : List ByteArray) (k : Nat) : ∃ i,i ≤ M.length ∧ wl (M.take i) ≤ k ∧ ∀ h : i < M.length,k < wl (M.take i) + (M[i].size + 6) := by
  induction M generalizing k with
  | nil => exact ⟨0,Nat.le_refl _,Nat.zero_le _,fun h => absurd h (by simp)⟩
  | cons x M ih =>
    by_cases hk : k < x.size + 6
    · exact ⟨0,Nat.zero_le _,Nat.zero_le _,fun h => by simp [wl];omega⟩
    · obtain ⟨i,h1,h2,h3⟩ := ih (k - (x.size + 6))
      refine ⟨i + 1,by simp;omega,by rw [List.take_succ_cons,wl];omega,fun h => ?_⟩
      have h4 := h3 (by simpa using h)
      rw [List.take_succ_cons,wl,List.getElem_cons_succ];omega
theorem good_cut {n g : Int} {t l : List Ins} {s : ByteArray} (h : Good n g t s) (hk : okT l n = true) (hc : CN l) {k : Nat} (hkl : k ≤ (laid (l.map (ent n))).size) :
    ∃ i w,i ≤ l.length ∧ zs (s ++ (laid (l.map (ent n))).extract 0 k) n = ⟨g,puts t (l.take i),true,w⟩ ∧ (w = true → Good n g (puts t (l.take i)) (s ++ (laid (l.map (ent n))).extract 0 k)) := by
  have hG := h
  obtain ⟨hg,L,h1,rfl,h2⟩ := h
  obtain ⟨M,hM⟩ : ∃ M,l.map (ent n) = M := ⟨_,rfl⟩
  have hsM : Short M := hM ▸ short_ents hk
  rw [hM] at hkl ⊢
  rw [Wa.laid_size] at hkl
  obtain ⟨i,hi,h3,h4⟩ := cut_at M k
  have hil : i ≤ l.length := by rw [← hM,List.length_map] at hi;exact hi
  have hsLM : Short (L ++ M) := fun x hx => (List.mem_append.1 hx).elim (h1 x) (hsM x)
  have hki : okT (l.take i) n = true := okT_iff.2 fun j hj => okT_iff.1 hk j (List.mem_of_mem_take hj)
  have hci : CN (l.take i) := fun j hj => hc j (List.mem_of_mem_take hj)
  have hMi : M.take i = (l.take i).map (ent n) := by rw [← hM,List.map_take]
  have htk : (L ++ M).take (L.length + i) = L ++ M.take i := by rw [List.take_append,List.take_of_length_le (by omega),Nat.add_sub_cancel_left]
  have e1 : laid L ++ (laid M).extract 0 k = (laid (L ++ M)).extract 0 (wl L + k) := by
    rw [Wa.laid_append,← Wa.laid_size L,Wa.ext_app]
  have hsc := Wa.scan_is (Wa.sc_cut (L ++ M) hsLM (wl L + k) (L.length + i) (by rw [List.length_append];omega) (by rw [htk,Wa.wl_append];omega)
    (fun h => by
      rw [List.length_append] at h
      have h5 := h4 (by omega)
      have h6 : (L ++ M)[L.length + i] = M[i] := by rw [List.getElem_append_right (by omega)];congr 1;omega
      rw [h6,htk,Wa.wl_append];omega) (by rw [Wa.wl_append];omega))
  rw [htk] at hsc
  have h7 := vis_ents (g := g) hki hci [] t true
  rw [List.append_nil,← hMi] at h7
  have h8 : stL n (L ++ M.take i) = ⟨g,puts t (l.take i),true,true⟩ := by rw [stL_app _ h2 (by omega),h7];rfl
  rw [e1]
  refine ⟨i,decide (wl (L ++ M.take i) = ((laid (L ++ M)).extract 0 (wl L + k)).size),hil,?_,fun hw => ?_⟩
  · unfold zs;rw [hsc,h8];simp
  · have hw := of_decide_eq_true hw
    rw [← e1,ByteArray.size_append,ByteArray.size_extract,Wa.laid_size,Wa.laid_size,Wa.wl_append] at hw
    have hke : k = wl (M.take i) := by omega
    have e2 : (laid M).extract 0 k = laid (M.take i) := by
      have h9 : laid M = laid (M.take i) ++ laid (M.drop i) := by rw [← Wa.laid_append,List.take_append_drop]
      rw [h9,hke,← Wa.laid_size,Wa.ext_app_le _ _ _ (Nat.le_refl _),Wa.ext_all]
    rw [← e1,e2,hMi]
    exact good_add hG hki hci
theorem mark_laid (c : UInt8) (g n : Int) (h : mkN (mark c g) 72 ≠ 0) (r : List ByteArray) : stL n (mark c g :: r) = ⟨mkN (mark c g) 72,(vis n (mkN (mark c g) 72) r [] false).1,(vis n (mkN (mark c g) 72) r [] false).2.1,(vis n (mkN (mark c g) 72) r [] false).2.2⟩ := by rw [stL,if_neg h]
theorem rw_cut {n g : Int} {t : List Ins} (hg : 0 < g ∧ g < 4294967296) (hk : okT t n = true) (hc : CN t) {k : Nat} (hkl : k < (laid (rwL t g n)).size) : (zs ((laid (rwL t g n)).extract 0 k) n).c = false := by
  have hs := short_rw (g := g) hk
  rw [Wa.laid_size] at hkl
  obtain ⟨i,hi,h3,h4⟩ := cut_at (rwL t g n) k
  have hlt : i < (rwL t g n).length := by
    rcases Nat.lt_or_ge i (rwL t g n).length with h | h
    · exact h
    · rw [List.take_of_length_le h] at h3;omega
  have hsc := Wa.scan_is (Wa.sc_cut _ hs k i hi h3 h4 (by omega))
  unfold zs
  rw [hsc]
  show (stL n ((rwL t g n).take i)).c = false
  cases i with
  | zero => rfl
  | succ i =>
    have hl : i ≤ t.length := by simp [rwL] at hlt;omega
    have h1 := mkN_mark 72 (g := g) ⟨by omega,hg.2⟩
    have e : (rwL t g n).take (i + 1) = mark 72 g :: ((t.take i).map (ent n) ++ []) := by
      rw [rwL,List.take_succ_cons,List.take_append_of_le_length (by rw [List.length_map];exact hl),List.map_take,List.append_nil]
    rw [e,mark_laid _ _ _ (by omega),vis_ents (okT_iff.2 fun j hj => okT_iff.1 hk j (List.mem_of_mem_take hj)) (fun j hj => hc j (List.mem_of_mem_take hj))]
    rfl
theorem zs_nul (n : Int) : (zs nul n).c = false := by
  have h := zs_laid (n := n) (L := []) (fun x hx => by cases hx)
  have e : laid [] = nul := rfl
  rw [e] at h;rw [h];rfl
theorem good_more {n g : Int} {t : List Ins} {s x : ByteArray} (h : Good n g t s) (hx : 0 < x.size) (hst : Stop (s ++ x) s.size) : zs (s ++ x) n = ⟨g,t,true,false⟩ := by
  obtain ⟨hg,L,h1,rfl,h2⟩ := h
  have h3 := Wa.sc_laid L h1 ByteArray.empty x
  rw [ByteArray.empty_append,show ByteArray.empty.size = 0 from rfl,Nat.zero_add] at h3
  rw [Wa.laid_size] at hst
  unfold zs
  rw [Wa.scan_is ⟨h3,hst⟩,h2]
  have h4 : decide (wl L = (laid L ++ x).size) = false := decide_eq_false (by rw [ByteArray.size_append,Wa.laid_size];omega)
  simp only [h4,Bool.and_false]
def torn : ByteArray := ⟨#[116,111,114,110]⟩
theorem torn_stop (s : ByteArray) : Stop (s ++ torn) s.size := by
  intro ⟨_,h⟩
  have hz : (s ++ torn).size = s.size + 4 := by rw [ByteArray.size_append];rfl
  have hd : dec (s ++ torn) s.size 2 = 29807 := by
    have h1 := dec_app (s ++ torn) s.data.toList [114,110] 29807 2 (by rw [app_list];rfl) (by decide)
    rw [size_len] at h1;exact h1
  unfold openE at h
  rw [Cr.getE_in _ _ (by omega),if_pos rfl,Int.toNat_natCast,hd,if_neg (by decide)] at h
  exact absurd h (by decide)
end Go.Proofs.YtnnbjhpkgndclaaGreatDoor.St
namespace Go.Proofs.YtnnbjhpkgndclaaGreatDoor.St
open Go.RowKit
open Go.Proofs.YtnnbjhpkgndclaaGreatDoor.Fx
open Go.Proofs.YtnnbjhpkgndclaaGreatDoor.Rc (Ins okI insF insAt rdE cat Same)
open Go.Proofs.YtnnbjhpkgndclaaGreatDoor.Wa (laid wl Short scan layN fitsN Sc Stop)
open Go.Proofs.YtnnbjhpkgndclaaGreatDoor.Dk hiding wl
structure Top (n : Int) (d : Ds) (t : List Ins) (z g : Int) (w : Bool) : Prop where
  l : d.l = []
  up : d.n = false
  zok : z = 0 ∨ z = 1
  gok : 0 < g ∧ g ≤ 1073741824
  here : zs (at2 (d.a,d.b) z) n = ⟨g,t,true,w⟩
  good : w = true → Good n g t (at2 (d.a,d.b) z)
  old : (zs (at2 (d.a,d.b) (1 - z)) n).c = true → (zs (at2 (d.a,d.b) (1 - z)) n).g < g
theorem Top.now {n : Int} {d : Ds} {t : List Ins} {z g : Int} {w : Bool} (h : Top n d t z g w) : d.now = (d.a,d.b) := by
  unfold Ds.now;rw [h.l];rfl
theorem Top.tab {n : Int} {d : Ds} {t : List Ins} {z g : Int} {w : Bool} (h : Top n d t z g w) : tabP d n = (⟨g,t,true,w⟩,z) := by
  have h1 := h.here
  have h2 := h.old
  unfold tabP
  rw [h.up,if_neg (by simp),h.now]
  rcases h.zok with rfl | rfl
  · change zs d.a n = _ at h1
    change (zs d.b n).c = true → (zs d.b n).g < g at h2
    simp only
    unfold pick
    rw [h1,if_pos rfl,if_neg (fun k => by have := h2 k.1;have := k.2;simp only at this;omega)]
  · change zs d.b n = _ at h1
    change (zs d.a n).c = true → (zs d.a n).g < g at h2
    simp only
    unfold pick
    have hlt : (if (zs d.a n).c = true then zs d.a n else zero).g < g := by
      have hg := h.gok
      by_cases k : (zs d.a n).c = true
      · rw [if_pos k];exact h2 k
      · rw [if_neg k];show (0 : Int) < g;omega
    rw [h1,if_pos ⟨rfl,hlt⟩]
theorem Top.tbl {n : Int} {d : Ds} {t : List Ins} {z g : Int} {w : Bool} (h : Top n d t z g w) : Srt t ∧ okT t n = true ∧ CN t := by
  have h1 := zs_table (at2 (d.a,d.b) z) n
  rw [h.here] at h1
  exact ⟨h1.1,h1.2.1,h1.2.2.1⟩
theorem zoneB_of {z : Int} (h : z = 0 ∨ z = 1) : zoneB z = true := by rcases h with rfl | rfl <;> rfl
theorem readE_of {d : Ds} {z : Int} (hn : d.n = false) (h : z = 0 ∨ z = 1) : readE d z = 0 := by
  unfold readE;rw [hn,if_neg (by simp),zoneB_of h,if_pos rfl]
def Fell (d r : Ds) (ops : List Do) : Prop := d.f ≠ -1 ∧ r.n = true ∧ r.a = d.a ∧ r.b = d.b ∧ r.c = d.c ∧ ∃ k,r.l = ops.take k
theorem wri_out {d : Ds} {z : Int} {x : ByteArray} (hl : d.l = []) (hn : d.n = false) (hz : z = 0 ∨ z = 1) (hx : x.size ≠ 0) (hf : -1 ≤ d.f) :
    ((wriP d z x).2 = 10 ∧ (wriP d z x).1 = d ∧ d.c < (at2 (d.a,d.b) z).size + x.size) ∨
    ((wriP d z x).2 = 15 ∧ Fell d (wriP d z x).1 [(z == 1,x,false)]) ∨
    ((wriP d z x).2 = 0 ∧ ((wriP d z x).1.a,(wriP d z x).1.b) = done (d.a,d.b) (z == 1,x,false) ∧ (wriP d z x).1.l = [] ∧ (wriP d z x).1.c = d.c ∧ (wriP d z x).1.n = false ∧ (d.f = -1 → (wriP d z x).1.f = -1) ∧ -1 ≤ (wriP d z x).1.f ∧ (at2 (d.a,d.b) z).size + x.size ≤ d.c) := by
  obtain ⟨a,b,l,c,f,dn⟩ := d
  obtain rfl : l = [] := hl
  obtain rfl : dn = false := hn
  have hr : readE ⟨a,b,[],c,f,false⟩ z = 0 := readE_of rfl hz
  have hnow : (Ds.now ⟨a,b,[],c,f,false⟩) = (a,b) := rfl
  simp only at hf
  by_cases h1 : c < (at2 (a,b) z).size + x.size
  · have e : appP ⟨a,b,[],c,f,false⟩ z x = (⟨a,b,[],c,f,false⟩,10) := by
      unfold appP;rw [hr,if_neg (by simp),if_neg hx,hnow,if_pos h1]
    left
    have e5 : wriP ⟨a,b,[],c,f,false⟩ z x = (⟨a,b,[],c,f,false⟩,10) := by unfold wriP;rw [e,if_neg (by simp)]
    rw [e5];exact ⟨rfl,rfl,h1⟩
  · have e : appP ⟨a,b,[],c,f,false⟩ z x = doP ⟨a,b,[],c,f,false⟩ (z == 1,x,false) := by
      unfold appP;rw [hr,if_neg (by simp),if_neg hx,hnow,if_neg h1]
    right
    by_cases h2 : f = 0
    · have e2 : doP ⟨a,b,[],c,f,false⟩ (z == 1,x,false) = (⟨a,b,[],c,f,true⟩,15) := by unfold doP;rw [if_pos h2]
      left
      have e5 : wriP ⟨a,b,[],c,f,false⟩ z x = (⟨a,b,[],c,f,true⟩,15) := by unfold wriP;rw [e,e2,if_neg (by simp)]
      rw [e5];exact ⟨rfl,by simp only;omega,rfl,rfl,rfl,rfl,0,rfl⟩
    · have e2 : doP ⟨a,b,[],c,f,false⟩ (z == 1,x,false) = (⟨a,b,[(z == 1,x,false)],c,max f 0 - 1,false⟩,0) := by unfold doP;rw [if_neg h2];rfl
      by_cases h3 : max f 0 - 1 = 0
      · have e3 : synP ⟨a,b,[(z == 1,x,false)],c,max f 0 - 1,false⟩ = (⟨a,b,[(z == 1,x,false)],c,max f 0 - 1,true⟩,15) := by unfold synP;rw [if_neg (by simp),if_pos h3]
        left
        have e5 : wriP ⟨a,b,[],c,f,false⟩ z x = (⟨a,b,[(z == 1,x,false)],c,max f 0 - 1,true⟩,15) := by unfold wriP;rw [e,e2,if_pos rfl];exact e3
        rw [e5];exact ⟨rfl,by simp only;omega,rfl,rfl,rfl,rfl,1,rfl⟩
      · have e3 : synP ⟨a,b,[(z == 1,x,false)],c,max f 0 - 1,false⟩ = (⟨(done (a,b) (z == 1,x,false)).1,(done (a,b) (z == 1,x,false)).2,[],c,max (max f 0 - 1) 0 - 1,false⟩,0) := by unfold synP;rw [if_neg (by simp),if_neg h3];rfl
        right
        have e5 : wriP ⟨a,b,[],c,f,false⟩ z x = (⟨(done (a,b) (z == 1,x,false)).1,(done (a,b) (z == 1,x,false)).2,[],c,max (max f 0 - 1) 0 - 1,false⟩,0) := by unfold wriP;rw [e,e2,if_pos rfl];exact e3
        rw [e5];exact ⟨rfl,rfl,rfl,rfl,rfl,fun h => by simp only at h ⊢;omega,by simp only;omega,by simp only;omega⟩
theorem zone1 {z : Int} (h : z = 0 ∨ z = 1) : (1 - z = 0 ∨ 1 - z = 1) := by omega
theorem done_here {s : ByteArray × ByteArray} {z : Int} (h : z = 0 ∨ z = 1) (x : ByteArray) : at2 (done s (z == 1,x,false)) z = at2 s z ++ x ∧ at2 (done s (z == 1,x,false)) (1 - z) = at2 s (1 - z) := by
  rcases h with rfl | rfl <;> exact ⟨rfl,rfl⟩
theorem erase_here {s : ByteArray × ByteArray} {z : Int} (h : z = 0 ∨ z = 1) : at2 (done s (z == 1,nul,true)) z = nul ∧ at2 (done s (z == 1,nul,true)) (1 - z) = at2 s (1 - z) := by
  rcases h with rfl | rfl <;> exact ⟨rfl,rfl⟩
theorem nul_app (x : ByteArray) : nul ++ x = x := ByteArray.empty_append
theorem rew_out {n : Int} {d : Ds} {t : List Ins} {z g : Int} (hk : okT t n = true) (hg : 0 ≤ g) (hl : d.l = []) (hn : d.n = false) (hz : z = 0 ∨ z = 1) (hf : -1 ≤ d.f) (hc : d.c ≤ 60000) :
    ((rewP d t z g n).2 = 10 ∧ (rewP d t z g n).1 = d ∧ (1073741824 ≤ g ∨ d.c < wl (rwL t 1 n))) ∨
    ((rewP d t z g n).2 = 15 ∧ g < 1073741824 ∧ Fell d (rewP d t z g n).1 [(z == 1,nul,true),(z == 1,laid (rwL t (g + 1) n),false)]) ∨
    ((rewP d t z g n).2 = 0 ∧ g < 1073741824 ∧ at2 ((rewP d t z g n).1.a,(rewP d t z g n).1.b) z = laid (rwL t (g + 1) n) ∧ at2 ((rewP d t z g n).1.a,(rewP d t z g n).1.b) (1 - z) = at2 (d.a,d.b) (1 - z) ∧ (rewP d t z g n).1.l = [] ∧ (rewP d t z g n).1.c = d.c ∧ (rewP d t z g n).1.n = false ∧ (d.f = -1 → (rewP d t z g n).1.f = -1) ∧ -1 ≤ (rewP d t z g n).1.f ∧ wl (rwL t 1 n) ≤ d.c) := by
  have hw : wl (rwL t (g + 1) n) = wl (rwL t 1 n) := by rw [wl_rw,wl_rw]
  by_cases h1 : 1073741824 ≤ g
  · have e : rewP d t z g n = (d,10) := by unfold rewP;rw [if_pos hk,if_pos h1]
    rw [e];exact .inl ⟨rfl,rfl,.inl h1⟩
  have hfit := Wa.fitsN_is d.c (rwL t (g + 1) n) (short_rw hk)
  by_cases h2 : (wl (rwL t (g + 1) n) : Int) ≤ d.c
  · have hfit' : fitsN d.c (rwL t (g + 1) n) = true := by rw [hfit];exact decide_eq_true h2
    obtain ⟨q,hq⟩ : ∃ q,layN ByteArray.empty (rwL t (g + 1) n) = q := ⟨_,rfl⟩
    have hlay : layN ByteArray.empty (rwL t (g + 1) n) = (laid (rwL t (g + 1) n),0) := by
      have key : ∀ (M : List ByteArray) (a : ByteArray),Short M → a.size + wl M ≤ 60000 → layN a M = (a ++ laid M,0) := by
        intro M
        induction M with
        | nil => intro a _ _;rw [layN,laid,ByteArray.append_empty]
        | cons x M ih =>
          intro a hs hw
          rw [wl] at hw
          rw [layN,if_pos (hs x List.mem_cons_self),if_pos (by omega),ih _ (fun y hy => hs y (List.mem_cons_of_mem _ hy)) (by rw [ByteArray.size_append,Cr.frm_size];omega),laid,ByteArray.append_assoc]
      rw [key _ _ (short_rw hk) (by rw [show ByteArray.empty.size = 0 from rfl];omega),ByteArray.empty_append]
    have hE : eraP d z = doP d (z == 1,nul,true) := by unfold eraP;rw [readE_of hn hz,if_neg (by simp)]
    by_cases h3 : d.f = 0
    · have e2 : eraP d z = ({ d with n := true },15) := by rw [hE];unfold doP;rw [if_pos h3]
      have e : rewP d t z g n = ({ d with n := true },15) := by
        unfold rewP;rw [if_pos hk,if_neg h1,if_pos hfit',hlay];simp only [e2];rfl
      rw [e];exact .inr (.inl ⟨rfl,by omega,by omega,rfl,rfl,rfl,rfl,0,by simp only [List.take_zero];exact hl⟩)
    · obtain ⟨D,hD⟩ : ∃ D : Ds,{ d with f := max d.f 0 - 1,l := d.l ++ [(z == 1,nul,true)] } = D := ⟨_,rfl⟩
      have e2 : eraP d z = (D,0) := by rw [hE];unfold doP;rw [if_neg h3,hD]
      have hs : (laid (rwL t (g + 1) n)).size = wl (rwL t (g + 1) n) := Wa.laid_size _
      have hws := wl_rw n (g + 1) t
      have e : rewP d t z g n = wriP D z (laid (rwL t (g + 1) n)) := by
        unfold rewP;rw [if_pos hk,if_neg h1,if_pos hfit',hlay];simp only [e2];rfl
      obtain ⟨X,hX⟩ : ∃ X,laid (rwL t (g + 1) n) = X := ⟨_,rfl⟩
      rw [hX] at hs e ⊢
      have hDn : D.now = done (d.a,d.b) (z == 1,nul,true) := by rw [← hD];unfold Ds.now;simp only [hl];rfl
      have hDn' : D.n = false := by rw [← hD];exact hn
      have hr : readE D z = 0 := readE_of hDn' hz
      have hz0 : at2 D.now z = nul := by rw [hDn];exact (erase_here hz).1
      have hDc : D.c = d.c := by rw [← hD]
      have hDf : D.f = max d.f 0 - 1 := by rw [← hD]
      have e3 : appP D z X = doP D (z == 1,X,false) := by
        unfold appP;rw [hr,if_neg (by simp),if_neg (by omega),hz0,if_neg (by rw [hDc,nul_size];omega)]
      by_cases h4 : D.f = 0
      · have e4 : doP D (z == 1,X,false) = ({ D with n := true },15) := by unfold doP;rw [if_pos h4]
        have e5 : rewP d t z g n = ({ D with n := true },15) := by rw [e];unfold wriP;rw [e3,e4,if_neg (by simp)]
        rw [e5]
        refine .inr (.inl ⟨rfl,by omega,by omega,rfl,by rw [← hD],by rw [← hD],by rw [← hD],1,?_⟩)
        rw [← hD];simp only [hl];rfl
      · obtain ⟨E,hE2⟩ : ∃ E : Ds,{ D with f := max D.f 0 - 1,l := D.l ++ [(z == 1,X,false)] } = E := ⟨_,rfl⟩
        have e4 : doP D (z == 1,X,false) = (E,0) := by unfold doP;rw [if_neg h4,hE2]
        have hEl : E.l = [(z == 1,nul,true),(z == 1,X,false)] := by rw [← hE2,← hD];simp only [hl];rfl
        have hEf : E.f = max D.f 0 - 1 := by rw [← hE2]
        have hEn : E.n = false := by rw [← hE2];exact hDn'
        have hEa : E.a = d.a ∧ E.b = d.b ∧ E.c = d.c := by rw [← hE2,← hD];exact ⟨rfl,rfl,rfl⟩
        by_cases h5 : E.f = 0
        · have e5 : rewP d t z g n = ({ E with n := true },15) := by rw [e];unfold wriP;rw [e3,e4,if_pos rfl];unfold synP;rw [hEn,if_neg (by simp),if_pos h5]
          rw [e5]
          exact .inr (.inl ⟨rfl,by omega,by omega,rfl,hEa.1,hEa.2.1,hEa.2.2,2,hEl⟩)
        · have hnow : E.now = done (done (d.a,d.b) (z == 1,nul,true)) (z == 1,X,false) := by unfold Ds.now;rw [hEl,hEa.1,hEa.2.1];rfl
          have e5 : rewP d t z g n = (⟨E.now.1,E.now.2,[],E.c,max E.f 0 - 1,E.n⟩,0) := by rw [e];unfold wriP;rw [e3,e4,if_pos rfl];unfold synP;rw [hEn,if_neg (by simp),if_neg h5]
          rw [e5]
          have k1 := done_here (s := done (d.a,d.b) (z == 1,nul,true)) hz X
          have k2 := erase_here (s := (d.a,d.b)) hz
          refine .inr (.inr ⟨rfl,by omega,?_,?_,rfl,hEa.2.2,hEn,fun h => by simp only;omega,by simp only;omega,by omega⟩)
          · show at2 (E.now.1,E.now.2) z = X
            rw [show (E.now.1,E.now.2) = E.now from rfl,hnow,k1.1,k2.1,nul_app]
          · show at2 (E.now.1,E.now.2) (1 - z) = _
            rw [show (E.now.1,E.now.2) = E.now from rfl,hnow,k1.2,k2.2]
  · have hfit' : fitsN d.c (rwL t (g + 1) n) = false := by rw [hfit];exact decide_eq_false h2
    have e : rewP d t z g n = (d,10) := by unfold rewP;rw [if_pos hk,if_neg h1,hfit',if_neg (by simp)]
    rw [e];exact .inl ⟨rfl,rfl,.inr (by omega)⟩
theorem crash_app (s : ByteArray × ByteArray) (z : Bool) (x : ByteArray) (k : Nat) (keep torn : Int) : ∃ m,m ≤ x.size ∧ fin s (reach ([(z,x,false)].take k) keep torn) = done s (z,x.extract 0 m,false) := by
  have h0 : done s (z,x.extract 0 0,false) = s := by
    have : x.extract 0 0 = ByteArray.empty := by apply ByteArray.ext;apply Array.ext';rw [Lib.extract_data];rfl
    rw [this];cases z <;> simp [done]
  cases k with
  | zero => exact ⟨0,Nat.zero_le _,by rw [h0];unfold reach;simp;rfl⟩
  | succ k =>
    rw [show [((z,x,false) : Do)].take (k + 1) = [(z,x,false)] by simp]
    have hb := lim_bd keep 1 (by omega)
    by_cases hk : lim keep 1 = 0
    · have hc := lim_bd torn x.size (by omega)
      refine ⟨(lim torn x.size).toNat,by omega,?_⟩
      unfold reach
      rw [show ((([(z,x,false)] : List Do).length : Nat) : Int) = 1 from rfl,hk];rfl
    · have hk1 : lim keep 1 = 1 := by omega
      refine ⟨x.size,Nat.le_refl _,?_⟩
      unfold reach
      rw [show ((([(z,x,false)] : List Do).length : Nat) : Int) = 1 from rfl,hk1,Wa.ext_all];rfl
theorem crash_rw (s : ByteArray × ByteArray) (z : Bool) (x : ByteArray) (k : Nat) (keep torn : Int) : fin s (reach ([(z,nul,true),(z,x,false)].take k) keep torn) = s ∨ ∃ m,m ≤ x.size ∧ fin s (reach ([(z,nul,true),(z,x,false)].take k) keep torn) = done (done s (z,nul,true)) (z,x.extract 0 m,false) := by
  have h0 : ∀ s,done s (z,x.extract 0 0,false) = s := by
    intro s
    have : x.extract 0 0 = ByteArray.empty := by apply ByteArray.ext;apply Array.ext';rw [Lib.extract_data];rfl
    rw [this];cases z <;> simp [done]
  match k with
  | 0 => left;unfold reach;simp;rfl
  | 1 =>
    rw [show [((z,nul,true) : Do),(z,x,false)].take 1 = [(z,nul,true)] from rfl]
    have hb := lim_bd keep 1 (by omega)
    by_cases hk : lim keep 1 = 0
    · left;unfold reach;rw [show ((([(z,nul,true)] : List Do).length : Nat) : Int) = 1 from rfl,hk];rfl
    · have hk1 : lim keep 1 = 1 := by omega
      right;refine ⟨0,Nat.zero_le _,?_⟩
      rw [h0];unfold reach;rw [show ((([(z,nul,true)] : List Do).length : Nat) : Int) = 1 from rfl,hk1];rfl
  | k + 2 =>
    rw [show [((z,nul,true) : Do),(z,x,false)].take (k + 2) = [(z,nul,true),(z,x,false)] by simp]
    have hb := lim_bd keep 2 (by omega)
    by_cases hk : lim keep 2 = 0
    · left;unfold reach;rw [show ((([(z,nul,true),(z,x,false)] : List Do).length : Nat) : Int) = 2 from rfl,hk];rfl
    · right
      by_cases hk1 : lim keep 2 = 1
      · have hc := lim_bd torn x.size (by omega)
        refine ⟨(lim torn x.size).toNat,by omega,?_⟩
        unfold reach;rw [show ((([(z,nul,true),(z,x,false)] : List Do).length : Nat) : Int) = 2 from rfl,hk1];rfl
      · have hk2 : lim keep 2 = 2 := by omega
        refine ⟨x.size,Nat.le_refl _,?_⟩
        unfold reach;rw [show ((([(z,nul,true),(z,x,false)] : List Do).length : Nat) : Int) = 2 from rfl,hk2,Wa.ext_all];rfl
def back (r : Ds) (keep torn : Int) : Ds := staP (craP r keep torn)
theorem back_is (r : Ds) (keep torn : Int) : ((back r keep torn).a,(back r keep torn).b) = fin (r.a,r.b) (reach r.l keep torn) ∧ (back r keep torn).l = [] ∧ (back r keep torn).n = false ∧ (back r keep torn).f = -1 ∧ (back r keep torn).c = r.c := ⟨rfl,rfl,rfl,rfl,rfl⟩
theorem reach_nil (keep torn : Int) : reach [] keep torn = [] := by unfold reach;simp
theorem Top.back {n : Int} {d : Ds} {t : List Ins} {z g : Int} {w : Bool} (h : Top n d t z g w) (keep torn : Int) : Top n (back d keep torn) t z g w := by
  obtain ⟨h1,h2,h3,h4,h5⟩ := back_is d keep torn
  rw [h.l,reach_nil] at h1
  change _ = (d.a,d.b) at h1
  exact ⟨h2,h3,h.zok,h.gok,by rw [h1];exact h.here,fun hw => by rw [h1];exact h.good hw,by rw [h1];exact h.old⟩
theorem Top.set {n : Int} {d e : Ds} {t : List Ins} {z g : Int} {w : Bool} (h : Top n d t z g w) (ha : e.a = d.a) (hb : e.b = d.b) (hl : e.l = d.l) (hn : e.n = d.n) : Top n e t z g w :=
  ⟨hl.trans h.l,hn.trans h.up,h.zok,h.gok,by rw [ha,hb];exact h.here,fun hw => by rw [ha,hb];exact h.good hw,by rw [ha,hb];exact h.old⟩
theorem fell_rw {n : Int} {d r : Ds} {t0 t : List Ins} {z g : Int} {w : Bool} (h : Top n d t0 z g w) (hk : okT t n = true) (hc : CN t) (hs : Srt t) (hg : g < 1073741824)
    (hr : Fell d r [(1 - z == 1,nul,true),(1 - z == 1,laid (rwL t (g + 1) n),false)]) (keep torn : Int) :
    Top n (back r keep torn) t0 z g w ∨ Top n (back r keep torn) t (1 - z) (g + 1) true := by
  obtain ⟨_,k1,k2,k3,k4,k,k5⟩ := hr
  obtain ⟨h1,h2,h3,h4,h5⟩ := back_is r keep torn
  rw [k2,k3,k5] at h1
  have hz1 := zone1 h.zok
  have hgg : 0 < g + 1 ∧ g + 1 < 4294967296 := by have := h.gok;omega
  rcases crash_rw (d.a,d.b) (1 - z == 1) (laid (rwL t (g + 1) n)) k keep torn with e | ⟨m,hm,e⟩
  · rw [e] at h1
    have ha := (Prod.mk.inj h1).1
    have hb := (Prod.mk.inj h1).2
    exact .inl (h.set ha hb (h2.trans h.l.symm) (h3.trans h.up.symm))
  · rw [e] at h1
    have e1 := done_here (s := done (d.a,d.b) (1 - z == 1,nul,true)) hz1 ((laid (rwL t (g + 1) n)).extract 0 m)
    have e2 := erase_here (s := (d.a,d.b)) hz1
    rw [e2.1,nul_app,e2.2,← h1,show (1 : Int) - (1 - z) = z by omega] at e1
    rcases Nat.lt_or_ge m (laid (rwL t (g + 1) n)).size with hlt | hge
    · have hcut := rw_cut hgg hk hc hlt
      refine .inl ⟨h2,h3,h.zok,h.gok,by rw [e1.2];exact h.here,fun hw => by rw [e1.2];exact h.good hw,fun hx => ?_⟩
      rw [e1.1,hcut] at hx;exact absurd hx (by decide)
    · rw [show m = (laid (rwL t (g + 1) n)).size by omega,Wa.ext_all] at e1
      have hG := good_rw hgg hk hc hs
      refine .inr ⟨h2,h3,hz1,by omega,by rw [e1.1];exact hG.zs,fun _ => by rw [e1.1];exact hG,fun hx => ?_⟩
      rw [show (1 : Int) - (1 - z) = z by omega,e1.2,h.here];simp only;omega
theorem top_rw {n : Int} {d r : Ds} {t0 t : List Ins} {z g : Int} {w : Bool} (h : Top n d t0 z g w) (hk : okT t n = true) (hc : CN t) (hs : Srt t) (hg : g < 1073741824)
    (h1 : at2 (r.a,r.b) (1 - z) = laid (rwL t (g + 1) n)) (h2 : at2 (r.a,r.b) z = at2 (d.a,d.b) z) (hl : r.l = []) (hn : r.n = false) : Top n r t (1 - z) (g + 1) true := by
  have hgg : 0 < g + 1 ∧ g + 1 < 4294967296 := by have := h.gok;omega
  have hG := good_rw hgg hk hc hs
  refine ⟨hl,hn,zone1 h.zok,by omega,by rw [h1];exact hG.zs,fun _ => by rw [h1];exact hG,fun hx => ?_⟩
  rw [show (1 : Int) - (1 - z) = z by omega,h2,h.here];simp only;omega
theorem open_whole {n : Int} {d : Ds} {t : List Ins} {z g : Int} (h : Top n d t z g true) (hn : 1 ≤ n ∧ n ≤ 7) : opnP d n = ⟨d,t,z,g,0⟩ := by
  unfold opnP;rw [h.up,if_neg (by simp),if_pos hn,h.tab];simp only;rw [if_pos trivial]
theorem open_part {n : Int} {d : Ds} {t : List Ins} {z g : Int} (h : Top n d t z g false) (hn : 1 ≤ n ∧ n ≤ 7) : opnP d n = if (rewP d t (1 - z) g n).2 = 0 then ⟨(rewP d t (1 - z) g n).1,t,1 - z,g + 1,0⟩ else ⟨(rewP d t (1 - z) g n).1,[],0,0,(rewP d t (1 - z) g n).2⟩ := by
  unfold opnP;rw [h.up,if_neg (by simp),if_pos hn,h.tab];simp only;rw [if_neg (by simp),if_pos h.gok.1]
theorem open_out {n : Int} {d : Ds} {t : List Ins} {z g : Int} {w : Bool} (h : Top n d t z g w) (hn : 1 ≤ n ∧ n ≤ 7) (hf : -1 ≤ d.f) (hc : d.c ≤ 60000) :
    ((opnP d n).e = 10 ∧ w = false ∧ (opnP d n).d = d ∧ (1073741824 ≤ g ∨ d.c < wl (rwL t 1 n))) ∨
    ((opnP d n).e = 15 ∧ d.f ≠ -1 ∧ (opnP d n).d.c = d.c ∧ ∀ keep torn,∃ z' g' w',g' ≤ g + 1 ∧ Top n (back (opnP d n).d keep torn) t z' g' w') ∨
    ((opnP d n).e = 0 ∧ (opnP d n).t = t ∧ (opnP d n).d.c = d.c ∧ (d.f = -1 → (opnP d n).d.f = -1) ∧ -1 ≤ (opnP d n).d.f ∧ (opnP d n).g ≤ g + 1 ∧ Top n (opnP d n).d t (opnP d n).z (opnP d n).g true) := by
  cases w with
  | true => rw [open_whole h hn];exact .inr (.inr ⟨rfl,rfl,rfl,fun h => h,hf,by simp only;omega,h⟩)
  | false =>
    rw [open_part h hn]
    obtain ⟨hs,hk,hcn⟩ := h.tbl
    have hg := h.gok
    rcases rew_out (g := g) hk (by omega) h.l h.up (zone1 h.zok) hf hc with ⟨e,e1,e2⟩ | ⟨e,hlt,e1⟩ | ⟨e,hlt,e1,e2,e3,e4,e5,e6,e7,e8⟩
    · rw [e,if_neg (by simp),e1];exact .inl ⟨rfl,rfl,rfl,e2⟩
    · rw [e,if_neg (by simp)]
      refine .inr (.inl ⟨rfl,e1.1,e1.2.2.2.2.1,fun keep torn => ?_⟩)
      rcases fell_rw h hk hcn hs hlt e1 keep torn with h | h
      · exact ⟨z,g,false,by omega,h⟩
      · exact ⟨1 - z,g + 1,true,Int.le_refl _,h⟩
    · rw [e,if_pos rfl]
      rw [show (1 : Int) - (1 - z) = z by omega] at e2
      exact .inr (.inr ⟨rfl,rfl,e4,e6,e7,by simp only;omega,top_rw h hk hcn hs hlt e1 e2 e3 e5⟩)
theorem lay_few {l : List ByteArray} (hs : Short l) (hw : wl l ≤ 60000) : layN ByteArray.empty l = (laid l,0) := by
  have key : ∀ (M : List ByteArray) (a : ByteArray),Short M → a.size + wl M ≤ 60000 → layN a M = (a ++ laid M,0) := by
    intro M
    induction M with
    | nil => intro a _ _;rw [layN,laid,ByteArray.append_empty]
    | cons x M ih =>
      intro a hs hw
      rw [wl] at hw
      rw [layN,if_pos (hs x List.mem_cons_self),if_pos (by omega),ih _ (fun y hy => hs y (List.mem_cons_of_mem _ hy)) (by rw [ByteArray.size_append,Cr.frm_size];omega),laid,ByteArray.append_assoc]
  rw [key _ _ hs (by rw [show ByteArray.empty.size = 0 from rfl];omega),ByteArray.empty_append]
theorem add_out {n : Int} {d : Ds} {t l : List Ins} {z g : Int} (h : Top n d t z g true) (hf : -1 ≤ d.f) (hc : d.c ≤ 60000) (hl0 : l ≠ []) (hl : l.length ≤ 100) (hk : okT l n = true) (hcn : CN l) :
    ((addP d t z g n l).e = 10 ∧ addP d t z g n l = ⟨d,t,z,g,10⟩ ∧ (1073741824 ≤ g ∨ d.c < wl (rwL (puts t l) 1 n)) ∧ d.c < (at2 (d.a,d.b) z).size + wl (l.map (ent n))) ∨
    ((addP d t z g n l).e = 15 ∧ d.f ≠ -1 ∧ (addP d t z g n l).t = t ∧ (addP d t z g n l).z = z ∧ (addP d t z g n l).g = g ∧ (addP d t z g n l).d.n = true ∧ (addP d t z g n l).d.c = d.c ∧ ∀ keep torn,∃ i z' g' w',i ≤ l.length ∧ g' ≤ g + 1 ∧ Top n (back (addP d t z g n l).d keep torn) (puts t (l.take i)) z' g' w') ∨
    ((addP d t z g n l).e = 0 ∧ (addP d t z g n l).t = puts t l ∧ (addP d t z g n l).d.c = d.c ∧ (d.f = -1 → (addP d t z g n l).d.f = -1) ∧ -1 ≤ (addP d t z g n l).d.f ∧ (addP d t z g n l).g ≤ g + 1 ∧ Top n (addP d t z g n l).d (puts t l) (addP d t z g n l).z (addP d t z g n l).g true ∧
      ((at2 (d.a,d.b) z).size + wl (l.map (ent n)) ≤ d.c → (addP d t z g n l).z = z ∧ (addP d t z g n l).g = g ∧ at2 ((addP d t z g n l).d.a,(addP d t z g n l).d.b) z = at2 (d.a,d.b) z ++ laid (l.map (ent n)))) := by
  obtain ⟨hs,hkt,hct⟩ := h.tbl
  have hg := h.gok
  have hn : 1 ≤ n ∧ n ≤ 7 := by
    obtain ⟨i,r,rfl⟩ := List.exists_cons_of_ne_nil hl0
    exact (Rc.okI_iff.1 (okT_iff.1 hk i List.mem_cons_self)).1
  have hwl := wl_ents n l
  have hpos : 0 < l.length := List.length_pos_iff.2 hl0
  have hw1 : wl (l.map (ent n)) ≤ 60000 := by
    have : l.length * (56 + 2 * n.toNat) ≤ 100 * 70 := Nat.mul_le_mul hl (by omega)
    omega
  have hw0 : 0 < wl (l.map (ent n)) := by
    have : 0 < l.length * (56 + 2 * n.toNat) := Nat.mul_pos hpos (by omega)
    omega
  have hlay := lay_few (short_ents hk) hw1
  obtain ⟨X,hX⟩ : ∃ X,laid (l.map (ent n)) = X := ⟨_,rfl⟩
  have hXs : X.size = wl (l.map (ent n)) := by rw [← hX,Wa.laid_size]
  have e0 : addP d t z g n l = if (wriP d z X).2 = 0 then ⟨(wriP d z X).1,puts t l,z,g,0⟩
       else if (wriP d z X).2 = 10 then
        (if (rewP d (puts t l) (1 - z) g n).2 = 0 then ⟨(rewP d (puts t l) (1 - z) g n).1,puts t l,1 - z,g + 1,0⟩ else ⟨(rewP d (puts t l) (1 - z) g n).1,t,z,g,(rewP d (puts t l) (1 - z) g n).2⟩)
       else ⟨(wriP d z X).1,t,z,g,(wriP d z X).2⟩ := by
    unfold addP
    rw [h.up,if_neg (by simp),if_pos ⟨hl0,h.zok,by omega,hk⟩,hlay,hX];simp only;rw [if_pos trivial]
  have hokp := okT_puts hkt hk
  have hcp := hct.puts hcn
  have hsp := puts_srt l hs
  rcases wri_out h.l h.up h.zok (x := X) (by omega) hf with ⟨e,e1,e2⟩ | ⟨e,e1⟩ | ⟨e,e1,e2,e3,e4,e5,e6,e7⟩
  · rw [e,if_neg (by simp),if_pos rfl] at e0
    rcases rew_out (t := puts t l) (g := g) hokp (by omega) h.l h.up (zone1 h.zok) hf hc with ⟨k,k1,k2⟩ | ⟨k,hlt,k1⟩ | ⟨k,hlt,k1,k2,k3,k4,k5,k6,k7,k8⟩
    · rw [k,if_neg (by simp),k1] at e0
      rw [e0];exact .inl ⟨rfl,rfl,k2,by omega⟩
    · rw [k,if_neg (by simp)] at e0
      rw [e0]
      refine .inr (.inl ⟨rfl,k1.1,rfl,rfl,rfl,k1.2.1,k1.2.2.2.2.1,fun keep torn => ?_⟩)
      rcases fell_rw h hokp hcp hsp hlt k1 keep torn with h | h
      · exact ⟨0,z,g,true,Nat.zero_le _,by omega,by rw [List.take_zero];exact h⟩
      · exact ⟨l.length,_,_,_,Nat.le_refl _,Int.le_refl _,by rw [List.take_length];exact h⟩
    · rw [k,if_pos rfl] at e0
      rw [e0]
      rw [show (1 : Int) - (1 - z) = z by omega] at k2
      refine .inr (.inr ⟨rfl,rfl,k4,k6,k7,Int.le_refl _,top_rw h hokp hcp hsp hlt k1 k2 k3 k5,fun hx => ?_⟩)
      omega
  · rw [e,if_neg (by simp),if_neg (by simp)] at e0
    rw [e0]
    refine .inr (.inl ⟨rfl,e1.1,rfl,rfl,rfl,e1.2.1,e1.2.2.2.2.1,fun keep torn => ?_⟩)
    obtain ⟨_,k1,k2,k3,k4,k,k5⟩ := e1
    simp only
    obtain ⟨h1,h2,h3,h4,h5⟩ := back_is (wriP d z X).1 keep torn
    rw [k2,k3,k5] at h1
    obtain ⟨m,hm,e⟩ := crash_app (d.a,d.b) (z == 1) X k keep torn
    rw [e] at h1
    have e1 := done_here (s := (d.a,d.b)) h.zok (X.extract 0 m)
    rw [← h1] at e1
    obtain ⟨i,w,hi,hzs,hgd⟩ := good_cut (h.good rfl) hk hcn (k := m) (by rw [hX];exact hm)
    rw [hX] at hzs hgd
    exact ⟨i,z,g,w,hi,by omega,h2,h3,h.zok,h.gok,by rw [e1.1];exact hzs,fun hw => by rw [e1.1];exact hgd hw,by rw [e1.2];exact h.old⟩
  · rw [e,if_pos rfl] at e0
    rw [e0]
    have k1 := done_here (s := (d.a,d.b)) h.zok X
    rw [← e1,← hX] at k1
    have hG := good_add (h.good rfl) hk hcn
    refine .inr (.inr ⟨rfl,rfl,e3,e5,e6,by simp only;omega,⟨e2,e4,h.zok,h.gok,?_,fun _ => ?_,?_⟩,fun _ => ⟨rfl,rfl,?_⟩⟩)
    · simp only;rw [hX] at k1;rw [hX] at hG;rw [k1.1];exact hG.zs
    · simp only;rw [hX] at k1;rw [hX] at hG;rw [k1.1];exact hG
    · simp only;rw [hX] at k1;rw [k1.2];exact h.old
    · simp only;rw [hX] at k1;rw [k1.1,hX]
end Go.Proofs.YtnnbjhpkgndclaaGreatDoor.St
