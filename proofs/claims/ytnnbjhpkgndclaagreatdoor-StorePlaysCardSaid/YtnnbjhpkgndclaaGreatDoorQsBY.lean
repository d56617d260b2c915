/- Of the statements of layer 17: what happens, as a list that came in; numbers that came in. -/
import Derived.Test.YtnnbjhpkgndclaaGreatDoorQsZZ
import Derived.Test.YtnnbjhpkgndclaaGreatDoorQsBS
import Derived.Test.YtnnbjhpkgndclaaGreatDoorQsBO
import Derived.Test.YtnnbjhpkgndclaaGreatDoorQsBN
set_option linter.unusedVariables false
namespace Go.Proofs.YtnnbjhpkgndclaaGreatDoor.St
open Go.RowKit
open Go.ChangeShapes Go.WideShapes Go.Deep
open Go.Proofs.YtnnbjhpkgndclaaGreatDoor.Rw
open Go.Proofs.YtnnbjhpkgndclaaGreatDoor.Da
open Go.Proofs.YtnnbjhpkgndclaaGreatDoor.Ro
open Go.Proofs.YtnnbjhpkgndclaaGreatDoor.Bv
open Go.Proofs.YtnnbjhpkgndclaaGreatDoor.Dk (is_of one_of fld add_eq wfI cellsI Ds DV Ok at2 lim nul ret_D1)
open Go.Proofs.YtnnbjhpkgndclaaGreatDoor.Rc (Ins ci zeroI okI)
abbrev O3 := Int × Int × Int
def cO (o : O3) : List Value := [.int .i64 o.1,.int .i64 o.2.1,.int .i64 o.2.2]
def fO : Flat O3 := ⟨3,cO,fun _ => rfl,fun o u hu => by simp [cO] at hu;rcases hu with rfl | rfl | rfl <;> rfl⟩
def eO3 : Enc O3 := fO.enc
abbrev PL (B : Bs) (l : List O3) (v : Value) (w : World) : Prop := Is eO3 31 B l v w
theorem atP {B : Bs} {l : List O3} {b off : Nat} {w : World} (h : Lies eO3 31 B l b off w) (i : Nat) (hi : i < l.length) :
    w.cell? ⟨b,off + i * 3,none⟩ = some (.int .i64 l[i].1) ∧ w.cell? ⟨b,off + i * 3 + 1,none⟩ = some (.int .i64 l[i].2.1) ∧ w.cell? ⟨b,off + i * 3 + 2,none⟩ = some (.int .i64 l[i].2.2) := by
  obtain ⟨cs,rfl,hu⟩ := h.at i hi
  exact ⟨hu 0 _ rfl,hu 1 _ rfl,hu 2 _ rfl⟩
theorem cellsO3 : Tryz.prog.cellsOf 31 = 3 := by kernel_rfl
def wfO (o : O3) : Prop := wfI o.1 ∧ wfI o.2.1 ∧ wfI o.2.2
def wfOs (l : List O3) : Prop := l.length ≤ maxLen ∧ ∀ o ∈ l,wfO o
instance : Inhabited O3 := ⟨(0,0,0)⟩
theorem open_os {H : Type} {en : TypeId × Value → H} {w : World} {base fuel : Nat} {sp : Nat → Bool} {held : Bool} {a : Option Addr} {n c : Nat} {x : DataW H × List MemPlace}
    (h : DataW.trod en Tryz.prog w base sp held fuel 22 (Value.slice a n c).cells.toList = some x) : ∃ l,PL (Bs.of w.heap.size) l (.slice a n c) w ∧ wfOs l := by
  rcases open_slice Tryz.underlying22 h with ⟨hcs,_⟩ | ⟨ad,len,cap,m,n',D,Pl,hcs,_,hl,hcap,hm,_,hi⟩
  · simp [Value.cells] at hcs
    obtain ⟨rfl,rfl,rfl⟩ := hcs
    exact ⟨[],Is.nil _ _ _ _,Nat.zero_le _,by simp⟩
  · simp [Value.cells] at hcs
    obtain ⟨rfl,rfl,rfl⟩ := hcs
    suffices h : ∃ l,PL (Bs.of w.heap.size) l (.slice (some ad) n c) w ∧ l.length = n ∧ ∀ v ∈ l,wfO v by
      obtain ⟨l,h1,h2,h3⟩ := h
      exact ⟨l,h1,by omega,h3⟩
    refine is_of eO3 31 (by decide) w ad n c wfO fun i hlt => ?_
    obtain ⟨cs,hc,ht⟩ := hi i (by rw [hm];split <;> omega)
    rw [cellsO3] at hc
    obtain ⟨_,hcl,hat⟩ := World.cells?_some hc
    obtain ⟨ys,n1,_,_,_,hyl,hf⟩ := DataW.trod_struct Tryz.underlying31 ht
    have g1 := fld (o := 0) (t := 3) rfl rfl cellsI ((hf 0 _ rfl).trans (List.getElem?_eq_getElem (by rw [hyl];decide)))
    have g2 := fld (o := 1) (t := 3) rfl rfl cellsI ((hf 1 _ rfl).trans (List.getElem?_eq_getElem (by rw [hyl];decide)))
    have g3 := fld (o := 2) (t := 3) rfl rfl cellsI ((hf 2 _ rfl).trans (List.getElem?_eq_getElem (by rw [hyl];decide)))
    obtain ⟨x1,e1,w1⟩ := one_of Tryz.underlying3 0 g1
    obtain ⟨x2,e2,w2⟩ := one_of Tryz.underlying3 1 g2
    obtain ⟨x3,e3,w3⟩ := one_of Tryz.underlying3 2 g3
    refine ⟨(x1,x2,x3),_,⟨w1,w2,w3⟩,rfl,fun j u hu => ?_⟩
    show w.cell? ((ad.add (i * 3)).add j) = some u
    match j,hu with
    | 0,hu => obtain rfl := Option.some.inj hu;rw [hat 0 (by omega),e1]
    | 1,hu => obtain rfl := Option.some.inj hu;rw [hat 1 (by omega),e2]
    | 2,hu => obtain rfl := Option.some.inj hu;rw [hat 2 (by omega),e3]
    | j + 3,hu => cases hu
def fN : Flat Int := ⟨1,fun k => [.int .i64 k],fun _ => rfl,fun o u hu => by simp at hu;rw [hu];rfl⟩
def eN : Enc Int := fN.enc
abbrev NL (B : Bs) (l : List Int) (v : Value) (w : World) : Prop := Is eN 3 B l v w
theorem atN {B : Bs} {l : List Int} {b off : Nat} {w : World} (h : Lies eN 3 B l b off w) (i : Nat) (hi : i < l.length) : w.cell? ⟨b,off + i,none⟩ = some (.int .i64 l[i]) := by
  obtain ⟨cs,rfl,hu⟩ := h.at i hi
  have := hu 0 _ rfl
  simpa [eN,fN,Flat.enc,Enc.flat] using this
def wfNs (l : List Int) : Prop := l.length ≤ maxLen ∧ ∀ o ∈ l,wfI o
theorem open_ns {H : Type} {en : TypeId × Value → H} {w : World} {base fuel : Nat} {sp : Nat → Bool} {held : Bool} {a : Option Addr} {n c : Nat} {x : DataW H × List MemPlace}
    (h : DataW.trod en Tryz.prog w base sp held fuel 66 (Value.slice a n c).cells.toList = some x) : ∃ l,NL (Bs.of w.heap.size) l (.slice a n c) w ∧ wfNs l := by
  rcases open_slice Tryz.underlying66 h with ⟨hcs,_⟩ | ⟨ad,len,cap,m,n',D,Pl,hcs,_,hl,hcap,hm,_,hi⟩
  · simp [Value.cells] at hcs
    obtain ⟨rfl,rfl,rfl⟩ := hcs
    exact ⟨[],Is.nil _ _ _ _,Nat.zero_le _,by simp⟩
  · simp [Value.cells] at hcs
    obtain ⟨rfl,rfl,rfl⟩ := hcs
    suffices h : ∃ l,NL (Bs.of w.heap.size) l (.slice (some ad) n c) w ∧ l.length = n ∧ ∀ v ∈ l,wfI v by
      obtain ⟨l,h1,h2,h3⟩ := h
      exact ⟨l,h1,by omega,h3⟩
    refine is_of eN 3 (by decide) w ad n c wfI fun i hlt => ?_
    obtain ⟨cs,hc,ht⟩ := hi i (by rw [hm];split <;> omega)
    rw [cellsI] at hc
    obtain ⟨_,hcl,hat⟩ := World.cells?_some hc
    obtain ⟨x1,e1,_,w1⟩ := DataW.trod_int Tryz.underlying3 ht
    refine ⟨x1,_,w1,rfl,fun j u hu => ?_⟩
    show w.cell? ((ad.add (i * 1)).add j) = some u
    match j,hu with
    | 0,hu => obtain rfl := Option.some.inj hu;rw [hat 0 (by omega),e1];rfl
    | j + 1,hu => cases hu
theorem mod64 (a : Int) (n : Nat) (h : 0 < n) : ∃ c : Nat,c < n ∧ (IntKind.u64.wrap a).tmod (n : Int) = c := by
  have h0 : 0 ≤ IntKind.u64.wrap a := by rw [IntKind.wrap_u64];omega
  rw [Int.tmod_eq_emod_of_nonneg h0]
  have h1 := Int.emod_nonneg (IntKind.u64.wrap a) (show (n : Int) ≠ 0 by omega)
  have h2 := Int.emod_lt_of_pos (IntKind.u64.wrap a) (show (0 : Int) < n by omega)
  exact ⟨(IntKind.u64.wrap a % (n : Int)).toNat,by omega,by omega⟩
theorem small64 (a : Int) (n : Nat) (h : 0 < n) (h2 : n ≤ 1000000) : ∃ c : Int,(0 ≤ c ∧ c < n) ∧ (IntKind.u64.wrap a).tmod (n : Int) = c ∧ IntKind.i64.wrap c = c := by
  obtain ⟨c,h3,h4⟩ := mod64 a n h
  exact ⟨c,by omega,h4,IntWalk.i64_in _ (by omega)⟩
section
variable (ρ : Operand → Value) (dst : Option Tmp) (ty : TypeId) (pos : String) (after : Array Edge) (guard : Option (Nat × Bool)) (w : World)
theorem storeO3 (p x : Operand) (h : plainAt 3 w (ρ p) = true) (hs : (ρ x).cells.size = 3) (h1 : oneAll (ρ x) = true) (ha : ρ x = .agg (ρ x).cells) : (execOp ρ { dst,op := .store 31 p x,type := ty,pos,after,guard }).run Tryz.prog w = .ok .skip (putRow w (ρ p) (ρ x).cells) :=
  exec_store (n := 2) ρ dst ty pos after guard w (by kernel_rfl) p x h hs h1 ha
end
attribute [go_sem ↓] storeO3
theorem oneO3 (x y z : Int) : oneAll (.agg #[.int .i64 x,.int .i64 y,.int .i64 z]) = true := by simp [oneAll,Value.cells,Value.oneCell']
attribute [go_sem] oneO3
theorem room_cells (a b : ByteArray) (p1 : Option Addr) (n1 c1 : Nat) (c f : Int) (dn : Bool) (k : Int) (w : World) :
    Calls Tryz.prog 20 #[.agg (Dk.cD a b (.slice p1 n1 c1) c f dn),.int .i64 k] w fun e w' => e = .returned (.agg (Dk.cD a b (.slice p1 n1 c1) (lim k 60000) f dn)) ∧ Below w.heap.size w w' := by
  obtain ⟨m,hm⟩ : ∃ m,lim k 60000 = m := ⟨_,rfl⟩
  have HM := lH hm
  rw [hm]
  clear hm
  go_enter Tryz.func20,Tryz.ntmps20
  go_wp2_with fail
  refine (Dk.limit_any k 60000 _).mono ?_
  rintro e w1 ⟨rfl,rfl⟩
  rw [HM.out]
  go_wp2
  refine bodyPost_ret (v := .agg (Dk.cD a b (.slice p1 n1 c1) m f dn)) (ret_D1 Tryz.results20 _ _ rfl ?c1) rfl ?_
  case c1 => simp [go_sem]
  exact ⟨rfl,below2 _ _ _⟩
theorem room_free {q : Nat} {d : Ds} {cs : Array Value} {w0 : World} (h : DV q d (.agg cs) w0) (k : Int) :
    ∃ c2 : Array Value,c2.size = 6 ∧ oneAll (.agg c2) = true ∧ (∀ w,DV q d (.agg cs) w → DV q (Dk.rooP d k) (.agg c2) w) ∧ ∀ w,Calls Tryz.prog 20 #[.agg cs,.int .i64 k] w fun e w' => e = .returned (.agg c2) ∧ Below w.heap.size w w' := by
  obtain ⟨o,e,h1,h2⟩ := h
  obtain ⟨p1,c1,rfl⟩ := h1.len
  obtain rfl : cs = Dk.cD d.a d.b (.slice p1 d.l.length c1) d.c d.f d.n := by simpa using e
  refine ⟨Dk.cD d.a d.b (.slice p1 d.l.length c1) (lim k 60000) d.f d.n,rfl,Dk.one6 _ _ _ _ _ _ _ _,fun w hw => ?_,fun w => room_cells _ _ _ _ _ _ _ _ _ _⟩
  obtain ⟨o9,e9,h3,h4⟩ := hw
  have e10 : o9 = .slice p1 d.l.length c1 := by
    have := congrArg (fun x : Value => x.cells[2]?) e9
    simpa [Dk.cD,Value.cells] using this.symm
  subst e10
  exact ⟨_,rfl,h3,h4⟩
abbrev zO : Array Value := #[.int .i64 0,.int .i64 0,.int .i64 0]
end Go.Proofs.YtnnbjhpkgndclaaGreatDoor.St
