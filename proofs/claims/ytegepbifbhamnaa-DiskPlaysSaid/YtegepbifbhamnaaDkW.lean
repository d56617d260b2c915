/- Of the statements of layer 14: pairs of zones in a list of the call's own (DiskBegins). -/
import Derived.Test.YtegepbifbhamnaaDkV
import Derived.Test.YtegepbifbhamnaaDkU
namespace Go.Proofs.Ytegepbifbhamnaa.Dk
open Go.RowKit
set_option linter.unusedVariables false
open Go.Proofs.Ytegepbifbhamnaa.Rw
open Go.Proofs.Ytegepbifbhamnaa.Da
def cellsZ (s : Pz) : List Value := [.string s.1, .string s.2]
def eZ : Enc Pz := Enc.flat 2 cellsZ (fun _ => rfl) (fun o u hu => by simp [cellsZ] at hu; rcases hu with rfl | rfl <;> rfl)
theorem typesZ : 25 ∉ eZ.ts := by decide
theorem infoZ : (Try.prog.info? 25).map (fun i => (i.zero, i.size, i.bytes)) = some (some (.agg #[.string ⟨#[]⟩, .string ⟨#[]⟩]), 2, 32) := by kernel_rfl
theorem elemZ : Elem Try.prog 45 25 eZ.k 32 := elem_of Try.underlying45 infoZ rfl (by decide)
/-- Data lie from n on, but not in the variable pz. -/
def Bz (n pz : Nat) : Bs := ⟨n, fun b => b = pz⟩
theorem Bz.le {n pz Bo : Nat} (h : n ≤ Bo) (hp : pz < Bo) : (Bz n pz).le Bo := ⟨h, fun b hb => by have hb : b = pz := hb; omega⟩
abbrev OwnZ (n pz Bo : Nat) (l : List Pz) (v : Value) (w : World) : Prop := Own eZ 25 (Bz n pz) Bo l v w
abbrev IsZ (n pz : Nat) (l : List Pz) (v : Value) (w : World) : Prop := Is eZ 25 (Bz n pz) l v w
section
variable {n pz Bo : Nat} {l : List Pz} {v : Value} {w w' : World} {b : Nat} {cs c : Array Value} {t : TypeId}
theorem OwnZ.put (h : OwnZ n pz Bo l v w) (hB : (Bz n pz).le Bo) (hx : Bx w b cs t) (ht : t ≠ 25) (hb : n ≤ b) (c : Array Value) : OwnZ n pz Bo l v (w.setRow b c) :=
  Own.keep hB h (keeps_setRow c hx (by simp only [List.mem_cons, eZ, Enc.flat, List.not_mem_nil, or_false]; exact ht) hb)
theorem OwnZ.set (h : OwnZ n pz Bo l v w) (hB : (Bz n pz).le Bo) (hx : Bx w b cs t) (ht : t ≠ 25) (hb : n ≤ b) (k : Nat) (u : Value) : OwnZ n pz Bo l v (w.setCell ⟨b, k, none⟩ u) :=
  Own.keep hB h (keeps_setCell k u hx (by simp only [List.mem_cons, eZ, Enc.flat, List.not_mem_nil, or_false]; exact ht) hb)
theorem OwnZ.setZ (h : OwnZ n pz Bo l v w) (hB : (Bz n pz).le Bo) (hp : n ≤ pz) (k : Nat) (u : Value) : OwnZ n pz Bo l v (w.setCell ⟨pz, k, none⟩ u) :=
  Own.keep hB h ⟨by simp [World.setCell], fun i ob hi ho => by
    have hne : i ≠ pz := by
      rintro rfl
      rcases ho with ho | ⟨_, _, _, _, _, hx⟩
      · have : i < n := ho
        omega
      · exact hx rfl
    rw [Below.heap_setCell w ⟨pz, k, none⟩ u i hne]; exact hi⟩
/-- The own row's block. -/
theorem OwnZ.lt (h : OwnZ n pz Bo l v w) (g : Nat) (hg : v.ownBlock = some g) : Bo ≤ g ∧ ∃ cur fr, w.heap[g]? = some (.cells cur 25 fr) := by
  obtain ⟨css, _, _, hr⟩ := h
  rcases hr.2 with ⟨rfl, _⟩ | ⟨g', cap, cur, rfl, h1, h2, _⟩
  · simp [Value.ownBlock] at hg
  · obtain rfl : g' = g := by simpa [Value.ownBlock] using hg
    exact ⟨h1, cur, _, h2⟩
theorem bx_ownZ (hx : Bx w b cs t) (h : OwnZ n pz Bo l v w) (hg : w.grownBy w' v.ownBlock) (hb : t ≠ 25 ∨ b < Bo) : Bx w' b cs t := by
  refine (hg.block b hx.lt fun e => ?_).trans hx
  obtain ⟨h1, cur, fr, h2⟩ := h.lt b e.symm
  rcases hb with hb | hb
  · have h3 : w.heap[b]? = some (.cells cs t (0, 0)) := hx
    rw [h3] at h2
    simp at h2
    exact hb h2.2.1
  · omega
theorem ol_ownZ {m : List Do} {o : Value} (ho : OL n m o w) (hn : n ≤ Bo) (h : OwnZ n pz Bo l v w) (hg : w.grownBy w' v.ownBlock) : OL n m o w' := by
  refine ho.keep ⟨hg.size, fun b ob hb hx => (hg.block b (Array.getElem?_eq_some_iff.1 hb).1 fun e => ?_).trans hb⟩
  obtain ⟨h1, cur, fz, h2⟩ := h.lt b e.symm
  rw [hb] at h2
  rcases hx with hx | ⟨_, t, _, rfl, ht, _⟩
  · have hx : b < n := hx
    omega
  · simp at h2 ht
    rw [ht] at h2
    exact absurd h2.2.1 (by decide)
/-- One that was just made. -/
theorem ownZ_one (s : Pz) (hB : Bo ≤ b) (hx : Bx w b #[.string s.1, .string s.2] 25) : OwnZ n pz Bo [s] (.slice (some ⟨b, 0, none⟩) 1 1) w :=
  ⟨[cellsZ s], rfl, fun i x cs hi hc => by
    cases i with
    | zero => simp at hi hc; subst hi; subst hc; rfl
    | succ i => simp at hi, rfl, .inr ⟨b, 1, _, rfl, hB, hx, Nat.le_refl 1, by unfold maxLen; omega, rfl, rfl⟩⟩
theorem isZ_one (s : Pz) (hB : (Bz n pz).le w.heap.size) : IsZ n pz [s] (.slice (some ⟨w.heap.size, 0, none⟩) 1 1) (w.alloc (.cells #[.string s.1, .string s.2] 25)) :=
  Is.one (e := eZ) (T := 25) (cs := cellsZ s) hB rfl
end
theorem atZ {n pz : Nat} {l : List Pz} {b off : Nat} {w : World} (h : Lies eZ 25 (Bz n pz) l b off w) (i : Nat) (hi : i < l.length) :
    w.cell? ⟨b, off + i * 2, none⟩ = some (.string l[i].1) ∧ w.cell? ⟨b, off + i * 2 + 1, none⟩ = some (.string l[i].2) := by
  obtain ⟨cs, rfl, hu⟩ := h.at i hi
  exact ⟨hu 0 _ rfl, hu 1 _ rfl⟩
/-- What holds at the loop's head. -/
structure Bg (n p7 p8 p10 Bo : Nat) (d : Ds) (sv : Value) (wr : World) : Prop where
  dk : Dst n p7 d wr
  z : Bx wr p8 #[.string d.now.1, .string d.now.2] 25
  la : ∃ o : Op5, Bx wr p10 #[.int .i64 o.1, .int .i64 o.2.1, .int .i64 o.2.2.1, .int .i64 o.2.2.2.1, .string o.2.2.2.2] 31
  st : OwnZ n p8 Bo (hist d) sv wr
theorem Bg.stays {n p7 p8 p10 Bo : Nat} {d : Ds} {sv : Value} {w w' : World} (h : Bg n p7 p8 p10 Bo d sv w) (k : Below w.heap.size w w') : Bg n p7 p8 p10 Bo d sv w' := by
  obtain ⟨⟨o, h1, h2, h3⟩, h4, ⟨o', h5⟩, h6⟩ := h
  exact ⟨⟨o, h1.stays k, h2.stays k, h3⟩, h4.stays k, ⟨o', h5.stays k⟩, h6.stays k⟩
theorem step0 {d : Ds} {z p q : Int} {x : ByteArray} (hf : d.f = -1) (h : (stepP d (0, z, p, q, x)).2 = 0) : (z = 0 ∨ z = 1) ∧ stepP d (0, z, p, q, x) = (⟨d.a, d.b, d.l ++ [(z == 1, x, false)], d.c, -1, d.n⟩, 0) := by
  have hs : stepP d (0, z, p, q, x) = appP d z x := rfl
  rw [hs] at h ⊢
  obtain ⟨_, hz, _, _, he, hd⟩ := app_ok h
  obtain ⟨_, _, _, k4⟩ := doP_ok hd
  refine ⟨hz, ?_⟩
  rw [he, k4, hf]; rfl
theorem step1 {d : Ds} {z p q : Int} {x : ByteArray} (hf : d.f = -1) (h : (stepP d (1, z, p, q, x)).2 = 0) : (z = 0 ∨ z = 1) ∧ stepP d (1, z, p, q, x) = (⟨d.a, d.b, d.l ++ [(z == 1, nul, true)], d.c, -1, d.n⟩, 0) := by
  have hs : stepP d (1, z, p, q, x) = eraP d z := rfl
  rw [hs] at h ⊢
  obtain ⟨_, hz, he, hd⟩ := era_ok h
  obtain ⟨_, _, _, k4⟩ := doP_ok hd
  refine ⟨hz, ?_⟩
  rw [he, k4, hf]; rfl
theorem step2 {d : Ds} {z p q : Int} {x : ByteArray} (hf : d.f = -1) (hn : d.n = false) (h : (stepP d (2, z, p, q, x)).2 = 0) : stepP d (2, z, p, q, x) = (⟨d.now.1, d.now.2, [], d.c, -1, false⟩, 0) := by
  have hs : stepP d (2, z, p, q, x) = synP d := rfl
  rw [hs]
  unfold synP
  rw [hn, if_neg (by simp), if_neg (by rw [hf]; decide), hf]; rfl
end Go.Proofs.Ytegepbifbhamnaa.Dk
