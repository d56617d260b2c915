/- The document's own of layer 16: flag, Write. -/
import Derived.Test.YtnnbjhpkgndclaaGreatDoorQsZZ
import Derived.Test.YtnnbjhpkgndclaaGreatDoorQsAS
import Derived.Test.YtnnbjhpkgndclaaGreatDoorQsAY
import Derived.Great.BuildSlice
set_option linter.unusedVariables false
namespace Go.Proofs.YtnnbjhpkgndclaaGreatDoor.Rc
open Go.RowKit
open Go.Proofs.YtnnbjhpkgndclaaGreatDoor.Rw
open Go.Proofs.YtnnbjhpkgndclaaGreatDoor.Bv
open Go.Proofs.YtnnbjhpkgndclaaGreatDoor.Fx (enc enc_size putV dec getV oB wB)
theorem enc1 (x : Int) : strOfNums [x % 256] = enc x 1 := by
  unfold enc Fx.encL Fx.byt;simp
theorem enc1F (b : Bool) : strOfNums [flagN b] = enc (flagN b) 1 := by
  rw [← enc1];cases b <;> rfl
theorem enc2 (x : Int) : strOfNums [x / 256 % 256,x % 256] = enc x 2 := by
  unfold enc Fx.encL Fx.byt;simp [List.range,List.range.loop]
theorem str_app (a b : List Int) : strOfNums (a ++ b) = strOfNums a ++ strOfNums b := by
  apply ByteArray.ext;apply Array.ext'
  rw [ByteArray.data_append,Array.toList_append,strOfNums_data,strOfNums_data,strOfNums_data,List.map_append]
theorem five (i : Ins) : strOfNums [i.pr % 256,i.ps / 256 % 256,i.ps % 256,i.st % 256,flagN i.sm] = enc i.pr 1 ++ enc i.ps 2 ++ enc i.st 1 ++ enc (flagN i.sm) 1 := by
  rw [show [i.pr % 256,i.ps / 256 % 256,i.ps % 256,i.st % 256,flagN i.sm] = [i.pr % 256] ++ [i.ps / 256 % 256,i.ps % 256] ++ [i.st % 256] ++ [flagN i.sm] from rfl,str_app,str_app,str_app,enc1,enc2,enc1,enc1F]
def hd0 (i : Ins) : ByteArray := enc i.pr 1 ++ enc i.ps 2 ++ enc i.st 1 ++ enc (flagN i.sm) 1
def headP (i : Ins) (k : Nat) : ByteArray := if k = 0 then hd0 i else if k = 1 then hd0 i ++ (enc i.bn 4 ++ enc i.br 1) else hd0 i ++ (enc i.bn 4 ++ enc i.br 1) ++ (enc i.tn 4 ++ enc i.tr 1)
theorem headP_all (i : Ins) : headP i 2 = cat (headF i) := by
  simp [headP,hd0,headF,cat,ByteArray.append_assoc]
def bnK (i : Ins) (k : Nat) : Int := if k = 0 then i.bn else i.tn
def brK (i : Ins) (k : Nat) : Int := if k = 0 then i.br else i.tr
theorem headP_succ (i : Ins) (k : Nat) (h : k < 2) : headP i (k + 1) = headP i k ++ (enc (bnK i k) 4 ++ enc (brK i k) 1) := by
  match k,h with
  | 0,_ => rfl
  | 1,_ => rfl
theorem hd0_size (i : Ins) : (hd0 i).size = 5 := by simp [hd0,ByteArray.size_append,enc_size]
theorem headP_size (i : Ins) (k : Nat) : (headP i k).size ≤ 15 := by
  unfold headP
  split
  · rw [hd0_size];omega
  · split <;> simp [ByteArray.size_append,enc_size,hd0_size]
theorem bn_fit {i : Ins} {n : Int} (h : okI i n = true) (k : Nat) : Fit (bnK i k,4) := by
  unfold bnK
  split
  · exact headN_fit h 4 (by omega)
  · exact headN_fit h 6 (by omega)
def c5 (a b c d e : Int) : Array Value := #[.int .u8 a,.int .u8 b,.int .u8 c,.int .u8 d,.int .u8 e]
def F5 (a b c d e : Int) (v : Value) (w : World) : Prop := ∃ g,v = .slice (some ⟨g,0,none⟩) 5 5 ∧ Bx w g (c5 a b c d e) 5
theorem F5.stays (a b c d e : Int) (v : Value) (w w' : World) (h : F5 a b c d e v w) (k : Below w.heap.size w w') : F5 a b c d e v w' := by
  obtain ⟨g,hv,hb⟩ := h
  exact ⟨g,hv,hb.stays k⟩
theorem F5.conv {a b c d e : Int} {v : Value} {w : World} (h : F5 a b c d e v w) : (convert 105 9 v).run Tryz.prog w = .ok (.string (strOfNums [a,b,c,d,e])) w := by
  obtain ⟨g,rfl,hb⟩ := h
  exact run_convert_bytes_arg (P := Tryz.prog) _ 105 5 Tryz.underlying105 Tryz.underlying5 _ 0 5 5 [a,b,c,d,e] rfl (fun i hi => by
    rw [hb.cell,Nat.zero_add]
    match i,hi with
    | 0,_ => rfl
    | 1,_ => rfl
    | 2,_ => rfl
    | 3,_ => rfl
    | 4,_ => rfl) 9 Tryz.underlying9
theorem conv1 (a : Int) (w : World) : (convert 105 9 (.slice (some ⟨w.heap.size,0,none⟩) 1 1)).run Tryz.prog (w.alloc (.cells #[.int .u8 (a % 256)] 5)) = .ok (.string (enc a 1)) (w.alloc (.cells #[.int .u8 (a % 256)] 5)) := by
  rw [← enc1]
  exact run_convert_bytes_arg (P := Tryz.prog) _ 105 5 Tryz.underlying105 Tryz.underlying5 _ 0 1 1 [a % 256] rfl (fun i hi => by
    rw [World.cell?_alloc_at _ _ _ _ rfl,Nat.zero_add]
    match i,hi with
    | 0,_ => rfl) 9 Tryz.underlying9
theorem wrap8 (x : Int) : IntKind.u8.wrap x = x % 256 := by simp [IntKind.wrap,IntKind.bits,IntKind.signed]
def c4 (i : Ins) : Array Value := #[.int .i64 i.bn,.int .i64 i.br,.int .i64 i.tn,.int .i64 i.tr]
theorem c4_at (i : Ins) (k : Nat) (h : k < 2) : (c4 i).extract (k * 2) (k * 2 + 2) = #[.int .i64 (bnK i k),.int .i64 (brK i k)] := by
  match k,h with
  | 0,_ => simp [c4,bnK,brK]
  | 1,_ => simp [c4,bnK,brK]
theorem rPutValue_yes {c : Nat → Int} {q : Int} {d : Nat → Int} {n : Int} {x : ByteArray} (h : Hid (okV c q d n = true)) (hx : Hid (cat (valF c q d n.toNat) = x)) (w : World) :
    Calls Tryz.prog 59 #[.agg (cv c q d),.int .i64 n] w fun e w' => e = .returned (.tuple #[.string x,.int .i64 0]) ∧ Below w.heap.size w w' := by
  have k := rPutValue_any c q d n w
  rw [h.out,if_pos rfl,if_pos rfl,hx.out] at k;exact k
set_option maxHeartbeats 400000 in
theorem rflag_any (b : Bool) (w : World) :
    Calls Tryz.prog 57 #[.bool b] w fun e w' => e = .returned (.int .u8 (flagN b)) ∧ w = w' := by
  cases b
  all_goals
    go_enter Tryz.func57,Tryz.ntmps57
    go_wp2
    go_ret
    exact ⟨rfl,rfl⟩
set_option maxRecDepth 8000 in
set_option maxHeartbeats 4000000 in
theorem rWrite_any (i : Ins) (n : Int) (w : World) :
    Calls Tryz.prog 33 #[.agg (ci i),.int .i64 n] w fun e w' => e = .returned (.tuple #[.string (wrS i n),.int .i64 (wrE i n)]) ∧ Below w.heap.size w w' := by
  obtain ⟨V,hV⟩ : ∃ Q_ : World,w.alloc (.cells (ci i) 44) = Q_ := ⟨_,rfl⟩
  have bV : Below w.heap.size w V := hV ▸ below1 _ _
  have A0 : At V w.heap.size i := hV ▸ At.new _ _ _
  obtain ⟨m1,m2,m3,m4⟩ := A0.facts
  have HA := lH (show ∀ u,Below V.heap.size V u → At u w.heap.size i from fun u hu => A0.stays hu)
  clear A0
  cases h1 : okI i n with
  | false =>
    have H1 := lH h1
    have HS : Hid (wrS i n = ByteArray.empty) := lH (by unfold wrS;rw [h1];rfl)
    have HE : Hid (wrE i n = 1) := lH (by unfold wrE;rw [h1];rfl)
    clear h1
    rw [HS.out,HE.out]
    go_enter Tryz.func33,Tryz.ntmps33
    go_wp2_with fail
    clear m1 m2 m3 m4
    refine (rRight_is H1 _).mono ?_
    rintro e w1 ⟨rfl,hb1⟩
    go_wp2
    go_ret2
    exact ⟨rfl,nx bV hb1⟩
  | true =>
    have H1 := lH h1
    obtain ⟨x,hx⟩ : ∃ x,cat (valF i.c i.q i.d n.toNat) = x := ⟨_,rfl⟩
    have hxs : x.size ≤ 48 := by rw [← hx,val_size];have := (okI_iff.1 h1).1;omega
    have HX := lH hx
    have HV := lH (okI_iff.1 h1).2.2.2.2.2.2.1
    clear h1 hx
    go_enter Tryz.func33,Tryz.ntmps33
    go_wp2_with fail
    clear m1 m2 m3 m4
    refine (rRight_is H1 _).mono ?_
    rintro e w1 ⟨rfl,hb1⟩
    have A1 := HA.out w1 hb1
    have hK : ∀ u,Below w1.heap.size w1 u → u.cell? ⟨w.heap.size,0,none⟩ = some (.int .i64 i.pr) ∧ u.cell? ⟨w.heap.size,1,none⟩ = some (.int .i64 i.ps) ∧ u.cell? ⟨w.heap.size,6,none⟩ = some (.int .i64 i.st) ∧ u.cell? ⟨w.heap.size,24,none⟩ = some (.bool i.sm) := fun u hu => by
      have h := A1.stays hu
      exact ⟨h.cell 0 rfl,h.cell 1 rfl,h.cell 6 rfl,h.cell 24 rfl⟩
    go_wp2
    refine Rf.rg [0,1,2,3,4,5,6,7,8,9,10,11,12,13,14,15,16,17,18,19,20,21] ?_
    repeat (first | (refine Rf.Steps.sk ?_;simp only [Act.put,sA,sB,sC]) | (refine Rf.Steps.pu (v := ?_) ?_ ?_;rotate_left;(intro w_ hS_;have hk_ := hK w_ hS_;go_simp <;> with_reducible rfl);simp only [Act.put,sA,sB,sC]) | (refine Rf.Steps.ca (v := ?_) (f := ?_) (args := ?_) ?_ ?_ ?_;rotate_left 3;(intro w_ hS_;have hk_ := hK w_ hS_;go_simp <;> first | with_reducible rfl | (constructor <;> with_reducible rfl));(intro w_ hS_;have hk_ := hK w_ hS_;first | (go_at_call 57;refine (rflag_any _ _).mono ?_;first | (rintro e w_ ⟨rfl,rfl⟩;refine ⟨?_,Below.refl _ _⟩;with_reducible rfl) | (rintro e w_ ⟨rfl,hb_⟩;refine ⟨?_,hb_⟩;with_reducible rfl)));simp only [Act.put,sA,sB,sC]))
    refine Rf.Steps.forced (by kernel_rfl) ?_
    refine Rf.One.val (F5 (IntKind.u8.wrap i.pr) (IntKind.u8.wrap (i.ps / 256)) (IntKind.u8.wrap i.ps) (IntKind.u8.wrap i.st) (flagN i.sm)) (F5.stays _ _ _ _ _) (by rfl) (by rfl) ?_ ?_
    · intro w_ hS_
      refine ⟨.slice (some ⟨w_.heap.size,0,none⟩) 5 5,w_.alloc (.cells (c5 (IntKind.u8.wrap i.pr) (IntKind.u8.wrap (i.ps / 256)) (IntKind.u8.wrap i.ps) (IntKind.u8.wrap i.st) (flagN i.sm)) 5),?_,below1 _ _,_,rfl,Bx.new _ _ _⟩
      go_simp
      rfl
    intro v u_ hv
    simp only [Act.put,sA,sB,sC]
    repeat (first | (refine Rf.Steps.sk ?_;simp only [Act.put,sA,sB,sC]) | (refine Rf.Steps.pu (v := ?_) ?_ ?_;rotate_left;(intro w_ hS_;have hk_ := (fun u (hu : Below w1.heap.size w1 u ∧ F5 (IntKind.u8.wrap i.pr) (IntKind.u8.wrap (i.ps / 256)) (IntKind.u8.wrap i.ps) (IntKind.u8.wrap i.st) (flagN i.sm) v u) => F5.conv hu.2) w_ hS_;go_simp <;> with_reducible rfl);simp only [Act.put,sA,sB,sC]))
    refine Rf.Steps.nil (by kernel_rfl) ?_
    rintro w2 ⟨hb2,_⟩
    have A2 := A1.stays hb2
    have r2 := A2.rw
    have l2 := A2.lt
    rw [wrap8,wrap8,wrap8,wrap8,five]
    obtain ⟨W,hW⟩ : ∃ Q_ : World,w2.alloc (.cells #[.int .i64 i.bn,.int .i64 i.br,.int .i64 i.tn,.int .i64 i.tr] 36) = Q_ := ⟨_,rfl⟩
    have bW : Below w1.heap.size w1 W := nx hb2 (hW ▸ below1 _ _)
    have W0 : Bx W w2.heap.size (c4 i) 36 := hW ▸ Bx.new _ _ _
    have HW0 := lH W0
    clear W0 A2 hK
    have HH0 : Hid (enc i.pr 1 ++ enc i.ps 2 ++ enc i.st 1 ++ enc (flagN i.sm) 1 = headP i 0) := lH rfl
    have HF := lH (bn_fit H1.out)
    go_wp2
    rw [HH0.out]
    clear r2 l2 hW
    go_loopw [6,44] (fun t j wr => ∃ (k : Nat),k ≤ 2 ∧ j = .int .i64 k ∧ t = .string (headP i k) ∧ Bx wr w2.heap.size (c4 i) 36 ∧ Below w1.heap.size w1 wr) (fun _ j _ => 2 - (intOf j).toNat)
    case atStart => exact ⟨0,Nat.zero_le _,rfl,rfl,HW0.out,bW⟩
    case round =>
      obtain ⟨k,hk,rfl,rfl,b0,hb⟩ := hrel
      have hps := headP_size i k
      clear HW0 bW
      by_cases hlt : k < 2
      · have hlt2 : (k : Int) < 2 := by omega
        have HZ := lH (headP_succ i k hlt)
        have hr := b0.row
        have hp := c4_at i k hlt
        have hl := b0.lt
        obtain ⟨y,hy⟩ : ∃ y,enc (bnK i k) 4 = y := ⟨_,rfl⟩
        have hys : y.size ≤ 4 := by rw [← hy,enc_size];omega
        have HP := put_ok (HF.out k) ⟨by omega,by omega⟩
        rw [hy] at HP
        have HP := lH HP
        obtain ⟨nn,hnn⟩ : ∃ nn,bnK i k = nn := ⟨_,rfl⟩
        obtain ⟨rr,hrr⟩ : ∃ rr,brK i k = rr := ⟨_,rfl⟩
        have HY := lH hy
        rw [hnn] at HP
        rw [hnn,hrr] at hp
        rw [hy,hrr] at HZ
        obtain ⟨z,hz⟩ : ∃ z,enc rr 1 = z := ⟨_,rfl⟩
        have hzs : z.size ≤ 1 := by rw [← hz,enc_size];omega
        have HC := lH (conv1 rr)
        rw [hz] at HZ HC
        obtain ⟨s,hs⟩ : ∃ s,headP i k = s := ⟨_,rfl⟩
        rw [hs] at HZ hps ⊢
        have h1 : y.size + z.size ≤ 10 := by omega
        have h2 : s.size + (y.size + z.size) ≤ 30 := by omega
        obtain ⟨U,hU⟩ : ∃ Q_ : World,wr.alloc (.cells #[.int .i64 nn,.int .i64 rr] 36) = Q_ := ⟨_,rfl⟩
        have bU : Below wr.heap.size wr U := hU ▸ below1 _ _
        have U0 := b0.stays bU
        have U1 : Bx U wr.heap.size #[.int .i64 nn,.int .i64 rr] 36 := hU ▸ Bx.new _ _ _
        have HU0 := lH U0
        have HU1 := lH U1
        have HU := lH hU
        clear hy hnn hrr hz hs U0 U1 hU b0
        go_wp2_with fail
        rw [HU.out]
        refine (Cm.rPut_is HP _).mono ?_
        rintro e w3 ⟨rfl,hb3⟩
        have W0 := lH (HU0.out.stays hb3)
        have c1 := (HU1.out.stays hb3).cell 1
        have c1 : w3.cell? ⟨wr.heap.size,1,none⟩ = some (.int .i64 rr) := c1
        have hcv := HC.out w3
        have bw := nx hb (nx bU hb3)
        obtain ⟨X,hX⟩ : ∃ Q_ : World,w3.alloc (.cells #[.int .u8 (rr % 256)] 5) = Q_ := ⟨_,rfl⟩
        have bX := nx bw (hX ▸ below1 w3 (.cells #[.int .u8 (rr % 256)] 5))
        have X0 := lH (W0.out.stays (hX ▸ below1 w3 (.cells #[.int .u8 (rr % 256)] 5)))
        rw [hX] at hcv
        clear hr hl hp
        go_wp2
        go_roundw
        case rel => exact ⟨k + 1,by omega,by go_num,by rw [HZ.out],X0.out,bX⟩
        case measure => simp [intOf];omega
      · obtain rfl : k = 2 := by omega
        have HE : Hid (headP i 2 = cat (headF i)) := lH (headP_all i)
        have HS : Hid (wrS i n = headP i 2 ++ x) := lH (by unfold wrS;rw [H1.out,if_pos rfl,insF,cat_append,headP_all,HX.out])
        have HE2 : Hid (wrE i n = 0) := lH (by unfold wrE;rw [H1.out];rfl)
        have A3 := HA.out wr (nx hb1 hb)
        have r3 := A3.rw
        have l3 := A3.lt
        have h2 : (headP i 2).size + x.size ≤ 100 := by omega
        clear b0 A3
        go_wp2_with fail
        refine (rPutValue_yes HV HX _).mono ?_
        rintro e w3 ⟨rfl,hb3⟩
        clear r3 l3
        go_wp2
        go_ret2
        refine ⟨?_,nx bV (nx hb1 (nx hb hb3))⟩
        rw [HS.out,HE2.out]
        rfl
theorem rWrite_is {i : Ins} {n : Int} {x : ByteArray} {y : Int} (h : Hid (wrS i n = x ∧ wrE i n = y)) (w : World) :
    Calls Tryz.prog 33 #[.agg (ci i),.int .i64 n] w fun e w' => e = .returned (.tuple #[.string x,.int .i64 y]) ∧ Below w.heap.size w w' := by
  obtain ⟨rfl,rfl⟩ := h.out
  exact rWrite_any i n w
end Go.Proofs.YtnnbjhpkgndclaaGreatDoor.Rc
