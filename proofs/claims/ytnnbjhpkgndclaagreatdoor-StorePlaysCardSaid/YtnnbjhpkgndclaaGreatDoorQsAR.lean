/- Write, the document's own. -/
import Derived.Test.YtnnbjhpkgndclaaGreatDoorQsZZ
import Derived.Test.YtnnbjhpkgndclaaGreatDoorQsAM
import Derived.Test.YtnnbjhpkgndclaaGreatDoorQsAL
import Derived.Test.YtnnbjhpkgndclaaGreatDoorQsAE
set_option linter.unusedVariables false
namespace Go.Proofs.YtnnbjhpkgndclaaGreatDoor.Cm
open Go.RowKit
open Go.Proofs.YtnnbjhpkgndclaaGreatDoor.Rw
open Go.Proofs.YtnnbjhpkgndclaaGreatDoor.Fx (ret_v ret_bool ret_int enc enc_size putV fB wB put_any rPut_any)
theorem rPut_is {n x : Int} {v : Value} (h : Hid (putV n x = v)) (w : World) :
    Calls Tryz.prog 58 #[.int .i64 n,.int .i64 x] w fun e w' => e = .returned v ∧ Below w.heap.size w w' := by
  rw [← h.out];exact rPut_any n x w
theorem cells_of {w : World} {b : Nat} {c : Nat → Int} (h : row w b = fc c) : ∀ o,o < 9 → w.cell? ⟨b,o,none⟩ = some (.int .i64 (c o)) := fun o ho => by
  rw [cell_row (n := 8) w b o (by rw [h];exact fc_size c),h,fc_at c o ho]
theorem enc1 (x : Int) : (enc x 1).data.toList = (strOfNums [x % 256]).data.toList := by
  unfold enc Fx.encL Fx.byt;simp
theorem str5 (l : Nat → Int) : strOfNums [l 0 % 256,l 1 % 256,l 2 % 256,l 3 % 256,l 4 % 256] = catS l 5 := by
  apply ByteArray.ext;apply Array.ext'
  simp only [catS,ByteArray.data_append,Array.toList_append,wd,enc1,strOfNums_data]
  rfl
theorem conv5 (c : Nat → Int) (w : World) : (convert 105 9 (.slice (some ⟨w.heap.size,0,none⟩) 5 5)).run Tryz.prog (w.alloc (.cells #[.int .u8 (c 2 % 256),.int .u8 (c 0 % 256),.int .u8 (c 3 % 256),.int .u8 (c 4 % 256),.int .u8 (c 6 % 256)] 5)) = .ok (.string (catS (numF c) 5)) (w.alloc (.cells #[.int .u8 (c 2 % 256),.int .u8 (c 0 % 256),.int .u8 (c 3 % 256),.int .u8 (c 4 % 256),.int .u8 (c 6 % 256)] 5)) := by
  rw [← str5]
  exact run_convert_bytes_arg (P := Tryz.prog) _ 105 5 Tryz.underlying105 Tryz.underlying5 _ 0 5 5 [c 2 % 256,c 0 % 256,c 3 % 256,c 4 % 256,c 6 % 256] rfl (fun i hi => by
    rw [World.cell?_alloc_at _ _ _ _ rfl,Nat.zero_add]
    match i,hi with
    | 0,_ => rfl
    | 1,_ => rfl
    | 2,_ => rfl
    | 3,_ => rfl
    | 4,_ => rfl) 9 Tryz.underlying9
theorem put7 {c : Nat → Int} (h : chkB c = true) (k : Nat) (hk : k < 3) : putV (numF c (5 + k)) 7 = .tuple #[.string (enc (numF c (5 + k)) 7),.int .i64 0] := by
  have e : wd (5 + k) = 7 := by
    match k,hk with
    | 0,_ => rfl
    | 1,_ => rfl
    | 2,_ => rfl
  have := put_num h (5 + k) (by omega)
  rw [e] at this
  exact this
theorem cat7 (l : Nat → Int) (k : Nat) (hk : k < 3) : catS l (5 + k) ++ enc (l (5 + k)) 7 = catS l (5 + (k + 1)) := by
  have e : wd (5 + k) = 7 := by
    match k,hk with
    | 0,_ => rfl
    | 1,_ => rfl
    | 2,_ => rfl
  rw [show 5 + (k + 1) = (5 + k) + 1 by omega,catS,e]
set_option maxHeartbeats 2000000 in
theorem rWrite_any (c : Nat → Int) (w : World) :
    Calls Tryz.prog 92 #[.agg (fc c)] w fun e w' => e = .returned (.tuple #[.string (writeS c),.int .i64 (chkE c)]) ∧ Below w.heap.size w w' := by
  cases h : chkB c
  · have HE : Hid (chkE c = 1) := lH (by unfold chkE;rw [h];rfl)
    have HS : Hid (writeS c = ByteArray.empty) := lH (by unfold writeS;rw [h];rfl)
    clear h
    rw [HE.out,HS.out]
    go_enter Tryz.func92,Tryz.ntmps92
    go_wp2_with fail
    refine (rCheck_is HE _).mono ?_
    rintro e w1 ⟨rfl,hb1⟩
    go_wp2
    go_ret2
    exact ⟨rfl,nx (below1 _ _) hb1⟩
  · have HE : Hid (chkE c = 0) := lH (by unfold chkE;rw [h];rfl)
    have HS : Hid (writeS c = catS (numF c) 9) := lH (by unfold writeS;rw [h];rfl)
    have HC := lH h
    clear h
    rw [HE.out,HS.out]
    go_enter Tryz.func92,Tryz.ntmps92
    go_wp2_with fail
    obtain ⟨W,hW⟩ : ∃ W,W = w.alloc (.cells (fc c) 38) := ⟨_,rfl⟩
    have hr : row W w.heap.size = fc c := by rw [hW];exact row_new _ _ _ _ rfl
    have hz : w.heap.size < W.heap.size := by rw [hW];simp
    have hb0 : Below w.heap.size w W := hW ▸ below1 w _
    rw [← hW]
    clear hW
    refine (rCheck_is HE _).mono ?_
    rintro e w1 ⟨rfl,hb1⟩
    have hr1 : row w1 w.heap.size = fc c := by rw [(bcell hb1).2.2.1 _ hz];exact hr
    have hz1 : w.heap.size < w1.heap.size := by have := hb1.size;omega
    have hb2 := nx hb0 hb1
    clear hr hz hb0 hb1
    have hcl := cells_of hr1
    have hcv := conv5 c w1
    go_wp2
    obtain ⟨V,hV⟩ : ∃ V,V = (w1.alloc (.cells #[.int .u8 (c 2 % 256),.int .u8 (c 0 % 256),.int .u8 (c 3 % 256),.int .u8 (c 4 % 256),.int .u8 (c 6 % 256)] 5)).alloc (.cells #[.int .i64 (c 1),.int .i64 (c 7),.int .i64 (c 8)] 3) := ⟨_,rfl⟩
    have hcs : Hid (∀ k,k < 3 → V.cell? ⟨w1.heap.size + 1,k,none⟩ = some (.int .i64 (numF c (5 + k)))) := lH fun k hk => by
      rw [hV]
      match k,hk with
      | 0,_ => simp [go_sem,numF,fld]
      | 1,_ => simp [go_sem,numF,fld]
      | 2,_ => simp [go_sem,numF,fld]
    have hbV : Below w1.heap.size w1 V := hV ▸ below2 w1 _ _
    have hzV : w1.heap.size + 1 < V.heap.size := by rw [hV];simp
    have hclV : ∀ o,o < 9 → V.cell? ⟨w.heap.size,o,none⟩ = some (.int .i64 (c o)) := fun o ho => by rw [hbV.cell (p := ⟨w.heap.size,o,none⟩) hz1];exact hcl o ho
    have hwV : w.heap.size < V.heap.size := by omega
    rw [← hV]
    clear hV hcv hcl hr1
    go_loopw [4,39] (fun s i wr => ∃ k : Nat,k ≤ 3 ∧ i = .int .i64 k ∧ s = .string (catS (numF c) (5 + k)) ∧ Below V.heap.size V wr) (fun _ i _ => 3 - (intOf i).toNat)
    case atStart => exact ⟨0,Nat.zero_le _,rfl,rfl,Below.refl _ _⟩
    case round =>
      obtain ⟨k,hk,rfl,rfl,hb4⟩ := hrel
      by_cases hlt : k < 3
      · have hlt2 : (k : Int) < 3 := by omega
        have HP := lH (put7 HC.out k hlt)
        have HS2 := lH (cat7 (numF c) k hlt)
        have hck : wr.cell? ⟨w1.heap.size + 1,k,none⟩ = some (.int .i64 (numF c (5 + k))) := by rw [hb4.cell (p := ⟨w1.heap.size + 1,k,none⟩) hzV];exact hcs.out k hlt
        have hsz1 := catS_size (numF c) (5 + k)
        have hsz2 := pre_mono (5 + k) 9 (by omega)
        have hsz3 := pre9
        have hsz4 := enc_size (numF c (5 + k)) 7
        have HZ : Hid ((catS (numF c) (5 + k)).size + (enc (numF c (5 + k)) 7).size ≤ 37) := lH (by omega)
        clear hsz1 hsz2 hsz3 hsz4
        go_wp2_with fail
        refine (rPut_is HP _).mono ?_
        rintro e w3 ⟨rfl,hb5⟩
        have hz9 := HZ.out
        go_wp2
        rw [HS2.out]
        go_roundw
        case rel => exact ⟨k + 1,by omega,by go_num,rfl,nx hb4 hb5⟩
        case measure => simp [intOf];omega
      · obtain rfl : k = 3 := by omega
        have HP := lH (show putV (c 5) 4 = .tuple #[.string (enc (c 5) 4),.int .i64 0] from put_num HC.out 8 (by omega))
        have HS2 : Hid (catS (numF c) 8 ++ enc (c 5) 4 = catS (numF c) 9) := lH rfl
        have hc5 : wr.cell? ⟨w.heap.size,5,none⟩ = some (.int .i64 (c 5)) := by rw [hb4.cell (p := ⟨w.heap.size,5,none⟩) hwV];exact hclV 5 (by omega)
        have hsz1 := catS_size (numF c) 8
        have hsz2 := pre_mono 8 9 (by omega)
        have hsz3 := pre9
        have hsz4 := enc_size (c 5) 4
        have HZ : Hid ((catS (numF c) 8).size + (enc (c 5) 4).size ≤ 37) := lH (by omega)
        clear hsz1 hsz2 hsz3 hsz4
        go_wp2_with fail
        refine (rPut_is HP _).mono ?_
        rintro e w3 ⟨rfl,hb5⟩
        have hz9 := HZ.out
        go_wp2
        go_ret2
        exact ⟨ret_v (by rw [← HS2.out];rfl),nx hb2 (nx hbV (nx hb4 hb5))⟩
end Go.Proofs.YtnnbjhpkgndclaaGreatDoor.Cm
