/- Of layer 14, plain mathematics: behind a crash. -/
import Derived.Test.YtegepbifbhamnaaDkT
namespace Go.Proofs.Ytegepbifbhamnaa.Dk
abbrev Pz := ByteArray × ByteArray
/-- What both zones held behind each of the operations since the last sync. -/
def hist (d : Ds) : List Pz := (List.range (d.l.length + 1)).map fun i => fin (d.a, d.b) (d.l.take i)
theorem hist_len (d : Ds) : (hist d).length = d.l.length + 1 := by simp [hist]
theorem hist_at (d : Ds) (k : Nat) (h : k < (hist d).length) : (hist d)[k] = fin (d.a, d.b) (d.l.take k) := by simp [hist]
theorem hist_snoc (a b : ByteArray) (l : List Do) (o : Do) (c f c' f' : Int) (n n' : Bool) : hist ⟨a, b, l ++ [o], c, f, n⟩ = hist ⟨a, b, l, c', f', n'⟩ ++ [fin (a, b) (l ++ [o])] := by
  unfold hist
  simp only [List.length_append, List.length_singleton]
  rw [List.range_succ, List.map_append]
  congr 1
  · apply List.map_congr_left
    intro i hi
    have hi := List.mem_range.1 hi
    rw [List.take_append_of_le_length (by omega)]
  · simp only [List.map_cons, List.map_nil]
    rw [show l.length + 1 = (l ++ [o]).length by simp, List.take_length]
theorem hist_nil (a b : ByteArray) (c f : Int) (n : Bool) : hist ⟨a, b, [], c, f, n⟩ = [(a, b)] := rfl
theorem app_nul (s : ByteArray) : s ++ nul = s := by
  obtain ⟨a⟩ := s
  show (⟨a⟩ : ByteArray) ++ ⟨#[]⟩ = _
  rw [ByteArray.mk_append_mk]; simp
theorem cut0 (x : ByteArray) : cut x 0 = nul := by
  have h : lim 0 (x.size : Int) = 0 := by unfold lim; omega
  have h2 : (cut x 0).size = 0 := by unfold cut; rw [h, ByteArray.size_extract]; simp
  generalize cut x 0 = y at h2
  obtain ⟨a⟩ := y
  have : a = #[] := Array.eq_empty_of_size_eq_zero h2
  rw [this]; rfl
theorem reach_split (l : List Do) (keep torn : Int) {k : Nat} (h : lim keep l.length = k) : reach l keep torn = l.take k ∨ ∃ z x r, l.drop k = (z, x, false) :: r ∧ reach l keep torn = l.take k ++ [(z, cut x torn, false)] := by
  unfold reach
  rw [h, Int.toNat_natCast]
  split
  · rename_i z x r e; exact .inr ⟨z, x, r, e, rfl⟩
  · exact .inl rfl
theorem crash0 (s : Pz) (l : List Do) (keep : Int) {k : Nat} (h : lim keep l.length = k) : fin s (reach l keep 0) = fin s (l.take k) := by
  rcases reach_split l keep 0 h with e | ⟨z, x, r, _, e⟩
  · rw [e]
  · rw [e, fin_snoc, cut0]
    cases z <;> simp [done, app_nul]
/-- was is a beginning of s, and s, if it is longer, one of next. -/
structure Pre (was s next : ByteArray) : Prop where
  le : was.size ≤ s.size
  at' : s.extract 0 was.size = was
  nx : was.size < s.size → s.size ≤ next.size ∧ next.extract 0 s.size = s
theorem ext_all (s : ByteArray) : s.extract 0 s.size = s := by
  obtain ⟨a⟩ := s
  apply ByteArray.ext
  simp
theorem Pre.same (s next : ByteArray) : Pre s s next := ⟨Nat.le_refl _, ext_all s, fun h => by omega⟩
theorem Pre.app (s x : ByteArray) (t : Int) : Pre s (s ++ cut x t) (s ++ x) := by
  have hc := cut_size x t
  refine ⟨by rw [ByteArray.size_append]; omega, ?_, fun _ => ⟨by rw [ByteArray.size_append, ByteArray.size_append]; omega, ?_⟩⟩
  · apply ByteArray.ext
    simp [ByteArray.data_append, ByteArray.data_extract]
  · have hb := lim_bd t x.size (by omega)
    have hsz : (cut x t).size = (lim t x.size).toNat := by unfold cut; rw [ByteArray.size_extract]; omega
    apply ByteArray.ext
    simp only [ByteArray.data_append, ByteArray.data_extract, ByteArray.size_append]
    rw [hsz]
    have h2 : (cut x t).data = x.data.extract 0 (lim t x.size).toNat := by unfold cut; simp [ByteArray.data_extract]
    rw [h2]
    have h3 : s.data.size = s.size := rfl
    rw [Array.extract_append, h3]
    have h4 : s.data.extract 0 (s.size + (lim t x.size).toNat) = s.data := by rw [← h3]; simp
    rw [h4]
    simp
/-- Behind a crash each zone is what it was behind k operations, and a beginning of the next one's bytes. -/
theorem crash_pre (s : Pz) (l : List Do) (keep torn : Int) {k : Nat} (h : lim keep l.length = k) : Pre (fin s (l.take k)).1 (fin s (reach l keep torn)).1 (fin s (l.take (min (k + 1) l.length))).1 ∧ Pre (fin s (l.take k)).2 (fin s (reach l keep torn)).2 (fin s (l.take (min (k + 1) l.length))).2 := by
  rcases reach_split l keep torn h with e | ⟨z, x, r, e2, e⟩
  · rw [e]; exact ⟨Pre.same _ _, Pre.same _ _⟩
  · have hk : k < l.length := by
      have := congrArg List.length e2
      simp at this; omega
    have hx : l[k] = (z, x, false) := by
      rw [List.drop_eq_getElem_cons hk] at e2
      exact (List.cons.inj e2).1
    have hm : min (k + 1) l.length = k + 1 := by omega
    have h4 : l.take (k + 1) = l.take k ++ [(z, x, false)] := by rw [List.take_succ_eq_append_getElem hk, hx]
    rw [e, hm, h4, fin_snoc, fin_snoc]
    cases z
    · exact ⟨Pre.app _ _ _, Pre.same _ _⟩
    · exact ⟨Pre.same _ _, Pre.app _ _ _⟩
end Go.Proofs.Ytegepbifbhamnaa.Dk
