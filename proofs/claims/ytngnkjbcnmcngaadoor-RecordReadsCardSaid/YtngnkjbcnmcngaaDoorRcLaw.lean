/- Plain mathematics of layer 16: numbers of given widths one behind the other, written and read; instances. -/
import Derived.Test.YtngnkjbcnmcngaaDoorCmBk
import Derived.Test.YtngnkjbcnmcngaaDoorVePure
import Derived.Test.YtngnkjbcnmcngaaDoorBaC
namespace Go.Proofs.YtngnkjbcnmcngaaDoor.Rc
open Go.RowKit
set_option linter.unusedVariables false
open Go.Proofs.YtngnkjbcnmcngaaDoor.Fx
open Go.Proofs.YtngnkjbcnmcngaaDoor.Cm
open Go.Proofs.YtngnkjbcnmcngaaDoor.Ve (rightB okAt rightB_iff okAt_iff zeroV eqV eqV_iff)
open Go.Proofs.YtngnkjbcnmcngaaDoor.Ba (valB lessB)
/-- Numbers, each in so many bytes. -/
def cat : List (Int × Nat) → ByteArray
  | [] => ByteArray.empty
  | f :: r => enc f.1 f.2 ++ cat r
def wid : List Nat → Nat
  | [] => 0
  | w :: ws => w + wid ws
def decs (s : ByteArray) : Nat → List Nat → List Int
  | _, [] => []
  | a, w :: ws => (dec s a w : Int) :: decs s (a + w) ws
/-- n is a number of w bytes. -/
def Fit (f : Int × Nat) : Prop := ∃ u : Nat, f.1 = u ∧ u < 256 ^ f.2
theorem cat_size (fs : List (Int × Nat)) : (cat fs).size = wid (fs.map (·.2)) := by
  induction fs with
  | nil => rfl
  | cons f r ih => rw [cat, ByteArray.size_append, enc_size, ih]; rfl
theorem cat_append (fs gs : List (Int × Nat)) : cat (fs ++ gs) = cat fs ++ cat gs := by
  induction fs with
  | nil => simp [cat]
  | cons f r ih => rw [List.cons_append, cat, cat, ih, ByteArray.append_assoc]
theorem wid_append (a b : List Nat) : wid (a ++ b) = wid a + wid b := by
  induction a with
  | nil => simp [wid]
  | cons w ws ih => rw [List.cons_append, wid, wid, ih]; omega
theorem decs_append (s : ByteArray) (a : Nat) (ws vs : List Nat) : decs s a (ws ++ vs) = decs s a ws ++ decs s (a + wid ws) vs := by
  induction ws generalizing a with
  | nil => simp [decs, wid]
  | cons w ws ih => rw [List.cons_append, decs, decs, ih, List.cons_append, wid, Nat.add_assoc]
/-- What was written is read, wherever it stands. -/
theorem decs_mid (fs : List (Int × Nat)) (h : ∀ f ∈ fs, Fit f) (p q : ByteArray) : decs (p ++ cat fs ++ q) p.size (fs.map (·.2)) = fs.map (·.1) := by
  induction fs generalizing p with
  | nil => rfl
  | cons f r ih =>
    obtain ⟨u, hu, hf⟩ := h f List.mem_cons_self
    have e : p ++ cat (f :: r) ++ q = p ++ enc f.1 f.2 ++ cat r ++ q := by rw [cat]; simp only [ByteArray.append_assoc]
    have h1 := ih (fun g hg => h g (List.mem_cons_of_mem _ hg)) (p ++ enc f.1 f.2)
    rw [← e, ByteArray.size_append, enc_size] at h1
    rw [List.map_cons, List.map_cons, decs, h1]
    congr 1
    have hd : (p ++ cat (f :: r) ++ q).data.toList = p.data.toList ++ (bl u f.2 ++ ((cat r).data.toList ++ q.data.toList)) := by
      rw [e, app_list, app_list, app_list, hu, enc_data]; simp only [List.append_assoc]
    have h2 := dec_app _ _ _ u f.2 hd hf
    rw [size_len] at h2
    rw [h2, hu]
theorem ext_eq (s : ByteArray) (a k : Nat) (h : a + k ≤ s.size) : enc (dec s a k) k = s.extract a (a + k) := by
  apply ByteArray.ext; apply Array.ext'
  rw [enc_data, bl_dec s a k h, Lib.extract_data, Nat.add_sub_cancel_left]
theorem ext_cat (s : ByteArray) (a b c : Nat) (h1 : a ≤ b) (h2 : b ≤ c) : s.extract a b ++ s.extract b c = s.extract a c := by
  apply ByteArray.ext; apply Array.ext'
  rw [app_list, Lib.extract_data, Lib.extract_data, Lib.extract_data, show c - a = (b - a) + (c - b) by omega, List.take_add, List.drop_drop, show a + (b - a) = b by omega]
/-- What was read is written as those bytes. -/
theorem cat_decs (s : ByteArray) (a : Nat) (ws : List Nat) (h : a + wid ws ≤ s.size) : cat ((decs s a ws).zip ws) = s.extract a (a + wid ws) := by
  induction ws generalizing a with
  | nil =>
    apply ByteArray.ext; apply Array.ext'
    rw [Lib.extract_data]; simp [decs, cat, wid]
  | cons w ws ih =>
    rw [wid] at h
    rw [decs, List.zip_cons_cons, cat, ih (a + w) (by omega), ext_eq s a w (by omega), ext_cat _ _ _ _ (by omega) (by omega), wid, Nat.add_assoc]
theorem decs_len (s : ByteArray) (a : Nat) (ws : List Nat) : (decs s a ws).length = ws.length := by
  induction ws generalizing a with
  | nil => rfl
  | cons w ws ih => rw [decs, List.length_cons, List.length_cons, ih]
/-- An instance. -/
structure Ins where
  pr : Int
  ps : Int
  bn : Int
  br : Int
  tn : Int
  tr : Int
  st : Int
  c : Nat → Int
  q : Int
  d : Nat → Int
  sm : Bool
/-- A value that may be. -/
def okV (c : Nat → Int) (q : Int) (d : Nat → Int) (n : Int) : Bool := chkB c && (decide (0 ≤ q) && (decide (q ≤ 1073741824) && rightB d n))
theorem okV_iff {c : Nat → Int} {q : Int} {d : Nat → Int} {n : Int} : okV c q d n = true ↔ chkB c = true ∧ 0 ≤ q ∧ q ≤ 1073741824 ∧ rightB d n = true := by simp [okV]
/-- What an instance of which nothing is known must be. -/
def bare (i : Ins) : Bool := eqF i.c zeroF && (decide (i.q = 0) && (eqV i.d zeroV && (decide (i.tn = 0) && (decide (i.tr = 0) && !i.sm))))
/-- An instance that may be. -/
def okI (i : Ins) (n : Int) : Bool :=
  decide (1 ≤ n ∧ n ≤ 7) && (decide (0 ≤ i.pr ∧ i.pr < n ∧ 1 ≤ i.ps ∧ i.ps ≤ 400) && (valB i.bn i.br && (valB i.tn i.tr && (!lessB i.bn i.br i.tn i.tr && (decide (0 ≤ i.st ∧ i.st ≤ 3) && (okV i.c i.q i.d n && (decide (i.st ≠ 0) || bare i)))))))
theorem okI_iff {i : Ins} {n : Int} : okI i n = true ↔ (1 ≤ n ∧ n ≤ 7) ∧ (0 ≤ i.pr ∧ i.pr < n ∧ 1 ≤ i.ps ∧ i.ps ≤ 400) ∧ valB i.bn i.br = true ∧ valB i.tn i.tr = true ∧ lessB i.bn i.br i.tn i.tr = false ∧ (0 ≤ i.st ∧ i.st ≤ 3) ∧ okV i.c i.q i.d n = true ∧ (i.st ≠ 0 ∨ bare i = true) := by
  simp [okI]
/-- The same cells. -/
structure Same (i j : Ins) : Prop where
  pr : i.pr = j.pr
  ps : i.ps = j.ps
  bn : i.bn = j.bn
  br : i.br = j.br
  tn : i.tn = j.tn
  tr : i.tr = j.tr
  st : i.st = j.st
  c : ∀ k, k < 9 → i.c k = j.c k
  q : i.q = j.q
  d : ∀ k, k < 7 → i.d k = j.d k
  sm : i.sm = j.sm
def flagN (b : Bool) : Int := if b then 1 else 0
def cmdF (c : Nat → Int) : List (Int × Nat) := (List.range 9).map fun k => (numF c k, wd k)
def depF (d : Nat → Int) (n : Nat) : List (Int × Nat) := (List.range n).map fun k => (d k, 2)
/-- The numbers of a value, in the order of writing. -/
def valF (c : Nat → Int) (q : Int) (d : Nat → Int) (n : Nat) : List (Int × Nat) := cmdF c ++ ((q, 4) :: depF d n)
def headF (i : Ins) : List (Int × Nat) := [(i.pr, 1), (i.ps, 2), (i.st, 1), (flagN i.sm, 1), (i.bn, 4), (i.br, 1), (i.tn, 4), (i.tr, 1)]
def insF (i : Ins) (n : Nat) : List (Int × Nat) := headF i ++ valF i.c i.q i.d n
def widC : List Nat := [1, 1, 1, 1, 1, 7, 7, 7, 4]
theorem cmdF_w (c : Nat → Int) : (cmdF c).map (·.2) = widC := rfl
theorem depF_w (d : Nat → Int) (n : Nat) : (depF d n).map (·.2) = List.replicate n 2 := by
  unfold depF
  rw [List.map_map]
  apply List.ext_getElem
  · simp
  · intro i h1 h2; simp
theorem headF_w (i : Ins) : (headF i).map (·.2) = [1, 2, 1, 1, 4, 1, 4, 1] := rfl
theorem wid_rep (n : Nat) : wid (List.replicate n 2) = 2 * n := by
  induction n with
  | zero => rfl
  | succ n ih => rw [List.replicate_succ, wid, ih]; omega
theorem valF_w (c : Nat → Int) (q : Int) (d : Nat → Int) (n : Nat) : (valF c q d n).map (·.2) = widC ++ (4 :: List.replicate n 2) := by
  unfold valF; rw [List.map_append, cmdF_w, List.map_cons, depF_w]
theorem val_size (c : Nat → Int) (q : Int) (d : Nat → Int) (n : Nat) : (cat (valF c q d n)).size = 34 + 2 * n := by
  rw [cat_size, valF_w, wid_append, wid, wid_rep]
  show 30 + (4 + 2 * n) = _
  omega
theorem ins_size (i : Ins) (n : Nat) : (cat (insF i n)).size = 49 + 2 * n := by
  unfold insF
  rw [cat_append, ByteArray.size_append, val_size, cat_size, headF_w]
  show 15 + (34 + 2 * n) = _
  omega
theorem cmd_cat (c : Nat → Int) : cat (cmdF c) = catS (numF c) 9 := by
  simp [cmdF, List.range, List.range.loop, cat, catS, ByteArray.append_assoc]
theorem fit_cmd {c : Nat → Int} (h : chkB c = true) : ∀ f ∈ cmdF c, Fit f := fun f hf => by
  obtain ⟨k, hk, rfl⟩ := List.mem_map.1 hf
  exact num_pos h k (List.mem_range.1 hk)
theorem fit_of {x : Int} {w : Nat} (m : Nat) (h : 0 ≤ x ∧ x < m) (hm : m ≤ 256 ^ w) : Fit (x, w) := ⟨x.toNat, by show x = _; omega, by show x.toNat < 256 ^ w; omega⟩
theorem fit_val {c : Nat → Int} {q : Int} {d : Nat → Int} {n : Int} (h : okV c q d n = true) : ∀ f ∈ valF c q d n.toNat, Fit f := fun f hf => by
  obtain ⟨h1, h2, h3, h4⟩ := okV_iff.1 h
  obtain ⟨h5, h6⟩ := rightB_iff.1 h4
  unfold valF at hf
  rcases List.mem_append.1 hf with hf | hf
  · exact fit_cmd h1 f hf
  · rcases List.mem_cons.1 hf with rfl | hf
    · exact fit_of 4294967296 ⟨h2, by omega⟩ (by decide)
    · obtain ⟨k, hk, rfl⟩ := List.mem_map.1 hf
      have hk := List.mem_range.1 hk
      have h7 := okAt_iff.1 (h6 k (by omega))
      exact fit_of 65536 ⟨h7.1, by omega⟩ (by decide)
theorem flag_bd (b : Bool) : 0 ≤ flagN b ∧ flagN b < 256 := by cases b <;> decide
theorem fit_ins {i : Ins} {n : Int} (h : okI i n = true) : ∀ f ∈ insF i n.toNat, Fit f := fun f hf => by
  obtain ⟨h1, h2, h3, h4, _, h6, h7, _⟩ := okI_iff.1 h
  have h3 := Ba.valB_iff.1 h3
  have h4 := Ba.valB_iff.1 h4
  rcases List.mem_append.1 hf with hf | hf
  · simp only [headF, List.mem_cons, List.not_mem_nil, or_false] at hf
    rcases hf with rfl | rfl | rfl | rfl | rfl | rfl | rfl | rfl
    · exact fit_of 256 ⟨by omega, by omega⟩ (by decide)
    · exact fit_of 65536 ⟨by omega, by omega⟩ (by decide)
    · exact fit_of 256 ⟨by omega, by omega⟩ (by decide)
    · exact fit_of 256 (flag_bd _) (by decide)
    · exact fit_of 4294967296 ⟨by omega, by omega⟩ (by decide)
    · exact fit_of 256 ⟨by omega, by omega⟩ (by decide)
    · exact fit_of 4294967296 ⟨by omega, by omega⟩ (by decide)
    · exact fit_of 256 ⟨by omega, by omega⟩ (by decide)
  · exact fit_val h7 f hf
theorem decs_cmd (s : ByteArray) (a : Nat) : decs s a widC = (List.range 9).map (rdN s a) := by
  simp [decs, widC, List.range, List.range.loop, rdN, pre, wd, Nat.add_assoc]
theorem decs_dep (s : ByteArray) (a n : Nat) : decs s a (List.replicate n 2) = (List.range n).map (fun k => (dec s (a + 2 * k) 2 : Int)) := by
  induction n with
  | zero => rfl
  | succ n ih =>
    rw [List.replicate_succ', decs_append, ih, wid_rep, List.range_succ, List.map_append]
    rfl
/-- How many of the numbers of a vector stand there. -/
def cl (n : Int) : Nat := if n < 0 then 0 else if 7 < n then 7 else n.toNat
theorem cl_in {n : Int} (h : 1 ≤ n ∧ n ≤ 7) : cl n = n.toNat := by unfold cl; rw [if_neg (by omega), if_neg (by omega)]
def gvD (s : ByteArray) (b m : Nat) : Nat → Int := fun k => if k < m then (dec s (b + 2 * k) 2 : Int) else 0
/-- The error of a value at a. -/
def gvE (s : ByteArray) (a : Int) (n : Int) : Int :=
  if readE s a = 0 then (if s.size < a.toNat + 34 + 2 * cl n then 2 else if okV (readC s a) (dec s (a.toNat + 30) 4) (gvD s (a.toNat + 34) (cl n)) n then 0 else 3) else readE s a
theorem rightB_congr {d e : Nat → Int} {n : Int} (h : ∀ k, k < 7 → d k = e k) (hr : rightB e n = true) : rightB d n = true := by
  obtain ⟨h1, h2⟩ := rightB_iff.1 hr
  refine rightB_iff.2 ⟨h1, fun k hk => ?_⟩
  have h3 := okAt_iff.1 (h2 k hk)
  exact okAt_iff.2 (by rw [h k hk]; exact h3)
theorem okV_congr {c c' : Nat → Int} {q : Int} {d d' : Nat → Int} {n : Int} (hc : ∀ k, k < 9 → c k = c' k) (hd : ∀ k, k < 7 → d k = d' k) (h : okV c' q d' n = true) : okV c q d n = true := by
  obtain ⟨h1, h2, h3, h4⟩ := okV_iff.1 h
  exact okV_iff.2 ⟨by rw [chkB_congr hc]; exact h1, h2, h3, rightB_congr hd h4⟩
/-- A command that was written stands behind p. -/
theorem cmd_mid {c : Nat → Int} (h : chkB c = true) (p q : ByteArray) : readE (p ++ cat (cmdF c) ++ q) p.size = 0 ∧ ∀ k, k < 9 → readC (p ++ cat (cmdF c) ++ q) p.size k = c k := by
  have h1 := decs_mid (cmdF c) (fit_cmd h) p q
  rw [cmdF_w, decs_cmd] at h1
  have h2 : ∀ k, k < 9 → rdN (p ++ cat (cmdF c) ++ q) p.size k = numF c k := fun k hk => by
    have h3 := congrArg (fun l => l[k]?) h1
    simpa [cmdF, hk] using h3
  have hz : (p ++ cat (cmdF c) ++ q).size = p.size + 30 + q.size := by
    rw [ByteArray.size_append, ByteArray.size_append, cat_size]; rfl
  have hv : ∀ k, k < 9 → rdC (p ++ cat (cmdF c) ++ q) p.size k = c k := fun k hk => by
    unfold rdC ofF; rw [h2 _ (plc_lt k)]; unfold numF; rw [fld_plc k hk]
  have hE : readE (p ++ cat (cmdF c) ++ q) p.size = 0 := by
    unfold readE
    rw [oB_nat, decide_eq_true (by rw [hz]; omega), if_pos rfl, if_pos (by rw [hz]; omega), Int.toNat_natCast, chkB_congr hv, h]; rfl
  refine ⟨hE, fun k hk => ?_⟩
  unfold readC; rw [hE, if_pos rfl, Int.toNat_natCast]; exact hv k hk
/-- A value that was written is read, wherever it stands. -/
theorem val_mid {c : Nat → Int} {q : Int} {d : Nat → Int} {n : Int} (h : okV c q d n = true) (p z : ByteArray) :
    gvE (p ++ cat (valF c q d n.toNat) ++ z) p.size n = 0 ∧ (∀ k, k < 9 → readC (p ++ cat (valF c q d n.toNat) ++ z) p.size k = c k) ∧ dec (p ++ cat (valF c q d n.toNat) ++ z) (p.size + 30) 4 = q ∧ ∀ k, k < 7 → gvD (p ++ cat (valF c q d n.toNat) ++ z) (p.size + 34) (cl n) k = d k := by
  obtain ⟨h1, h2, h3, h4⟩ := okV_iff.1 h
  obtain ⟨h5, h6⟩ := rightB_iff.1 h4
  have hcl := cl_in h5
  obtain ⟨S, hS⟩ : ∃ S, p ++ cat (valF c q d n.toNat) ++ z = S := ⟨_, rfl⟩
  have hz : S.size = p.size + (34 + 2 * n.toNat) + z.size := by rw [← hS, ByteArray.size_append, ByteArray.size_append, val_size]
  have e1 : S = p ++ cat (cmdF c) ++ (cat ((q, 4) :: depF d n.toNat) ++ z) := by rw [← hS, valF, cat_append]; simp only [ByteArray.append_assoc]
  have e2 : S = p ++ cat (cmdF c) ++ cat ((q, 4) :: depF d n.toNat) ++ z := by rw [e1]; simp only [ByteArray.append_assoc]
  obtain ⟨k1, k2⟩ := cmd_mid h1 p (cat ((q, 4) :: depF d n.toNat) ++ z)
  rw [← e1] at k1 k2
  have hfit := fit_val h
  have k3 := decs_mid ((q, 4) :: depF d n.toNat) (fun f hf => hfit f (List.mem_append_right _ hf)) (p ++ cat (cmdF c)) z
  rw [← e2, ByteArray.size_append, show (cat (cmdF c)).size = 30 by rw [cat_size]; rfl, List.map_cons, List.map_cons, depF_w, decs, decs_dep] at k3
  have k4 : (dec S (p.size + 30) 4 : Int) = q := (List.cons.inj k3).1
  have k5 := (List.cons.inj k3).2
  have k6 : ∀ k, k < 7 → gvD S (p.size + 34) (cl n) k = d k := fun k hk => by
    unfold gvD
    rw [hcl]
    by_cases hkn : k < n.toNat
    · rw [if_pos hkn]
      have k7 := congrArg (fun l => l[k]?) k5
      simpa [depF, hkn] using k7
    · rw [if_neg hkn]
      exact ((okAt_iff.1 (h6 k hk)).2.2 (by omega)).symm
  rw [hS]
  refine ⟨?_, k2, k4, k6⟩
  unfold gvE
  rw [k1, if_pos rfl, Int.toNat_natCast, if_neg (by rw [hcl]; omega), k4, okV_congr k2 k6 h]; rfl
end Go.Proofs.YtngnkjbcnmcngaaDoor.Rc
/- Plain mathematics of layer 16: an instance is read as it was written, and what is read is written as the same bytes; what is cut off, or goes on, is rejected. -/
namespace Go.Proofs.YtngnkjbcnmcngaaDoor.Rc
open Go.RowKit
set_option linter.unusedVariables false
open Go.Proofs.YtngnkjbcnmcngaaDoor.Fx
open Go.Proofs.YtngnkjbcnmcngaaDoor.Cm
open Go.Proofs.YtngnkjbcnmcngaaDoor.Ve (rightB okAt rightB_iff okAt_iff zeroV eqV eqV_iff)
open Go.Proofs.YtngnkjbcnmcngaaDoor.Ba (valB lessB)
/-- What the bytes say of an instance. -/
def insAt (s : ByteArray) (n : Int) : Ins :=
  ⟨dec s 0 1, dec s 1 2, dec s 5 4, dec s 9 1, dec s 10 4, dec s 14 1, dec s 3 1, readC s 15, dec s 45 4, gvD s 49 (cl n), decide (dec s 4 1 = 1)⟩
/-- The error of an instance. -/
def rdE (s : ByteArray) (n : Int) : Int :=
  if s.size < 15 then 2 else if gvE s 15 n = 0 then (if dec s 4 1 ≤ 1 ∧ s.size = 49 + 2 * cl n ∧ okI (insAt s n) n = true then 0 else 3) else gvE s 15 n
theorem bare_congr {i j : Ins} (h : Same i j) : bare i = bare j := by
  have h1 : eqF i.c zeroF = eqF j.c zeroF := by
    have e : ∀ f g : Nat → Int, (∀ k, k < 9 → f k = g k) → eqF f zeroF = true → eqF g zeroF = true := fun f g hfg hf => eqF_iff.2 fun k hk => by rw [← hfg k hk]; exact eqF_iff.1 hf k hk
    cases h1 : eqF i.c zeroF
    · cases h2 : eqF j.c zeroF
      · rfl
      · rw [e _ _ (fun k hk => (h.c k hk).symm) h2] at h1; exact h1.symm
    · exact (e _ _ h.c h1).symm
  have h2 : eqV i.d zeroV = eqV j.d zeroV := by
    have e : ∀ f g : Nat → Int, (∀ k, k < 7 → f k = g k) → eqV f zeroV = true → eqV g zeroV = true := fun f g hfg hf => eqV_iff.2 fun k hk => by rw [← hfg k hk]; exact eqV_iff.1 hf k hk
    cases h1 : eqV i.d zeroV
    · cases h2 : eqV j.d zeroV
      · rfl
      · rw [e _ _ (fun k hk => (h.d k hk).symm) h2] at h1; exact h1.symm
    · exact (e _ _ h.d h1).symm
  unfold bare
  rw [h1, h2, h.q, h.tn, h.tr, h.sm]
theorem okI_congr {i j : Ins} {n : Int} (h : Same i j) (k : okI j n = true) : okI i n = true := by
  obtain ⟨h1, h2, h3, h4, h5, h6, h7, h8⟩ := okI_iff.1 k
  refine okI_iff.2 ⟨h1, ?_, ?_, ?_, ?_, ?_, ?_, ?_⟩
  · rw [h.pr, h.ps]; exact h2
  · rw [h.bn, h.br]; exact h3
  · rw [h.tn, h.tr]; exact h4
  · rw [h.bn, h.br, h.tn, h.tr]; exact h5
  · rw [h.st]; exact h6
  · rw [h.q]; exact okV_congr h.c h.d h7
  · rw [h.st, bare_congr h]; exact h8
theorem flag_one (b : Bool) : decide (flagN b = 1) = b := by cases b <;> rfl
/-- The numbers ahead of the value, of what was written. -/
theorem head_mid {i : Ins} {n : Int} (h : okI i n = true) (z : ByteArray) : (dec (cat (headF i) ++ z) 0 1 : Int) = i.pr ∧ (dec (cat (headF i) ++ z) 1 2 : Int) = i.ps ∧ (dec (cat (headF i) ++ z) 3 1 : Int) = i.st ∧ (dec (cat (headF i) ++ z) 4 1 : Int) = flagN i.sm ∧ (dec (cat (headF i) ++ z) 5 4 : Int) = i.bn ∧ (dec (cat (headF i) ++ z) 9 1 : Int) = i.br ∧ (dec (cat (headF i) ++ z) 10 4 : Int) = i.tn ∧ (dec (cat (headF i) ++ z) 14 1 : Int) = i.tr := by
  have h1 := decs_mid (headF i) (fun f hf => fit_ins h f (List.mem_append_left _ hf)) ByteArray.empty z
  rw [ByteArray.empty_append, headF_w] at h1
  simpa [headF, decs] using h1
theorem head_size (i : Ins) : (cat (headF i)).size = 15 := by rw [cat_size]; rfl
/-- An instance is read as it was written; with more behind it it is of a wrong form (P16.6, P16.7). -/
theorem ins_mid {i : Ins} {n : Int} (h : okI i n = true) (z : ByteArray) : gvE (cat (insF i n.toNat) ++ z) 15 n = 0 ∧ Same (insAt (cat (insF i n.toNat) ++ z) n) i ∧ dec (cat (insF i n.toNat) ++ z) 4 1 ≤ 1 := by
  have e : cat (insF i n.toNat) ++ z = cat (headF i) ++ (cat (valF i.c i.q i.d n.toNat) ++ z) := by rw [insF, cat_append, ByteArray.append_assoc]
  obtain ⟨k0, k1, k2, k3, k4, k5, k6, k7⟩ := head_mid h (cat (valF i.c i.q i.d n.toNat) ++ z)
  obtain ⟨v1, v2, v3, v4⟩ := val_mid (okI_iff.1 h).2.2.2.2.2.2.1 (cat (headF i)) z
  rw [ByteArray.append_assoc, head_size] at v1 v2 v3 v4
  rw [e]
  refine ⟨v1, ⟨k0, k1, k4, k5, k6, k7, k2, v2, v3, v4, ?_⟩, ?_⟩
  · show decide (dec _ 4 1 = 1) = i.sm
    have h1 := flag_one i.sm
    rw [← k3] at h1
    rw [← h1]
    congr 1
    apply propext
    constructor <;> intro h' <;> omega
  · have := flag_bd i.sm
    have h2 : flagN i.sm ≤ 1 := by cases i.sm <;> decide
    omega
theorem read_write {i : Ins} {n : Int} (h : okI i n = true) : rdE (cat (insF i n.toNat)) n = 0 ∧ Same (insAt (cat (insF i n.toNat)) n) i := by
  obtain ⟨h1, h2, h3⟩ := ins_mid h ByteArray.empty
  rw [ByteArray.append_empty] at h1 h2 h3
  have hz := ins_size i n.toNat
  have hcl := cl_in (okI_iff.1 h).1
  refine ⟨?_, h2⟩
  unfold rdE
  rw [if_neg (by omega), if_pos h1, if_pos ⟨h3, by rw [hz, hcl], okI_congr h2 h⟩]
theorem read_more {i : Ins} {n : Int} (h : okI i n = true) (z : ByteArray) (hz0 : 0 < z.size) : rdE (cat (insF i n.toNat) ++ z) n = 3 := by
  obtain ⟨h1, h2, h3⟩ := ins_mid h z
  have hz := ins_size i n.toNat
  have hcl := cl_in (okI_iff.1 h).1
  have hs : (cat (insF i n.toNat) ++ z).size = 49 + 2 * n.toNat + z.size := by rw [ByteArray.size_append, hz]
  unfold rdE
  rw [if_neg (by omega), if_pos h1, if_neg (fun h' => by have := h'.2.1; rw [hs, hcl] at this; omega)]
theorem ext_app (a b : ByteArray) (k : Nat) : (a ++ b).extract 0 (a.size + k) = a ++ b.extract 0 k := by
  apply ByteArray.ext; apply Array.ext'
  rw [Lib.extract_data, app_list, app_list, Lib.extract_data]
  simp only [List.drop_zero, Nat.sub_zero]
  rw [List.take_append, size_len, List.take_of_length_le (by rw [size_len]; omega), Nat.add_sub_cancel_left]
/-- What is cut off is too short (P16.7). -/
theorem read_cut {i : Ins} {n : Int} (h : okI i n = true) (k : Nat) (hk : k < 49 + 2 * n.toNat) : rdE ((cat (insF i n.toNat)).extract 0 k) n = 2 := by
  have hz := ins_size i n.toNat
  have hcl := cl_in (okI_iff.1 h).1
  have hs : ((cat (insF i n.toNat)).extract 0 k).size = k := by rw [ByteArray.size_extract, hz]; omega
  unfold rdE
  rw [hs]
  by_cases h1 : k < 15
  · rw [if_pos h1]
  · have hg : gvE ((cat (insF i n.toNat)).extract 0 k) 15 n = 2 := by
      unfold gvE
      by_cases h2 : k < 45
      · have hr : readE ((cat (insF i n.toNat)).extract 0 k) 15 = 2 := by
          unfold readE
          rw [show (15 : Int) = ((15 : Nat) : Int) from rfl, oB_nat, decide_eq_true (by rw [hs]; omega), if_pos rfl, if_neg (by rw [hs]; omega)]
        rw [hr, if_neg (by decide)]
      · have e1 : cat (insF i n.toNat) = (cat (headF i) ++ cat (cmdF i.c)) ++ cat ((i.q, 4) :: depF i.d n.toNat) := by
          rw [insF, valF, cat_append, cat_append]; simp only [ByteArray.append_assoc]
        have e2 : (cat (headF i) ++ cat (cmdF i.c)).size = 45 := by rw [ByteArray.size_append, head_size, cat_size]; rfl
        have e3 : (cat (insF i n.toNat)).extract 0 k = cat (headF i) ++ cat (cmdF i.c) ++ (cat ((i.q, 4) :: depF i.d n.toNat)).extract 0 (k - 45) := by
          rw [e1, ← ext_app, e2, show 45 + (k - 45) = k by omega]
        have hr := (cmd_mid (okV_iff.1 (okI_iff.1 h).2.2.2.2.2.2.1).1 (cat (headF i)) ((cat ((i.q, 4) :: depF i.d n.toNat)).extract 0 (k - 45))).1
        rw [← e3, head_size] at hr
        rw [show (15 : Int) = ((15 : Nat) : Int) from rfl, hr, if_pos rfl, hs, if_pos (by rw [hcl]; show k < 15 + 34 + _; omega)]
    rw [if_neg h1, hg, if_neg (by decide)]
theorem zip_dep (s : ByteArray) (b n : Nat) (d : Nat → Int) (h : ∀ k, k < n → d k = (dec s (b + 2 * k) 2 : Int)) : (decs s b (List.replicate n 2)).zip (List.replicate n 2) = depF d n := by
  rw [decs_dep]
  unfold depF
  apply List.ext_getElem
  · simp
  · intro i h1 h2
    have hi : i < n := by simpa using h2
    simp [h i hi]
theorem zip_cmd (s : ByteArray) (b : Nat) (c : Nat → Int) (h : ∀ k, k < 9 → numF c k = rdN s b k) : (decs s b widC).zip widC = cmdF c := by
  rw [decs_cmd]
  simp [cmdF, List.range, List.range.loop, widC, wd, h]
theorem zip_app {α β : Type} (a b : List α) (c d : List β) (h : a.length = c.length) : (a ++ b).zip (c ++ d) = a.zip c ++ b.zip d := List.zip_append h
/-- A value that was read is written as those bytes. -/
theorem val_back {s : ByteArray} {a : Int} {n : Int} (h : gvE s a n = 0) : ∃ b : Nat, a = b ∧ b + 34 + 2 * cl n ≤ s.size ∧ okV (readC s a) (dec s (b + 30) 4) (gvD s (b + 34) (cl n)) n = true ∧ (1 ≤ n ∧ n ≤ 7) ∧ cat (valF (readC s a) (dec s (b + 30) 4) (gvD s (b + 34) (cl n)) n.toNat) = s.extract b (b + (34 + 2 * n.toNat)) := by
  unfold gvE at h
  by_cases h1 : readE s a = 0
  · obtain ⟨b, rfl, hb, _, _, _⟩ := write_rd h1
    rw [if_pos h1, Int.toNat_natCast] at h
    by_cases h2 : s.size < b + 34 + 2 * cl n
    · rw [if_pos h2] at h; exact absurd h (by decide)
    · rw [if_neg h2] at h
      by_cases h3 : okV (readC s b) (dec s (b + 30) 4) (gvD s (b + 34) (cl n)) n = true
      · have hn := (rightB_iff.1 (okV_iff.1 h3).2.2.2).1
        have hcl := cl_in hn
        refine ⟨b, rfl, by omega, h3, hn, ?_⟩
        rw [hcl]
        have hC : readC s b = rdC s b := by unfold readC; rw [h1, if_pos rfl, Int.toNat_natCast]
        have e := cat_decs s b (widC ++ (4 :: List.replicate n.toNat 2)) (by rw [wid_append, wid, wid_rep]; show b + (30 + (4 + 2 * n.toNat)) ≤ _; omega)
        rw [decs_append, zip_app _ _ _ _ (by rw [decs_len]), zip_cmd s b (readC s b) (fun k hk => by rw [hC]; unfold numF rdC ofF; rw [plc_fld k hk])] at e
        rw [decs, List.zip_cons_cons, zip_dep s _ n.toNat (gvD s (b + 34) n.toNat) (fun k hk => by unfold gvD; rw [if_pos hk]; rfl)] at e
        rw [wid_append, wid, wid_rep, show wid widC = 30 from rfl, show 30 + (4 + 2 * n.toNat) = 34 + 2 * n.toNat by omega] at e
        exact e
      · rw [if_neg h3] at h; exact absurd h (by decide)
  · rw [if_neg h1] at h; exact absurd h h1
/-- What is read is written as the same bytes (P16.6). -/
theorem write_read {s : ByteArray} {n : Int} (h : rdE s n = 0) : okI (insAt s n) n = true ∧ s.size = 49 + 2 * n.toNat ∧ cat (insF (insAt s n) n.toNat) = s := by
  unfold rdE at h
  by_cases h1 : s.size < 15
  · rw [if_pos h1] at h; exact absurd h (by decide)
  · rw [if_neg h1] at h
    by_cases h2 : gvE s 15 n = 0
    · rw [if_pos h2] at h
      by_cases h3 : dec s 4 1 ≤ 1 ∧ s.size = 49 + 2 * cl n ∧ okI (insAt s n) n = true
      · obtain ⟨k1, k2, k3⟩ := h3
        have hcl := cl_in (okI_iff.1 k3).1
        rw [hcl] at k2
        refine ⟨k3, k2, ?_⟩
        obtain ⟨b, hb, _, _, _, hv⟩ := val_back h2
        obtain rfl : b = 15 := by omega
        have e := cat_decs s 0 [1, 2, 1, 1, 4, 1, 4, 1] (by show 0 + 15 ≤ _; omega)
        have hf : flagN (decide (dec s 4 1 = 1)) = dec s 4 1 := by
          by_cases h9 : dec s 4 1 = 1
          · rw [h9]; rfl
          · rw [decide_eq_false h9]; show (0 : Int) = _; omega
        have e2 : (decs s 0 [1, 2, 1, 1, 4, 1, 4, 1]).zip [1, 2, 1, 1, 4, 1, 4, 1] = headF (insAt s n) := by
          simp [decs, headF, insAt, hf]
        rw [e2] at e
        unfold insF
        rw [cat_append, e]
        have hv : cat (valF (insAt s n).c (insAt s n).q (insAt s n).d n.toNat) = s.extract 15 (15 + (34 + 2 * n.toNat)) := hv
        rw [hv, show 0 + wid [1, 2, 1, 1, 4, 1, 4, 1] = 15 from rfl, ext_cat s 0 15 _ (by omega) (by omega)]
        apply ByteArray.ext; apply Array.ext'
        rw [Lib.extract_data, List.drop_zero, List.take_of_length_le (by rw [size_len]; omega)]
      · rw [if_neg h3] at h; exact absurd h (by decide)
    · rw [if_neg h2] at h; exact absurd h h2
end Go.Proofs.YtngnkjbcnmcngaaDoor.Rc
