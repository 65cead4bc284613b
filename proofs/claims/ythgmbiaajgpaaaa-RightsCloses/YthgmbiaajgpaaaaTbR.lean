/- A table of a call's own: a made slice of made slices. -/
import Derived.Test.YthgmbiaajgpaaaaRm
import Derived.Test.YthgmbiaajgpaaaaRegI
import Derived.Test.YthgmbiaajgpaaaaMk
namespace Go.Proofs.Ythgmbiaajgpaaaa
open Go.RowKit

theorem RowsM.perm {w0 w : World} {rs rs' : List Rw} (h : RowsM w0 rs w) (hp : rs.Perm rs') : RowsM w0 rs' w := by
  have hpw : rs.Pairwise (fun r s => r.off s) := by
    rw [List.pairwise_iff_getElem]
    intro i j hi hj hij
    exact h.off i j _ _ (List.getElem?_eq_getElem hi) (List.getElem?_eq_getElem hj) (by omega)
  have hpw' : rs'.Pairwise (fun r s => r.off s) := (hp.pairwise_iff (fun {x y} hxy => Rw.off_symm hxy)).1 hpw
  rw [List.pairwise_iff_getElem] at hpw'
  refine ⟨fun i r hr => ?_, fun i j r s hr hs hij => ?_, h.below⟩
  · have hm : r ∈ rs := hp.mem_iff.2 (List.mem_of_getElem? hr)
    obtain ⟨k, hk⟩ := List.getElem?_of_mem hm
    exact h.at_ k r hk
  · obtain ⟨h1, e1⟩ := List.getElem?_eq_some_iff.1 hr
    obtain ⟨h2, e2⟩ := List.getElem?_eq_some_iff.1 hs
    subst e1 e2
    rcases Nat.lt_or_gt_of_ne hij with hlt | hlt
    · exact hpw' i j h1 h2 hlt
    · exact Rw.off_symm (hpw' j i h2 h1 hlt)
/-- A row of a table, at its block, with its room. -/
def rowT (ei : TypeId) (N : Nat) (gc : Nat × Nat) (r : Nat → Value) : Rw := ⟨ei, 1, .slice (some ⟨gc.1, 0, none⟩) N gc.2, N, tabA N r⟩
def outT (N m : Nat) (gc : Nat → Nat × Nat) (i : Nat) : Value := if i < m then .slice (some ⟨(gc i).1, 0, none⟩) N (gc i).2 else .slice none 0 0
/-- The first m rows of a table of N by N are laid. -/
def rowsT (eo ei : TypeId) (go N m : Nat) (gc : Nat → Nat × Nat) (f : Nat → Nat → Value) : List Rw :=
  ⟨eo, 1, .slice (some ⟨go, 0, none⟩) N N, N, tabA N (outT N m gc)⟩ :: tabA m (fun i => rowT ei N (gc i) (f i))
theorem rowsT_len (eo ei : TypeId) (go N m : Nat) (gc : Nat → Nat × Nat) (f : Nat → Nat → Value) : (rowsT eo ei go N m gc f).length = m + 1 := by simp [rowsT]
theorem rowsT_congr {eo ei : TypeId} {go N m : Nat} {gc : Nat → Nat × Nat} {f f' : Nat → Nat → Value} (h : ∀ i p, i < m → p < N → f i p = f' i p) : rowsT eo ei go N m gc f = rowsT eo ei go N m gc f' := by
  unfold rowsT
  congr 1
  refine tabA_congr fun i hi => ?_
  unfold rowT
  rw [tabA_congr fun p hp => h i p hi hp]
def upd2 (f : Nat → Nat → Value) (i p : Nat) (v : Value) : Nat → Nat → Value := updA f i (updA (f i) p v)
theorem upd2_same (f : Nat → Nat → Value) (i p : Nat) (v : Value) : upd2 f i p v i p = v := by simp [upd2, updA]
theorem upd2_other {f : Nat → Nat → Value} {i p j q : Nat} {v : Value} (h : ¬ (j = i ∧ q = p)) : upd2 f i p v j q = f j q := by
  unfold upd2 updA
  by_cases e : j = i
  · subst e
    rw [if_pos rfl, if_neg fun e => h ⟨rfl, e⟩]
  · rw [if_neg e]
section
variable {w0 w : World} {eo ei : TypeId} {go N m : Nat} {gc : Nat → Nat × Nat} {f : Nat → Nat → Value} {ex : List Rw}
theorem rowsT_row {i : Nat} (hi : i < m) : (rowsT eo ei go N m gc f ++ ex)[i + 1]? = some ⟨ei, 1, .slice (some ⟨(gc i).1, 0, none⟩) N (gc i).2, N, tabA N (f i)⟩ := by
  rw [List.getElem?_append_left (by rw [rowsT_len]; omega)]
  unfold rowsT
  rw [List.getElem?_cons_succ, tabA_get _ hi]
  rfl
theorem tabR_outer (h : RowsM w0 (rowsT eo ei go N m gc f ++ ex) w) {i : Nat} (hi : i < m) (hN : i < N) : w.cell? ⟨go, i, none⟩ = some (.slice (some ⟨(gc i).1, 0, none⟩) N (gc i).2) :=
  h.cell (k := 0) rfl (by rw [tabA_get _ hN]; unfold outT; rw [if_pos hi])
theorem tabR_at (h : RowsM w0 (rowsT eo ei go N m gc f ++ ex) w) {i p : Nat} (hi : i < m) (hp : p < N) : w.cell? ⟨(gc i).1, p, none⟩ = some (f i p) :=
  h.cell (k := i + 1) (rowsT_row hi) (tabA_get _ hp)
theorem tabR_free (h : RowsM w0 (rowsT eo ei go N m gc f ++ ex) w) {i : Nat} (hi : i < m) (p : Nat) : w.frozen? ⟨(gc i).1, p, none⟩ = false :=
  h.free (k := i + 1) (rowsT_row hi) p
theorem tabR_put (h : RowsM w0 (rowsT eo ei go N m gc f ++ ex) w) {i p : Nat} (hi : i < m) (v : Value) :
    RowsM w0 (rowsT eo ei go N m gc (upd2 f i p v) ++ ex) (w.setCell ⟨(gc i).1, p, none⟩ v) := by
  have hs := h.store (k := i + 1) (rowsT_row hi) p v
  rw [List.set_append_left _ _ (by rw [rowsT_len]; omega)] at hs
  rw [show rowsT eo ei go N m gc (upd2 f i p v) = (rowsT eo ei go N m gc f).set (i + 1) ⟨ei, 1, .slice (some ⟨(gc i).1, 0, none⟩) N (gc i).2, N, (tabA N (f i)).set p v⟩ by
    unfold rowsT
    rw [List.set_cons_succ, tabA_set, tabA_set]
    congr 1
    refine tabA_congr fun j hj => ?_
    unfold upd2 updA
    by_cases e : j = i
    · subst e; rw [if_pos rfl, if_pos rfl]; rfl
    · rw [if_neg e, if_neg e]]
  exact hs
theorem madeNil (N : Nat) : (madeCells #[Value.slice none 0 0] N).toList = List.replicate N (.slice none 0 0) := by
  exact toList_madeCells_one _ _
theorem madeOne (z : Value) (N : Nat) : (madeCells #[z] N).toList = tabA N (fun _ => z) := by
  rw [toList_madeCells_one]
  unfold tabA
  rw [List.map_const', List.length_range]
theorem tabR_start (h : RowsM w0 (ex ++ [⟨eo, 1, .slice (some ⟨go, 0, none⟩) N N, N, (madeCells #[Value.slice none 0 0] N).toList⟩]) w) (ei : TypeId) (gc : Nat → Nat × Nat) (f : Nat → Nat → Value) : RowsM w0 (rowsT eo ei go N 0 gc f ++ ex) w := by
  rw [madeNil] at h
  have := h.first
  unfold rowsT
  rw [show tabA N (outT N 0 gc) = List.replicate N (Value.slice none 0 0) by
    unfold tabA outT
    simp only [Nat.not_lt_zero, if_false]
    rw [List.map_const', List.length_range]]
  exact this
/-- One row more. -/
theorem tabR_next {g c : Nat} {r : Nat → Value} (h : RowsM w0 ((rowsT eo ei go N m gc f ++ ex) ++ [⟨ei, 1, .slice (some ⟨g, 0, none⟩) N c, N, tabA N r⟩]) w) (hm : m < N) :
    RowsM w0 (rowsT eo ei go N (m + 1) (updA gc m (g, c)) (updA f m r) ++ ex) (w.setCell ⟨go, m, none⟩ (.slice (some ⟨g, 0, none⟩) N c)) := by
  have hs := h.store (k := 0) rfl m (.slice (some ⟨g, 0, none⟩) N c)
  refine hs.perm ?_
  unfold rowsT
  simp only [List.cons_append, List.set_cons_zero]
  rw [tabA_set, tabA_succ]
  have e1 : tabA N (updA (outT N m gc) m (.slice (some ⟨g, 0, none⟩) N c)) = tabA N (outT N (m + 1) (updA gc m (g, c))) := by
    refine tabA_congr fun i hi => ?_
    unfold outT updA
    by_cases e : i = m
    · subst e; rw [if_pos rfl, if_pos (by omega), if_pos rfl]
    · rw [if_neg e]; simp only [if_neg e]
      by_cases hlt : i < m
      · have h2 : i < m + 1 := by omega
        simp only [hlt, h2, if_true]
      · have h2 : ¬ i < m + 1 := by omega
        simp only [hlt, h2, if_false]
  have e2 : tabA m (fun i => rowT ei N (gc i) (f i)) = tabA m (fun i => rowT ei N (updA gc m (g, c) i) (updA f m r i)) := by
    refine tabA_congr fun i hi => ?_
    rw [updA_other (by omega), updA_other (by omega)]
  rw [e1, e2, updA_same, updA_same, List.append_assoc, List.append_assoc]
  refine List.Perm.cons _ (List.Perm.append_left _ ?_)
  exact List.perm_append_comm
end

theorem concat_get {l : List Rw} {a : Rw} : (l ++ [a])[l.length]? = some a := by simp
theorem concat_set {l : List Rw} {a b : Rw} : (l ++ [a]).set l.length b = l ++ [b] := by
  rw [List.set_append_right _ _ (Nat.le_refl _), Nat.sub_self]
  rfl
/-- How far one has come in row s, at column p. -/
structure Mid (N s p : Nat) (fin old : Nat → Nat → Value) (cur : Value) (f : Nat → Nat → Value) : Prop where
  done : ∀ i q, i < s → q < N → f i q = fin i q
  left : ∀ q, q < p → f s q = fin s q
  here : f s p = cur
  right : ∀ q, p < q → q < N → f s q = old s q
structure Lef (N s p : Nat) (fin old : Nat → Nat → Value) (f : Nat → Nat → Value) : Prop where
  done : ∀ i q, i < s → q < N → f i q = fin i q
  left : ∀ q, q < p → f s q = fin s q
  right : ∀ q, p ≤ q → q < N → f s q = old s q
section
variable {N s p : Nat} {fin old f : Nat → Nat → Value} {cur v : Value}
theorem Mid.set (h : Mid N s p fin old cur f) : Mid N s p fin old v (upd2 f s p v) :=
  ⟨fun i q hi hq => by rw [upd2_other (by omega)]; exact h.done i q hi hq, fun q hq => by rw [upd2_other (by omega)]; exact h.left q hq, upd2_same _ _ _ _, fun q h1 h2 => by rw [upd2_other (by omega)]; exact h.right q h1 h2⟩
theorem Lef.mid (h : Lef N s p fin old f) (hp : p < N) : Mid N s p fin old (old s p) f :=
  ⟨h.done, h.left, h.right p (Nat.le_refl _) hp, fun q h1 h2 => h.right q (by omega) h2⟩
theorem Mid.next (h : Mid N s p fin old (fin s p) f) : Lef N s (p + 1) fin old f :=
  ⟨h.done, fun q hq => by
    by_cases e : q = p
    · subst e; exact h.here
    · exact h.left q (by omega), fun q h1 h2 => h.right q (by omega) h2⟩
theorem Lef.whole (h : Lef N s N fin old f) : ∀ i q, i < s + 1 → q < N → f i q = fin i q := fun i q hi hq => by
  by_cases e : i = s
  · subst e; exact h.left q hq
  · exact h.done i q (by omega) hq
end

end Go.Proofs.Ythgmbiaajgpaaaa
