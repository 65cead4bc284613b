/- As many as are needed: who reads what (Brewer and Nash). -/
import Derived.Test.YtdiaglaokgehbaaWl2
import Derived.Test.YtdiaglaokgehbaaMath
namespace Go.Proofs.Ytdiaglaokgehbaa
open Go.RowKit

/-- The place of a firm among those of its class. -/
def plW (cl : List Int) (f : Int) : List Int → Nat
  | [] => 0
  | g :: D => if g = f then 0 else (if atI cl g.toNat = atI cl f.toNat then 1 else 0) + plW cl f D
theorem plW_le (cl : List Int) (f : Int) (D : List Int) : plW cl f D ≤ D.length := by
  induction D with
  | nil => exact Nat.le_refl _
  | cons g D ih =>
    simp only [plW, List.length_cons]
    split
    · omega
    · split <;> omega
theorem plW_append {cl : List Int} {f : Int} {D : List Int} (h : f ∈ D) (E : List Int) : plW cl f (D ++ E) = plW cl f D := by
  induction D with
  | nil => simp at h
  | cons g D ih =>
    simp only [List.cons_append, plW]
    split
    · rfl
    · rename_i h1
      rw [ih ((List.mem_cons.1 h).resolve_left fun e => h1 e.symm)]
theorem plW_inj {cl : List Int} {f g : Int} {D : List Int} (hf : f ∈ D) (hg : g ∈ D) (hc : atI cl f.toNat = atI cl g.toNat) (hp : plW cl f D = plW cl g D) : f = g := by
  induction D with
  | nil => simp at hf
  | cons x D ih =>
    simp only [plW] at hp
    by_cases h1 : x = f
    · by_cases h2 : x = g
      · exact h1.symm.trans h2
      · rw [if_pos h1, if_neg h2, if_pos (by rw [h1]; exact hc)] at hp; omega
    · by_cases h2 : x = g
      · rw [if_neg h1, if_pos h2, if_pos (by rw [h2]; exact hc.symm)] at hp; omega
      · rw [if_neg h1, if_neg h2, hc] at hp
        exact ih ((List.mem_cons.1 hf).resolve_left fun e => h1 e.symm) ((List.mem_cons.1 hg).resolve_left fun e => h2 e.symm) (by omega)
theorem plW_count {cl : List Int} {f : Int} {D : List Int} (h : f ∈ D) : plW cl f D < (D.filter fun g => decide (atI cl g.toNat = atI cl f.toNat)).length := by
  induction D with
  | nil => simp at h
  | cons g D ih =>
    simp only [plW]
    by_cases h1 : g = f
    · subst h1; simp
    · rw [if_neg h1]
      have := ih ((List.mem_cons.1 h).resolve_left fun e => h1 e.symm)
      by_cases h2 : atI cl g.toNat = atI cl f.toNat
      · rw [if_pos h2, List.filter_cons_of_pos (by simpa using h2), List.length_cons]; omega
      · rw [if_neg h2, List.filter_cons_of_neg (by simpa using h2)]; omega
theorem manyW_eq (fi cl : List Int) (a k : Nat) : manyW fi cl a k = ((List.range k).filter fun x => decide (atI cl x = atI cl a ∧ (x : Int) ∈ fi)).length := by
  induction k with
  | zero => rfl
  | succ k ih =>
    rw [manyW, List.range_succ, List.filter_append, List.length_append, ih]
    congr 1
    by_cases h : atI cl k = atI cl a ∧ (k : Int) ∈ fi
    · rw [if_pos h, List.filter_cons_of_pos (by simpa using h)]; rfl
    · rw [if_neg h, List.filter_cons_of_neg (by simpa using h)]; rfl
theorem many_most {fi cl : List Int} {n a : Nat} (h : a < n) (hf : (a : Int) ∈ fi) : manyW fi cl a cl.length ≤ mostW fi cl n := by
  induction n with
  | zero => omega
  | succ n ih =>
    unfold mostW
    by_cases e : a = n
    · subst e
      split
      · exact Nat.le_refl _
      · rename_i h1
        have : ¬ mostW fi cl a < manyW fi cl a cl.length := fun h2 => h1 ⟨h2, hf⟩
        omega
    · have := ih (by omega)
      split
      · rename_i h1; omega
      · exact this
theorem plW_lt {fi cl D : List Int} {f : Int} (hn : D.Nodup) (h : ∀ g ∈ D, 0 ≤ g ∧ g < (cl.length : Int) ∧ g ∈ fi) (hf : f ∈ D) : plW cl f D < mostW fi cl cl.length := by
  have h1 := plW_count (cl := cl) hf
  obtain ⟨h0, h2, h3⟩ := h f hf
  have h4 := many_most (fi := fi) (cl := cl) (n := cl.length) (a := f.toNat) (by omega) (by rw [Int.toNat_of_nonneg h0]; exact h3)
  have h5 : (D.filter fun g => decide (atI cl g.toNat = atI cl f.toNat)).length ≤ manyW fi cl f.toNat cl.length := by
    rw [manyW_eq]
    have hinj : (((D.filter fun g => decide (atI cl g.toNat = atI cl f.toNat)).map Int.toNat)).Nodup := by
      have : ∀ l : List Int, l.Nodup → (∀ g ∈ l, 0 ≤ g) → (l.map Int.toNat).Nodup := by
        intro l hl hp
        induction l with
        | nil => simp
        | cons x l ih =>
          rw [List.nodup_cons] at hl
          rw [List.map_cons, List.nodup_cons]
          refine ⟨fun hm => ?_, ih hl.2 fun g hg => hp g (List.mem_cons_of_mem _ hg)⟩
          obtain ⟨y, hy, e⟩ := List.mem_map.1 hm
          have hx := hp x List.mem_cons_self
          have hy0 := hp y (List.mem_cons_of_mem _ hy)
          have : y = x := by omega
          subst this
          exact hl.1 hy
      exact this _ (List.Pairwise.filter _ hn) fun g hg => (h g (List.mem_filter.1 hg).1).1
    have := nodup_sub_length _ ((List.range cl.length).filter fun x => decide (atI cl x = atI cl f.toNat ∧ (x : Int) ∈ fi)) hinj (fun x hx => by
      obtain ⟨g, hg, rfl⟩ := List.mem_map.1 hx
      obtain ⟨hg1, hg2⟩ := List.mem_filter.1 hg
      obtain ⟨k0, k1, k2⟩ := h g hg1
      rw [List.mem_filter, List.mem_range, decide_eq_true_iff]
      exact ⟨by omega, by simpa using hg2, by rw [Int.toNat_of_nonneg k0]; exact k2⟩)
    rw [List.length_map] at this
    exact this
  omega

/-- The firms that have come, in order. -/
def doneW (fi : List Int) : Nat → List Int
  | 0 => []
  | i + 1 => if atI fi i < 0 ∨ atI fi i ∈ doneW fi i then doneW fi i else doneW fi i ++ [atI fi i]
def fewD (fi cl : List Int) (i : Nat) : Dd := ⟨1, (plW cl (atI fi i) (doneW fi (i + 1)) : Nat), i, 0, 0, 0⟩
/-- The deeds. -/
def fewL (fi cl : List Int) : Nat → List Dd
  | 0 => []
  | i + 1 => if atI fi i < 0 then fewL fi cl i else fewL fi cl i ++ [fewD fi cl i]
theorem fewL_length (fi cl : List Int) (i : Nat) : (fewL fi cl i).length ≤ i := by
  induction i with
  | zero => exact Nat.le_refl _
  | succ i ih => unfold fewL; split
                 · omega
                 · rw [List.length_append]; simp; omega
theorem doneW_length (fi : List Int) (i : Nat) : (doneW fi i).length ≤ i := by
  induction i with
  | zero => exact Nat.le_refl _
  | succ i ih => unfold doneW; split
                 · omega
                 · rw [List.length_append]; simp; omega
theorem done_grow (fi : List Int) (i : Nat) : ∃ E, doneW fi (i + 1) = doneW fi i ++ E := by
  rw [doneW]
  split
  · exact ⟨[], by simp⟩
  · exact ⟨_, rfl⟩
theorem done_last {fi : List Int} {i : Nat} (h : 0 ≤ atI fi i) : atI fi i ∈ doneW fi (i + 1) := by
  rw [doneW]
  split
  · rename_i h1
    exact h1.resolve_left (by omega)
  · simp
theorem done_fine {fi : List Int} {n i : Nat} (h : ∀ f ∈ fi, -1 ≤ f ∧ f < (n : Int)) (hi : i ≤ fi.length) : (doneW fi i).Nodup ∧ ∀ g ∈ doneW fi i, 0 ≤ g ∧ g < (n : Int) ∧ g ∈ fi := by
  induction i with
  | zero => exact ⟨by simp [doneW], by simp [doneW]⟩
  | succ i ih =>
    obtain ⟨h1, h2⟩ := ih (by omega)
    rw [doneW]
    split
    · exact ⟨h1, h2⟩
    · rename_i h3
      have hm := List.mem_of_getElem? (atI_get (show i < fi.length by omega))
      refine ⟨?_, fun g hg => ?_⟩
      · rw [List.nodup_append]
        exact ⟨h1, by simp, fun a ha b hb e => by simp at hb; subst hb; subst e; exact h3 (.inr ha)⟩
      · rcases List.mem_append.1 hg with hg | hg
        · exact h2 g hg
        · simp at hg
          subst hg
          exact ⟨by omega, (h _ hm).2, hm⟩
theorem runW_snoc {fi cl : List Int} {nc nt : Nat} (l : List Dd) (d : Dd) : runW fi cl nc nt (l ++ [d]) =
    ((runW fi cl nc nt l).1 ++ [(stepW fi cl nc nt (runW fi cl nc nt l).2 d).1], (stepW fi cl nc nt (runW fi cl nc nt l).2 d).2) := by
  unfold runW
  rw [List.foldl_append]
  rfl
/-- What each one has read so far. -/
def FewInv (fi cl : List Int) (nc i : Nat) (s : Wst) : Prop := ∀ b, b < nc → ∀ t, (s.rd b).testBit t = true → t < i ∧ 0 ≤ atI fi t ∧ atI fi t ∈ doneW fi i ∧ plW cl (atI fi t) (doneW fi i) = b
theorem few_run {fi cl : List Int} {i : Nat} (h : ∀ f ∈ fi, -1 ≤ f ∧ f < (cl.length : Int)) (hi : i ≤ fi.length) :
    (∀ c ∈ (runW fi cl (mostW fi cl cl.length) fi.length (fewL fi cl i)).1, c = 0) ∧ FewInv fi cl (mostW fi cl cl.length) i (runW fi cl (mostW fi cl cl.length) fi.length (fewL fi cl i)).2 := by
  induction i with
  | zero => exact ⟨by simp [fewL, runW], fun b _ t ht => by simp [fewL, runW, startW] at ht⟩
  | succ i ih =>
    obtain ⟨h1, h2⟩ := ih (by omega)
    obtain ⟨E, hE⟩ := done_grow fi i
    have keep : ∀ t, atI fi t ∈ doneW fi i → atI fi t ∈ doneW fi (i + 1) ∧ plW cl (atI fi t) (doneW fi (i + 1)) = plW cl (atI fi t) (doneW fi i) := fun t ht => by
      rw [hE]
      exact ⟨List.mem_append_left _ ht, plW_append ht E⟩
    unfold fewL
    by_cases hf : atI fi i < 0
    · rw [if_pos hf]
      refine ⟨h1, fun b hb t ht => ?_⟩
      obtain ⟨k1, k2, k3, k4⟩ := h2 b hb t ht
      exact ⟨by omega, k2, (keep t k3).1, by rw [(keep t k3).2]; exact k4⟩
    · rw [if_neg hf, runW_snoc]
      obtain ⟨g1, g2⟩ := done_fine (n := cl.length) (fi := fi) (i := i + 1) h hi
      have hm := done_last (fi := fi) (i := i) (by omega)
      have hp := plW_lt g1 g2 hm
      have hst : stepW fi cl (mostW fi cl cl.length) fi.length (runW fi cl (mostW fi cl cl.length) fi.length (fewL fi cl i)).2 (fewD fi cl i) = (0, readW (runW fi cl (mostW fi cl cl.length) fi.length (fewL fi cl i)).2 (plW cl (atI fi i) (doneW fi (i + 1))) i) := by
        generalize runW fi cl (mostW fi cl cl.length) fi.length (fewL fi cl i) = r at *
        unfold stepW
        rw [if_neg (by simp [fewD]), if_neg (by unfold ArgBadW fewD; simp only; omega), if_neg, if_pos (by simp [fewD])]
        · simp [fewD]
        · rw [deny_iff]
          rintro ⟨k, hk, hb, hbad⟩
          simp only [fewD, Int.toNat_natCast] at hb hbad
          obtain ⟨k1, k2, k3, k4⟩ := h2 _ hp k hb
          unfold badW at hbad
          rw [decide_eq_true_iff] at hbad
          rcases hbad with ⟨_, hcl⟩ | ⟨h3, _⟩
          · exact hcl.2.2.1 (plW_inj (keep k k3).1 hm hcl.2.2.2 (by rw [(keep k k3).2]; exact k4))
          · omega
      rw [hst]
      refine ⟨fun c hc => ?_, fun b hb t ht => ?_⟩
      · rcases List.mem_append.1 hc with hc | hc
        · exact h1 c hc
        · simpa using hc
      · simp only [readW] at ht
        by_cases e : b = plW cl (atI fi i) (doneW fi (i + 1))
        · rw [e, updA_same] at ht
          rcases (bit_or _ _ _).1 ht with ht | ht
          · obtain ⟨k1, k2, k3, k4⟩ := h2 _ (by rw [← e]; exact hb) t ht
            exact ⟨by omega, k2, (keep t k3).1, by rw [(keep t k3).2, k4, e]⟩
          · obtain rfl := bit_one.1 ht
            exact ⟨by omega, by omega, hm, e.symm⟩
        · rw [updA_other e] at ht
          obtain ⟨k1, k2, k3, k4⟩ := h2 b hb t ht
          exact ⟨by omega, k2, (keep t k3).1, by rw [(keep t k3).2]; exact k4⟩
theorem most_zero {fi cl : List Int} (h : ∀ f ∈ fi, -1 ≤ f ∧ f < (cl.length : Int)) (h0 : mostW fi cl cl.length = 0) : ∀ f ∈ fi, f = -1 := by
  intro f hf
  obtain ⟨h1, h2⟩ := h f hf
  apply Classical.byContradiction
  intro hne
  have hf0 : 0 ≤ f := by omega
  have := plW_lt (fi := fi) (cl := cl) (D := [f]) (f := f) (by simp) (fun g hg => by simp at hg; subst hg; exact ⟨hf0, h2, hf⟩) (by simp)
  omega

end Go.Proofs.Ytdiaglaokgehbaa
