/- What a script keeps: no words come up, none are lost; the other way up. -/
import Derived.Test.YtdiaglaokgehbaaMk
namespace Go.Proofs.Ytdiaglaokgehbaa
open Go.RowKit

section
variable {cl th : Nat → Lab} {nc nt : Nat}
theorem or_bit (a b i : Nat) : (a ||| b).testBit i = true ↔ a.testBit i = true ∨ b.testBit i = true := by rw [Nat.testBit_or, Bool.or_eq_true_iff]
theorem one_bit {t j : Nat} (h : (one t).testBit j = true) : t = j := by rw [one_testBit] at h; simpa using h

/-! ## Bell and LaPadula -/
def FlowUp (cl th : Nat → Lab) (nc nt : Nat) (s : Ms) : Prop :=
  (∀ b, b < nc → underL (s.mar b) (cl b) = true) ∧ (∀ b, b < nc → ∀ j, (s.kn b).testBit j = true → underL (th j) (s.mar b) = true) ∧
    ∀ t, t < nt → (s.fr t).testBit t = true ∧ ∀ j, (s.fr t).testBit j = true → underL (th j) (th t) = true
theorem flow_step {s : Ms} (d : Dd) (hc : ∀ b, b < nc → LabOk (cl b)) (h : FlowUp cl th nc nt s) : FlowUp cl th nc nt (stepM true cl th nc nt s d).2 := by
  obtain ⟨h1, h2, h3⟩ := h
  refine step_inv (P := FlowUp cl th nc nt) d ⟨h1, h2, h3⟩ (fun b hb => ⟨fun x hx => ?_, fun x hx j hj => ?_, h3⟩) (fun b t hb htt hd => ⟨fun x hx => ?_, fun x hx j hj => ?_, h3⟩) (fun b t hb htt hd => ⟨h1, h2, fun x hx => ?_⟩)
  · by_cases e : x = b
    · subst e; simp only [dropM]; rw [updA_same]; exact low_under (hc x hx)
    · simp only [dropM]; rw [updA_other e]; exact h1 x hx
  · by_cases e : x = b
    · subst e; simp only [dropM] at hj; rw [updA_same] at hj; simp at hj
    · simp only [dropM] at hj ⊢; rw [updA_other e] at hj ⊢; exact h2 x hx j hj
  · by_cases e : x = b
    · subst e; simp only [readM]; rw [updA_same]; exact hd rfl
    · simp only [readM]; rw [updA_other e]; exact h1 x hx
  · by_cases e : x = b
    · subst e
      simp only [readM] at hj ⊢
      rw [updA_same] at hj ⊢
      rcases (or_bit _ _ _).1 hj with h | h
      · exact under_trans (h2 x hx j h) (under_joinL _ _)
      · exact under_trans ((h3 t htt).2 j h) (under_joinR _ _)
    · simp only [readM] at hj ⊢; rw [updA_other e] at hj ⊢; exact h2 x hx j hj
  · by_cases e : x = t
    · subst e
      simp only [writeM]
      rw [updA_same]
      refine ⟨(or_bit _ _ _).2 (.inl (h3 x hx).1), fun j hj => ?_⟩
      rcases (or_bit _ _ _).1 hj with h | h
      · exact (h3 x hx).2 j h
      · exact under_trans (h2 b hb j h) hd
    · simp only [writeM]; rw [updA_other e]; exact h3 x hx
theorem flow_run (hc : ∀ b, b < nc → LabOk (cl b)) (l : List Dd) : FlowUp cl th nc nt (runM true cl th nc nt l).2 :=
  run_inv (up := true) (P := FlowUp cl th nc nt) ⟨fun b hb => low_under (hc b hb), fun _ _ j hj => by simp [startM] at hj, fun t _ => ⟨by simp [startM, one_testBit], fun j hj => by rw [one_bit hj]; exact under_refl _⟩⟩ (fun _ d h => flow_step d hc h) l

/-! ## Biba -/
def FlowLow (cl th : Nat → Lab) (nc nt : Nat) (s : Ms) : Prop :=
  (∀ b, b < nc → underL (s.mar b) (cl b) = true) ∧ (∀ b, b < nc → ∀ j, (s.kn b).testBit j = true → underL (s.mar b) (th j) = true) ∧
    ∀ t, t < nt → ∀ j, (s.fr t).testBit j = true → underL (th t) (th j) = true
theorem low_step {s : Ms} (d : Dd) (h : FlowLow cl th nc nt s) : FlowLow cl th nc nt (stepM false cl th nc nt s d).2 := by
  obtain ⟨h1, h2, h3⟩ := h
  refine step_inv (P := FlowLow cl th nc nt) d ⟨h1, h2, h3⟩ (fun b hb => ⟨fun x hx => ?_, fun x hx j hj => ?_, h3⟩) (fun b t hb htt hd => ⟨fun x hx => ?_, fun x hx j hj => ?_, h3⟩) (fun b t hb htt hd => ⟨h1, h2, fun x hx j hj => ?_⟩)
  · by_cases e : x = b
    · subst e; simp only [dropM]; rw [updA_same]; exact under_refl _
    · simp only [dropM]; rw [updA_other e]; exact h1 x hx
  · by_cases e : x = b
    · subst e; simp only [dropM] at hj; rw [updA_same] at hj; simp at hj
    · simp only [dropM] at hj ⊢; rw [updA_other e] at hj ⊢; exact h2 x hx j hj
  · by_cases e : x = b
    · subst e; simp only [readM]; rw [updA_same]; exact under_trans (meet_underL _ _) (h1 x hx)
    · simp only [readM]; rw [updA_other e]; exact h1 x hx
  · by_cases e : x = b
    · subst e
      simp only [readM] at hj ⊢
      rw [updA_same] at hj ⊢
      rcases (or_bit _ _ _).1 hj with h | h
      · exact under_trans (meet_underL _ _) (h2 x hx j h)
      · exact under_trans (meet_underR _ _) (h3 t htt j h)
    · simp only [readM] at hj ⊢; rw [updA_other e] at hj ⊢; exact h2 x hx j hj
  · by_cases e : x = t
    · subst e
      simp only [writeM] at hj
      rw [updA_same] at hj
      rcases (or_bit _ _ _).1 hj with h | h
      · exact h3 x hx j h
      · exact under_trans hd (h2 b hb j h)
    · simp only [writeM] at hj; rw [updA_other e] at hj; exact h3 x hx j hj
theorem low_run (l : List Dd) : FlowLow cl th nc nt (runM false cl th nc nt l).2 :=
  run_inv (up := false) (P := FlowLow cl th nc nt) ⟨fun _ _ => under_refl _, fun _ _ j hj => by simp [startM] at hj, fun t _ j hj => by rw [one_bit hj]; exact under_refl _⟩ (fun _ d h => low_step d h) l
end

/-! ## What was done by then -/
section
variable {up : Bool} {cl th : Nat → Lab} {nc nt : Nat}
theorem run_front (l : List Dd) (i : Nat) : ∃ r, (runM up cl th nc nt l).1 = (runM up cl th nc nt (l.take i)).1 ++ r ∧ ∀ t, sub ((runM up cl th nc nt (l.take i)).2.fr t) ((runM up cl th nc nt l).2.fr t) = true := by
  have : ∀ (l : List Dd) (a : List Int × Ms), ∃ r, (l.foldl (fun a d => (a.1 ++ [(stepM up cl th nc nt a.2 d).1], (stepM up cl th nc nt a.2 d).2)) a).1 = a.1 ++ r ∧
      ∀ t, sub (a.2.fr t) ((l.foldl (fun a d => (a.1 ++ [(stepM up cl th nc nt a.2 d).1], (stepM up cl th nc nt a.2 d).2)) a).2.fr t) = true := by
    intro l
    induction l with
    | nil => intro a; exact ⟨[], by simp, fun t => sub_refl _⟩
    | cons d l ih =>
      intro a
      obtain ⟨r, h1, h2⟩ := ih (a.1 ++ [(stepM up cl th nc nt a.2 d).1], (stepM up cl th nc nt a.2 d).2)
      refine ⟨[(stepM up cl th nc nt a.2 d).1] ++ r, by rw [List.foldl_cons, h1]; simp, fun t => ?_⟩
      refine sub_trans ?_ (h2 t)
      show sub (a.2.fr t) ((stepM up cl th nc nt a.2 d).2.fr t) = true
      refine step_inv (P := fun s => sub (a.2.fr t) (s.fr t) = true) d (sub_refl _) (fun _ _ => sub_refl _) (fun _ _ _ _ _ => sub_refl _) (fun b u _ _ _ => ?_)
      by_cases e : t = u
      · subst e; simp only [writeM]; rw [updA_same]; exact sub_orL _ _
      · simp only [writeM]; rw [updA_other e]; exact sub_refl _
  obtain ⟨r, h1, h2⟩ := this (l.drop i) (runM up cl th nc nt (l.take i))
  have e : runM up cl th nc nt l = (l.drop i).foldl (fun a d => (a.1 ++ [(stepM up cl th nc nt a.2 d).1], (stepM up cl th nc nt a.2 d).2)) (runM up cl th nc nt (l.take i)) := by
    unfold runM
    rw [← List.foldl_append, List.take_append_drop]
  exact ⟨r, by rw [e]; exact h1, fun t => by rw [e]; exact h2 t⟩
end

/-! ## The other way up -/
def turnL (a : Lab) : Lab := (3 - a.1, wo 31 a.2)
theorem turn_ok {a : Lab} (h : LabOk a) : LabOk (turnL a) := by
  obtain ⟨h1, h2, h3⟩ := h
  have := wo_le 31 a.2
  exact ⟨by show 0 ≤ 3 - a.1; omega, by show 3 - a.1 ≤ 3; omega, by show wo 31 a.2 < 32; omega⟩
theorem turn_turn {a : Lab} (h : LabOk a) : turnL (turnL a) = a := by
  obtain ⟨_, _, h3⟩ := h
  have key : ∀ p : Fin 32, wo 31 (wo 31 p.val) = p.val := by decide +kernel
  refine Prod.ext ?_ ?_
  · show 3 - (3 - a.1) = a.1; omega
  · exact key ⟨a.2, h3⟩
theorem turn_under {a b : Lab} (h : LabOk a) (k : LabOk b) : underL (turnL a) (turnL b) = underL b a := by
  have key : ∀ p q : Fin 32, sub (wo 31 p.val) (wo 31 q.val) = sub q.val p.val := by decide +kernel
  unfold underL turnL
  simp only
  rw [key ⟨a.2, h.2.2⟩ ⟨b.2, k.2.2⟩]
  congr 1
  rw [decide_eq_decide]
  omega
theorem turn_join {a b : Lab} (h : LabOk a) (k : LabOk b) : turnL (joinL a b) = meetL (turnL a) (turnL b) := by
  have key : ∀ p q : Fin 32, wo 31 (p.val ||| q.val) = wo 31 p.val &&& wo 31 q.val := by decide +kernel
  unfold turnL joinL meetL
  refine Prod.ext ?_ ?_
  · simp only
    split <;> split <;> omega
  · exact key ⟨a.2, h.2.2⟩ ⟨b.2, k.2.2⟩
def topL : Lab := (3, 31)
theorem turn_zero : turnL (0, 0) = topL := by decide +kernel
theorem top_ok : LabOk topL := by decide
theorem under_top {a : Lab} (h : LabOk a) : underL a topL = true := by
  have key : ∀ p : Fin 32, sub p.val 31 = true := by decide +kernel
  unfold underL
  rw [Bool.and_eq_true_iff]
  exact ⟨by rw [decide_eq_true_iff]; exact h.2.1, key ⟨a.2, h.2.2⟩⟩
section
variable {cl cl' th th' : Nat → Lab} {nc nt : Nat}
/-- As low as can be, the other way up. -/
def Mirror (nc : Nat) (s o : Ms) : Prop := s.fr = o.fr ∧ s.kn = o.kn ∧ ∀ b, b < nc → s.mar b = turnL (o.mar b) ∧ LabOk (o.mar b)
theorem mirror_step (hcl : ∀ b, b < nc → cl b = topL) (hcl' : ∀ b, b < nc → cl' b = topL) (hth : ∀ t, t < nt → th' t = turnL (th t)) (ht : ∀ t, t < nt → LabOk (th t)) {s o : Ms} (d : Dd) (h : Mirror nc s o) :
    (stepM false cl th nc nt s d).1 = (stepM true cl' th' nc nt o d).1 ∧
      Mirror nc (stepM false cl th nc nt s d).2 (stepM true cl' th' nc nt o d).2 := by
  obtain ⟨h1, h2, h3⟩ := h
  unfold stepM
  split
  · exact ⟨rfl, h1, h2, h3⟩
  · rename_i k1
    split
    · exact ⟨rfl, h1, h2, h3⟩
    · rename_i k2
      unfold ArgBad at k2
      have hb : d.who.toNat < nc := by omega
      obtain ⟨e1, e2⟩ := h3 _ hb
      split
      · refine ⟨rfl, h1, ?_, fun b hb' => ?_⟩
        · simp only [dropM]; rw [h2]
        · by_cases e : b = d.who.toNat
          · subst e; simp only [dropM]; rw [updA_same, updA_same]; exact ⟨by simp only [baseL, if_pos, if_neg (show ¬ (false = true) by decide)]; rw [hcl _ hb, turn_zero], lab_zero⟩
          · simp only [dropM]; rw [updA_other e, updA_other e]; exact h3 b hb'
      · rename_i k3
        have htt : d.tgt.toNat < nt := by omega
        have hT := ht _ htt
        have hT2 := turn_ok hT
        rw [← hth _ htt] at hT2
        split
        · have hj := join_ok e2 hT2
          rw [if_neg (by simp), if_neg (by simp only [nextL, if_pos]; rw [hcl' _ hb, under_top hj]; decide)]
          refine ⟨rfl, h1, ?_, fun b hb' => ?_⟩
          · simp only [readM]; rw [h2, h1]
          · by_cases e : b = d.who.toNat
            · subst e
              simp only [readM]
              rw [updA_same, updA_same]
              simp only [nextL, if_pos, if_neg (show ¬ (false = true) by decide)]
              refine ⟨?_, hj⟩
              rw [turn_join e2 hT2, hth _ htt, turn_turn hT, e1]
            · simp only [readM]; rw [updA_other e, updA_other e]; exact h3 b hb'
        · have hok : okW false (s.mar d.who.toNat) (th d.tgt.toNat) = okW true (o.mar d.who.toNat) (th' d.tgt.toNat) := by
            simp only [okW, if_pos, if_neg (show ¬ (false = true) by decide)]
            rw [e1, ← turn_under hT2 e2, hth _ htt, turn_turn hT]
          rw [hok]
          split
          · refine ⟨rfl, ?_, h2, h3⟩
            simp only [writeM]; rw [h1, h2]
          · exact ⟨rfl, h1, h2, h3⟩
theorem mirror_run (hcl : ∀ b, b < nc → cl b = topL) (hcl' : ∀ b, b < nc → cl' b = topL) (hth : ∀ t, t < nt → th' t = turnL (th t)) (ht : ∀ t, t < nt → LabOk (th t)) (l : List Dd) :
    (runM false cl th nc nt l).1 = (runM true cl' th' nc nt l).1 ∧
      Mirror nc (runM false cl th nc nt l).2 (runM true cl' th' nc nt l).2 := by
  have : ∀ (l : List Dd) (a c : List Int × Ms), a.1 = c.1 → Mirror nc a.2 c.2 →
      (l.foldl (fun a d => (a.1 ++ [(stepM false cl th nc nt a.2 d).1], (stepM false cl th nc nt a.2 d).2)) a).1 = (l.foldl (fun a d => (a.1 ++ [(stepM true cl' th' nc nt a.2 d).1], (stepM true cl' th' nc nt a.2 d).2)) c).1 ∧
      Mirror nc (l.foldl (fun a d => (a.1 ++ [(stepM false cl th nc nt a.2 d).1], (stepM false cl th nc nt a.2 d).2)) a).2 (l.foldl (fun a d => (a.1 ++ [(stepM true cl' th' nc nt a.2 d).1], (stepM true cl' th' nc nt a.2 d).2)) c).2 := by
    intro l
    induction l with
    | nil => intro a c h1 h2; exact ⟨h1, h2⟩
    | cons d l ih =>
      intro a c h1 h2
      obtain ⟨k1, k2⟩ := mirror_step hcl hcl' hth ht d h2
      exact ih _ _ (by simp only; rw [h1, k1]) k2
  exact this l _ _ rfl ⟨rfl, rfl, fun b hb => ⟨by show cl b = _; rw [hcl b hb]; exact turn_zero.symm, lab_zero⟩⟩
end

end Go.Proofs.Ytdiaglaokgehbaa
