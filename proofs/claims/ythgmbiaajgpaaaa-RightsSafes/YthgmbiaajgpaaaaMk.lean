/- Marks: what a script does to labels and to words: Bell and LaPadula; Biba. -/
import Derived.Test.YthgmbiaajgpaaaaLb
namespace Go.Proofs.Ythgmbiaajgpaaaa
open Go.RowKit

/-- A deed. -/
structure Dd where
  kind : Int
  who : Int
  tgt : Int
  lev : Int
  parts : Nat
  val : Int
/-- A deed, as cells. -/
def ddC (d : Dd) : List Value := [.int .i64 d.kind, .int .i64 d.who, .int .i64 d.tgt, .int .i64 d.lev, .int .u32 (d.parts : Int), .int .i64 d.val]
def deedsC (l : List Dd) : List Value := l.flatMap ddC
theorem deedsC_length (l : List Dd) : (deedsC l).length = 6 * l.length := by
  induction l with
  | nil => rfl
  | cons d l ih => simp only [deedsC, List.flatMap_cons, List.length_append, List.length_cons, ddC, List.length_nil] at *; omega
theorem deedsC_at {l : List Dd} {k : Nat} {d : Dd} (h : l[k]? = some d) {j : Nat} (hj : j < 6) : (deedsC l)[k * 6 + j]? = (ddC d)[j]? := by
  induction l generalizing k with
  | nil => simp at h
  | cons q l ih =>
    cases k with
    | zero =>
      simp at h; subst h
      simp only [deedsC, List.flatMap_cons]
      rw [List.getElem?_append_left (by simp [ddC]; omega)]
      congr 1; omega
    | succ k =>
      have := ih (k := k) (by simpa using h)
      simp only [deedsC, List.flatMap_cons] at this ⊢
      rw [show (k + 1) * 6 + j = 6 + (k * 6 + j) from by omega, List.getElem?_append_right (by simp [ddC])]
      rw [show 6 + (k * 6 + j) - (ddC q).length = k * 6 + j by simp [ddC]]
      exact this
/-- Labels, as cells. -/
def labC (a : Lab) : List Value := [.int .i64 a.1, .int .u32 (a.2 : Int)]
def labsC (l : List Lab) : List Value := l.flatMap labC
theorem labsC_length (l : List Lab) : (labsC l).length = 2 * l.length := by
  induction l with
  | nil => rfl
  | cons d l ih => simp only [labsC, List.flatMap_cons, List.length_append, List.length_cons, labC, List.length_nil] at *; omega
theorem labsC_append (l r : List Lab) : labsC (l ++ r) = labsC l ++ labsC r := by simp [labsC]
theorem labsC_at0 {l : List Lab} {k : Nat} {a : Lab} (h : l[k]? = some a) : (labsC l)[k * 2]? = some (.int .i64 a.1) := by
  induction l generalizing k with
  | nil => simp at h
  | cons q l ih =>
    cases k with
    | zero => simp at h; subst h; simp [labsC, labC]
    | succ k =>
      have := ih (k := k) (by simpa using h)
      simp only [labsC, List.flatMap_cons] at this ⊢
      rw [show (k + 1) * 2 = 2 + k * 2 from by omega, List.getElem?_append_right (by simp [labC])]
      simpa [labC] using this
theorem labsC_at1 {l : List Lab} {k : Nat} {a : Lab} (h : l[k]? = some a) : (labsC l)[k * 2 + 1]? = some (.int .u32 (a.2 : Int)) := by
  induction l generalizing k with
  | nil => simp at h
  | cons q l ih =>
    cases k with
    | zero => simp at h; subst h; simp [labsC, labC]
    | succ k =>
      have := ih (k := k) (by simpa using h)
      simp only [labsC, List.flatMap_cons] at this ⊢
      rw [show (k + 1) * 2 + 1 = 2 + (k * 2 + 1) from by omega, List.getElem?_append_right (by simp [labC])]
      simpa [labC] using this

/-- The labels' parts are words. -/
def L32 (l : List Lab) : Prop := ∀ a ∈ l, a.2 < 4294967296
/-- A list of what a function has. -/
def tabA {α : Type} (n : Nat) (f : Nat → α) : List α := (List.range n).map f
@[simp] theorem tabA_length {α : Type} (n : Nat) (f : Nat → α) : (tabA n f).length = n := by simp [tabA]
theorem tabA_get {α : Type} {n k : Nat} (f : Nat → α) (h : k < n) : (tabA n f)[k]? = some (f k) := by simp [tabA, h]
theorem tabA_congr {α : Type} {n : Nat} {f g : Nat → α} (h : ∀ k, k < n → f k = g k) : tabA n f = tabA n g := List.map_congr_left fun k hk => h k (List.mem_range.1 hk)
theorem tabA_succ {α : Type} (n : Nat) (f : Nat → α) : tabA (n + 1) f = tabA n f ++ [f n] := by simp [tabA, List.range_succ]
def updA {α : Type} (f : Nat → α) (a : Nat) (v : α) : Nat → α := fun x => if x = a then v else f x
theorem updA_same {α : Type} (f : Nat → α) (a : Nat) (v : α) : updA f a v a = v := by simp [updA]
theorem updA_other {α : Type} {f : Nat → α} {a x : Nat} {v : α} (h : x ≠ a) : updA f a v x = f x := by simp [updA, h]
theorem tabA_set {α : Type} (n : Nat) (f : Nat → α) (a : Nat) (v : α) : (tabA n f).set a v = tabA n (updA f a v) := by
  apply List.ext_getElem?
  intro i
  by_cases hi : i < n
  · rw [tabA_get _ hi]
    by_cases h : a = i
    · subst h; rw [List.getElem?_set_self (by simpa using hi), updA_same]
    · rw [List.getElem?_set_ne h, tabA_get _ hi, updA_other (fun e => h e.symm)]
  · rw [List.getElem?_eq_none (by simpa using hi), List.getElem?_eq_none (by simpa using hi)]
/-- The labels of a list, by their places. -/
def atL (l : List Lab) (i : Nat) : Lab := l[i]?.getD (0, 0)
theorem atL_get {l : List Lab} {i : Nat} (h : i < l.length) : l[i]? = some (atL l i) := by
  unfold atL
  rw [List.getElem?_eq_getElem h]
  rfl
theorem atL_tab {n k : Nat} (f : Nat → Lab) (h : k < n) : atL (tabA n f) k = f k := by unfold atL; rw [tabA_get _ h]; rfl
theorem tabA_atL (l : List Lab) : tabA l.length (atL l) = l := by
  apply List.ext_getElem?
  intro i
  by_cases h : i < l.length
  · rw [tabA_get _ h, atL_get h]
  · rw [List.getElem?_eq_none (by simpa using h), List.getElem?_eq_none (by simpa using h)]

/-! ## What a script does -/
/-- The marks of those who do, what the things have, what those know. -/
structure Ms where
  mar : Nat → Lab
  fr : Nat → Nat
  kn : Nat → Nat
def baseL (up : Bool) (cl : Nat → Lab) (b : Nat) : Lab := if up = true then (0, 0) else cl b
def nextL (up : Bool) (a b : Lab) : Lab := if up = true then joinL a b else meetL a b
def okW (up : Bool) (a b : Lab) : Bool := if up = true then underL a b else underL b a
def dropM (up : Bool) (cl : Nat → Lab) (s : Ms) (b : Nat) : Ms := { s with mar := updA s.mar b (baseL up cl b), kn := updA s.kn b 0 }
def readM (up : Bool) (th : Nat → Lab) (s : Ms) (b t : Nat) : Ms := { s with mar := updA s.mar b (nextL up (s.mar b) (th t)), kn := updA s.kn b (s.kn b ||| s.fr t) }
def writeM (s : Ms) (b t : Nat) : Ms := { s with fr := updA s.fr t (s.fr t ||| s.kn b) }
def ArgBad (nc nt : Nat) (d : Dd) : Prop := d.who < 0 ∨ (nc : Int) ≤ d.who ∨ (d.kind ≠ 3 ∧ (d.tgt < 0 ∨ (nt : Int) ≤ d.tgt))
instance (nc nt : Nat) (d : Dd) : Decidable (ArgBad nc nt d) := by unfold ArgBad; infer_instance
/-- One deed. -/
def stepM (up : Bool) (cl th : Nat → Lab) (nc nt : Nat) (s : Ms) (d : Dd) : Int × Ms :=
  if d.kind < 1 ∨ 3 < d.kind then (6, s)
  else if ArgBad nc nt d then (2, s)
  else if d.kind = 3 then (0, dropM up cl s d.who.toNat)
  else if d.kind = 1 then (if (up && !underL (nextL up (s.mar d.who.toNat) (th d.tgt.toNat)) (cl d.who.toNat)) = true then (7, s) else (0, readM up th s d.who.toNat d.tgt.toNat))
  else if okW up (s.mar d.who.toNat) (th d.tgt.toNat) = true then (0, writeM s d.who.toNat d.tgt.toNat) else (7, s)
def startM (up : Bool) (cl : Nat → Lab) : Ms := ⟨baseL up cl, fun i => one i, fun _ => 0⟩
/-- A script: its codes, and what comes of it. -/
def runM (up : Bool) (cl th : Nat → Lab) (nc nt : Nat) (l : List Dd) : List Int × Ms :=
  l.foldl (fun a d => (a.1 ++ [(stepM up cl th nc nt a.2 d).1], (stepM up cl th nc nt a.2 d).2)) ([], startM up cl)
section
variable {up : Bool} {cl th : Nat → Lab} {nc nt : Nat}
theorem run_succ {l : List Dd} {k : Nat} {d : Dd} (h : l[k]? = some d) : runM up cl th nc nt (l.take (k + 1)) =
    ((runM up cl th nc nt (l.take k)).1 ++ [(stepM up cl th nc nt (runM up cl th nc nt (l.take k)).2 d).1], (stepM up cl th nc nt (runM up cl th nc nt (l.take k)).2 d).2) := by
  unfold runM
  rw [List.take_add_one, h, List.foldl_append]
  rfl
theorem run_length (l : List Dd) : (runM up cl th nc nt l).1.length = l.length := by
  have : ∀ (l : List Dd) (a : List Int × Ms), (l.foldl (fun a d => (a.1 ++ [(stepM up cl th nc nt a.2 d).1], (stepM up cl th nc nt a.2 d).2)) a).1.length = a.1.length + l.length := by
    intro l
    induction l with
    | nil => intro a; rfl
    | cons d l ih => intro a; rw [List.foldl_cons, ih]; simp; omega
  unfold runM
  rw [this]
  simp
/-- What a deed keeps, a script keeps. -/
theorem run_inv {P : Ms → Prop} (h0 : P (startM up cl)) (hs : ∀ s d, P s → P (stepM up cl th nc nt s d).2) (l : List Dd) : P (runM up cl th nc nt l).2 := by
  have : ∀ (l : List Dd) (a : List Int × Ms), P a.2 → P (l.foldl (fun a d => (a.1 ++ [(stepM up cl th nc nt a.2 d).1], (stepM up cl th nc nt a.2 d).2)) a).2 := by
    intro l
    induction l with
    | nil => intro a h; exact h
    | cons d l ih => intro a h; exact ih _ (hs _ _ h)
  exact this _ _ h0
theorem step_inv {P : Ms → Prop} {s : Ms} (d : Dd) (h : P s) (hd : ∀ b, b < nc → P (dropM up cl s b)) (hr : ∀ b t, b < nc → t < nt → (up = true → underL (nextL up (s.mar b) (th t)) (cl b) = true) → P (readM up th s b t))
    (hw : ∀ b t, b < nc → t < nt → okW up (s.mar b) (th t) = true → P (writeM s b t)) : P (stepM up cl th nc nt s d).2 := by
  unfold stepM
  split
  · exact h
  · rename_i h1
    split
    · exact h
    · rename_i h2
      unfold ArgBad at h2
      split
      · exact hd _ (by omega)
      · rename_i h3
        split
        · split
          · exact h
          · rename_i h4 h5
            refine hr _ _ (by omega) (by omega) fun e => ?_
            rw [e] at h5
            simpa [e] using h5
        · split
          · rename_i h4 h5
            exact hw _ _ (by omega) (by omega) h5
          · exact h

theorem under_trans {a b c : Lab} (h : underL a b = true) (k : underL b c = true) : underL a c = true := by
  rw [underL_iff] at *
  exact ⟨by omega, fun i hi => k.2 i (h.2 i hi)⟩
theorem under_refl (a : Lab) : underL a a = true := underL_iff.2 ⟨by omega, fun _ h => h⟩
theorem under_joinL (a b : Lab) : underL a (joinL a b) = true := by
  have := under_refl (joinL a b)
  rw [join_under, Bool.and_eq_true_iff] at this
  exact this.1
theorem under_joinR (a b : Lab) : underL b (joinL a b) = true := by
  have := under_refl (joinL a b)
  rw [join_under, Bool.and_eq_true_iff] at this
  exact this.2
theorem meet_underL (a b : Lab) : underL (meetL a b) a = true := by
  have := under_refl (meetL a b)
  rw [meet_under, Bool.and_eq_true_iff] at this
  exact this.1
theorem meet_underR (a b : Lab) : underL (meetL a b) b = true := by
  have := under_refl (meetL a b)
  rw [meet_under, Bool.and_eq_true_iff] at this
  exact this.2
theorem low_under {b : Lab} (h : LabOk b) : underL (0, 0) b = true := underL_iff.2 ⟨h.1, fun i hi => by simp at hi⟩
theorem lab_zero : LabOk (0, 0) := by decide
theorem base_ok (hc : ∀ b, b < nc → LabOk (cl b)) {b : Nat} (h : b < nc) : LabOk (baseL up cl b) := by
  unfold baseL
  split
  · exact lab_zero
  · exact hc b h
theorem next_ok {a b : Lab} (h : LabOk a) (k : LabOk b) : LabOk (nextL up a b) := by
  unfold nextL
  split
  · exact join_ok h k
  · exact meet_ok h k

/-- All is as it may be. -/
def Fine (nc nt : Nat) (s : Ms) : Prop := (∀ b, b < nc → LabOk (s.mar b)) ∧ (∀ t, t < nt → s.fr t < one nt) ∧ ∀ b, b < nc → s.kn b < one nt
theorem fine_step (hc : ∀ b, b < nc → LabOk (cl b)) (ht : ∀ t, t < nt → LabOk (th t)) {s : Ms} (d : Dd) (h : Fine nc nt s) : Fine nc nt (stepM up cl th nc nt s d).2 := by
  obtain ⟨h1, h2, h3⟩ := h
  refine step_inv (P := Fine nc nt) d ⟨h1, h2, h3⟩ (fun b hb => ⟨fun x hx => ?_, h2, fun x hx => ?_⟩) (fun b t hb htt _ => ⟨fun x hx => ?_, h2, fun x hx => ?_⟩) (fun b t hb htt _ => ⟨h1, fun x hx => ?_, h3⟩)
  · by_cases e : x = b
    · subst e; simp only [dropM]; rw [updA_same]; exact base_ok hc hx
    · simp only [dropM]; rw [updA_other e]; exact h1 x hx
  · by_cases e : x = b
    · subst e; simp only [dropM]; rw [updA_same]; exact one_pos _
    · simp only [dropM]; rw [updA_other e]; exact h3 x hx
  · by_cases e : x = b
    · subst e; simp only [readM]; rw [updA_same]; exact next_ok (h1 x hx) (ht t htt)
    · simp only [readM]; rw [updA_other e]; exact h1 x hx
  · by_cases e : x = b
    · subst e; simp only [readM]; rw [updA_same]; exact or_lt_iff.2 ⟨h3 x hx, h2 t htt⟩
    · simp only [readM]; rw [updA_other e]; exact h3 x hx
  · by_cases e : x = t
    · subst e; simp only [writeM]; rw [updA_same]; exact or_lt_iff.2 ⟨h2 x hx, h3 b hb⟩
    · simp only [writeM]; rw [updA_other e]; exact h2 x hx
theorem fine_run (hc : ∀ b, b < nc → LabOk (cl b)) (ht : ∀ t, t < nt → LabOk (th t)) (l : List Dd) : Fine nc nt (runM up cl th nc nt l).2 :=
  run_inv (P := Fine nc nt) ⟨fun _ hb => base_ok hc hb, fun t h => Nat.pow_lt_pow_right (by omega) h, fun _ _ => one_pos _⟩ (fun _ d h => fine_step hc ht d h) l
end

end Go.Proofs.Ythgmbiaajgpaaaa
