/- What each has read, as a list of things. -/
import Derived.Test.YtdiaglaokgehbaaWl2
namespace Go.Proofs.Ytdiaglaokgehbaa
open Go.RowKit

/-- The sum of the words of a list's things. -/
def sumL (l : List Nat) : Nat := (l.map one).sum
theorem add_or_all : (List.range 256).all (fun s => (List.range 8).all fun x => s.testBit x || s + one x == s ||| one x) = true := by decide +kernel
theorem add_or {s x : Nat} (hs : s < 256) (hx : x < 8) (h : s.testBit x = false) : s + one x = s ||| one x := by
  have := List.all_eq_true.1 (List.all_eq_true.1 add_or_all s (List.mem_range.2 hs)) x (List.mem_range.2 hx)
  rw [h, Bool.false_or, beq_iff_eq] at this
  exact this
theorem sumL_snoc (l : List Nat) (x : Nat) : sumL (l ++ [x]) = sumL l + one x := by simp [sumL]
theorem one_lt8 {x : Nat} (h : x < 8) : one x < 256 := by
  have : one x < one 8 := Nat.pow_lt_pow_right (by omega) h
  simpa [one] using this
theorem sumL_take {l : List Nat} (hn : l.Nodup) (hl : ∀ x ∈ l, x < 8) : ∀ k, k ≤ l.length → sumL (l.take k) < 256 ∧ ∀ i, (sumL (l.take k)).testBit i = true ↔ i ∈ l.take k
  | 0, _ => ⟨by simp [sumL], fun i => by simp [sumL]⟩
  | k + 1, hk => by
    obtain ⟨h1, h2⟩ := sumL_take hn hl k (by omega)
    have hx : l[k]? = some l[k] := List.getElem?_eq_getElem (by omega)
    have hx8 := hl l[k] (List.getElem_mem _)
    have hno : l[k] ∉ l.take k := by
      have h3 := List.take_append_drop k l
      rw [List.drop_eq_getElem_cons (by omega)] at h3
      rw [← h3, List.nodup_append] at hn
      exact fun hm => hn.2.2 _ hm _ List.mem_cons_self rfl
    rw [List.take_add_one, hx, Option.toList, sumL_snoc, add_or h1 hx8 (by
      cases h : (sumL (l.take k)).testBit l[k] with
      | false => rfl
      | true => exact absurd ((h2 _).1 h) hno)]
    refine ⟨?_, fun i => ?_⟩
    · exact or_lt_iff (n := 8) |>.2 ⟨h1, one_lt8 hx8⟩
    · rw [bit_or, bit_one, h2, List.mem_append, List.mem_singleton, eq_comm]
theorem sumL_le (l : List Nat) (k : Nat) : sumL (l.take k) ≤ sumL (l.take (k + 1)) := by
  rw [List.take_add_one]
  cases h : l[k]? with
  | none => simp
  | some x => rw [Option.toList, sumL_snoc]; omega

/-- The lists say what each has read. -/
structure RdL (nc nt : Nat) (s : Wst) (L : Nat → List Nat) : Prop where
  nodup : ∀ b, b < nc → (L b).Nodup
  lt : ∀ b, b < nc → ∀ k ∈ L b, k < nt
  bit : ∀ b, b < nc → ∀ k, (s.rd b).testBit k = true ↔ k ∈ L b
section
variable {nc nt : Nat} {s : Wst} {L : Nat → List Nat} {fi cl : List Int}
theorem RdL.start : RdL nc nt startW fun _ => [] := ⟨fun _ _ => by simp, fun _ _ k hk => by simp at hk, fun _ _ k => by simp [startW]⟩
theorem RdL.deny (h : RdL nc nt s L) {b : Nat} (hb : b < nc) (kind : Int) (t : Nat) : denyW fi cl nt (s.rd b) kind t = (L b).any (badW fi cl kind t) := by
  rw [Bool.eq_iff_iff, deny_iff, List.any_eq_true]
  constructor
  · rintro ⟨k, _, h1, h2⟩; exact ⟨k, (h.bit b hb k).1 h1, h2⟩
  · rintro ⟨k, h1, h2⟩; exact ⟨k, h.lt b hb k h1, (h.bit b hb k).2 h1, h2⟩
theorem RdL.read (h : RdL nc nt s L) {b t : Nat} (ht : t < nt) : RdL nc nt (readW s b t) (updA L b (if t ∈ L b then L b else L b ++ [t])) := by
  refine ⟨fun x hx => ?_, fun x hx k hk => ?_, fun x hx k => ?_⟩
  · by_cases e : x = b
    · subst e
      rw [updA_same]
      split
      · exact h.nodup x hx
      · rename_i h1
        rw [List.nodup_append]
        exact ⟨h.nodup x hx, by simp, fun a ha c hc e => by simp at hc; subst hc; subst e; exact h1 ha⟩
    · rw [updA_other e]; exact h.nodup x hx
  · by_cases e : x = b
    · subst e
      rw [updA_same] at hk
      split at hk
      · exact h.lt x hx k hk
      · rcases List.mem_append.1 hk with hk | hk
        · exact h.lt x hx k hk
        · simp at hk; omega
    · rw [updA_other e] at hk; exact h.lt x hx k hk
  · by_cases e : x = b
    · subst e
      simp only [readW]
      rw [updA_same, updA_same, bit_or, bit_one, h.bit x hx]
      split
      · rename_i h1
        constructor
        · rintro (h2 | rfl)
          · exact h2
          · exact h1
        · exact .inl
      · rw [List.mem_append, List.mem_singleton, eq_comm]
    · simp only [readW]
      rw [updA_other e, updA_other e]
      exact h.bit x hx k
theorem updA_self {α : Type} (f : Nat → α) (a : Nat) : updA f a (f a) = f := by
  funext x
  by_cases e : x = a
  · subst e; rw [updA_same]
  · rw [updA_other e]
theorem RdL.readIn (h : RdL nc nt s L) {b t : Nat} (ht : t < nt) (hi : t ∈ L b) : RdL nc nt (readW s b t) L := by
  have := h.read (b := b) ht
  rwa [if_pos hi, updA_self] at this
theorem RdL.readNew (h : RdL nc nt s L) {b t : Nat} (ht : t < nt) (hi : t ∉ L b) : RdL nc nt (readW s b t) (updA L b (L b ++ [t])) := by
  have := h.read (b := b) ht
  rwa [if_neg hi] at this
theorem RdL.write (h : RdL nc nt s L) (b t : Nat) : RdL nc nt (writeW s b t) L := ⟨h.nodup, h.lt, h.bit⟩
theorem RdL.len (h : RdL nc nt s L) {b : Nat} (hb : b < nc) (ht : nt ≤ 8) : (L b).length ≤ 8 := by
  have h1 := (h.nodup b hb).length_le_of_subset (l₂ := List.range 8) (fun x hx => List.mem_range.2 (by have := h.lt b hb x hx; omega))
  simpa using h1
theorem RdL.sum (h : RdL nc nt s L) {b : Nat} (hb : b < nc) (ht : nt ≤ 8) : sumL (L b) = s.rd b := by
  have h1 := (sumL_take (h.nodup b hb) (fun x hx => by have := h.lt b hb x hx; omega) (L b).length (Nat.le_refl _)).2
  rw [List.take_length] at h1
  apply Nat.eq_of_testBit_eq
  intro i
  rw [Bool.eq_iff_iff, h1, h.bit b hb]
theorem stepW_cases {d : Dd} {q : Int} {s' : Wst} (h : stepW fi cl nc nt s d = (q, s')) : (q ≠ 0 ∧ s' = s) ∨ (q = 0 ∧ 0 ≤ d.who ∧ d.who < (nc : Int) ∧ 0 ≤ d.tgt ∧ d.tgt < (nt : Int) ∧ (d.kind = 1 ∧ s' = readW s d.who.toNat d.tgt.toNat ∨ d.kind = 2 ∧ s' = writeW s d.who.toNat d.tgt.toNat)) := by
  unfold stepW at h
  split at h
  · simp at h; exact .inl ⟨by omega, h.2.symm⟩
  · rename_i h1
    split at h
    · simp at h; exact .inl ⟨by omega, h.2.symm⟩
    · rename_i h2
      unfold ArgBadW at h2
      split at h
      · simp at h; exact .inl ⟨by omega, h.2.symm⟩
      · split at h
        · rename_i h4
          simp at h
          exact .inr ⟨h.1.symm, by omega, by omega, by omega, by omega, .inl ⟨h4, h.2.symm⟩⟩
        · rename_i h4
          simp at h
          exact .inr ⟨h.1.symm, by omega, by omega, by omega, by omega, .inr ⟨by omega, h.2.symm⟩⟩
end

end Go.Proofs.Ytdiaglaokgehbaa
