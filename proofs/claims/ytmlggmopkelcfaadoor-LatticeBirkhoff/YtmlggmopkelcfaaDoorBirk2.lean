/- Plain mathematics: what the law after Birkhoff wants besides. -/
import Derived.Test.YtmlggmopkelcfaaDoorBirk
namespace Go.Proofs.YtmlggmopkelcfaaDoor
open Go.RowKit

/-! ## The chain of two -/
def two : List (Int × Int) := [(0, 1)]
theorem two_under {a b : Nat} : under two a b = decide (a = b ∨ a = 0 ∧ b = 1) := by
  rw [Bool.eq_iff_iff, under_iff, decide_eq_true_iff]
  constructor
  · intro h
    have := h (fun z => z = (a : Int) ∨ a = 0 ∧ z = 1) (.inl rfl) ?_
    · omega
    · intro p hp hz
      simp only [two, List.mem_singleton] at hp
      subst hp
      have hz2 : (0 : Int) = a ∨ a = 0 ∧ (0 : Int) = 1 := hz
      show (1 : Int) = a ∨ a = 0 ∧ (1 : Int) = 1
      omega
  · rintro (rfl | ⟨rfl, rfl⟩)
    · exact Reach.refl _ _
    · exact (Reach.refl two 0).step (p := (0, 1)) (by simp [two])
theorem two_cyc : ¬ Cyc ((2 : Nat) : Int) two := by
  rintro ⟨i, j, h1, h2, h3, h4, _⟩
  obtain ⟨i, rfl⟩ := Int.eq_ofNat_of_zero_le (show 0 ≤ i by omega)
  obtain ⟨j, rfl⟩ := Int.eq_ofNat_of_zero_le h1
  have := under_iff.2 h4
  rw [two_under, decide_eq_true_iff] at this
  omega
theorem two_code : code ((2 : Nat) : Int) two = 0 := by
  refine code_ok ?_ ?_ two_cyc
  · unfold Large two; simp
  · intro p hp
    simp only [two, List.mem_singleton] at hp
    subst hp
    unfold okPair
    simp
theorem two_join {a b : Nat} (ha : a < 2) (hb : b < 2) : joined 2 two a b = (max a b : Nat) := by
  refine IsJ.joined (n := 2) (ps := two) (c := max a b) two_cyc ⟨by omega, ?_, ?_, fun d hd h1 h2 => ?_⟩
  · rw [two_under, decide_eq_true_iff]; omega
  · rw [two_under, decide_eq_true_iff]; omega
  · rw [two_under, decide_eq_true_iff] at *; omega
theorem two_meet {a b : Nat} (ha : a < 2) (hb : b < 2) : met 2 two a b = (min a b : Nat) := by
  refine IsJ.joined (n := 2) (ps := turned two) (c := min a b) (turned_cyc two_cyc) ⟨by omega, ?_, ?_, fun d hd h1 h2 => ?_⟩
  · rw [under_turned, two_under, decide_eq_true_iff]; omega
  · rw [under_turned, two_under, decide_eq_true_iff]; omega
  · rw [under_turned, two_under, decide_eq_true_iff] at *; omega
theorem two_lat : latB 2 two = true := latB_iff.2 fun a b hab => by
  rw [two_join (by omega) (by omega), two_meet (by omega) (by omega)]; omega
theorem two_share : shB 2 two true = true := shB_iff.2 fun a b c ha hb hc _ _ => by
  have j : ∀ {a b : Nat}, a < 2 → b < 2 → jn 2 two a b = max a b := fun ha hb => by unfold jn; rw [two_join ha hb]; omega
  have m : ∀ {a b : Nat}, a < 2 → b < 2 → mt 2 two a b = min a b := fun ha hb => by unfold mt; rw [two_meet ha hb]; omega
  rw [j hb hc, m ha hb, m ha hc, m ha (by omega), j (by omega) (by omega)]
  omega

/-! ## The pairs among the join-irreducible things -/
theorem inj_nodup {f : Nat × Nat → Nat} : ∀ {l : List (Nat × Nat)}, l.Nodup → (∀ x ∈ l, ∀ y ∈ l, f x = f y → x = y) → (l.map f).Nodup
  | [], _, _ => by simp
  | x :: l, hn, h => by
    rw [List.nodup_cons] at hn
    rw [List.map_cons, List.nodup_cons]
    refine ⟨fun hm => ?_, inj_nodup hn.2 fun a ha b hb => h a (by simp [ha]) b (by simp [hb])⟩
    obtain ⟨y, hy, e⟩ := List.mem_map.1 hm
    exact hn.1 (h y (by simp [hy]) x (by simp) e ▸ hy)
theorem pairs_few {m : Nat} (hm : m ≤ 6) {l : List (Nat × Nat)} (hn : l.Nodup) (hl : ∀ p ∈ l, p.1 < m ∧ p.2 < m) (ha : ∀ p ∈ l, (p.2, p.1) ∉ l) : l.length ≤ 18 := by
  have h1 := nodup_sub_length (l.map fun p => p.1 * 6 + p.2) (List.range 36) ?_ ?_
  · have h2 := nodup_sub_length ((l.map fun p => p.1 * 6 + p.2) ++ l.map fun p => p.2 * 6 + p.1) (List.range 36) ?_ ?_
    · simp at h2; omega
    · rw [List.nodup_append]
      refine ⟨inj_nodup hn fun p hp q hq e => ?_, inj_nodup hn fun p hp q hq e => ?_, ?_⟩
      · have h1 := hl p hp; have h2 := hl q hq
        exact Prod.ext (by omega) (by omega)
      · have h1 := hl p hp; have h2 := hl q hq
        exact Prod.ext (by omega) (by omega)
      · intro x hx y hy e
        obtain ⟨p, hp, rfl⟩ := List.mem_map.1 hx
        obtain ⟨q, hq, rfl⟩ := List.mem_map.1 hy
        have h1 := hl p hp; have h2 := hl q hq
        have e1 : p = (q.2, q.1) := Prod.ext (by simp only; omega) (by simp only; omega)
        rw [e1] at hp
        exact ha q hq hp
    · intro x hx
      rw [List.mem_range]
      rcases List.mem_append.1 hx with hx | hx
      · obtain ⟨p, hp, rfl⟩ := List.mem_map.1 hx
        have := hl p hp; omega
      · obtain ⟨p, hp, rfl⟩ := List.mem_map.1 hx
        have := hl p hp; omega
  · exact inj_nodup hn fun p hp q hq e => by
      have h1 := hl p hp; have h2 := hl q hq
      exact Prod.ext (by omega) (by omega)
  · intro x hx
    obtain ⟨p, hp, rfl⟩ := List.mem_map.1 hx
    rw [List.mem_range]
    have := hl p hp; omega

/-- Without join-irreducible things there is one thing. -/
theorem irr_none {n : Nat} {ps : List (Int × Int)} (hcy : ¬ Cyc n ps) (hL : latB n ps = true) (hn : 1 ≤ n) (h : ∀ i, i < n → irrB n ps i = false) : n = 1 := by
  refine Classical.byContradiction fun hne => ?_
  have := irr_ext hcy hL (x := 0) (y := 1) (by omega) (by omega) fun i hi hirr => by rw [h i hi] at hirr; cases hirr
  omega

end Go.Proofs.YtmlggmopkelcfaaDoor
