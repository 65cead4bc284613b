/- Plain mathematics: the covering pairs of an order generate it, and there are few. -/
import Derived.Test.YtmlggmopkelcfaaDoorCovers
namespace Go.Proofs.YtmlggmopkelcfaaDoor
open Go.RowKit

theorem mem_covL {n : Nat} {ps : List (Int × Int)} {p : Int × Int} : p ∈ covL n ps n 0 ↔ ∃ a b : Nat, a < n ∧ b < n ∧ covB n ps a b = true ∧ p = ((a : Int), (b : Int)) := by
  unfold covL rowL
  simp only [List.mem_append, List.mem_flatMap, List.mem_map, List.mem_filter, List.mem_range, List.range_zero, List.filter_nil, List.map_nil, List.not_mem_nil, or_false]
  constructor
  · rintro ⟨a, ha, b, ⟨hb, hc⟩, rfl⟩
    exact ⟨a, b, ha, hb, hc, rfl⟩
  · rintro ⟨a, b, ha, hb, hc, rfl⟩
    exact ⟨a, ha, b, ⟨hb, hc⟩, rfl⟩

theorem nodup_map {α β : Type} {f : α → β} {l : List α} (hl : l.Nodup) (h : ∀ a ∈ l, ∀ b ∈ l, f a = f b → a = b) : (l.map f).Nodup := by
  induction l with
  | nil => simp
  | cons x xs ih =>
    rw [List.nodup_cons] at hl
    rw [List.map_cons, List.nodup_cons]
    refine ⟨?_, ih hl.2 fun a ha b hb => h a (by simp [ha]) b (by simp [hb])⟩
    intro hx
    obtain ⟨y, hy, he⟩ := List.mem_map.1 hx
    have := h y (by simp [hy]) x (by simp) he
    subst this
    exact hl.1 hy

theorem rowL_nodup (n : Nat) (ps : List (Int × Int)) (x y : Nat) : (rowL n ps x y).Nodup := by
  unfold rowL
  refine nodup_map (List.nodup_range.filter _) fun a _ b _ h => ?_
  simp only [Prod.mk.injEq, true_and] at h
  omega
theorem covL_nodup (n : Nat) (ps : List (Int × Int)) (a : Nat) : (covL n ps a 0).Nodup := by
  induction a with
  | zero => rw [covL_zero]; simp
  | succ a ih =>
    rw [← covL_next]
    have e : covL n ps a n = covL n ps a 0 ++ rowL n ps a n := by simp [covL, rowL]
    rw [e, List.nodup_append]
    refine ⟨ih, rowL_nodup _ _ _ _, fun p hp q hq h => ?_⟩
    subst h
    unfold covL at hp
    simp only [rowL, List.mem_append, List.mem_flatMap, List.mem_map, List.mem_filter, List.mem_range, List.range_zero, List.filter_nil, List.map_nil, List.not_mem_nil, or_false] at hp hq
    obtain ⟨x, hx, y, _, rfl⟩ := hp
    obtain ⟨z, _, hz⟩ := hq
    simp only [Prod.mk.injEq] at hz
    omega

/-- The pairs of two different numbers below 6, in order. -/
def pairs6 : List (Int × Int) := (List.range 6).flatMap fun a => (List.range a).map fun b : Nat => ((b : Int), (a : Int))
theorem pairs6_length : pairs6.length = 15 := by decide
theorem mem_pairs6 {a b : Nat} (h : b < a) (ha : a < 6) : ((b : Int), (a : Int)) ∈ pairs6 := by
  unfold pairs6
  simp only [List.mem_flatMap, List.mem_range, List.mem_map]
  exact ⟨a, ha, b, h, rfl⟩

/-- The lesser first. -/
def sortP (p : Int × Int) : Int × Int := if p.1 < p.2 then p else (p.2, p.1)

theorem covL_few {n : Nat} {ps : List (Int × Int)} (hn : n ≤ 6) (hc : ¬ Cyc n ps) : (covL n ps n 0).length ≤ 15 := by
  have h1 : ((covL n ps n 0).map sortP).Nodup := by
    refine nodup_map (covL_nodup n ps n) fun p hp q hq h => ?_
    obtain ⟨a, b, ha, hb, hab, rfl⟩ := mem_covL.1 hp
    obtain ⟨c, d, hcn, hd, hcd, rfl⟩ := mem_covL.1 hq
    obtain ⟨h1, h2, _⟩ := covB_iff.1 hab
    obtain ⟨h3, h4, _⟩ := covB_iff.1 hcd
    unfold sortP at h
    simp only at h
    by_cases e1 : (a : Int) < b <;> by_cases e2 : (c : Int) < d
    · rw [if_pos e1, if_pos e2] at h; exact h
    · rw [if_pos e1, if_neg e2] at h
      simp only [Prod.mk.injEq] at h
      obtain ⟨rfl, rfl⟩ : a = d ∧ b = c := by omega
      exact absurd (cyc_of (by omega) hb h4 h2) hc
    · rw [if_neg e1, if_pos e2] at h
      simp only [Prod.mk.injEq] at h
      obtain ⟨rfl, rfl⟩ : b = c ∧ a = d := by omega
      exact absurd (cyc_of (by omega) ha h2 h4) hc
    · rw [if_neg e1, if_neg e2] at h
      simp only [Prod.mk.injEq] at h ⊢
      omega
  have h2 : ∀ p ∈ (covL n ps n 0).map sortP, p ∈ pairs6 := by
    intro p hp
    obtain ⟨q, hq, rfl⟩ := List.mem_map.1 hp
    obtain ⟨a, b, ha, hb, hab, rfl⟩ := mem_covL.1 hq
    obtain ⟨h1, _, _⟩ := covB_iff.1 hab
    unfold sortP
    simp only
    by_cases e1 : (a : Int) < b
    · rw [if_pos e1]; exact mem_pairs6 (by omega) (by omega)
    · rw [if_neg e1]; exact mem_pairs6 (by omega) (by omega)
  have h3 := nodup_sub_length _ _ h1 h2
  rw [List.length_map, pairs6_length] at h3
  exact h3

theorem filter_lt {α : Type} {p q : α → Bool} : ∀ {l : List α}, (∀ x ∈ l, p x = true → q x = true) → (∃ x ∈ l, q x = true ∧ p x = false) → (l.filter p).length < (l.filter q).length
  | [], _, h => by obtain ⟨x, hx, _⟩ := h; simp at hx
  | y :: ys, hs, h => by
    have hle : ∀ {l : List α}, (∀ x ∈ l, p x = true → q x = true) → (l.filter p).length ≤ (l.filter q).length := by
      intro l
      induction l with
      | nil => simp
      | cons z zs ih =>
        intro hz
        have h1 := ih fun x hx => hz x (by simp [hx])
        have h2 := hz z (by simp)
        cases hp : p z <;> cases hq : q z <;> simp [hp, hq] <;> first | omega | (rw [hp, hq] at h2; simp at h2)
    have hy := hs y (by simp)
    have hys := hle fun x hx => hs x (List.mem_cons_of_mem _ hx)
    obtain ⟨x, hx, hq, hp⟩ := h
    rcases List.mem_cons.1 hx with rfl | hx
    · simp [hp, hq]; omega
    · have ih := filter_lt (fun x hx => hs x (List.mem_cons_of_mem _ hx)) ⟨x, hx, hq, hp⟩
      cases hp2 : p y <;> cases hq2 : q y <;> simp [hp2, hq2] <;> first | omega | (rw [hp2, hq2] at hy; simp at hy)

/-- How many lie between. -/
noncomputable def cnt (n : Nat) (ps : List (Int × Int)) (a b : Nat) : Nat := ((List.range n).filter fun c : Nat => under ps a c && under ps c b).length

theorem hasse_aux {n : Nat} {ps : List (Int × Int)} (hc : ¬ Cyc n ps) : ∀ (m a b : Nat), a < n → b < n → cnt n ps a b ≤ m → under ps a b = true → Reach (covL n ps n 0) a b
  | 0, a, b, ha, hb, hm, h => by
    exfalso
    have : a ∈ (List.range n).filter fun c : Nat => under ps a c && under ps c b := by
      rw [List.mem_filter]; simp [ha, h, under_iff.2 (Reach.refl ps a)]
    have := List.length_pos_of_mem this
    unfold cnt at hm
    omega
  | m + 1, a, b, ha, hb, hm, h => by
    have anti : ∀ x y : Nat, x < n → y < n → under ps x y = true → under ps y x = true → x = y := by
      intro x y hx hy h1 h2
      rcases Nat.lt_trichotomy x y with h3 | h3 | h3
      · exact absurd (cyc_of h3 hy h2 h1) hc
      · exact h3
      · exact absurd (cyc_of h3 hx h1 h2) hc
    by_cases hab : a = b
    · subst hab; exact Reach.refl _ _
    · cases hv : covB n ps a b with
      | true => exact (Reach.refl _ _).step (p := ((a : Int), (b : Int))) (mem_covL.2 ⟨a, b, ha, hb, hv, rfl⟩)
      | false =>
        have : ∃ c : Nat, c < n ∧ c ≠ a ∧ c ≠ b ∧ under ps a c = true ∧ under ps c b = true := by
          apply Classical.byContradiction
          intro hno
          have : covB n ps a b = true := covB_iff.2 ⟨hab, h, fun c h1 h2 h3 h4 => hno ⟨c, h1, h2, h3, h4.1, h4.2⟩⟩
          rw [hv] at this
          cases this
        obtain ⟨c, hcn, hca, hcb, h1, h2⟩ := this
        have tr : ∀ x y z : Nat, under ps x y = true → under ps y z = true → under ps x z = true := fun x y z h1 h2 => under_iff.2 ((under_iff.1 h1).trans (under_iff.1 h2))
        have l1 : cnt n ps a c < cnt n ps a b := by
          refine filter_lt (fun x _ hx => ?_) ⟨b, by simpa using hb, ?_, ?_⟩
          · rw [Bool.and_eq_true] at hx ⊢
            exact ⟨hx.1, tr _ _ _ hx.2 h2⟩
          · rw [h, under_iff.2 (Reach.refl ps b)]; rfl
          · cases h5 : under ps b c with
            | false => simp
            | true => exact absurd (anti c b hcn hb h2 h5) hcb
        have l2 : cnt n ps c b < cnt n ps a b := by
          refine filter_lt (fun x _ hx => ?_) ⟨a, by simpa using ha, ?_, ?_⟩
          · rw [Bool.and_eq_true] at hx ⊢
            exact ⟨tr _ _ _ h1 hx.1, hx.2⟩
          · rw [h, under_iff.2 (Reach.refl ps a)]; rfl
          · cases h5 : under ps c a with
            | false => simp
            | true => exact absurd (anti c a hcn ha h5 h1) hca
        exact (hasse_aux hc m a c ha hcn (by omega) h1).trans (hasse_aux hc m c b hcn hb (by omega) h2)

/-- By the covering pairs the same is reached. -/
theorem hasse {n : Nat} {ps : List (Int × Int)} (hc : ¬ Cyc n ps) {a b : Nat} (ha : a < n) (hb : b < n) : under (covL n ps n 0) a b = under ps a b := by
  rw [Bool.eq_iff_iff]
  constructor
  · intro h
    rw [under_iff] at h ⊢
    refine h (fun z => Reach ps a z) (Reach.refl _ _) fun p hp hr => ?_
    obtain ⟨x, y, _, _, hv, rfl⟩ := mem_covL.1 hp
    obtain ⟨_, h2, _⟩ := covB_iff.1 hv
    exact hr.trans (under_iff.1 h2)
  · intro h
    exact under_iff.2 (hasse_aux hc _ a b ha hb (Nat.le_refl _) h)

theorem covL_good (n : Nat) (ps : List (Int × Int)) : Good n (covL n ps n 0) := by
  intro p hp
  obtain ⟨a, b, ha, hb, _, rfl⟩ := mem_covL.1 hp
  exact ⟨by simp, by simp only; omega, by simp, by simp only; omega⟩

theorem covL_code {n : Nat} {ps : List (Int × Int)} (h : code n ps = 0) : code n (covL n ps n 0) = 0 := by
  obtain ⟨h2, h3, h4⟩ := code_zero h
  have hn : 1 ≤ n ∧ n ≤ 6 := by unfold Large at h2; omega
  have := covL_few hn.2 h4
  refine code_ok (by unfold Large; omega) (covL_good n ps) ?_
  rintro ⟨i, j, hj, hji, hi, h5, h6⟩
  obtain ⟨a, rfl⟩ := Int.eq_ofNat_of_zero_le (show 0 ≤ i by omega)
  obtain ⟨b, rfl⟩ := Int.eq_ofNat_of_zero_le hj
  have e1 := hasse h4 (a := a) (b := b) (by omega) (by omega)
  have e2 := hasse h4 (a := b) (b := a) (by omega) (by omega)
  exact h4 (cyc_of (by omega) (by omega) (e1 ▸ under_iff.2 h5) (e2 ▸ under_iff.2 h6))

theorem covL_tab {n : Nat} {ps : List (Int × Int)} (h : ¬ Cyc n ps) : tab n (upT n (covL n ps n 0)) = tab n (upT n ps) :=
  tab_congr fun _ ha => wordOf_congr fun _ hb => hasse h ha hb

end Go.Proofs.YtmlggmopkelcfaaDoor
