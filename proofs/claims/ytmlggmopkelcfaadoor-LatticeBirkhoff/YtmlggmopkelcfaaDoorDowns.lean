/- Plain mathematics of down-sets. -/
import Derived.Test.YtmlggmopkelcfaaDoorTurn
import Derived.Test.YtmlggmopkelcfaaDoorFreeM
import Derived.Test.YtmlggmopkelcfaaDoorChains
import Derived.Test.YtmlggmopkelcfaaDoorLat
namespace Go.Proofs.YtmlggmopkelcfaaDoor
open Go.RowKit

/-! ## Down-sets, as they are looked at -/
/-- A set has with each thing those below it: looked at for the first i, and the first j of i. -/
def Dn (n : Nat) (ps : List (Int × Int)) (s i j : Nat) : Prop :=
  ∀ a b : Nat, (a < i ∧ b < n ∨ a = i ∧ b < j) → s.testBit b = true → s.testBit a = false → under ps a b = false
open Classical in
noncomputable def downB (n : Nat) (ps : List (Int × Int)) (s : Nat) : Bool := decide (Dn n ps s n 0)
theorem downB_iff {n : Nat} {ps : List (Int × Int)} {s : Nat} : downB n ps s = true ↔ Dn n ps s n 0 := by simp [downB]
theorem downB_no {n : Nat} {ps : List (Int × Int)} {s a b : Nat} (ha : a < n) (hb : b < n) (h1 : s.testBit b = true) (h2 : s.testBit a = false) (h3 : under ps a b = true) : downB n ps s = false := by
  cases h : downB n ps s with
  | false => rfl
  | true =>
    have := downB_iff.1 h a b (.inl ⟨ha, hb⟩) h1 h2
    rw [h3] at this
    cases this
theorem Dn.init (n : Nat) (ps : List (Int × Int)) (s : Nat) : Dn n ps s 0 0 := by intro a b h; omega
theorem Dn.step {n : Nat} {ps : List (Int × Int)} {s i j : Nat} (h : Dn n ps s i j) (hn : s.testBit j = true → s.testBit i = false → under ps i j = false) : Dn n ps s i (j + 1) := by
  intro a b hab
  by_cases e : a = i ∧ b = j
  · obtain ⟨rfl, rfl⟩ := e; exact hn
  · exact h a b (by omega)
theorem Dn.next {n : Nat} {ps : List (Int × Int)} {s i : Nat} (h : Dn n ps s i n) : Dn n ps s (i + 1) 0 := fun a b hab => h a b (by omega)
/-- A set has with each thing those below it. -/
def IsDown (n : Nat) (ps : List (Int × Int)) (s : Nat) : Prop := ∀ a b : Nat, a < n → b < n → s.testBit b = true → under ps a b = true → s.testBit a = true
theorem isDown_iff {n : Nat} {ps : List (Int × Int)} {s : Nat} : downB n ps s = true ↔ IsDown n ps s := by
  rw [downB_iff]
  constructor
  · intro h a b ha hb h1 h2
    cases e : s.testBit a with
    | true => rfl
    | false => rw [h a b (.inl ⟨ha, hb⟩) h1 e] at h2; cases h2
  · intro h a b hab h1 h2
    obtain ⟨ha, hb⟩ : a < n ∧ b < n := by omega
    cases e : under ps a b with
    | false => rfl
    | true => rw [h a b ha hb h1 e] at h2; cases h2

/-! ## Filling, and the edge -/
open Classical in
/-- The smallest down-set that includes s. -/
noncomputable def fillW (n : Nat) (ps : List (Int × Int)) (s : Nat) : Nat := wordOf n fun a => decide (∃ b, b < n ∧ s.testBit b = true ∧ under ps a b = true)
open Classical in
/-- Those of s that are not below another one of s. -/
noncomputable def edgeW (n : Nat) (ps : List (Int × Int)) (s : Nat) : Nat := wordOf n fun a => s.testBit a && decide (∀ b : Nat, b < n → b ≠ a → s.testBit b = true → under ps a b = false)
theorem mem_fill {n : Nat} {ps : List (Int × Int)} {s a : Nat} : (fillW n ps s).testBit a = true ↔ a < n ∧ ∃ b, b < n ∧ s.testBit b = true ∧ under ps a b = true := by
  unfold fillW; rw [testBit_wordOf]; simp
theorem mem_edge {n : Nat} {ps : List (Int × Int)} {s a : Nat} : (edgeW n ps s).testBit a = true ↔ a < n ∧ s.testBit a = true ∧ ∀ b : Nat, b < n → b ≠ a → s.testBit b = true → under ps a b = false := by
  unfold edgeW; rw [testBit_wordOf]; simp
theorem fill_lt (n : Nat) (ps : List (Int × Int)) (s : Nat) : fillW n ps s < one n := wordOf_lt _ _
theorem edge_lt (n : Nat) (ps : List (Int × Int)) (s : Nat) : edgeW n ps s < one n := wordOf_lt _ _
theorem fill_down (n : Nat) (ps : List (Int × Int)) (s : Nat) : IsDown n ps (fillW n ps s) := by
  intro a b ha hb h1 h2
  obtain ⟨_, d, hd, hs, hu⟩ := mem_fill.1 h1
  exact mem_fill.2 ⟨ha, d, hd, hs, under_trans h2 hu⟩
theorem fill_sub {n : Nat} {ps : List (Int × Int)} {s a : Nat} (ha : a < n) (h : s.testBit a = true) : (fillW n ps s).testBit a = true := mem_fill.2 ⟨ha, a, ha, h, under_refl _ _⟩
theorem fill_least {n : Nat} {ps : List (Int × Int)} {s t : Nat} (hd : IsDown n ps t) (hs : ∀ a, a < n → s.testBit a = true → t.testBit a = true) {a : Nat} (h : (fillW n ps s).testBit a = true) : t.testBit a = true := by
  obtain ⟨ha, b, hb, h1, h2⟩ := mem_fill.1 h
  exact hd a b ha hb (hs b hb h1) h2
theorem fill_own {n : Nat} {ps : List (Int × Int)} {s : Nat} (hs : s < one n) (hd : IsDown n ps s) : fillW n ps s = s :=
  word_ext (fill_lt _ _ _) hs fun a ha => by
    rw [Bool.eq_iff_iff]
    exact ⟨fill_least hd (fun _ _ h => h), fill_sub ha⟩
/-- Above each thing of a set there is one of its edge. -/
theorem edge_above {n : Nat} {ps : List (Int × Int)} (hcy : ¬ Cyc n ps) {s : Nat} : ∀ (m a : Nat), sAb n ps a ≤ m → a < n → s.testBit a = true → ∃ b, (edgeW n ps s).testBit b = true ∧ under ps a b = true := by
  intro m
  induction m with
  | zero =>
    intro a hm ha hs
    refine ⟨a, mem_edge.2 ⟨ha, hs, fun b hb hne hsb => ?_⟩, under_refl _ _⟩
    cases e : under ps a b with
    | false => rfl
    | true => have := sAb_lt hcy ha hb (ab_iff.2 ⟨fun h => hne h.symm, e⟩); omega
  | succ m ih =>
    intro a hm ha hs
    by_cases h : ∀ b : Nat, b < n → b ≠ a → s.testBit b = true → under ps a b = false
    · exact ⟨a, mem_edge.2 ⟨ha, hs, h⟩, under_refl _ _⟩
    · have : ∃ b : Nat, b < n ∧ b ≠ a ∧ s.testBit b = true ∧ under ps a b = true := by
        refine Classical.byContradiction fun hno => h fun b hb hne hsb => ?_
        cases e : under ps a b with
        | false => rfl
        | true => exact absurd ⟨b, hb, hne, hsb, e⟩ hno
      obtain ⟨b, hb, hne, hsb, hu⟩ := this
      have := sAb_lt hcy ha hb (ab_iff.2 ⟨fun h => hne h.symm, hu⟩)
      obtain ⟨d, hd, hud⟩ := ih b (by omega) hb hsb
      exact ⟨d, hd, under_trans hu hud⟩
theorem fill_edge {n : Nat} {ps : List (Int × Int)} (hcy : ¬ Cyc n ps) {s : Nat} (hs : s < one n) (hd : IsDown n ps s) : fillW n ps (edgeW n ps s) = s :=
  word_ext (fill_lt _ _ _) hs fun a ha => by
    rw [Bool.eq_iff_iff]
    constructor
    · exact fill_least hd fun b _ hb => (mem_edge.1 hb).2.1
    · intro h
      obtain ⟨b, hb, hu⟩ := edge_above hcy _ a (Nat.le_refl _) ha h
      exact mem_fill.2 ⟨ha, b, (mem_edge.1 hb).1, hb, hu⟩
theorem edge_free (n : Nat) (ps : List (Int × Int)) (s : Nat) : freeB n ps (edgeW n ps s) = true :=
  freeB_iff.2 fun a b _ hne h1 h2 => by
    obtain ⟨_, _, h3⟩ := mem_edge.1 h1
    obtain ⟨hb, h4, _⟩ := mem_edge.1 h2
    exact h3 b hb (fun e => hne e.symm) h4
theorem edge_fill {n : Nat} {ps : List (Int × Int)} (hcy : ¬ Cyc n ps) {s : Nat} (hs : s < one n) (hf : freeB n ps s = true) : edgeW n ps (fillW n ps s) = s :=
  word_ext (edge_lt _ _ _) hs fun a ha => by
    rw [Bool.eq_iff_iff]
    constructor
    · intro h
      obtain ⟨_, h1, h2⟩ := mem_edge.1 h
      obtain ⟨_, b, hb, h3, h4⟩ := mem_fill.1 h1
      by_cases e : b = a
      · rw [← e]; exact h3
      · rw [h2 b hb e (fill_sub hb h3)] at h4; cases h4
    · intro h
      refine mem_edge.2 ⟨ha, fill_sub ha h, fun b hb hne h1 => ?_⟩
      cases e : under ps a b with
      | false => rfl
      | true =>
        obtain ⟨_, d, hd, h3, h4⟩ := mem_fill.1 h1
        have hne2 : a ≠ d := by
          rintro rfl
          exact hne (under_anti hcy hb ha h4 e)
        have := freeB_iff.1 hf a d (.inl ⟨ha, hd⟩) hne2 h h3
        rw [under_trans e h4] at this
        cases this
/-- The edge of what s fills is part of s. -/
theorem edge_fill_sub {n : Nat} {ps : List (Int × Int)} {s a : Nat} (h : (edgeW n ps (fillW n ps s)).testBit a = true) : s.testBit a = true := by
  obtain ⟨_, h1, h2⟩ := mem_edge.1 h
  obtain ⟨_, b, hb, h3, h4⟩ := mem_fill.1 h1
  by_cases e : b = a
  · rw [← e]; exact h3
  · rw [h2 b hb e (fill_sub hb h3)] at h4; cases h4

/-! ## Counting -/
/-- How many words below m have p. -/
def cntW (p : Nat → Bool) (m : Nat) : Nat := ((List.range m).filter p).length
theorem cntW_succ (p : Nat → Bool) (m : Nat) : cntW p (m + 1) = cntW p m + if p m then 1 else 0 := by
  unfold cntW
  rw [List.range_succ, List.filter_append, List.length_append]
  cases h : p m <;> simp [h]
theorem cntW_le (p : Nat → Bool) (m : Nat) : cntW p m ≤ m := by
  unfold cntW
  exact Nat.le_trans (List.length_filter_le _ _) (by simp)
theorem nodup_mapN {f : Nat → Nat} : ∀ {l : List Nat}, l.Nodup → (∀ x ∈ l, ∀ y ∈ l, f x = f y → x = y) → (l.map f).Nodup
  | [], _, _ => by simp
  | x :: l, hn, h => by
    rw [List.nodup_cons] at hn
    rw [List.map_cons, List.nodup_cons]
    refine ⟨fun hm => ?_, nodup_mapN hn.2 fun a ha b hb => h a (by simp [ha]) b (by simp [hb])⟩
    obtain ⟨y, hy, e⟩ := List.mem_map.1 hm
    exact hn.1 (h y (by simp [hy]) x (by simp) e ▸ hy)
theorem inj_len {l k : List Nat} (f : Nat → Nat) (hl : l.Nodup) (h1 : ∀ x ∈ l, f x ∈ k) (h2 : ∀ x ∈ l, ∀ y ∈ l, f x = f y → x = y) : l.length ≤ k.length := by
  have hn : (l.map f).Nodup := nodup_mapN hl h2
  have := nodup_sub_length (l.map f) k hn fun x hx => by
    obtain ⟨y, hy, rfl⟩ := List.mem_map.1 hx
    exact h1 y hy
  rwa [List.length_map] at this
theorem cntW_inj {p q : Nat → Bool} {m k : Nat} (f : Nat → Nat) (h1 : ∀ x, x < m → p x = true → f x < k ∧ q (f x) = true) (h2 : ∀ x y, x < m → y < m → p x = true → p y = true → f x = f y → x = y) : cntW p m ≤ cntW q k := by
  refine inj_len f (List.Pairwise.filter _ List.nodup_range) (fun x hx => ?_) (fun x hx y hy e => ?_)
  · rw [List.mem_filter, List.mem_range] at hx
    rw [List.mem_filter, List.mem_range]
    exact h1 x hx.1 hx.2
  · rw [List.mem_filter, List.mem_range] at hx hy
    exact h2 x y hx.1 hy.1 hx.2 hy.2 e
/-- As many down-sets as sets of which none is below another. -/
theorem downs_frees {n : Nat} {ps : List (Int × Int)} (hcy : ¬ Cyc n ps) : cntW (downB n ps) (one n) = cntW (freeB n ps) (one n) := by
  refine Nat.le_antisymm ?_ ?_
  · refine cntW_inj (edgeW n ps) (fun x _ _ => ⟨edge_lt _ _ _, edge_free _ _ _⟩) fun x y hx hy h1 h2 e => ?_
    rw [← fill_edge hcy hx (isDown_iff.1 h1), e, fill_edge hcy hy (isDown_iff.1 h2)]
  · refine cntW_inj (fillW n ps) (fun x _ _ => ⟨fill_lt _ _ _, isDown_iff.2 (fill_down _ _ _)⟩) fun x y hx hy h1 h2 e => ?_
    rw [← edge_fill hcy hx h1, e, edge_fill hcy hy h2]
theorem free_turned (n : Nat) (ps : List (Int × Int)) (s : Nat) : freeB n (turned ps) s = freeB n ps s := by
  rw [Bool.eq_iff_iff, freeB_iff, freeB_iff]
  constructor
  · intro h a b hab hne h1 h2
    have := h b a (by omega) (fun e => hne e.symm) h2 h1
    rw [under_turned] at this
    exact this
  · intro h a b hab hne h1 h2
    rw [under_turned]
    exact h b a (by omega) (fun e => hne e.symm) h2 h1
theorem downs_turned {n : Nat} {ps : List (Int × Int)} (hcy : ¬ Cyc n ps) : cntW (downB n (turned ps)) (one n) = cntW (freeB n ps) (one n) := by
  rw [downs_frees (turned_cyc hcy), show freeB n (turned ps) = freeB n ps from funext (free_turned n ps)]
/-- There are more down-sets than things. -/
theorem downs_many {n : Nat} {ps : List (Int × Int)} : n + 1 ≤ cntW (freeB n ps) (one n) := by
  have h : cntW (fun _ => true) (n + 1) ≤ cntW (freeB n ps) (one n) := by
    refine cntW_inj (fun k => if k = n then 0 else one k) (fun x hx _ => ?_) fun x y hx hy _ _ e => ?_
    · by_cases e : x = n
      · rw [if_pos e]
        exact ⟨one_pos n, freeB_iff.2 fun a b _ _ h1 => by simp at h1⟩
      · rw [if_neg e]
        refine ⟨one_lt_one (by omega), freeB_iff.2 fun a b _ hne h1 h2 => ?_⟩
        rw [one_testBit] at h1 h2
        simp at h1 h2
        omega
    · have inj : ∀ x y, one x = one y → x = y := by
        intro x y e
        rcases Nat.lt_trichotomy x y with h | h | h
        · have := one_lt_one h; omega
        · exact h
        · have := one_lt_one h; omega
      by_cases e1 : x = n
      · by_cases e2 : y = n
        · omega
        · simp only [if_pos e1, if_neg e2] at e
          have := one_pos y; omega
      · by_cases e2 : y = n
        · simp only [if_neg e1, if_pos e2] at e
          have := one_pos x; omega
        · simp only [if_neg e1, if_neg e2] at e
          exact inj x y e
  have h2 : ∀ m, cntW (fun _ => true) m = m := by
    intro m
    induction m with
    | zero => rfl
    | succ m ih => rw [cntW_succ, ih]; rfl
  have := h2 (n + 1)
  omega

end Go.Proofs.YtmlggmopkelcfaaDoor
