/- Plain mathematics of orders given by pairs: what is reached, nothing of Go. -/
namespace Go.Proofs.Ythgmbiaajgpaaaa

/-- b is reached from a along pairs. -/
def Reach (ps : List (Int × Int)) (a b : Int) : Prop := ∀ S : Int → Prop, S a → (∀ p ∈ ps, S p.1 → S p.2) → S b

theorem Reach.refl (ps : List (Int × Int)) (a : Int) : Reach ps a a := fun _ h _ => h
theorem Reach.step {ps : List (Int × Int)} {a : Int} {p : Int × Int} (h : Reach ps a p.1) (hp : p ∈ ps) : Reach ps a p.2 :=
  fun S h0 hs => hs p hp (h S h0 hs)
theorem Reach.trans {ps : List (Int × Int)} {a b c : Int} (h : Reach ps a b) (k : Reach ps b c) : Reach ps a c :=
  fun S h0 hs => k S (h S h0 hs) hs

open Classical in
/-- Is b reached from a? -/
noncomputable def under (ps : List (Int × Int)) (a b : Int) : Bool := decide (Reach ps a b)
theorem under_iff {ps : List (Int × Int)} {a b : Int} : under ps a b = true ↔ Reach ps a b := by simp [under]

theorem nodup_sub_length {α : Type} [BEq α] [LawfulBEq α] : ∀ (xs ys : List α), xs.Nodup → (∀ x ∈ xs, x ∈ ys) → xs.length ≤ ys.length
  | [], _, _, _ => by simp
  | x :: xs, ys, hn, hs => by
    rw [List.nodup_cons] at hn
    have hx : x ∈ ys := hs x (by simp)
    have h1 : ∀ z ∈ xs, z ∈ ys.erase x := by
      intro z hz
      have hne : z ≠ x := fun e => hn.1 (e ▸ hz)
      exact (List.mem_erase_of_ne hne).2 (hs z (by simp [hz]))
    have h2 := nodup_sub_length xs (ys.erase x) hn.2 h1
    rw [List.length_erase_of_mem hx] at h2
    have h3 : 0 < ys.length := List.length_pos_of_mem hx
    simp only [List.length_cons]
    omega

/-- What holds of the list of things that have been come to: its first k have had all their pairs looked at, the next one its first j. -/
structure Come (ps : List (Int × Int)) (a : Int) (xs : List Int) (k j : Nat) : Prop where
  first : a ∈ xs
  nodup : xs.Nodup
  sub : ∀ x ∈ xs, x ∈ a :: ps.map (·.2)
  sound : ∀ x ∈ xs, Reach ps a x
  done : ∀ i x, i < k → xs[i]? = some x → ∀ p ∈ ps, p.1 = x → p.2 ∈ xs
  part : ∀ x, xs[k]? = some x → ∀ p ∈ ps.take j, p.1 = x → p.2 ∈ xs

theorem Come.init (ps : List (Int × Int)) (a : Int) : Come ps a [a] 0 0 :=
  ⟨by simp, by simp, by simp, by intro x hx; simp at hx; subst hx; exact Reach.refl _ _, by intro i x h; omega, by simp⟩

theorem Come.len {ps : List (Int × Int)} {a : Int} {xs : List Int} {k j : Nat} (h : Come ps a xs k j) : xs.length ≤ ps.length + 1 := by
  have := nodup_sub_length xs (a :: ps.map (·.2)) h.nodup h.sub
  simpa using this

theorem mem_take_succ' {α : Type} {xs : List α} {k : Nat} {y p : α} (hy : xs[k]? = some y) (h : p ∈ xs.take (k+1)) : p ∈ xs.take k ∨ p = y := by
  rw [List.take_add_one, hy] at h
  simpa using h

/-- A pair that leads to nothing new. -/
theorem Come.skip {ps : List (Int × Int)} {a : Int} {xs : List Int} {k j : Nat} {x : Int} {p : Int × Int} (h : Come ps a xs k j) (hx : xs[k]? = some x) (hp : ps[j]? = some p) (hn : p.1 = x → p.2 ∈ xs) :
    Come ps a xs k (j + 1) :=
  ⟨h.first, h.nodup, h.sub, h.sound, h.done, fun y hy q hq hqy => by
    rcases mem_take_succ' hp hq with h1 | rfl
    · exact h.part y hy q h1 hqy
    · rw [hx] at hy; cases hy; exact hn hqy⟩

/-- A pair that leads to a new thing. -/
theorem Come.add {ps : List (Int × Int)} {a : Int} {xs : List Int} {k j : Nat} {x : Int} {p : Int × Int} (h : Come ps a xs k j) (hx : xs[k]? = some x) (hp : ps[j]? = some p) (h1 : p.1 = x) (h2 : ¬ p.2 ∈ xs) :
    Come ps a (xs ++ [p.2]) k (j + 1) := by
  have hpm : p ∈ ps := List.mem_of_getElem? hp
  have hkl : k < xs.length := (List.getElem?_eq_some_iff.1 hx).1
  refine ⟨by simp [h.first], ?_, ?_, ?_, ?_, ?_⟩
  · rw [List.nodup_append]
    refine ⟨h.nodup, by simp, ?_⟩
    intro y hy z hz
    simp at hz; subst hz
    exact fun e => h2 (e ▸ hy)
  · intro y hy
    rcases List.mem_append.1 hy with hy | hy
    · exact h.sub y hy
    · simp at hy; subst hy
      exact List.mem_cons_of_mem _ (List.mem_map_of_mem hpm)
  · intro y hy
    rcases List.mem_append.1 hy with hy | hy
    · exact h.sound y hy
    · simp at hy; subst hy
      exact (h1 ▸ h.sound x (List.mem_of_getElem? hx) : Reach ps a p.1).step hpm
  · intro i y hi hy q hq hqy
    rw [List.getElem?_append_left (by omega)] at hy
    exact List.mem_append_left _ (h.done i y hi hy q hq hqy)
  · intro y hy q hq hqy
    rw [List.getElem?_append_left hkl] at hy
    rcases mem_take_succ' hp hq with h3 | rfl
    · exact List.mem_append_left _ (h.part y hy q h3 hqy)
    · simp

/-- All pairs of the k-th have been looked at. -/
theorem Come.next {ps : List (Int × Int)} {a : Int} {xs : List Int} {k : Nat} (h : Come ps a xs k ps.length) : Come ps a xs (k + 1) 0 :=
  ⟨h.first, h.nodup, h.sub, h.sound, fun i x hi hx p hp hpx => by
    rcases Nat.lt_or_ge i k with h1 | h1
    · exact h.done i x h1 hx p hp hpx
    · obtain rfl : i = k := by omega
      exact h.part x hx p (by rw [List.take_length]; exact hp) hpx, by simp⟩

/-- All things have been looked at. -/
theorem Come.all {ps : List (Int × Int)} {a : Int} {xs : List Int} {k j : Nat} (h : Come ps a xs k j) (hk : xs.length ≤ k) (b : Int) : b ∈ xs ↔ Reach ps a b := by
  refine ⟨h.sound b, fun hr => ?_⟩
  refine hr (· ∈ xs) h.first fun p hp hp1 => ?_
  obtain ⟨i, hi⟩ := List.mem_iff_getElem?.1 hp1
  have : i < xs.length := (List.getElem?_eq_some_iff.1 hi).1
  exact h.done i p.1 (by omega) hi p hp rfl

theorem Come.answer {ps : List (Int × Int)} {a : Int} {xs : List Int} {k j : Nat} (h : Come ps a xs k j) (hk : xs.length ≤ k) (b : Int) : decide (b ∈ xs) = under ps a b := by
  rw [Bool.eq_iff_iff, under_iff, decide_eq_true_iff]
  exact h.all hk b

/-! ## What is wrong with a number and its pairs -/
/-- A pair of things. -/
def okPair (n : Int) (p : Int × Int) : Prop := 0 ≤ p.1 ∧ p.1 < n ∧ 0 ≤ p.2 ∧ p.2 < n
def Large (n : Int) (ps : List (Int × Int)) : Prop := n < 1 ∨ 6 < n ∨ 20 < ps.length
def Good (n : Int) (ps : List (Int × Int)) : Prop := ∀ p ∈ ps, okPair n p
/-- Two different things are below each other. -/
def Cyc (n : Int) (ps : List (Int × Int)) : Prop := ∃ i j : Int, 0 ≤ j ∧ j < i ∧ i < n ∧ Reach ps i j ∧ Reach ps j i
open Classical in
/-- The code that the errors give that show before the relation is extended. -/
noncomputable def code1 (n : Int) (ps : List (Int × Int)) : Int := if Large n ps then 1 else if Good n ps then 0 else 2
open Classical in
/-- The code. -/
noncomputable def code (n : Int) (ps : List (Int × Int)) : Int := if Large n ps then 1 else if Good n ps then (if Cyc n ps then 3 else 0) else 2

theorem code_large {n : Int} {ps : List (Int × Int)} (h : Large n ps) : code n ps = 1 := by simp [code, h]
theorem code_bad {n : Int} {ps : List (Int × Int)} (h : ¬ Large n ps) (h2 : ¬ Good n ps) : code n ps = 2 := by simp [code, h, h2]
theorem code_cyc {n : Int} {ps : List (Int × Int)} (h : ¬ Large n ps) (h2 : Good n ps) (h3 : Cyc n ps) : code n ps = 3 := by simp [code, h, h2, h3]
theorem code_ok {n : Int} {ps : List (Int × Int)} (h : ¬ Large n ps) (h2 : Good n ps) (h3 : ¬ Cyc n ps) : code n ps = 0 := by simp [code, h, h2, h3]
theorem code1_large {n : Int} {ps : List (Int × Int)} (h : Large n ps) : code1 n ps = 1 := by simp [code1, h]
theorem code1_bad {n : Int} {ps : List (Int × Int)} (h : ¬ Large n ps) (h2 : ¬ Good n ps) : code1 n ps = 2 := by simp [code1, h, h2]
theorem code1_ok {n : Int} {ps : List (Int × Int)} (h : ¬ Large n ps) (h2 : Good n ps) : code1 n ps = 0 := by simp [code1, h, h2]

theorem good_take {n : Int} {ps : List (Int × Int)} {j : Nat} {p : Int × Int} (h : Good n (ps.take j)) (hp : ps[j]? = some p) (hok : okPair n p) : Good n (ps.take (j + 1)) := by
  intro q hq
  rcases mem_take_succ' hp hq with h1 | rfl
  · exact h q h1
  · exact hok

/-- No two of the first i things are below each other. -/
def Apart2 (ps : List (Int × Int)) (i j : Nat) : Prop := ∀ a b : Nat, b < a → (a < i ∨ a = i ∧ b < j) → ¬ (under ps a b = true ∧ under ps b a = true)
theorem Apart2.step {ps : List (Int × Int)} {i j : Nat} (h : Apart2 ps i j) (hn : ¬ (under ps i j = true ∧ under ps j i = true)) : Apart2 ps i (j + 1) := by
  intro a b hab ha
  by_cases hc : a < i ∨ a = i ∧ b < j
  · exact h a b hab hc
  · obtain ⟨rfl, rfl⟩ : a = i ∧ b = j := by omega
    exact hn
theorem Apart2.next {ps : List (Int × Int)} {i : Nat} (h : Apart2 ps i i) : Apart2 ps (i + 1) 0 := by
  intro a b hab ha
  exact h a b hab (by omega)
theorem Apart2.all {ps : List (Int × Int)} {n : Nat} (h : Apart2 ps n 0) : ¬ Cyc n ps := by
  rintro ⟨i, j, hj, hji, hi, h1, h2⟩
  obtain ⟨a, rfl⟩ := Int.eq_ofNat_of_zero_le (show 0 ≤ i by omega)
  obtain ⟨b, rfl⟩ := Int.eq_ofNat_of_zero_le hj
  exact h a b (by omega) (by omega) ⟨under_iff.2 h1, under_iff.2 h2⟩
theorem cyc_of {ps : List (Int × Int)} {n i j : Nat} (hij : j < i) (hi : i < n) (h1 : under ps i j = true) (h2 : under ps j i = true) : Cyc n ps :=
  ⟨i, j, by omega, by omega, by omega, under_iff.1 h1, under_iff.1 h2⟩

theorem nodup_mapN {f : Nat → Nat} : ∀ {l : List Nat}, l.Nodup → (∀ x ∈ l, ∀ y ∈ l, f x = f y → x = y) → (l.map f).Nodup
  | [], _, _ => by simp
  | x :: l, hn, h => by
    rw [List.nodup_cons] at hn
    rw [List.map_cons, List.nodup_cons]
    refine ⟨fun hm => ?_, nodup_mapN hn.2 fun a ha b hb => h a (by simp [ha]) b (by simp [hb])⟩
    obtain ⟨y, hy, e⟩ := List.mem_map.1 hm
    exact hn.1 (h y (by simp [hy]) x (by simp) e ▸ hy)
theorem inj_len {l k : List Nat} (f : Nat → Nat) (hl : l.Nodup) (h1 : ∀ x ∈ l, f x ∈ k) (h2 : ∀ x ∈ l, ∀ y ∈ l, f x = f y → x = y) : l.length ≤ k.length := by
  have hn : (l.map f).Nodup := nodup_mapN hl h2
  have := nodup_sub_length (l.map f) k hn fun x hx => by
    obtain ⟨y, hy, rfl⟩ := List.mem_map.1 hx
    exact h1 y hy
  rwa [List.length_map] at this
end Go.Proofs.Ythgmbiaajgpaaaa
