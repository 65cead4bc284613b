/- Plain mathematics of tables of words: the closure of pairs. -/
import Derived.Test.YthgmbiaajgpaaaaMath
import Derived.Test.YthgmbiaajgpaaaaBase
namespace Go.Proofs.Ythgmbiaajgpaaaa
open Go.RowKit

/-- The word of the numbers below n that p lets in. -/
def wordOf : Nat → (Nat → Bool) → Nat
  | 0, _ => 0
  | n + 1, p => wordOf n p ||| (if p n then one n else 0)

theorem one_testBit (k b : Nat) : (one k).testBit b = decide (k = b) := by unfold one; exact Nat.testBit_two_pow
theorem testBit_wordOf (n : Nat) (p : Nat → Bool) (b : Nat) : (wordOf n p).testBit b = (decide (b < n) && p b) := by
  induction n with
  | zero => simp [wordOf]
  | succ n ih =>
    rw [wordOf, Nat.testBit_or, ih]
    by_cases h : b = n
    · subst h
      cases hp : p b <;> simp [one_testBit]
    · have h1 : decide (b < n + 1) = decide (b < n) := by rw [decide_eq_decide]; omega
      rw [h1]
      cases hp : p n <;> simp [one_testBit, show ¬ n = b from fun e => h e.symm]
theorem one_lt_one {k n : Nat} (h : k < n) : one k < one n := Nat.pow_lt_pow_right (by omega) h
theorem or_lt_one {a b n : Nat} (ha : a < one n) (hb : b < one n) : a ||| b < one n := Nat.or_lt_two_pow ha hb
theorem one_pos (n : Nat) : 0 < one n := Nat.two_pow_pos n
theorem wordOf_lt (n : Nat) (p : Nat → Bool) : wordOf n p < one n := by
  apply Nat.lt_pow_two_of_testBit
  intro i hi
  rw [testBit_wordOf]
  simp
  omega
theorem lt_one_testBit {a n b : Nat} (h : a < one n) (hb : n ≤ b) : a.testBit b = false := by
  apply Nat.testBit_lt_two_pow
  exact Nat.lt_of_lt_of_le h (Nat.pow_le_pow_right (by omega) hb)
theorem word_ext {n a b : Nat} (ha : a < one n) (hb : b < one n) (h : ∀ i, i < n → a.testBit i = b.testBit i) : a = b := by
  apply Nat.eq_of_testBit_eq
  intro i
  by_cases hi : i < n
  · exact h i hi
  · rw [lt_one_testBit ha (by omega), lt_one_testBit hb (by omega)]
theorem wordOf_of {n a : Nat} {p : Nat → Bool} (ha : a < one n) (h : ∀ i, i < n → a.testBit i = p i) : a = wordOf n p :=
  word_ext ha (wordOf_lt n p) fun i hi => by rw [testBit_wordOf, h i hi]; simp [hi]
theorem wordOf_congr {n : Nat} {p q : Nat → Bool} (h : ∀ i, i < n → p i = q i) : wordOf n p = wordOf n q :=
  wordOf_of (wordOf_lt n p) fun i hi => by rw [testBit_wordOf, h i hi]; simp [hi]
theorem one_le_64 {n : Nat} (hn : n ≤ 6) : one n ≤ 64 := by
  unfold one
  exact Nat.le_trans (Nat.pow_le_pow_right (by omega) hn) (by decide)

/-- The first n rows of a table. -/
def tab (n : Nat) (f : Nat → Nat) : List Nat := (List.range n).map f
@[simp] theorem tab_length (n : Nat) (f : Nat → Nat) : (tab n f).length = n := by simp [tab]
theorem tab_at {n k : Nat} (f : Nat → Nat) (h : k < n) : (tab n f)[k]? = some (f k) := by simp [tab, h]
def upd (f : Nat → Nat) (a v : Nat) : Nat → Nat := fun x => if x = a then v else f x
theorem upd_same (f : Nat → Nat) (a v : Nat) : upd f a v a = v := by simp [upd]
theorem upd_other {f : Nat → Nat} {a v x : Nat} (h : x ≠ a) : upd f a v x = f x := by simp [upd, h]
theorem tab_set (n : Nat) (f : Nat → Nat) (a v : Nat) : (words (tab n f)).set a (.int .u32 (v : Int)) = words (tab n (upd f a v)) := by
  apply List.ext_getElem?
  intro i
  rw [List.getElem?_set]
  simp only [words, tab, List.map_map, List.length_map, List.length_range, List.getElem?_map]
  by_cases hi : i < n
  · rw [List.getElem?_range hi]
    by_cases ha : a = i
    · subst ha; simp [hi, upd]
    · rw [if_neg ha]; simp [upd, show ¬ i = a from fun e => ha e.symm]
  · have h0 : (List.range n)[i]? = none := List.getElem?_eq_none (by simp; omega)
    rw [h0]
    by_cases ha : a = i <;> simp [ha, hi]
theorem tab_congr {n : Nat} {f g : Nat → Nat} (h : ∀ i, i < n → f i = g i) : tab n f = tab n g := by
  apply List.map_congr_left
  intro i hi
  exact h i (by simpa using hi)

/-! ## The closure -/
/-- The table of what is above each thing. -/
noncomputable def upT (n : Nat) (ps : List (Int × Int)) : Nat → Nat := fun a => wordOf n fun b => under ps a b

/-- What holds of a table on the way: of its first j pairs. -/
structure Grows (n : Nat) (ps : List (Int × Int)) (f : Nat → Nat) (j : Nat) : Prop where
  lt : ∀ a, a < n → f a < one n
  own : ∀ a, a < n → (f a).testBit a = true
  has : ∀ a b : Nat, ((a : Int), (b : Int)) ∈ ps.take j → (f a).testBit b = true
  sound : ∀ a b, a < n → (f a).testBit b = true → Reach ps a b

theorem Grows.init (n : Nat) (ps : List (Int × Int)) : Grows n ps one 0 :=
  ⟨fun a ha => one_lt_one ha, fun a _ => by simp [one_testBit], by simp, fun a b _ h => by
    rw [one_testBit] at h; simp at h; subst h; exact Reach.refl _ _⟩

theorem Grows.add {n : Nat} {ps : List (Int × Int)} {f : Nat → Nat} {j a b : Nat} (h : Grows n ps f j) (hp : ps[j]? = some ((a : Int), (b : Int))) (hb : b < n) (ha : a < n) :
    Grows n ps (upd f a (f a ||| one b)) (j + 1) := by
  refine ⟨fun x hx => ?_, fun x hx => ?_, fun x y hxy => ?_, fun x y hx hxy => ?_⟩
  · by_cases e : x = a
    · subst e; rw [upd_same]; exact or_lt_one (h.lt x hx) (one_lt_one hb)
    · rw [upd_other e]; exact h.lt x hx
  · by_cases e : x = a
    · subst e; rw [upd_same, Nat.testBit_or, h.own x hx]; rfl
    · rw [upd_other e]; exact h.own x hx
  · rcases mem_take_succ' hp hxy with h1 | h1
    · by_cases e : x = a
      · subst e; rw [upd_same, Nat.testBit_or, h.has x y h1]; rfl
      · rw [upd_other e]; exact h.has x y h1
    · simp only [Prod.mk.injEq] at h1
      obtain ⟨rfl, rfl⟩ : x = a ∧ y = b := by omega
      rw [upd_same, Nat.testBit_or, one_testBit]; simp
  · by_cases e : x = a
    · subst e
      rw [upd_same, Nat.testBit_or, one_testBit] at hxy
      rcases Bool.or_eq_true_iff.1 hxy with h1 | h1
      · exact h.sound x y hx h1
      · simp at h1; subst h1
        exact (Reach.refl ps x).step (p := ((x : Int), (b : Int))) (List.mem_of_getElem? hp)
    · rw [upd_other e] at hxy; exact h.sound x y hx hxy

/-- One thing as the middle. -/
def stp (m : Nat) (f : Nat → Nat) : Nat → Nat := fun x => if (f x).testBit m then f x ||| f m else f x
theorem stp_mid (m : Nat) (f : Nat → Nat) : stp m f m = f m := by simp [stp]
/-- The first a rows have had it. -/
def part (m : Nat) (f : Nat → Nat) (a : Nat) : Nat → Nat := fun x => if x < a then stp m f x else f x
theorem part_at (m : Nat) (f : Nat → Nat) (a : Nat) : part m f a a = f a := by simp [part]
theorem part_mid (m : Nat) (f : Nat → Nat) (a : Nat) : part m f a m = f m := by unfold part; split <;> simp [stp_mid]
theorem part_zero (m : Nat) (f : Nat → Nat) : part m f 0 = f := by funext x; simp [part]
theorem part_yes {m : Nat} {f : Nat → Nat} {a : Nat} (h : (f a).testBit m = true) : upd (part m f a) a (f a ||| f m) = part m f (a + 1) := by
  funext x
  by_cases e : x = a
  · subst e; rw [upd_same]; simp [part, stp, h]
  · rw [upd_other e]; simp only [part]
    have : (x < a) = (x < a + 1) := by apply propext; omega
    simp only [this]
theorem part_no {m : Nat} {f : Nat → Nat} {a : Nat} (h : (f a).testBit m = false) : part m f a = part m f (a + 1) := by
  funext x
  by_cases e : x = a
  · subst e; simp [part, stp, h]
  · simp only [part]
    have : (x < a) = (x < a + 1) := by apply propext; omega
    simp only [this]
theorem part_all {n m : Nat} {f : Nat → Nat} : tab n (part m f n) = tab n (stp m f) := tab_congr fun i hi => by simp [part, hi]

/-- The first m things have been the middle. -/
structure Mids (n : Nat) (ps : List (Int × Int)) (f : Nat → Nat) (m : Nat) : Prop where
  grows : Grows n ps f ps.length
  mid : ∀ k x y, k < m → x < n → (f x).testBit k = true → (f k).testBit y = true → (f x).testBit y = true

theorem stp_sub {m : Nat} {f : Nat → Nat} {x y : Nat} (h : (f x).testBit y = true) : (stp m f x).testBit y = true := by
  unfold stp; split
  · rw [Nat.testBit_or, h]; rfl
  · exact h
theorem stp_via {m : Nat} {f : Nat → Nat} {x y : Nat} (h : (f x).testBit m = true) (h2 : (f m).testBit y = true) : (stp m f x).testBit y = true := by
  unfold stp; rw [if_pos h, Nat.testBit_or, h2]; simp
theorem stp_inv {m : Nat} {f : Nat → Nat} {x y : Nat} (h : (stp m f x).testBit y = true) : (f x).testBit y = true ∨ ((f x).testBit m = true ∧ (f m).testBit y = true) := by
  unfold stp at h; split at h
  · rename_i h1
    rw [Nat.testBit_or] at h
    rcases Bool.or_eq_true_iff.1 h with h2 | h2
    · exact .inl h2
    · exact .inr ⟨h1, h2⟩
  · exact .inl h

theorem Mids.step {n : Nat} {ps : List (Int × Int)} {f : Nat → Nat} {m : Nat} (h : Mids n ps f m) (hm : m < n) : Mids n ps (stp m f) (m + 1) := by
  refine ⟨⟨fun a ha => ?_, fun a ha => stp_sub (h.grows.own a ha), fun a b hab => stp_sub (h.grows.has a b hab), fun a b ha hab => ?_⟩, fun k x y hk hx h1 h2 => ?_⟩
  · unfold stp; split
    · exact or_lt_one (h.grows.lt a ha) (h.grows.lt m hm)
    · exact h.grows.lt a ha
  · rcases stp_inv hab with h1 | ⟨h1, h2⟩
    · exact h.grows.sound a b ha h1
    · exact (h.grows.sound a m ha h1).trans (h.grows.sound m b hm h2)
  · by_cases e : k = m
    · subst e
      rw [stp_mid] at h2
      rcases stp_inv h1 with h3 | ⟨h3, _⟩ <;> exact stp_via h3 h2
    · have hk' : k < m := by omega
      rcases stp_inv h1 with a1 | ⟨a1, a2⟩ <;> rcases stp_inv h2 with b1 | ⟨b1, b2⟩
      · exact stp_sub (h.mid k x y hk' hx a1 b1)
      · exact stp_via (h.mid k x m hk' hx a1 b1) b2
      · exact stp_via a1 (h.mid k m y hk' hm a2 b1)
      · exact stp_via a1 b2

theorem Mids.init {n : Nat} {ps : List (Int × Int)} {f : Nat → Nat} (h : Grows n ps f ps.length) : Mids n ps f 0 := ⟨h, by intro k x y hk; omega⟩

theorem Mids.all {n : Nat} {ps : List (Int × Int)} {f : Nat → Nat} (h : Mids n ps f n) (hg : Good n ps) : tab n f = tab n (upT n ps) := by
  refine tab_congr fun a ha => wordOf_of (h.grows.lt a ha) fun b hb => ?_
  rw [Bool.eq_iff_iff, under_iff]
  refine ⟨h.grows.sound a b ha, fun hr => ?_⟩
  have key := hr (fun z => ∃ c : Nat, z = c ∧ c < n ∧ (f a).testBit c = true) ⟨a, rfl, ha, h.grows.own a ha⟩ (by
    rintro ⟨p1, p2⟩ hp ⟨c, hc, hcn, hbit⟩
    obtain ⟨o1, o2, o3, o4⟩ := hg _ hp
    simp only at hc o3 o4 ⊢
    subst hc
    obtain ⟨d, rfl⟩ := Int.eq_ofNat_of_zero_le o3
    refine ⟨d, rfl, by omega, ?_⟩
    exact h.mid c a d hcn ha hbit (h.grows.has c d (by rw [List.take_length]; exact hp)))
  obtain ⟨c, hc, _, hbit⟩ := key
  obtain rfl : b = c := by omega
  exact hbit

end Go.Proofs.Ythgmbiaajgpaaaa
