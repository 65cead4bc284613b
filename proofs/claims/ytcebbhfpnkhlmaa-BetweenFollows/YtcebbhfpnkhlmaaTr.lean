/- Plain mathematics of truth tables: duals, sums (Zhegalkin), Post's classes. -/
import Derived.Test.YtcebbhfpnkhlmaaRl
import Derived.Test.YtcebbhfpnkhlmaaPop
namespace Go.Proofs.Ytcebbhfpnkhlmaa
open Go.RowKit

/-! ## Parity -/
/-- Is an odd number of p 0, .., p (k - 1) true? -/
def par : Nat → (Nat → Bool) → Bool
  | 0, _ => false
  | k + 1, p => par k p ^^ p k
theorem par_congr {p q : Nat → Bool} : ∀ k, (∀ i, i < k → p i = q i) → par k p = par k q
  | 0, _ => rfl
  | k + 1, h => by rw [par, par, par_congr k (fun i hi => h i (by omega)), h k (by omega)]
theorem par_add (p : Nat → Bool) (a : Nat) : ∀ b, par (a + b) p = (par a p ^^ par b fun i => p (a + i))
  | 0 => by simp [par]
  | b + 1 => by rw [← Nat.add_assoc, par, par_add p a b, par, Bool.xor_assoc]
theorem par_false : ∀ k, par k (fun _ => false) = false
  | 0 => rfl
  | k + 1 => by rw [par, par_false k]; rfl
theorem par_none {p : Nat → Bool} {k : Nat} (h : ∀ i, i < k → p i = false) : par k p = false := (par_congr k h).trans (par_false k)
theorem xor_swap (a b c d : Bool) : ((a ^^ b) ^^ (c ^^ d)) = ((a ^^ c) ^^ (b ^^ d)) := by cases a <;> cases b <;> cases c <;> cases d <;> rfl
theorem par_xor (p q : Nat → Bool) : ∀ k, par k (fun i => p i ^^ q i) = (par k p ^^ par k q)
  | 0 => rfl
  | k + 1 => by rw [par, par_xor p q k, par, par, xor_swap]
theorem par_and (b : Bool) (p : Nat → Bool) : ∀ k, par k (fun i => b && p i) = (b && par k p)
  | 0 => by cases b <;> rfl
  | k + 1 => by rw [par, par_and b p k, par]; cases b <;> simp
theorem par_swap (p : Nat → Nat → Bool) (m : Nat) : ∀ k, par k (fun i => par m (p i)) = par m fun j => par k fun i => p i j
  | 0 => (par_false m).symm
  | k + 1 => by
    rw [par, par_swap p m k, ← par_xor]
    rfl
theorem par_only {p : Nat → Bool} {j k : Nat} (hj : j < k) (h : ∀ i, i < k → i ≠ j → p i = false) : par k p = p j := by
  have hd : k = j + (1 + (k - j - 1)) := by omega
  rw [hd, par_add, par_add, par_none (k := j) (fun i hi => h i (by omega) (by omega)), par_none (k := k - j - 1) (fun i hi => h (j + (1 + i)) (by omega) (by omega))]
  simp [par]

/-! ## Sets of one variable more -/
theorem hi_bit {n s i : Nat} (hs : s < one n) : (one n + s).testBit i = (s.testBit i || decide (n = i)) := by
  unfold one at hs ⊢
  rcases Nat.lt_trichotomy i n with h | rfl | h
  · rw [Nat.testBit_two_pow_add_gt h]; simp; omega
  · rw [Nat.testBit_two_pow_add_eq, Nat.testBit_lt_two_pow hs]; simp
  · have h1 : s.testBit i = false := Nat.testBit_lt_two_pow (Nat.lt_trans hs (Nat.pow_lt_pow_right (by decide) h))
    have h2 : (2 ^ n + s).testBit i = false := Nat.testBit_lt_two_pow (by
      have : 2 ^ (n + 1) ≤ 2 ^ i := Nat.pow_le_pow_right (by decide) h
      rw [Nat.pow_succ] at this
      omega)
    rw [h1, h2]; simp; omega
theorem sub_hi_lo {n t s : Nat} (ht : t < one n) (hs : s < one n) : sub (one n + t) s = false := by
  cases e : sub (one n + t) s with
  | false => rfl
  | true =>
    have := sub_iff.1 e n (by rw [hi_bit ht]; simp)
    rw [lt_one_testBit hs (Nat.le_refl _)] at this
    cases this
theorem sub_lo_hi {n t s : Nat} (ht : t < one n) (hs : s < one n) : sub t (one n + s) = sub t s := by
  rw [Bool.eq_iff_iff, sub_iff, sub_iff]
  constructor
  · intro h i hi
    have h1 := h i hi
    have hin := bit_lt ht hi
    rw [hi_bit hs, Bool.or_eq_true] at h1
    rcases h1 with h1 | h1
    · exact h1
    · have : n = i := by simpa using h1
      omega
  · intro h i hi
    rw [hi_bit hs, h i hi]; rfl
theorem sub_hi_hi {n t s : Nat} (ht : t < one n) (hs : s < one n) : sub (one n + t) (one n + s) = sub t s := by
  rw [Bool.eq_iff_iff, sub_iff, sub_iff]
  constructor
  · intro h i hi
    have hin := bit_lt ht hi
    have h1 := h i (by rw [hi_bit ht, hi]; rfl)
    rw [hi_bit hs, Bool.or_eq_true] at h1
    rcases h1 with h1 | h1
    · exact h1
    · have : n = i := by simpa using h1
      omega
  · intro h i hi
    rw [hi_bit ht, Bool.or_eq_true] at hi
    rw [hi_bit hs]
    rcases hi with hi | hi
    · rw [h i hi]; rfl
    · rw [hi]; simp
theorem one_succ (n : Nat) : one (n + 1) = one n + one n := by unfold one; rw [Nat.pow_succ]; omega

/-! ## Sums -/
/-- The sums of a table of n variables. -/
def mob (n : Nat) (F : Nat → Bool) (s : Nat) : Bool := par (one n) fun t => sub t s && F t
theorem mob_lo {n : Nat} {F : Nat → Bool} {s : Nat} (hs : s < one n) : mob (n + 1) F s = mob n F s := by
  unfold mob
  rw [one_succ, par_add, par_none (k := one n) (p := fun i => sub (one n + i) s && F (one n + i)) (fun i hi => by rw [sub_hi_lo hi hs]; rfl)]
  simp
theorem mob_hi {n : Nat} {F : Nat → Bool} {s : Nat} (hs : s < one n) : mob (n + 1) F (one n + s) = (mob n F s ^^ mob n (fun t => F (one n + t)) s) := by
  unfold mob
  rw [one_succ, par_add]
  congr 1
  · exact par_congr _ fun t ht => by rw [sub_lo_hi ht hs]
  · exact par_congr _ fun t ht => by rw [sub_hi_hi ht hs]
theorem mob_congr {n : Nat} {F G : Nat → Bool} (h : ∀ t, t < one n → F t = G t) (s : Nat) : mob n F s = mob n G s := par_congr _ fun t ht => by rw [h t ht]
theorem mob_xor (n : Nat) (F G : Nat → Bool) (s : Nat) : mob n (fun t => F t ^^ G t) s = (mob n F s ^^ mob n G s) := by
  unfold mob
  rw [← par_xor]
  exact par_congr _ fun t _ => by cases sub t s <;> simp
/-- Twice the sums is the table. -/
theorem mob_mob : ∀ (n : Nat) (F : Nat → Bool) (s : Nat), s < one n → mob n (mob n F) s = F s
  | 0, F, s, hs => by
    obtain rfl : s = 0 := by have : one 0 = 1 := rfl; omega
    simp [mob, one, par, sub]
  | n + 1, F, s, hs => by
    rw [one_succ] at hs
    rcases Nat.lt_or_ge s (one n) with h | h
    · rw [mob_lo h, mob_congr (G := mob n F) (fun t ht => mob_lo ht), mob_mob n F s h]
    · obtain ⟨s', rfl⟩ : ∃ s', s = one n + s' := ⟨s - one n, by omega⟩
      have h' : s' < one n := by omega
      rw [mob_hi h', mob_congr (G := mob n F) (fun t ht => mob_lo ht), mob_mob n F s' h',
        mob_congr (n := n) (F := fun t => mob (n + 1) F (one n + t)) (G := fun t => mob n F t ^^ mob n (fun t => F (one n + t)) t) (fun t ht => mob_hi ht), mob_xor, mob_mob n F s' h', mob_mob n _ s' h']
      cases F s' <;> cases F (one n + s') <;> rfl

/-! ## Straight tables -/
/-- A sum of single variables. -/
def lin (n : Nat) (c0 : Bool) (c : Nat → Bool) (s : Nat) : Bool := c0 ^^ par n fun v => s.testBit v && c v
/-- No set of two or more. -/
def Few (n : Nat) (M : Nat → Bool) : Prop := ∀ t, t < one n → t ≠ 0 → (∀ v, v < n → t ≠ one v) → M t = false
theorem mob_few : ∀ (n : Nat) (M : Nat → Bool), Few n M → ∀ s, s < one n → mob n M s = lin n (M 0) (fun v => M (one v)) s
  | 0, M, _, s, hs => by
    obtain rfl : s = 0 := by have : one 0 = 1 := rfl; omega
    simp [mob, one, par, sub, lin]
  | n + 1, M, hM, s, hs => by
    have hM' : Few n M := fun t ht h0 hv => hM t (by rw [one_succ]; omega) h0 fun v hv' => by
      by_cases e : v = n
      · subst e; intro h; omega
      · exact hv v (by omega)
    have h1 : ∀ t, t < one n → t ≠ 0 → M (one n + t) = false := fun t ht h0 => hM _ (by rw [one_succ]; omega) (by have := one_pos n; omega) fun v hv h => by
      rcases Nat.lt_or_ge v n with h2 | h2
      · have : one v < one n := Nat.pow_lt_pow_right (by decide) h2
        omega
      · obtain rfl : v = n := by omega
        omega
    rw [one_succ] at hs
    rcases Nat.lt_or_ge s (one n) with h | h
    · rw [mob_lo h, mob_few n M hM' s h]
      unfold lin
      rw [par, lt_one_testBit h (Nat.le_refl _)]
      simp
    · obtain ⟨s', rfl⟩ : ∃ s', s = one n + s' := ⟨s - one n, by omega⟩
      have h' : s' < one n := by omega
      have h2 : mob n (fun t => M (one n + t)) s' = M (one n) := by
        unfold mob
        rw [par_only (j := 0) (one_pos n) (fun i hi h0 => by
          show (sub i s' && M (one n + i)) = false
          rw [h1 i hi h0]; simp)]
        simp [sub]
      rw [mob_hi h', mob_few n M hM' s' h', h2]
      unfold lin
      rw [par, hi_bit h', par_congr n (p := fun v => (one n + s').testBit v && M (one v)) (q := fun v => s'.testBit v && M (one v)) (fun v hv => by
        have : ¬ n = v := by omega
        rw [hi_bit h']; simp [this])]
      simp
/-- A table is straight just if it is a sum of single variables. -/
theorem few_iff {n : Nat} {F : Nat → Bool} : Few n (mob n F) ↔ ∃ c0 c, ∀ s, s < one n → F s = lin n c0 c s := by
  constructor
  · intro h
    exact ⟨_, _, fun s hs => by rw [← mob_mob n F s hs]; exact mob_few n _ h s hs⟩
  · rintro ⟨c0, c, h⟩
    -- the table whose sums these are
    let M : Nat → Bool := fun t => if t = 0 then c0 else par n fun v => decide (t = one v) && c v
    have hM : Few n M := fun t ht h0 hv => by
      show (if t = 0 then c0 else _) = false
      rw [if_neg h0]
      exact par_none fun v hv' => by simp [hv v hv']
    have hM0 : M 0 = c0 := rfl
    have hM1 : ∀ v, v < n → M (one v) = c v := fun v hv => by
      show (if one v = 0 then c0 else _) = c v
      rw [if_neg (by have := one_pos v; omega), par_only hv (fun i _ hne => by
        have : one v ≠ one i := fun e => by
          have h1 := one_testBit v v
          rw [e, one_testBit] at h1
          exact hne (by simpa using h1)
        simp [this])]
      simp
    have hF : ∀ s, s < one n → F s = mob n M s := fun s hs => by
      rw [h s hs, mob_few n M hM s hs, hM0]
      unfold lin
      rw [par_congr n (p := fun v => s.testBit v && c v) (q := fun v => s.testBit v && M (one v)) (fun v hv => by rw [hM1 v hv])]
    intro t ht h0 hv
    rw [mob_congr hF, mob_mob n M t ht]
    exact hM t ht h0 hv
/-- What is put together of sums of single variables is one. -/
theorem lin_comp {n : Nat} {c0 : Bool} {c : Nat → Bool} {G : Nat → Nat → Bool} {d0 : Nat → Bool} {d : Nat → Nat → Bool} {s i : Nat} (hG : ∀ v, v < n → G v s = lin n (d0 v) (d v) s) (hi : ∀ v, v < n → i.testBit v = G v s) :
    lin n c0 c i = lin n (c0 ^^ par n fun v => d0 v && c v) (fun u => par n fun v => d v u && c v) s := by
  unfold lin
  have h1 : par n (fun v => i.testBit v && c v) = par n fun v => (d0 v && c v) ^^ par n fun u => s.testBit u && (d v u && c v) := par_congr n fun v hv => by
    rw [hi v hv, hG v hv]
    unfold lin
    have : par n (fun u => s.testBit u && (d v u && c v)) = (par n (fun u => s.testBit u && d v u) && c v) := by
      rw [Bool.and_comm, ← par_and]
      exact par_congr n fun u _ => by cases s.testBit u <;> cases d v u <;> cases c v <;> rfl
    rw [this]
    cases d0 v <;> cases c v <;> simp
  rw [h1, par_xor, par_swap, Bool.xor_assoc]
  congr 2
  exact par_congr n fun u _ => par_and _ _ _

end Go.Proofs.Ytcebbhfpnkhlmaa
