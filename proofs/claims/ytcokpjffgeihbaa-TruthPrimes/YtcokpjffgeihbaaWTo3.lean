/- truth.isMonotone, math/bits.OnesCount, truth.isAffine, truth.class. -/
import Derived.Test.YtcokpjffgeihbaaWTo2
import Derived.Test.YtcokpjffgeihbaaTr2
import Derived.Test.YtcokpjffgeihbaaPop
namespace Go.Proofs.Ytcokpjffgeihbaa
open Go.RowKit

/-! ## Steps of one variable decide -/
/-- f falls at a step from s, among the first k variables. -/
def fallK (F : Nat → Bool) (s k : Nat) : Bool := (List.range k).any fun v => F s && !F (s ||| one v)
theorem fallK_no {F : Nat → Bool} {s k : Nat} : fallK F s k = false ↔ ∀ v, v < k → F s = true → F (s ||| one v) = true := by
  unfold fallK
  rw [List.any_eq_false]
  simp
theorem fallK_zero (F : Nat → Bool) (s : Nat) : fallK F s 0 = false := rfl
theorem fallK_succ {F : Nat → Bool} {s k : Nat} (h : fallK F s k = false) (h2 : (F s && !F (s ||| one k)) = false) : fallK F s (k + 1) = false := by
  rw [fallK_no] at *
  intro v hv hs
  by_cases e : v = k
  · subst e
    cases e2 : F (s ||| one v) with
    | true => rfl
    | false => rw [hs, e2] at h2; cases h2
  · exact h v (by omega) hs
theorem mono_part_next (a b t : Nat) : a ||| (b &&& full (t + 1)) = if b.testBit t then (a ||| (b &&& full t)) ||| one t else a ||| (b &&& full t) := by
  cases h : b.testBit t with
  | true =>
    rw [if_pos rfl]
    apply Nat.eq_of_testBit_eq
    intro i
    simp only [Nat.testBit_or, Nat.testBit_and, full_bit, one, Nat.testBit_two_pow]
    by_cases e : t = i
    · subst e; simp [h]
    · simp [e, show (i < t + 1) ↔ i < t from by omega]
  | false =>
    rw [if_neg (by simp)]
    apply Nat.eq_of_testBit_eq
    intro i
    simp only [Nat.testBit_or, Nat.testBit_and, full_bit]
    by_cases e : t = i
    · subst e; simp [h]
    · simp [show (i < t + 1) ↔ i < t from by omega]
theorem riseP_iff {n : Nat} {F : Nat → Bool} : riseP n F (one n) = true ↔ ∀ a b, a < one n → b < one n → sub a b = true → F a = true → F b = true := by
  unfold riseP riseR
  simp only [List.all_eq_true, List.mem_range, Bool.not_eq_true', Bool.and_eq_false_iff]
  constructor
  · intro h a b ha hb hab hfa
    rcases h a ha b hb with (h1 | h1) | h1
    · rw [hab] at h1; cases h1
    · rw [hfa] at h1; cases h1
    · simpa using h1
  · intro h a ha b hb
    cases h1 : sub a b with
    | false => exact .inl (.inl rfl)
    | true =>
      cases h2 : F a with
      | false => exact .inl (.inr rfl)
      | true => exact .inr (by rw [h a b ha hb h1 h2]; rfl)
theorem rise_of_steps {n : Nat} {F : Nat → Bool} (h : ∀ s, s < one n → fallK F s n = false) : riseP n F (one n) = true := by
  rw [riseP_iff]
  intro a b ha hb hab hfa
  have key : ∀ t, t ≤ n → F (a ||| (b &&& full t)) = true := by
    intro t
    induction t with
    | zero => intro _; rw [show full 0 = 0 from rfl, Nat.and_zero, Nat.or_zero]; exact hfa
    | succ t ih =>
      intro ht
      have i1 := ih (by omega)
      rw [mono_part_next]
      cases hbt : b.testBit t with
      | false => rw [if_neg (by simp)]; exact i1
      | true =>
        rw [if_pos rfl]
        exact fallK_no.1 (h _ (or_lt_one ha (Nat.lt_of_le_of_lt Nat.and_le_left hb))) t (by omega) i1
  have := key n (Nat.le_refl _)
  have e : a ||| (b &&& full n) = b := by
    apply Nat.eq_of_testBit_eq
    intro i
    rw [Nat.testBit_or, Nat.testBit_and, full_bit]
    cases hi : b.testBit i with
    | true => simp [bit_lt hb hi]
    | false =>
      cases hai : a.testBit i with
      | false => simp
      | true => rw [sub_iff.1 hab i hai] at hi; cases hi
  rwa [e] at this
theorem fall_not_rise {n : Nat} {F : Nat → Bool} {s v : Nat} (hs : s < one n) (hv : v < n) (h1 : F s = true) (h2 : F (s ||| one v) = false) : riseP n F (one n) = false := by
  cases e : riseP n F (one n) with
  | false => rfl
  | true =>
    have := riseP_iff.1 e s (s ||| one v) hs (or_lt_one hs (Nat.pow_lt_pow_right (by decide) hv)) (sub_iff.2 fun i hi => by rw [Nat.testBit_or, hi, Bool.true_or]) h1
    rw [this] at h2; cases h2

set_option maxHeartbeats 2000000 in
theorem tMono_any (n : Nat) (hn : n ≤ 4) (f : List Bool) (A : Option Addr) (c : Nat) (w : World) (hf : f.length = one n) (hr : Row w A (boolsC f)) :
    Calls Try.prog 41 #[.int .i64 n, .slice A f.length c] w fun e w' => e = .returned (.bool (riseP n (atB f) (one n))) ∧ w = w' := by
  have h16 := one_le_16 hn
  have h1p := one_pos n
  have HF := Lib.hid hf
  rw [hf]
  clear hf
  go_enter Try.func41, Try.ntmps41
  go_wp2
  go_loopw [10] (fun v wr => ∃ s : Nat, v = .int .i64 s ∧ s ≤ one n ∧ (∀ t, t < s → fallK (atB f) t n = false) ∧ w = wr) (fun v _ => one n - (intOf v).toNat)
  case atStart => exact ⟨0, rfl, Nat.zero_le _, by intro t ht; omega, rfl⟩
  case round =>
    obtain ⟨s, rfl, hs, hal, rfl⟩ := hrel
    have HA := Lib.hid hal
    clear hal
    by_cases hlt : s < one n
    · obtain ⟨b, off, rfl, c1⟩ := atB_cell hr (k := s) (by rw [HF.out]; exact hlt)
      obtain ⟨x, hx⟩ : ∃ x, x = atB f s := ⟨_, rfl⟩
      rw [← hx] at c1
      have HX := Lib.hid hx
      clear hx
      go_wp2
      go_loopw [16] (fun v wi => ∃ k : Nat, v = .int .i64 k ∧ k ≤ n ∧ fallK (atB f) s k = false ∧ w = wi) (fun v _ => n - (intOf v).toNat)
      case atStart => exact ⟨0, rfl, Nat.zero_le _, fallK_zero _ _, rfl⟩
      case round =>
        obtain ⟨k, rfl, hk, hfa, rfl⟩ := hrel
        have HK := Lib.hid hfa
        clear hfa
        by_cases hkn : k < n
        · have h1k := one_i64 k
          have h1k16 : one k < 16 := Nat.lt_of_lt_of_le (Nat.pow_lt_pow_right (by decide) hkn) h16
          have hor := i64_or_nat s (one k) (by omega) (by omega)
          obtain ⟨o, ho⟩ : ∃ o, o = s ||| one k := ⟨_, rfl⟩
          have hon : o < one n := by rw [ho]; exact or_lt_one hlt (Nat.pow_lt_pow_right (by decide) hkn)
          rw [← ho] at hor
          obtain ⟨b', off', he, c2⟩ := atB_cell hr (k := o) (by rw [HF.out]; exact hon)
          simp only [Option.some.injEq, Addr.mk.injEq, and_true] at he
          obtain ⟨rfl, rfl⟩ := he
          obtain ⟨y, hy⟩ : ∃ y, y = atB f o := ⟨_, rfl⟩
          rw [← hy] at c2
          have HY := Lib.hid (show y = atB f (s ||| one k) by rw [hy, ho])
          clear hy ho
          cases x with
          | false =>
            have HN := Lib.hid (fallK_succ HK.out (by rw [← HX.out]; rfl))
            go_wp2
            go_roundw
            case rel => exact ⟨k + 1, by go_num, by omega, HN.out, by first | exact trivial | rfl⟩
            case measure => simp [intOf]; omega
          | true =>
            cases y with
            | true =>
              have HN := Lib.hid (fallK_succ HK.out (by rw [← HY.out]; simp))
              go_wp2
              go_roundw
              case rel => exact ⟨k + 1, by go_num, by omega, HN.out, by first | exact trivial | rfl⟩
              case measure => simp [intOf]; omega
            | false =>
              have HN := Lib.hid (fall_not_rise hlt hkn HX.out.symm HY.out.symm)
              go_wp2
              go_ret
              exact ⟨ret_bool HN.out.symm, rfl⟩
        · obtain rfl : k = n := by omega
          have HN := Lib.hid (show ∀ t, t < s + 1 → fallK (atB f) t k = false by
            intro t ht
            by_cases e : t = s
            · subst e; exact HK.out
            · exact HA.out t (by omega))
          go_wp2
          go_roundw
          case rel => exact ⟨s + 1, by go_num, by omega, HN.out, by first | exact trivial | rfl⟩
          case measure => simp [intOf]; omega
    · obtain rfl : s = one n := by omega
      have HN := Lib.hid (rise_of_steps HA.out)
      go_wp2
      go_ret
      exact ⟨ret_bool HN.out.symm, rfl⟩

end Go.Proofs.Ytcokpjffgeihbaa
