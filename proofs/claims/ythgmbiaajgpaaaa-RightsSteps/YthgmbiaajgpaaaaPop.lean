/- How many bits a word has. -/
import Derived.Test.YthgmbiaajgpaaaaW1
import Derived.Lib.BitFns
namespace Go.Proofs.Ythgmbiaajgpaaaa
open Go.RowKit

/-- How many of the first k bits are set. -/
def bitSum : Nat → Nat → Nat
  | 0, _ => 0
  | k + 1, x => bitSum k x + (x.testBit k).toNat
/-- How many bits are set. -/
def pop (x : Nat) : Nat := bitSum 32 x

theorem bitSum_add (a b x : Nat) : bitSum (a + b) x = bitSum a x + bitSum b (x / 2 ^ a) := by
  induction b with
  | zero => simp [bitSum]
  | succ b ih =>
    rw [← Nat.add_assoc, bitSum, ih, bitSum, Nat.testBit_div_two_pow, Nat.add_comm b a]
    omega
theorem bitSum_congr {k x y : Nat} (h : ∀ i, i < k → x.testBit i = y.testBit i) : bitSum k x = bitSum k y := by
  induction k with
  | zero => rfl
  | succ k ih => rw [bitSum, bitSum, ih fun i hi => h i (by omega), h k (by omega)]
theorem bitSum_mod {k m : Nat} (h : k ≤ m) (x : Nat) : bitSum k (x % 2 ^ m) = bitSum k x :=
  bitSum_congr fun i hi => by rw [Nat.testBit_mod_two_pow]; simp; omega
theorem bitSum_zero (k : Nat) : bitSum k 0 = 0 := by
  induction k with
  | zero => rfl
  | succ k ih => simp [bitSum, ih]
theorem bitSum_more {m x : Nat} (h : x < 2 ^ m) (j : Nat) : bitSum (m + j) x = bitSum m x := by
  rw [bitSum_add, Nat.div_eq_of_lt h, bitSum_zero, Nat.add_zero]
theorem popAux_eq : ∀ (f x : Nat), Lib.popAux f x = bitSum f x
  | 0, _ => rfl
  | f + 1, x => by
    rw [Lib.popAux, popAux_eq f (x / 2)]
    have := bitSum_add 1 f x
    rw [Nat.add_comm 1 f] at this
    rw [this]
    have e : bitSum 1 x = x % 2 := by
      simp only [bitSum, Nat.zero_add, Nat.testBit_zero]
      rcases Nat.mod_two_eq_zero_or_one x with h | h <;> simp [h]
    rw [e, Nat.pow_one]
theorem onesCount_eq {x : Nat} (h : x < 2 ^ 8) : Lib.onesCount x = bitSum 8 x := by
  unfold Lib.onesCount
  rw [popAux_eq]
  exact bitSum_more h 56
theorem pop_parts (x : Nat) : Lib.onesCount (x / 16777216 % 256) + Lib.onesCount (x / 65536 % 256) + Lib.onesCount (x / 256 % 256) + Lib.onesCount (x % 256) = pop x := by
  rw [onesCount_eq (Nat.mod_lt _ (by decide)), onesCount_eq (Nat.mod_lt _ (by decide)), onesCount_eq (Nat.mod_lt _ (by decide)), onesCount_eq (Nat.mod_lt _ (by decide))]
  rw [show (256 : Nat) = 2 ^ 8 from rfl, bitSum_mod (Nat.le_refl _), bitSum_mod (Nat.le_refl _), bitSum_mod (Nat.le_refl _), bitSum_mod (Nat.le_refl _)]
  unfold pop
  rw [show (32 : Nat) = 8 + (8 + (8 + 8)) from rfl, bitSum_add, bitSum_add, bitSum_add, Nat.div_div_eq_div_mul, Nat.div_div_eq_div_mul]
  rw [show 2 ^ 8 * 2 ^ 8 = 65536 from rfl, show 65536 * 2 ^ 8 = 16777216 from rfl]
  omega

theorem bitSum_le (k x : Nat) : bitSum k x ≤ k := by
  induction k with
  | zero => simp [bitSum]
  | succ k ih => rw [bitSum]; have := Bool.toNat_le (x.testBit k); omega
theorem pop_le (x : Nat) : pop x ≤ 32 := bitSum_le 32 x

theorem pop8tab_at : ∀ n : Fin 256, (Lib.pop8tab[n.val]'(by rw [Lib.pop8tab_size]; exact n.isLt)).toNat = Lib.onesCount n.val := by decide +kernel
theorem pop_at (b : Nat) (h : b < Lib.pop8tab.size) : (Lib.pop8tab[b]'h).toNat = Lib.onesCount b := pop8tab_at ⟨b, by rw [Lib.pop8tab_size] at h; exact h⟩

theorem and255 (y : Nat) (hy : y < 4294967296) : bits .and .u32 (y : Int) 255 = ((y % 256 : Nat) : Int) := by
  have h := u32_and_nat y 255 hy (by decide)
  rw [nat_mask8] at h
  exact h

end Go.Proofs.Ythgmbiaajgpaaaa
