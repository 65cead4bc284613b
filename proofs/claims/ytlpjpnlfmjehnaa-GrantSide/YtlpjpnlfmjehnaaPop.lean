/- How many bits a word has. -/
import Derived.Test.YtlpjpnlfmjehnaaW1
import Derived.Lib.BitFns
namespace Go.Proofs.Ytlpjpnlfmjehnaa
open Go.RowKit

/-- How many of the first k bits are set. -/
def bitSum : Nat → Nat → Nat
  | 0, _ => 0
  | k + 1, x => bitSum k x + (x.testBit k).toNat
/-- How many bits are set. -/
def pop (x : Nat) : Nat := bitSum 32 x

theorem bitSum_add (a b x : Nat) : bitSum (a + b) x = bitSum a x + bitSum b (x / 2 ^ a) := by
  induction b with
  | zero => simp [bitSum]
  | succ b ih =>
    rw [← Nat.add_assoc, bitSum, ih, bitSum, Nat.testBit_div_two_pow, Nat.add_comm b a]
    omega
theorem bitSum_congr {k x y : Nat} (h : ∀ i, i < k → x.testBit i = y.testBit i) : bitSum k x = bitSum k y := by
  induction k with
  | zero => rfl
  | succ k ih => rw [bitSum, bitSum, ih fun i hi => h i (by omega), h k (by omega)]
theorem bitSum_mod {k m : Nat} (h : k ≤ m) (x : Nat) : bitSum k (x % 2 ^ m) = bitSum k x :=
  bitSum_congr fun i hi => by rw [Nat.testBit_mod_two_pow]; simp; omega
theorem bitSum_zero (k : Nat) : bitSum k 0 = 0 := by
  induction k with
  | zero => rfl
  | succ k ih => simp [bitSum, ih]
theorem bitSum_more {m x : Nat} (h : x < 2 ^ m) (j : Nat) : bitSum (m + j) x = bitSum m x := by
  rw [bitSum_add, Nat.div_eq_of_lt h, bitSum_zero, Nat.add_zero]
theorem popAux_eq : ∀ (f x : Nat), Lib.popAux f x = bitSum f x
  | 0, _ => rfl
  | f + 1, x => by
    rw [Lib.popAux, popAux_eq f (x / 2)]
    have := bitSum_add 1 f x
    rw [Nat.add_comm 1 f] at this
    rw [this]
    have e : bitSum 1 x = x % 2 := by
      simp only [bitSum, Nat.zero_add, Nat.testBit_zero]
      rcases Nat.mod_two_eq_zero_or_one x with h | h <;> simp [h]
    rw [e, Nat.pow_one]
theorem onesCount_eq {x : Nat} (h : x < 2 ^ 8) : Lib.onesCount x = bitSum 8 x := by
  unfold Lib.onesCount
  rw [popAux_eq]
  exact bitSum_more h 56
theorem pop_parts (x : Nat) : Lib.onesCount (x / 16777216 % 256) + Lib.onesCount (x / 65536 % 256) + Lib.onesCount (x / 256 % 256) + Lib.onesCount (x % 256) = pop x := by
  rw [onesCount_eq (Nat.mod_lt _ (by decide)), onesCount_eq (Nat.mod_lt _ (by decide)), onesCount_eq (Nat.mod_lt _ (by decide)), onesCount_eq (Nat.mod_lt _ (by decide))]
  rw [show (256 : Nat) = 2 ^ 8 from rfl, bitSum_mod (Nat.le_refl _), bitSum_mod (Nat.le_refl _), bitSum_mod (Nat.le_refl _), bitSum_mod (Nat.le_refl _)]
  unfold pop
  rw [show (32 : Nat) = 8 + (8 + (8 + 8)) from rfl, bitSum_add, bitSum_add, bitSum_add, Nat.div_div_eq_div_mul, Nat.div_div_eq_div_mul]
  rw [show 2 ^ 8 * 2 ^ 8 = 65536 from rfl, show 65536 * 2 ^ 8 = 16777216 from rfl]
  omega

theorem bitSum_le (k x : Nat) : bitSum k x ≤ k := by
  induction k with
  | zero => simp [bitSum]
  | succ k ih => rw [bitSum]; have := Bool.toNat_le (x.testBit k); omega
theorem pop_le (x : Nat) : pop x ≤ 32 := bitSum_le 32 x

theorem pop8tab_at : ∀ n : Fin 256, (Lib.pop8tab[n.val]'(by rw [Lib.pop8tab_size]; exact n.isLt)).toNat = Lib.onesCount n.val := by decide +kernel
theorem pop_at (b : Nat) (h : b < Lib.pop8tab.size) : (Lib.pop8tab[b]'h).toNat = Lib.onesCount b := pop8tab_at ⟨b, by rw [Lib.pop8tab_size] at h; exact h⟩

set_option maxRecDepth 100000 in
set_option maxHeartbeats 1000000 in
theorem OnesCount32_parts (x b0 b1 b2 b3 : Nat) (h3 : b3 < 256) (h2 : b2 < 256) (h1 : b1 < 256) (h0 : b0 < 256)
    (_e3 : (x : Int) / 16777216 = (b3 : Int)) (_e2 : bits .and .u32 ((x : Int) / 65536) 255 = (b2 : Int)) (_e1 : bits .and .u32 ((x : Int) / 256) 255 = (b1 : Int)) (_e0 : bits .and .u32 (x : Int) 255 = (b0 : Int)) (w : World) :
    Calls Try.prog 36 #[.int .u32 x] w fun e w' => e = .returned (.int .i64 ((Lib.onesCount b3 + Lib.onesCount b2 + Lib.onesCount b1 + Lib.onesCount b0 : Nat) : Int)) ∧ w.drew = w' := by
  have hs := Lib.pop8tab_size
  have c3 := pop_at b3 (by omega)
  have c2 := pop_at b2 (by omega)
  have c1 := pop_at b1 (by omega)
  have c0 := pop_at b0 (by omega)
  have d3 := Lib.onesCount_le8 ⟨b3, h3⟩
  have d2 := Lib.onesCount_le8 ⟨b2, h2⟩
  have d1 := Lib.onesCount_le8 ⟨b1, h1⟩
  have d0 := Lib.onesCount_le8 ⟨b0, h0⟩
  simp only at d3 d2 d1 d0
  have g3 : (b3 : Int) < 256 := by omega
  have g2 : (b2 : Int) < 256 := by omega
  have g1 : (b1 : Int) < 256 := by omega
  have g0 : (b0 : Int) < 256 := by omega
  go_enter Try.func36, Try.ntmps36
  go_wp2
  refine wp_region_still_lit (by kernel_rfl) (by kernel_rfl) ?_
  iterate 19 still_step
  refine wpStill_nil ?_
  go_wp2
  go_ret
  refine ⟨ret_int ?_, rfl⟩
  clear _e3 _e2 _e1 _e0 c3 c2 c1 c0 g3 g2 g1 g0 hs
  simp only [IntKind.wrap_u8', IntKind.wrap_i64]
  omega

theorem and255 (y : Nat) (hy : y < 4294967296) : bits .and .u32 (y : Int) 255 = ((y % 256 : Nat) : Int) := by
  have h := u32_and_nat y 255 hy (by decide)
  rw [nat_mask8] at h
  exact h

/-- bits.OnesCount32 tells how many bits are set. -/
theorem OnesCount32_any (x : Nat) (hx : x < 4294967296) (w : World) :
    Calls Try.prog 36 #[.int .u32 x] w fun e w' => e = .returned (.int .i64 (pop x)) ∧ w.drew = w' := by
  have h := OnesCount32_parts x (x % 256) (x / 256 % 256) (x / 65536 % 256) (x / 16777216 % 256) (Nat.mod_lt _ (by decide)) (Nat.mod_lt _ (by decide)) (Nat.mod_lt _ (by decide)) (Nat.mod_lt _ (by decide))
    (by omega) (and255 (x / 65536) (by omega)) (and255 (x / 256) (by omega)) (and255 x hx) w
  rw [pop_parts] at h
  exact h

set_option maxHeartbeats 1000000 in
/-- Size tells how many bits are set. -/
theorem Size_any (x : Nat) (hx : x < 4294967296) (w : World) :
    Calls Try.prog 19 #[.int .u32 x] w fun e w' => e = .returned (.int .i64 (pop x)) ∧ w = w' := by
  go_enter Try.func19, Try.ntmps19
  go_wp2
  go_loop [3, 4] (fun n i => ∃ k : Nat, i = .int .i64 k ∧ k ≤ 32 ∧ n = .int .i64 (bitSum k x)) (fun _ i => 32 - (intOf i).toNat)
  case atStart => exact ⟨0, rfl, by omega, rfl⟩
  case round =>
    obtain ⟨k, rfl, hk, rfl⟩ := hrel
    have hle := bitSum_le k x
    by_cases hlt : k < 32
    · have HS := Lib.hid (show bitSum (k + 1) x = bitSum k x + (x.testBit k).toNat from rfl)
      go_wp2_with fail
      refine (Bit_any x k hlt hx _).mono ?_
      rintro e w' ⟨rfl, rfl⟩
      cases hb : x.testBit k with
      | true =>
        have HB := Lib.hid hb
        clear hb
        go_wp2
        go_round
        case rel => exact ⟨k + 1, by go_num, by omega, by rw [HS.out, HB.out]; go_num⟩
        case measure => simp [intOf]; omega
      | false =>
        have HB := Lib.hid hb
        clear hb
        go_wp2
        go_round
        case rel => exact ⟨k + 1, by go_num, by omega, by rw [HS.out, HB.out]; go_num⟩
        case measure => simp [intOf]; omega
    · obtain rfl : k = 32 := by omega
      go_wp2
      go_ret
      exact ⟨rfl, rfl⟩

end Go.Proofs.Ytlpjpnlfmjehnaa
