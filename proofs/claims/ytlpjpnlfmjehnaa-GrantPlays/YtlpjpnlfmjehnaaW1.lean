/- Contracts of the small functions. -/
import Derived.Test.YtlpjpnlfmjehnaaProg
import Derived.Test.YtlpjpnlfmjehnaaBase
namespace Go.Proofs.Ytlpjpnlfmjehnaa
open Go.RowKit

set_option maxHeartbeats 400000 in
theorem Has_any (xs : List Int) (A : Option Addr) (c : Nat) (x : Int) (w : World) (h : Row w A (ints xs)) (hn : xs.length ≤ 1000000) :
    Calls Try.prog 26 #[.slice A xs.length c, .int .i64 x] w fun e w' => e = .returned (.bool (decide (x ∈ xs))) ∧ w = w' := by
  go_enter Try.func26, Try.ntmps26
  go_wp2
  go_loop [9] (fun i => ∃ k : Nat, k ≤ xs.length ∧ i = .int .i64 k ∧ ¬ x ∈ xs.take k) (fun i => xs.length - (intOf i).toNat)
  case atStart => exact ⟨0, Nat.zero_le _, rfl, by simp⟩
  case round =>
    obtain ⟨k, hk, rfl, hno⟩ := hrel
    have HN := Lib.hid hno
    clear hno
    by_cases hlt : k < xs.length
    · obtain ⟨b, off, rfl, hc⟩ := h.at (k := k) (by simpa using hlt)
      obtain ⟨y, hy⟩ := get_some hlt
      have hck := hc k _ (ints_at hy)
      have HY := Lib.hid hy
      clear hc h hy
      go_wp2
      · go_ret
        have h1 : (x == y) = true := by assumption
        rw [beq_iff_eq] at h1
        exact ⟨ret_bool (by simp [h1, List.mem_of_getElem? HY.out]), rfl⟩
      · have h1 : (x == y) = false := by assumption
        go_round
        case rel => exact ⟨k + 1, by omega, by go_num, mem_take_succ HY.out HN.out (by simpa using h1)⟩
        case measure => simp [intOf]; omega
    · go_wp2
      go_ret
      have hno := HN.out
      rw [List.take_of_length_le (by omega)] at hno
      exact ⟨ret_bool (by simp [hno]), rfl⟩

theorem Has_quiet (xs : List Int) (A : Option Addr) (c : Nat) (x : Int) (w : World) (n : Nat) (h : Row w A (ints xs)) (hn : xs.length ≤ 1000000) :
    Calls Try.prog 26 #[.slice A xs.length c, .int .i64 x] (w.drewN n) fun e w'' => e = .returned (.bool (decide (x ∈ xs))) ∧ ∃ m, w'' = w.drewN m :=
  (Has_any xs A c x (w.drewN n) h hn).mono fun _ _ ⟨he, hw⟩ => ⟨he, n, hw.symm⟩

set_option maxHeartbeats 400000 in
theorem Bit_any (s k : Nat) (hk : k < 32) (hs : s < 4294967296) (w : World) :
    Calls Try.prog 28 #[.int .u32 s, .int .i64 k] w fun e w' => e = .returned (.bool (s.testBit k)) ∧ w = w' := by
  have H := Lib.hid (one_int k hk)
  go_enter Try.func28, Try.ntmps28
  go_wp2
  go_ret
  exact ⟨ret_bool (by rw [H.out, u32_has s k hs hk]), rfl⟩
set_option maxHeartbeats 400000 in
theorem In_any (a b : Nat) (ha : a < 4294967296) (hb : b < 4294967296) (w : World) :
    Calls Try.prog 17 #[.int .u32 a, .int .u32 b] w fun e w' => e = .returned (.bool (a ||| b == b)) ∧ w = w' := by
  go_enter Try.func17, Try.ntmps17
  go_wp2
  go_ret
  exact ⟨ret_bool (by rw [u32_or_nat a b ha hb, Bool.eq_iff_iff]; simp only [beq_iff_eq]; omega), rfl⟩
theorem Bit_quiet (s k : Nat) (hk : k < 32) (hs : s < 4294967296) (w : World) (n : Nat) : Calls Try.prog 28 #[.int .u32 s, .int .i64 k] (w.drewN n) fun e w'' => e = .returned (.bool (s.testBit k)) ∧ ∃ m, w'' = w.drewN m :=
  (Bit_any s k hk hs (w.drewN n)).mono fun _ _ ⟨he, hw⟩ => ⟨he, n, hw.symm⟩
theorem In_quiet (a b : Nat) (ha : a < 4294967296) (hb : b < 4294967296) (w : World) (n : Nat) : Calls Try.prog 17 #[.int .u32 a, .int .u32 b] (w.drewN n) fun e w'' => e = .returned (.bool (a ||| b == b)) ∧ ∃ m, w'' = w.drewN m :=
  (In_any a b ha hb (w.drewN n)).mono fun _ _ ⟨he, hw⟩ => ⟨he, n, hw.symm⟩
theorem Bit_still {b : Bool} (s k : Nat) (h : s.testBit k = b) (hk : k < 32) (hs : s < 4294967296) (w : World) : Calls Try.prog 28 #[.int .u32 s, .int .i64 k] w fun e w' => e = .returned (.bool b) ∧ w' = w :=
  (Bit_any s k hk hs w).mono fun _ _ ⟨he, hw⟩ => ⟨by rw [he, h], hw.symm⟩
theorem In_still {c : Bool} (a b : Nat) (h : (a ||| b == b) = c) (ha : a < 4294967296) (hb : b < 4294967296) (w : World) : Calls Try.prog 17 #[.int .u32 a, .int .u32 b] w fun e w' => e = .returned (.bool c) ∧ w' = w :=
  (In_any a b ha hb w).mono fun _ _ ⟨he, hw⟩ => ⟨by rw [he, h], hw.symm⟩
end Go.Proofs.Ytlpjpnlfmjehnaa
