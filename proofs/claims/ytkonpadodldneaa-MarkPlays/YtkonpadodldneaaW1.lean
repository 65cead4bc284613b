/- Contracts of the small functions. -/
import Derived.Test.YtkonpadodldneaaProg
import Derived.Test.YtkonpadodldneaaBase
namespace Go.Proofs.Ytkonpadodldneaa
open Go.RowKit

set_option maxHeartbeats 400000 in
theorem Bit_any (s k : Nat) (hk : k < 32) (hs : s < 4294967296) (w : World) :
    Calls Try.prog 17 #[.int .u32 s, .int .i64 k] w fun e w' => e = .returned (.bool (s.testBit k)) ∧ w = w' := by
  have H := Lib.hid (one_int k hk)
  go_enter Try.func17, Try.ntmps17
  go_wp2
  go_ret
  exact ⟨ret_bool (by rw [H.out, u32_has s k hs hk]), rfl⟩
set_option maxHeartbeats 400000 in
theorem In_any (a b : Nat) (ha : a < 4294967296) (hb : b < 4294967296) (w : World) :
    Calls Try.prog 19 #[.int .u32 a, .int .u32 b] w fun e w' => e = .returned (.bool (a ||| b == b)) ∧ w = w' := by
  go_enter Try.func19, Try.ntmps19
  go_wp2
  go_ret
  exact ⟨ret_bool (by rw [u32_or_nat a b ha hb, Bool.eq_iff_iff]; simp only [beq_iff_eq]; omega), rfl⟩
theorem Bit_quiet (s k : Nat) (hk : k < 32) (hs : s < 4294967296) (w : World) (n : Nat) : Calls Try.prog 17 #[.int .u32 s, .int .i64 k] (w.drewN n) fun e w'' => e = .returned (.bool (s.testBit k)) ∧ ∃ m, w'' = w.drewN m :=
  (Bit_any s k hk hs (w.drewN n)).mono fun _ _ ⟨he, hw⟩ => ⟨he, n, hw.symm⟩
theorem In_quiet (a b : Nat) (ha : a < 4294967296) (hb : b < 4294967296) (w : World) (n : Nat) : Calls Try.prog 19 #[.int .u32 a, .int .u32 b] (w.drewN n) fun e w'' => e = .returned (.bool (a ||| b == b)) ∧ ∃ m, w'' = w.drewN m :=
  (In_any a b ha hb (w.drewN n)).mono fun _ _ ⟨he, hw⟩ => ⟨he, n, hw.symm⟩
theorem Bit_still {b : Bool} (s k : Nat) (h : s.testBit k = b) (hk : k < 32) (hs : s < 4294967296) (w : World) : Calls Try.prog 17 #[.int .u32 s, .int .i64 k] w fun e w' => e = .returned (.bool b) ∧ w' = w :=
  (Bit_any s k hk hs w).mono fun _ _ ⟨he, hw⟩ => ⟨by rw [he, h], hw.symm⟩
theorem In_still {c : Bool} (a b : Nat) (h : (a ||| b == b) = c) (ha : a < 4294967296) (hb : b < 4294967296) (w : World) : Calls Try.prog 19 #[.int .u32 a, .int .u32 b] w fun e w' => e = .returned (.bool c) ∧ w' = w :=
  (In_any a b ha hb w).mono fun _ _ ⟨he, hw⟩ => ⟨by rw [he, h], hw.symm⟩
set_option maxHeartbeats 400000 in
theorem Fits_any (n s : Nat) (hn : n < 32) (w : World) :
    Calls Try.prog 18 #[.int .i64 n, .int .u32 s] w fun e w' => e = .returned (.bool (decide (s < one n))) ∧ w = w' := by
  have H := Lib.hid (one_int n hn)
  go_enter Try.func18, Try.ntmps18
  go_wp2
  go_ret
  exact ⟨ret_bool (by rw [H.out, Bool.eq_iff_iff]; simp; omega), rfl⟩
end Go.Proofs.Ytkonpadodldneaa
