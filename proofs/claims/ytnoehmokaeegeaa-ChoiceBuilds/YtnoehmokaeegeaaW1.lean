/- Contracts of the small functions. -/
import Derived.Test.YtnoehmokaeegeaaProg
import Derived.Test.YtnoehmokaeegeaaBase
namespace Go.Proofs.Ytnoehmokaeegeaa
open Go.RowKit

set_option maxHeartbeats 400000 in
theorem Bit_any (s k : Nat) (hk : k < 32) (hs : s < 4294967296) (w : World) :
    Calls Try.prog 29 #[.int .u32 s, .int .i64 k] w fun e w' => e = .returned (.bool (s.testBit k)) ∧ w = w' := by
  have H := Lib.hid (one_int k hk)
  go_enter Try.func29, Try.ntmps29
  go_wp2
  go_ret
  exact ⟨ret_bool (by rw [H.out, u32_has s k hs hk]), rfl⟩
theorem Bit_quiet (s k : Nat) (hk : k < 32) (hs : s < 4294967296) (w : World) (n : Nat) : Calls Try.prog 29 #[.int .u32 s, .int .i64 k] (w.drewN n) fun e w'' => e = .returned (.bool (s.testBit k)) ∧ ∃ m, w'' = w.drewN m :=
  (Bit_any s k hk hs (w.drewN n)).mono fun _ _ ⟨he, hw⟩ => ⟨he, n, hw.symm⟩
theorem Bit_still {b : Bool} (s k : Nat) (h : s.testBit k = b) (hk : k < 32) (hs : s < 4294967296) (w : World) : Calls Try.prog 29 #[.int .u32 s, .int .i64 k] w fun e w' => e = .returned (.bool b) ∧ w' = w :=
  (Bit_any s k hk hs w).mono fun _ _ ⟨he, hw⟩ => ⟨by rw [he, h], hw.symm⟩
end Go.Proofs.Ytnoehmokaeegeaa
