/- Contracts of the small functions. -/
import Derived.Test.YthgmbiaajgpaaaaProg
import Derived.Test.YthgmbiaajgpaaaaBase
namespace Go.Proofs.Ythgmbiaajgpaaaa
open Go.RowKit

set_option maxHeartbeats 400000 in
theorem In_any (a b : Nat) (ha : a < 4294967296) (hb : b < 4294967296) (w : World) :
    Calls Try.prog 14 #[.int .u32 a, .int .u32 b] w fun e w' => e = .returned (.bool (a ||| b == b)) ∧ w = w' := by
  go_enter Try.func14, Try.ntmps14
  go_wp2
  go_ret
  exact ⟨ret_bool (by rw [u32_or_nat a b ha hb, Bool.eq_iff_iff]; simp only [beq_iff_eq]; omega), rfl⟩
theorem In_quiet (a b : Nat) (ha : a < 4294967296) (hb : b < 4294967296) (w : World) (n : Nat) : Calls Try.prog 14 #[.int .u32 a, .int .u32 b] (w.drewN n) fun e w'' => e = .returned (.bool (a ||| b == b)) ∧ ∃ m, w'' = w.drewN m :=
  (In_any a b ha hb (w.drewN n)).mono fun _ _ ⟨he, hw⟩ => ⟨he, n, hw.symm⟩
theorem In_still {c : Bool} (a b : Nat) (h : (a ||| b == b) = c) (ha : a < 4294967296) (hb : b < 4294967296) (w : World) : Calls Try.prog 14 #[.int .u32 a, .int .u32 b] w fun e w' => e = .returned (.bool c) ∧ w' = w :=
  (In_any a b ha hb w).mono fun _ _ ⟨he, hw⟩ => ⟨by rw [he, h], hw.symm⟩
end Go.Proofs.Ythgmbiaajgpaaaa
