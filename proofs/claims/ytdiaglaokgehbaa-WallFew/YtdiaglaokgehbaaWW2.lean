/- syllogistkeep.walled. -/
import Derived.Test.YtdiaglaokgehbaaWW1
import Derived.Test.YtdiaglaokgehbaaWl2
namespace Go.Proofs.Ytdiaglaokgehbaa
open Go.RowKit

theorem codeP_zero {who : Int} {fi cl : List Int} {nd : Nat} (h : codeP who fi cl nd = 0) : ∃ nc : Nat, who = nc ∧ 1 ≤ nc ∧ nc ≤ 5 ∧ nd ≤ 30 ∧ codeF fi cl = 0 := by
  unfold codeP at h
  split at h
  · omega
  · rename_i h1
    obtain ⟨nc, rfl⟩ := Int.eq_ofNat_of_zero_le (show 0 ≤ who by omega)
    exact ⟨nc, rfl, by omega, by omega, by omega, h⟩

theorem bit_quiet (s k : Nat) (hk : k < 32) (hs : s < 4294967296) (w : World) (n : Nat) : Calls Try.prog 21 #[.int .u32 s, .int .i64 k] (w.drewN n) fun e w' => e = .returned (.bool (s.testBit k)) ∧ ∃ m, w' = w.drewN m :=
  (Bit_any s k hk hs (w.drewN n)).mono fun _ _ ⟨he, hw⟩ => ⟨he, n, hw.symm⟩

set_option maxHeartbeats 1000000 in
theorem walled_any (who : Int) (fi cl : List Int) (A A2 : Option Addr) (c c2 nd : Nat) (w : World) (hr : Row w A (ints fi)) :
    Calls Try.prog 31 #[.int .i64 who, .slice A fi.length c, .slice A2 cl.length c2, .int .i64 (nd : Int)] w fun e w' => e = .returned (.bool (codeP who fi cl nd == 0)) ∧ w = w' := by
  by_cases h1 : who < 1
  · have HC := Lib.hid (show (codeP who fi cl nd == 0) = false by unfold codeP; rw [if_pos (.inl h1)]; rfl)
    rw [HC.out]
    go_enter Try.func31, Try.ntmps31
    go_wp2
    go_ret
    exact ⟨by first | rfl | simp, rfl⟩
  · by_cases h2 : 5 < who
    · have HC := Lib.hid (show (codeP who fi cl nd == 0) = false by unfold codeP; rw [if_pos (.inr (.inl h2))]; rfl)
      rw [HC.out]
      go_enter Try.func31, Try.ntmps31
      go_wp2
      go_ret
      exact ⟨by first | rfl | simp, rfl⟩
    · by_cases h3 : 30 < nd
      · have HC := Lib.hid (show (codeP who fi cl nd == 0) = false by unfold codeP; rw [if_pos (.inr (.inr h3))]; rfl)
        rw [HC.out]
        go_enter Try.func31, Try.ntmps31
        go_wp2
        go_ret
        exact ⟨by first | rfl | simp, rfl⟩
      · have HC := Lib.hid (show codeP who fi cl nd = codeF fi cl by unfold codeP; rw [if_neg (by omega)])
        rw [HC.out]
        have kc := fun W h => FirmsCheck_any fi cl A A2 c c2 W h
        generalize codeF fi cl = q at *
        go_enter Try.func31, Try.ntmps31
        go_wp2_with fail
        refine (kc _ hr).mono ?_
        rintro e w1 ⟨rfl, rfl⟩
        go_wp2
        go_ret
        exact ⟨by first | rfl | simp, rfl⟩

end Go.Proofs.Ytdiaglaokgehbaa
