/- two.has, two.not, math/bits.TrailingZeros32, math/bits.Len32. -/
import Derived.Test.YtekeeodnjlebcaaDoorWJo1
import Derived.Test.YtekeeodnjlebcaaDoorTwI
import Derived.Test.YtekeeodnjlebcaaDoorOwn
import Derived.Shelf.Small.Bits
namespace Go.Proofs.YtekeeodnjlebcaaDoor
open Go.RowKit Go.Shelf

set_option maxHeartbeats 1000000 in
theorem tz_core (x k idx : Nat) (w : World) (hx0 : ((x : Int) == 0) = false)
    (key : bits BinOp.and IntKind.u32 (x : Int) (-(x : Int) % 4294967296) * 125613361 % 4294967296 / 134217728 = (idx : Int))
    (hi : idx < 32) (hk : k < 32) (hcell : w.cell? ⟨0, idx, none⟩ = some (.int .u8 k)) :
    Calls Tryd.prog 25 #[.int .u32 x] w fun e w' => e = .returned (.int .i64 k) ∧ w = w' := by
  go_enter Tryd.func25, Tryd.ntmps25
  go_wp2_with (simp only [key])
  go_ret
  exact ⟨rfl, rfl⟩
theorem tz_any (x : Nat) (hx0 : x ≠ 0) (hx : x < 4294967296) (w : World) (hT : Laid w) :
    Calls Tryd.prog 25 #[.int .u32 x] w fun e w' => e = .returned (.int .i64 (lowB x)) ∧ w = w' := by
  obtain ⟨hlow, hk⟩ := Lib.lowest_bit 32 x hx0 hx
  obtain ⟨hi, htab⟩ := Lib.deBruijn32_at _ hk
  have hcell := hT _ hi
  rw [htab] at hcell
  exact tz_core x _ _ w (by simp; omega) (tz32_key x _ hx hx0 hlow) hi hk hcell
theorem shr_has (s k : Nat) (hs : s < 4294967296) : (bits .and .u32 ((s : Int) / 2 ^ k) 1 == 1) = s.testBit k := by
  have e : (s : Int) / 2 ^ k = ((s / 2 ^ k : Nat) : Int) := by simp
  have hd : s / 2 ^ k < 4294967296 := Nat.lt_of_le_of_lt (Nat.div_le_self _ _) hs
  have h := u32_and_nat (s / 2 ^ k) 1 hd (by omega)
  rw [e, show ((1 : Int)) = ((1 : Nat) : Int) from rfl, h, Nat.testBit_eq_decide_div_mod_eq, Nat.and_one_is_mod, Bool.eq_iff_iff, beq_iff_eq, decide_eq_true_iff]
  omega
set_option maxHeartbeats 400000 in
theorem jHas_any (s k : Nat) (hk : k < 32) (hs : s < 4294967296) (w : World) :
    Calls Tryd.prog 21 #[.int .u32 s, .int .i64 k] w fun e w' => e = .returned (.bool (s.testBit k)) ∧ w = w' := by
  go_enter Tryd.func21, Tryd.ntmps21
  go_wp2
  go_ret
  exact ⟨ret_bool (shr_has s k hs), rfl⟩
theorem not_num {n i : Nat} (h : i < n + n) : (((i : Int) + n).tmod (2 * n)) = (neg n i : Nat) := by
  rw [Int.tmod_eq_emod_of_nonneg (by omega)]
  unfold neg
  split
  · rw [Int.emod_eq_of_lt (by omega) (by omega)]; omega
  · have : ((i : Int) + n) % (2 * n) = (i : Int) - n := by
      rw [show (i : Int) + n = ((i : Int) - n) + 2 * n by omega, Int.add_emod_right, Int.emod_eq_of_lt (by omega) (by omega)]
    omega
set_option maxHeartbeats 400000 in
theorem jNot_any (n i : Nat) (hn : 1 ≤ n) (hn6 : n ≤ 6) (hi : i < n + n) (w : World) :
    Calls Tryd.prog 27 #[.int .i64 n, .int .i64 i] w fun e w' => e = .returned (.int .i64 (neg n i : Nat)) ∧ w = w' := by
  have h := not_num hi
  have h0 : ¬ ((2 * (n : Int)) = 0) := by omega
  have hlt := neg_lt hi
  generalize neg n i = m at *
  go_enter Tryd.func27, Tryd.ntmps27
  go_wp2
  go_ret
  exact ⟨rfl, rfl⟩
theorem jNot_still (n i : Nat) (hn : 1 ≤ n) (hn6 : n ≤ 6) (hi : i < n + n) (w : World) : Calls Tryd.prog 27 #[.int .i64 n, .int .i64 i] w fun e w' => e = .returned (.int .i64 (neg n i : Nat)) ∧ w' = w :=
  (jNot_any n i hn hn6 hi w).mono fun _ _ ⟨he, hw⟩ => ⟨he, hw.symm⟩
def lenRen : Go.Shelf.Ren := ⟨fun | 128 => 26 | n => n, fun | 3 => 3 | 4 => 4 | 5 => 5 | 9 => 9 | 46 => 34 | 51 => 28 | n => n, fun n => n⟩
theorem lenLays : Lays.n128 Tryd.prog lenRen where
  mixed := by kernel_rfl
  f128 := Tryd.func26.trans (congrArg some (by kernel_rfl))
  t3 := Tryd.underlying3
  a3 := Tryd.isAgg3
  z3 := Tryd.sizeOf3
  v3 := Tryd.zeroValue3
  t4 := Tryd.underlying4
  a4 := Tryd.isAgg4
  z4 := Tryd.sizeOf4
  v4 := Tryd.zeroValue4
  t5 := Tryd.underlying5
  a5 := Tryd.isAgg5
  z5 := Tryd.sizeOf5
  v5 := Tryd.zeroValue5
  t9 := Tryd.underlying9
  a9 := Tryd.isAgg9
  z9 := Tryd.sizeOf9
  v9 := Tryd.zeroValue9
  t46 := Tryd.underlying34
  a46 := Tryd.isAgg34
  z46 := Tryd.sizeOf34
  v46 := Tryd.zeroValue34
  t51 := Tryd.underlying28
  a51 := Tryd.isAgg28
  z51 := Tryd.sizeOf28
  v51 := Tryd.zeroValue28
theorem len_any (x : Nat) (hx : x < 4294967296) (w : World) :
    Calls Tryd.prog 26 #[.int .u32 x] w fun e w' => e = .returned (.int .i64 (Lib.bitLen x : Nat)) ∧ w = w' :=
  (Any.bits_Len32 lenLays (x : Int) w (by omega) (by omega)).mono fun _ _ ⟨he, hw⟩ => ⟨he, hw.symm⟩

end Go.Proofs.YtekeeodnjlebcaaDoor
