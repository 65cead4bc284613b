/- lattice.has, lattice.choose, lattice.isThing, math/bits.TrailingZeros32. -/
import Derived.Test.YtmlggmopkelcfaaDoorW7
import Derived.Test.YtmlggmopkelcfaaDoorExt
namespace Go.Proofs.YtmlggmopkelcfaaDoor
open Go.RowKit

set_option maxHeartbeats 1000000 in
theorem tz_core (x k idx : Nat) (w : World) (hx0 : ((x : Int) == 0) = false)
    (key : bits BinOp.and IntKind.u32 (x : Int) (-(x : Int) % 4294967296) * 125613361 % 4294967296 / 134217728 = (idx : Int))
    (hi : idx < 32) (hk : k < 32) (hcell : w.cell? ⟨0, idx, none⟩ = some (.int .u8 k)) :
    Calls Tryd.prog 37 #[.int .u32 x] w fun e w' => e = .returned (.int .i64 k) ∧ w = w' := by
  go_enter Tryd.func37, Tryd.ntmps37
  go_wp2_with (simp only [key])
  go_ret
  exact ⟨rfl, rfl⟩
theorem tz_any (x : Nat) (hx0 : x ≠ 0) (hx : x < 4294967296) (w : World) (hT : Laid w) :
    Calls Tryd.prog 37 #[.int .u32 x] w fun e w' => e = .returned (.int .i64 (Lib.ctz 32 x)) ∧ w = w' := by
  obtain ⟨hlow, hk⟩ := Lib.lowest_bit 32 x hx0 hx
  obtain ⟨hi, htab⟩ := Lib.deBruijn32_at _ hk
  have hcell := hT _ hi
  rw [htab] at hcell
  exact tz_core x _ _ w (by simp; omega) (tz32_key x _ hx hx0 hlow) hi hk hcell

theorem shr_has (s k : Nat) (hs : s < 4294967296) : (bits .and .u32 ((s : Int) / 2 ^ k) 1 == 1) = s.testBit k := by
  have e : (s : Int) / 2 ^ k = ((s / 2 ^ k : Nat) : Int) := by simp
  have hd : s / 2 ^ k < 4294967296 := Nat.lt_of_le_of_lt (Nat.div_le_self _ _) hs
  have h := u32_and_nat (s / 2 ^ k) 1 hd (by omega)
  rw [e, show ((1 : Int)) = ((1 : Nat) : Int) from rfl, h, Nat.testBit_eq_decide_div_mod_eq, Nat.and_one_is_mod, Bool.eq_iff_iff, beq_iff_eq, decide_eq_true_iff]
  omega
set_option maxHeartbeats 400000 in
theorem lhas_any (s k : Nat) (hk : k < 32) (hs : s < 4294967296) (w : World) :
    Calls Tryd.prog 34 #[.int .u32 s, .int .i64 k] w fun e w' => e = .returned (.bool (s.testBit k)) ∧ w = w' := by
  go_enter Tryd.func34, Tryd.ntmps34
  go_wp2
  go_ret
  exact ⟨ret_bool (shr_has s k hs), rfl⟩
theorem lhas_still {b : Bool} (s k : Nat) (h : s.testBit k = b) (hk : k < 32) (hs : s < 4294967296) (w : World) : Calls Tryd.prog 34 #[.int .u32 s, .int .i64 k] w fun e w' => e = .returned (.bool b) ∧ w' = w :=
  (lhas_any s k hk hs w).mono fun _ _ ⟨he, hw⟩ => ⟨by rw [he, h], hw.symm⟩

set_option maxHeartbeats 400000 in
theorem isThing_yes (A : Option Addr) (n c a : Nat) (w : World) (h : a < n) :
    Calls Tryd.prog 35 #[.slice A n c, .int .i64 a] w fun e w' => e = .returned (.bool true) ∧ w = w' := by
  go_enter Tryd.func35, Tryd.ntmps35
  go_wp2
  go_ret
  exact ⟨rfl, rfl⟩
set_option maxHeartbeats 400000 in
theorem isThing_no (A : Option Addr) (n c : Nat) (a : Int) (w : World) (h : a < 0 ∨ (n : Int) ≤ a) :
    Calls Tryd.prog 35 #[.slice A n c, .int .i64 a] w fun e w' => e = .returned (.bool false) ∧ w = w' := by
  by_cases h1 : a < 0
  · clear h
    go_enter Tryd.func35, Tryd.ntmps35
    go_wp2
    go_ret
    exact ⟨rfl, rfl⟩
  · have h2 : decide (a < (n : Int)) = false := by simp; omega
    clear h
    go_enter Tryd.func35, Tryd.ntmps35
    go_wp2
    go_ret
    exact ⟨rfl, rfl⟩

set_option maxHeartbeats 1000000 in
/-- choose, whatever the function value does to the world, as long as R holds of it. -/
theorem choose_any (R : World → Prop) (n g : Nat) (lb : Array Value) (f : Nat → Bool) (w : World) (hn : n ≤ 31) (h0 : R w)
    (eg : ∀ args w, (callFunc g args).run Tryd.prog w = .ok (.enter g args) w)
    (hf : ∀ (a : Nat) (W : World), a < n → R W → Calls Tryd.prog g (#[.int .i64 a] ++ lb) W fun e W' => e = .returned (.bool (f a)) ∧ R W') :
    Calls Tryd.prog 12 #[.int .i64 n, .func (.func g) #[] lb] w fun e w' => e = .returned (.int .u32 (wordOf n f)) ∧ R w' := by
  have HF := Lib.hid hf
  clear hf
  go_enter Tryd.func12, Tryd.ntmps12
  go_wp2
  go_loopw [5, 8] (fun s v wr => ∃ a : Nat, v = .int .i64 a ∧ a ≤ n ∧ s = .int .u32 (wordOf a f) ∧ R wr) (fun _ v _ => n - (intOf v).toNat)
  case atStart => exact ⟨0, rfl, Nat.zero_le _, rfl, h0⟩
  case round =>
    obtain ⟨a, rfl, ha, rfl, hR⟩ := hrel
    by_cases hlt : a < n
    · have key := HF.out a wr hlt hR
      cases hfa : f a with
      | true =>
        rw [hfa] at key
        have HA := Lib.hid hfa
        clear hfa
        go_wp2_with fail
        refine key.mono ?_
        rintro e w' ⟨rfl, hR'⟩
        have HO := Lib.hid (one_int a (by omega))
        have h1 : wordOf a f < 4294967296 := Nat.lt_trans (wordOf_lt a f) (one_lt (by omega))
        have h2 : one a < 4294967296 := one_lt (by omega)
        go_wp2
        go_roundw
        case rel => exact ⟨a + 1, by go_num, by omega, by rw [wordOf, HA.out, if_pos rfl, HO.out, u32_or_nat _ _ h1 h2], hR'⟩
        case measure => simp [intOf]; omega
      | false =>
        rw [hfa] at key
        have HA := Lib.hid hfa
        clear hfa
        go_wp2_with fail
        refine key.mono ?_
        rintro e w' ⟨rfl, hR'⟩
        go_wp2
        go_roundw
        case rel => exact ⟨a + 1, by go_num, by omega, by rw [wordOf, HA.out]; simp, hR'⟩
        case measure => simp [intOf]; omega
    · obtain rfl : a = n := by omega
      go_wp2
      go_ret
      exact ⟨rfl, hR⟩

end Go.Proofs.YtmlggmopkelcfaaDoor
