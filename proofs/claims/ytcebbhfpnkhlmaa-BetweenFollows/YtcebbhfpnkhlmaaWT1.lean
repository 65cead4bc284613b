/- syllogistref.TruthCheck, Bools, Dual, Sums; syllogistkeep.stated. -/
import Derived.Test.YtcebbhfpnkhlmaaTB
import Derived.Test.YtcebbhfpnkhlmaaW1
import Derived.Test.YtcebbhfpnkhlmaaW9
namespace Go.Proofs.Ytcebbhfpnkhlmaa
open Go.RowKit

set_option maxHeartbeats 1000000 in
theorem TruthCheck_any (n : Int) (f : List Bool) (A : Option Addr) (c : Nat) (w : World) (hl : f.length ≤ maxLen) :
    Calls Try.prog 20 #[.int .i64 n, .slice A f.length c] w fun e w' => e = .returned (.int .i64 (codeT n f.length)) ∧ w = w' := by
  have hll : f.length < 9223372036854775808 := by unfold maxLen at hl; omega
  by_cases hL : LargeT n
  · have HL := Lib.hid (codeT_large (len := f.length) hL)
    have HX := Lib.hid hL
    clear hL
    go_enter Try.func20, Try.ntmps20
    go_wp2
    all_goals first
      | (go_ret; exact ⟨ret_int HL.out.symm, rfl⟩)
      | (have := HX.out; unfold LargeT at this; omega)
  · obtain ⟨n, rfl⟩ := Int.eq_ofNat_of_zero_le (show 0 ≤ n by unfold LargeT at hL; omega)
    have hn : n ≤ 4 := by unfold LargeT at hL; omega
    clear hL
    have h1 := one_i64 n
    have h16 := one_le_16 hn
    by_cases h2 : f.length = one n
    · have HC := Lib.hid (show codeT n f.length = 0 by rw [h2]; exact codeT_ok hn)
      have hd : ((f.length : Int) != (one n : Int)) = false := by simp [h2]
      clear h2
      go_enter Try.func20, Try.ntmps20
      go_wp2
      go_ret
      exact ⟨ret_int HC.out.symm, rfl⟩
    · have HC := Lib.hid (codeT_bad hn h2)
      have hd : ((f.length : Int) != (one n : Int)) = true := by simp; omega
      clear h2
      go_enter Try.func20, Try.ntmps20
      go_wp2
      go_ret
      exact ⟨ret_int HC.out.symm, rfl⟩

set_option maxHeartbeats 1000000 in
theorem stated_any (n : Int) (f : List Bool) (A : Option Addr) (c : Nat) (w : World) (hl : f.length ≤ maxLen) :
    Calls Try.prog 22 #[.int .i64 n, .slice A f.length c] w fun e w' => e = .returned (.bool (codeT n f.length == 0)) ∧ w = w' := by
  go_enter Try.func22, Try.ntmps22
  go_wp2_with fail
  refine (TruthCheck_any n f A c w hl).mono ?_
  rintro e w' ⟨rfl, rfl⟩
  go_wp2
  go_ret
  exact ⟨rfl, rfl⟩

set_option maxHeartbeats 1000000 in
theorem Bools_any (xs ys : List Bool) (A A2 : Option Addr) (c c2 : Nat) (w : World) (h : Row w A (boolsC xs)) (h2 : Row w A2 (boolsC ys)) (_hn : xs.length ≤ 1000000) (_hn2 : ys.length ≤ 1000000) :
    Calls Try.prog 18 #[.slice A xs.length c, .slice A2 ys.length c2] w fun e w' => e = .returned (.bool (decide (xs = ys))) ∧ ∃ d, w' = w.drewN d := by
  by_cases hl : xs.length = ys.length
  · have hd : ((xs.length : Int) != (ys.length : Int)) = false := by simp [hl]
    have HL := Lib.hid hl
    have hle : xs.length ≤ ys.length := by omega
    clear hl
    go_enter Try.func18, Try.ntmps18
    go_wp2
    go_loopw [5] (fun v wr => ∃ k : Nat, v = .int .i64 k ∧ k ≤ xs.length ∧ xs.take k = ys.take k ∧ ∃ d, wr = w.drewN d) (fun v _ => xs.length - (intOf v).toNat)
    case atStart => exact ⟨0, rfl, Nat.zero_le _, by simp, 0, rfl⟩
    case round =>
      obtain ⟨k, rfl, hk, ht, d, rfl⟩ := hrel
      have HT := Lib.hid ht
      clear ht
      by_cases hlt : k < xs.length
      · obtain ⟨x, hx⟩ := get_some hlt
        obtain ⟨y, hy⟩ := get_some (show k < ys.length by omega)
        obtain ⟨b, off, rfl, hc⟩ := h.at (k := k) (by simpa using hlt)
        obtain ⟨b2, off2, rfl, hc2⟩ := h2.at (k := k) (by simp; omega)
        have hk1 : (w.drewN d).cell? ⟨b, off + k, none⟩ = some (.bool x) := hc _ _ (boolsC_at hx)
        have hk2 : (w.drewN d).cell? ⟨b2, off2 + k, none⟩ = some (.bool y) := hc2 _ _ (boolsC_at hy)
        have HX := Lib.hid hx
        have HY := Lib.hid hy
        clear hc hc2 hx hy
        generalize hw3 : w.drewN d = w3 at *
        have HW := Lib.hid hw3
        clear hw3
        by_cases he : x = y
        · have hd2 : (x == y) = true := by simp [he]
          have HE := Lib.hid he
          clear he
          go_wp2
          go_quiet (fail)
          go_wp2
          go_roundw
          case rel => exact ⟨k + 1, by go_num, by omega, take_same_succ HT.out HX.out HY.out HE.out, d + nq, by rw [← HW.out, World.drewN_drewN]⟩
          case measure => simp [intOf]; omega
        · have hd2 : (x == y) = false := by simpa using he
          have HE := Lib.hid he
          clear he
          go_wp2
          go_quiet (fail)
          go_wp2
          go_ret
          exact ⟨ret_bool (by simpa using ne_of_at HX.out HY.out HE.out), d + nq, by rw [← HW.out, World.drewN_drewN]⟩
      · obtain rfl : k = xs.length := by omega
        have HE := Lib.hid (show xs = ys by
          have := HT.out
          rw [List.take_length, HL.out, List.take_length] at this
          exact this)
        go_wp2
        go_ret
        exact ⟨ret_bool (by simpa using HE.out), d, rfl⟩
  · have hd : ((xs.length : Int) != (ys.length : Int)) = true := by simp; omega
    have HL := Lib.hid (show ¬ xs = ys from fun e => hl (by rw [e]))
    clear hl
    go_enter Try.func18, Try.ntmps18
    go_wp2
    go_ret
    exact ⟨ret_bool (by simpa using HL.out), 0, rfl⟩

/-- Half of a table is made. -/
def halfF (D : Nat → Bool) (s : Nat) : Nat → Bool := fun i => if i < s then D i else false
theorem halfF_zero (D : Nat → Bool) (i : Nat) : false = halfF D 0 i := by simp [halfF]
theorem halfF_succ (D : Nat → Bool) (s i : Nat) : updB (halfF D s) s (D s) i = halfF D (s + 1) i := by
  unfold updB halfF
  by_cases h : i = s
  · subst h; simp
  · by_cases h2 : i < s
    · have : i < s + 1 := by omega
      simp [h, h2, this]
    · have : ¬ i < s + 1 := by omega
      simp [h, h2, this]
theorem halfF_all {D : Nat → Bool} {s i : Nat} (h : i < s) : halfF D s i = D i := by simp [halfF, h]

/-- Parity of the first t sets. -/
def sumP (F : Nat → Bool) (s t : Nat) : Bool := par t fun u => sub u s && F u
theorem i64_or_eq {t s : Nat} (ht : t < 16) (hs : s < 16) : bits .or .i64 (t : Int) (s : Int) = ((t ||| s : Nat) : Int) := i64_or_nat t s (by omega) (by omega)

end Go.Proofs.Ytcebbhfpnkhlmaa
