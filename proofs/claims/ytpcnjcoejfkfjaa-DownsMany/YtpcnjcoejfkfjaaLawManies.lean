/- The laws on the number of down-sets. -/
import Derived.Test.YtpcnjcoejfkfjaaDownSpec
import Derived.Test.YtpcnjcoejfkfjaaWFree
import Derived.Test.YtpcnjcoejfkfjaaWTurn
namespace Go.Proofs.Ytpcnjcoejfkfjaa
open Go.RowKit

set_option maxHeartbeats 2000000 in
theorem DownsManies_with (hJ : ManyOk 13) (n : Int) (ps : List (Int × Int)) (A : Option Addr) (c : Nat) (w : World) (hm : ps.length ≤ maxLen) (hr : Row w A (pairsC ps)) (hX : Laid w) :
    Calls Try.prog 4 #[.int .i64 n, .slice A ps.length c] w fun e w' => e = .returned (.bool true) ∧ Below w.heap.size w w' := by
  have key := hJ n ps A c w hm hr hX
  by_cases hc : code n ps = 0
  · obtain ⟨h2, h3, h4⟩ := code_zero hc
    obtain ⟨n, rfl⟩ := Int.eq_ofNat_of_zero_le (show 0 ≤ n by unfold Large at h2; omega)
    obtain ⟨hn1, hn6, hl⟩ : 1 ≤ n ∧ n ≤ 6 ∧ ps.length ≤ 20 := by unfold Large at h2; omega
    have HC := Lib.hid hc
    rw [hc, if_pos rfl, Int.toNat_natCast] at key
    have h64 := one_le_64 hn6
    have h1n := one_int n (by omega)
    clear h2 h3 h4 hc
    go_enter Try.func4, Try.ntmps4
    go_wp2_with fail
    refine key.mono ?_
    rintro e w1 ⟨rfl, hb1⟩
    go_wp2_with fail
    refine (OrderCheck_any n ps A c _ hm (hr.below hb1)).mono ?_
    rintro e w2 ⟨rfl, hb2⟩
    rw [HC.out]
    have hb02 := hb1.trans (hb2.mono hb1.size)
    clear hb1 hb2 key
    have hM := Nat.le_trans (cntW_le (downB n ps) (one n)) h64
    go_wp2
    go_loopw [8, 9] (fun mv sv wr => ∃ (k m : Nat), sv = .int .u32 k ∧ k ≤ one n ∧ mv = .int .i64 m ∧ m = cntW (downB n ps) k ∧ Below w.heap.size w wr) (fun _ sv _ => one n - (intOf sv).toNat)
    case atStart => exact ⟨0, 0, rfl, Nat.zero_le _, rfl, rfl, hb02⟩
    case round =>
      clear hb02
      obtain ⟨k, m, rfl, hk, rfl, hmk, hbel⟩ := hrel
      have hm64 : m ≤ 64 := by have := cntW_le (downB n ps) k; omega
      have HM := Lib.hid hmk
      clear hmk
      by_cases hlt : k < one n
      · go_wp2_with fail
        refine (Down_any n k ps A c _ (hr.below hbel) hn6 hl (by omega)).mono ?_
        rintro e w3 ⟨rfl, hb3⟩
        have hbel3 := hbel.trans (hb3.mono hbel.size)
        clear hb3
        cases hd : downB n ps k with
        | true =>
          have HS := Lib.hid (show m + 1 = cntW (downB n ps) (k + 1) by rw [cntW_succ, hd, HM.out]; rfl)
          clear hd
          go_wp2
          go_roundw
          case rel => exact ⟨k + 1, m + 1, by go_num, by omega, by go_num, HS.out, hbel3⟩
          case measure => simp [intOf]; omega
        | false =>
          have HS := Lib.hid (show m = cntW (downB n ps) (k + 1) by rw [cntW_succ, hd, HM.out]; rfl)
          clear hd
          go_wp2
          go_roundw
          case rel => exact ⟨k + 1, m, by go_num, by omega, rfl, HS.out, hbel3⟩
          case measure => simp [intOf]; omega
      · have hke : k = one n := by omega
        subst hke
        have hd : ((cntW (downB n ps) (one n) : Int) == (m : Int)) = true := by rw [← HM.out]; simp
        go_wp2
        go_ret
        exact ⟨rfl, hbel⟩
  · rw [if_neg hc] at key
    go_enter Try.func4, Try.ntmps4
    go_wp2_with fail
    refine key.mono ?_
    rintro e w1 ⟨rfl, hb1⟩
    go_wp2_with fail
    refine (OrderCheck_any n ps A c _ hm (hr.below hb1)).mono ?_
    rintro e w2 ⟨rfl, hb2⟩
    have HB := Lib.hid (hb1.trans (hb2.mono hb1.size))
    clear key
    generalize code n ps = k at *
    have hk : (k == 0) = false := by simpa using hc
    have hk2 : (k != 0) = true := by simpa using hc
    clear hc hb1 hb2
    go_wp2
    go_ret
    exact ⟨rfl, HB.out⟩

set_option maxHeartbeats 2000000 in
theorem DownsMany_with (hJ : ManyOk 13) (n : Int) (ps : List (Int × Int)) (A : Option Addr) (c : Nat) (w : World) (hm : ps.length ≤ maxLen) (hr : Row w A (pairsC ps)) (hX : Laid w) :
    Calls Try.prog 8 #[.int .i64 n, .slice A ps.length c] w fun e w' => e = .returned (.bool true) ∧ Below w.heap.size w w' := by
  have key := hJ n ps A c w hm hr hX
  by_cases hc : code n ps = 0
  · obtain ⟨h2, h3, h4⟩ := code_zero hc
    obtain ⟨n, rfl⟩ := Int.eq_ofNat_of_zero_le (show 0 ≤ n by unfold Large at h2; omega)
    obtain ⟨hn1, hn6, hl⟩ : 1 ≤ n ∧ n ≤ 6 ∧ ps.length ≤ 20 := by unfold Large at h2; omega
    have HC := Lib.hid hc
    have HCT := Lib.hid (turned_code hc)
    have HT := Lib.hid (downs_turned h4)
    rw [hc, if_pos rfl, Int.toNat_natCast, downs_frees h4] at key
    have h64 := one_le_64 hn6
    have h1n := one_int n (by omega)
    have hN := downs_many (n := n) (ps := ps)
    have hM := Nat.le_trans (cntW_le (freeB n ps) (one n)) h64
    clear h2 h3 h4 hc
    go_enter Try.func8, Try.ntmps8
    go_wp2_with fail
    refine key.mono ?_
    rintro e w1 ⟨rfl, hb1⟩
    go_wp2_with fail
    refine (ordered_any n ps A c _ hm (hr.below hb1)).mono ?_
    rintro e w2 ⟨rfl, hb2⟩
    rw [HC.out]
    have hb02 := hb1.trans (hb2.mono hb1.size)
    clear hb1 hb2 key
    go_wp2_with fail
    refine (Turned_any ps A c _ (hr.below hb02) hl).mono ?_
    rintro e w3 ⟨v3, rfl, hown, hb3⟩
    have hb03 := hb02.trans (hb3.mono hb02.size)
    obtain ⟨A3, c3, rfl, hrow3, hmax3⟩ := hown.row
    clear hown hb02 hb3
    go_wp2_with fail
    refine (hJ n (turned ps) A3 c3 _ hmax3 hrow3 (hX.below hb03)).mono ?_
    rintro e w4 ⟨rfl, hb4⟩
    rw [HCT.out, if_pos rfl, Int.toNat_natCast, HT.out]
    have hb04 := hb03.trans (hb4.mono hb03.size)
    clear hb03 hb4 hrow3 hmax3 HCT HT
    obtain ⟨N, hNe⟩ : ∃ N, N = cntW (freeB n ps) (one n) := ⟨_, rfl⟩
    rw [← hNe] at hN hM ⊢
    have HNe := Lib.hid hNe
    clear hNe
    go_wp2
    go_loopw [9, 10] (fun mv sv wr => ∃ (k m : Nat), sv = .int .u32 k ∧ k ≤ one n ∧ mv = .int .i64 m ∧ m = cntW (freeB n ps) k ∧ Below w.heap.size w wr) (fun _ sv _ => one n - (intOf sv).toNat)
    case atStart => exact ⟨0, 0, rfl, Nat.zero_le _, rfl, rfl, hb04⟩
    case round =>
      clear hb04
      obtain ⟨k, m, rfl, hk, rfl, hmk, hbel⟩ := hrel
      have hm64 : m ≤ 64 := by have := cntW_le (freeB n ps) k; omega
      have HM := Lib.hid hmk
      clear hmk
      by_cases hlt : k < one n
      · go_wp2_with fail
        refine (Free_any n k ps A c _ (hr.below hbel) hn6 hl (by omega)).mono ?_
        rintro e w3 ⟨rfl, hb3⟩
        have hbel3 := hbel.trans (hb3.mono hbel.size)
        clear hb3
        cases hd : freeB n ps k with
        | true =>
          have HS := Lib.hid (show m + 1 = cntW (freeB n ps) (k + 1) by rw [cntW_succ, hd, HM.out]; rfl)
          clear hd
          go_wp2
          go_roundw
          case rel => exact ⟨k + 1, m + 1, by go_num, by omega, by go_num, HS.out, hbel3⟩
          case measure => simp [intOf]; omega
        | false =>
          have HS := Lib.hid (show m = cntW (freeB n ps) (k + 1) by rw [cntW_succ, hd, HM.out]; rfl)
          clear hd
          go_wp2
          go_roundw
          case rel => exact ⟨k + 1, m, by go_num, by omega, rfl, HS.out, hbel3⟩
          case measure => simp [intOf]; omega
      · have hke : k = one n := by omega
        subst hke
        obtain rfl : N = m := by rw [HNe.out, HM.out]
        go_wp2
        go_ret
        exact ⟨ret_bool (by rw [decide_eq_true_iff]; omega), hbel⟩
  · rw [if_neg hc] at key
    go_enter Try.func8, Try.ntmps8
    go_wp2_with fail
    refine key.mono ?_
    rintro e w1 ⟨rfl, hb1⟩
    go_wp2_with fail
    refine (ordered_any n ps A c _ hm (hr.below hb1)).mono ?_
    rintro e w2 ⟨rfl, hb2⟩
    have HB := Lib.hid (hb1.trans (hb2.mono hb1.size))
    clear key
    generalize code n ps = k at *
    have hk : (k == 0) = false := by simpa using hc
    have hk2 : (k != 0) = true := by simpa using hc
    clear hc hb1 hb2
    go_wp2
    go_ret
    exact ⟨rfl, HB.out⟩

end Go.Proofs.Ytpcnjcoejfkfjaa
