/- The laws on Dual, Sums, Class and Primes by what the document asks, from contracts. -/
import Derived.Test.YtcokpjffgeihbaaTSpec
namespace Go.Proofs.Ytcokpjffgeihbaa
open Go.RowKit

set_option maxHeartbeats 1000000 in
theorem TruthDuals_with (hF : TDualOk 12) (n : Int) (f : List Bool) (A : Option Addr) (c : Nat) (w : World) (hm : f.length ≤ maxLen) (hr : Row w A (boolsC f)) (hX : Laid w) :
    Calls Try.prog 3 #[.int .i64 n, .slice A f.length c] w fun e w' => e = .returned (.bool true) ∧ Below w.heap.size w w' := by
  have key := hF n f A c w hm hr hX
  by_cases hc : codeT n f.length = 0
  · obtain ⟨k, rfl, hk, hl⟩ := codeT_zero hc
    have h16 := one_le_16 hk
    rw [hc, if_pos rfl, Int.toNat_natCast] at key
    have HC := Lib.hid hc
    have HLn := Lib.hid hl
    clear hc hl
    go_enter Try.func3, Try.ntmps3
    go_wp2_with fail
    refine key.mono ?_
    rintro e w1 ⟨A2, c2, l, rfl, hl2, hr2, hb1⟩
    have hll : l.length ≤ 16 := by rw [hl2]; simp; omega
    have HL2 := Lib.hid hl2
    clear hl2
    go_wp2_with fail
    refine (TruthCheck_any k f A c _ hm).mono ?_
    rintro e w2 ⟨rfl, rfl⟩
    rw [HC.out]
    go_wp2_with fail
    refine (refDual_any k hk f A c _ HLn.out (hr.below hb1)).mono ?_
    rintro e w2 ⟨rfl, hown, hb2⟩
    have hbo := Bools_any l (tabB (one k) (dualF k (atB f))) A2 (some ⟨w1.heap.size, 0, none⟩) c2 (one k) w2 (hr2.below hb2) hown.row (by omega) (by simp; omega)
    rw [tabB_length, decide_eq_true HL2.out] at hbo
    have hb12 := hb1.trans (hb2.mono hb1.size)
    clear hown hb2 key
    go_wp2_with fail
    refine hbo.mono ?_
    rintro e w3 ⟨rfl, d, rfl⟩
    go_wp2
    go_ret
    exact ⟨rfl, below_drewN hb12 _⟩
  · have HC := Lib.hid hc
    rw [if_neg hc] at key
    generalize hq : codeT n f.length = q at *
    have HQ := Lib.hid hq
    have hq0 : q ≠ 0 := HC.out
    clear hc hq
    go_enter Try.func3, Try.ntmps3
    go_wp2_with fail
    refine key.mono ?_
    rintro e w1 ⟨A2, c2, l, rfl, rfl, hr2, hb1⟩
    go_wp2_with fail
    refine (TruthCheck_any n f A c _ hm).mono ?_
    rintro e w2 ⟨rfl, rfl⟩
    rw [HQ.out]
    go_wp2
    go_ret
    exact ⟨rfl, hb1⟩

set_option maxHeartbeats 1000000 in
theorem TruthSums_with (hF : TSumsOk 16) (n : Int) (f : List Bool) (A : Option Addr) (c : Nat) (w : World) (hm : f.length ≤ maxLen) (hr : Row w A (boolsC f)) (hX : Laid w) :
    Calls Try.prog 4 #[.int .i64 n, .slice A f.length c] w fun e w' => e = .returned (.bool true) ∧ Below w.heap.size w w' := by
  have key := hF n f A c w hm hr hX
  by_cases hc : codeT n f.length = 0
  · obtain ⟨k, rfl, hk, hl⟩ := codeT_zero hc
    have h16 := one_le_16 hk
    rw [hc, if_pos rfl, Int.toNat_natCast] at key
    have HC := Lib.hid hc
    have HLn := Lib.hid hl
    clear hc hl
    go_enter Try.func4, Try.ntmps4
    go_wp2_with fail
    refine key.mono ?_
    rintro e w1 ⟨A2, c2, l, rfl, hl2, hr2, hb1⟩
    have hll : l.length ≤ 16 := by rw [hl2]; simp; omega
    have HL2 := Lib.hid hl2
    clear hl2
    go_wp2_with fail
    refine (TruthCheck_any k f A c _ hm).mono ?_
    rintro e w2 ⟨rfl, rfl⟩
    rw [HC.out]
    go_wp2_with fail
    refine (refSums_any k hk f A c _ HLn.out (hr.below hb1)).mono ?_
    rintro e w2 ⟨rfl, hown, hb2⟩
    have hbo := Bools_any l (tabB (one k) (mob k (atB f))) A2 (some ⟨w1.heap.size, 0, none⟩) c2 (one k) w2 (hr2.below hb2) hown.row (by omega) (by simp; omega)
    rw [tabB_length, decide_eq_true HL2.out] at hbo
    have hb12 := hb1.trans (hb2.mono hb1.size)
    clear hown hb2 key
    go_wp2_with fail
    refine hbo.mono ?_
    rintro e w3 ⟨rfl, d, rfl⟩
    go_wp2
    go_ret
    exact ⟨rfl, below_drewN hb12 _⟩
  · have HC := Lib.hid hc
    rw [if_neg hc] at key
    generalize hq : codeT n f.length = q at *
    have HQ := Lib.hid hq
    have hq0 : q ≠ 0 := HC.out
    clear hc hq
    go_enter Try.func4, Try.ntmps4
    go_wp2_with fail
    refine key.mono ?_
    rintro e w1 ⟨A2, c2, l, rfl, rfl, hr2, hb1⟩
    go_wp2_with fail
    refine (TruthCheck_any n f A c _ hm).mono ?_
    rintro e w2 ⟨rfl, rfl⟩
    rw [HQ.out]
    go_wp2
    go_ret
    exact ⟨rfl, hb1⟩

set_option maxHeartbeats 1000000 in
theorem TruthClasses_with (hF : TClassOk 18) (n : Int) (f : List Bool) (A : Option Addr) (c : Nat) (w : World) (hm : f.length ≤ maxLen) (hr : Row w A (boolsC f)) (hX : Laid w) :
    Calls Try.prog 5 #[.int .i64 n, .slice A f.length c] w fun e w' => e = .returned (.bool true) ∧ Below w.heap.size w w' := by
  have key := hF n f A c w hm hr hX
  by_cases hc : codeT n f.length = 0
  · obtain ⟨k, rfl, hk, hl⟩ := codeT_zero hc
    rw [hc, if_pos rfl, Int.toNat_natCast] at key
    have HC := Lib.hid hc
    have HLn := Lib.hid hl
    clear hc hl
    go_enter Try.func5, Try.ntmps5
    go_wp2_with fail
    refine key.mono ?_
    rintro e w1 ⟨rfl, hb1⟩
    go_wp2_with fail
    refine (TruthCheck_any k f A c _ hm).mono ?_
    rintro e w2 ⟨rfl, rfl⟩
    rw [HC.out]
    go_wp2_with fail
    refine (refClass_any k hk f A c _ HLn.out (hr.below hb1)).mono ?_
    rintro e w2 ⟨rfl, hb2⟩
    have hb12 := hb1.trans (hb2.mono hb1.size)
    go_wp2
    go_ret
    exact ⟨rfl, hb12⟩
  · have HC := Lib.hid hc
    rw [if_neg hc] at key
    generalize hq : codeT n f.length = q at *
    have HQ := Lib.hid hq
    have hq0 : q ≠ 0 := HC.out
    clear hc hq
    go_enter Try.func5, Try.ntmps5
    go_wp2_with fail
    refine key.mono ?_
    rintro e w1 ⟨rfl, hb1⟩
    go_wp2_with fail
    refine (TruthCheck_any n f A c _ hm).mono ?_
    rintro e w2 ⟨rfl, rfl⟩
    rw [HQ.out]
    go_wp2
    go_ret
    exact ⟨rfl, hb1⟩

set_option maxHeartbeats 1000000 in
theorem TruthPrimes_with (hF : TPrimesOk 21) (n : Int) (f : List Bool) (A : Option Addr) (c : Nat) (w : World) (hm : f.length ≤ maxLen) (hr : Row w A (boolsC f)) (hX : Laid w) :
    Calls Try.prog 7 #[.int .i64 n, .slice A f.length c] w fun e w' => e = .returned (.bool true) ∧ Below w.heap.size w w' := by
  have key := hF n f A c w hm hr hX
  by_cases hc : codeT n f.length = 0
  · obtain ⟨k, rfl, hk, hl⟩ := codeT_zero hc
    have h16 := one_le_16 hk
    have hpl : (primL k (atB f) (one k)).length ≤ 256 := by
      have h1 := primL_len k (atB f) (one k)
      have h3 : one k * one k ≤ 16 * 16 := Nat.mul_le_mul h16 h16
      omega
    rw [hc, if_pos rfl, Int.toNat_natCast] at key
    have HC := Lib.hid hc
    have HLn := Lib.hid hl
    clear hc hl
    go_enter Try.func7, Try.ntmps7
    go_wp2_with fail
    refine key.mono ?_
    rintro e w1 ⟨A2, c2, l, rfl, hl2, _, hr2, hb1⟩
    have hll : l.length ≤ 256 := by rw [hl2]; exact hpl
    have HL2 := Lib.hid hl2
    clear hl2
    go_wp2_with fail
    refine (TruthCheck_any k f A c _ hm).mono ?_
    rintro e w2 ⟨rfl, rfl⟩
    rw [HC.out]
    go_wp2_with fail
    refine (refPrimes_any k hk f A c _ HLn.out (hr.below hb1)).mono ?_
    rintro e w2 ⟨v, rfl, hown, hb2⟩
    obtain ⟨A3, c3, rfl, hr3, hm3, _⟩ := hown.row
    have hbo := Clauses_any l (primL k (atB f) (one k)) A2 A3 c2 c3 w2 (hr2.below hb2) hr3 (by unfold maxLen; omega) hm3
    rw [decide_eq_true HL2.out] at hbo
    have hb12 := hb1.trans (hb2.mono hb1.size)
    clear hown hb2 key
    go_wp2_with fail
    refine hbo.mono ?_
    rintro e w3 ⟨rfl, d, rfl⟩
    go_wp2
    go_ret
    exact ⟨rfl, below_drewN hb12 _⟩
  · have HC := Lib.hid hc
    rw [if_neg hc] at key
    generalize hq : codeT n f.length = q at *
    have HQ := Lib.hid hq
    have hq0 : q ≠ 0 := HC.out
    clear hc hq
    go_enter Try.func7, Try.ntmps7
    go_wp2_with fail
    refine key.mono ?_
    rintro e w1 ⟨A2, c2, l, rfl, rfl, _, hr2, hb1⟩
    go_wp2_with fail
    refine (TruthCheck_any n f A c _ hm).mono ?_
    rintro e w2 ⟨rfl, rfl⟩
    rw [HQ.out]
    go_wp2
    go_ret
    exact ⟨rfl, hb1⟩

end Go.Proofs.Ytcokpjffgeihbaa
