/- The laws on Is, Shared, Modular and Irreducible, by the document's answer. -/
import Derived.Test.YtogjkkaohaljpaaDoorLatSpec
import Derived.Test.YtogjkkaohaljpaaDoorWSh
namespace Go.Proofs.YtogjkkaohaljpaaDoor
open Go.RowKit

set_option maxHeartbeats 2000000 in
theorem LatticeIs_with (hJ : IsOk 16) (n : Int) (ps : List (Int × Int)) (A : Option Addr) (c : Nat) (w : World) (hm : ps.length ≤ maxLen) (hr : Row w A (pairsC ps)) (hX : Laid w) :
    Calls Tryd.prog 5 #[.int .i64 n, .slice A ps.length c] w fun e w' => e = .returned (.bool true) ∧ Below w.heap.size w w' := by
  have key := hJ n ps A c w hm hr hX
  by_cases hc : code n ps = 0
  · obtain ⟨h2, h3, h4⟩ := code_zero hc
    obtain ⟨n, rfl⟩ := Int.eq_ofNat_of_zero_le (show 0 ≤ n by unfold Large at h2; omega)
    obtain ⟨hn1, hn6, hl⟩ : 1 ≤ n ∧ n ≤ 6 ∧ ps.length ≤ 20 := by unfold Large at h2; omega
    have HC := Lib.hid hc
    rw [hc, show (((0 : Int) == 0) && latB (n : Int).toNat ps) = latB n ps from rfl] at key
    clear h2 h3 h4 hc
    go_enter Tryd.func5, Tryd.ntmps5
    go_wp2_with fail
    refine key.mono ?_
    rintro e w1 ⟨rfl, hb1⟩
    go_wp2_with fail
    refine (OrderCheck_any n ps A c _ hm (hr.below hb1)).mono ?_
    rintro e w2 ⟨rfl, hb2⟩
    rw [HC.out]
    have hb02 := hb1.trans (hb2.mono hb1.size)
    clear hb1 hb2 key
    go_wp2_with fail
    refine (Lattice_any n ps A c _ (hr.below hb02) hn6 hl).mono ?_
    rintro e w3 ⟨rfl, hb3⟩
    have HB := Lib.hid (hb02.trans (hb3.mono hb02.size))
    clear hb02 hb3
    generalize latB n ps = k at *
    go_wp2
    go_ret
    exact ⟨by simp, HB.out⟩
  · rw [show (code n ps == 0) = false from by simpa using hc, Bool.false_and] at key
    go_enter Tryd.func5, Tryd.ntmps5
    go_wp2_with fail
    refine key.mono ?_
    rintro e w1 ⟨rfl, hb1⟩
    go_wp2_with fail
    refine (OrderCheck_any n ps A c _ hm (hr.below hb1)).mono ?_
    rintro e w2 ⟨rfl, hb2⟩
    have HB := Lib.hid (hb1.trans (hb2.mono hb1.size))
    clear key
    generalize code n ps = k at *
    have hk : (k == 0) = false := by simpa using hc
    have hk2 : (k != 0) = true := by simpa using hc
    clear hc hb1 hb2
    go_wp2
    go_ret
    exact ⟨rfl, HB.out⟩

set_option maxHeartbeats 2000000 in
theorem LatticeShares_with (hJ : ShOk 18 true) (n : Int) (ps : List (Int × Int)) (A : Option Addr) (c : Nat) (w : World) (hm : ps.length ≤ maxLen) (hr : Row w A (pairsC ps)) (hX : Laid w) :
    Calls Tryd.prog 6 #[.int .i64 n, .slice A ps.length c] w fun e w' => e = .returned (.bool true) ∧ Below w.heap.size w w' := by
  have key := hJ n ps A c w hm hr hX
  by_cases hc : codeL n ps = 0
  · have hc0 : code n ps = 0 := by
      by_cases h : code n ps = 0
      · exact h
      · rw [codeL_err h] at hc; exact hc
    obtain ⟨h2, h3, h4⟩ := code_zero hc0
    obtain ⟨n, rfl⟩ := Int.eq_ofNat_of_zero_le (show 0 ≤ n by unfold Large at h2; omega)
    obtain ⟨hn1, hn6, hl⟩ : 1 ≤ n ∧ n ≤ 6 ∧ ps.length ≤ 20 := by unfold Large at h2; omega
    have HC := Lib.hid hc
    have HL := Lib.hid (codeL_zero hc).2
    rw [hc, show (((0 : Int) == 0) && shB (n : Int).toNat ps true) = shB n ps true from rfl] at key
    clear h2 h3 h4 hc hc0
    go_enter Tryd.func6, Tryd.ntmps6
    go_wp2_with fail
    refine key.mono ?_
    rintro e w1 ⟨rfl, hb1⟩
    go_wp2_with fail
    refine (latticeCode_any n ps A c _ hm (hr.below hb1)).mono ?_
    rintro e w2 ⟨rfl, hb2⟩
    rw [HC.out]
    have hb02 := hb1.trans (hb2.mono hb1.size)
    clear hb1 hb2 key
    go_wp2_with fail
    refine (Shares_any n ps A c true _ (hr.below hb02) hn6 hl HL.out).mono ?_
    rintro e w3 ⟨rfl, hb3⟩
    have HB := Lib.hid (hb02.trans (hb3.mono hb02.size))
    clear hb02 hb3
    generalize shB n ps true = k at *
    go_wp2
    go_ret
    exact ⟨by simp, HB.out⟩
  · rw [show (codeL n ps == 0) = false from by simpa using hc, Bool.false_and] at key
    go_enter Tryd.func6, Tryd.ntmps6
    go_wp2_with fail
    refine key.mono ?_
    rintro e w1 ⟨rfl, hb1⟩
    go_wp2_with fail
    refine (latticeCode_any n ps A c _ hm (hr.below hb1)).mono ?_
    rintro e w2 ⟨rfl, hb2⟩
    have HB := Lib.hid (hb1.trans (hb2.mono hb1.size))
    clear key
    generalize codeL n ps = k at *
    have hk : (k == 0) = false := by simpa using hc
    have hk2 : (k != 0) = true := by simpa using hc
    clear hc hb1 hb2
    go_wp2
    go_ret
    exact ⟨rfl, HB.out⟩

set_option maxHeartbeats 2000000 in
theorem LatticeModulars_with (hJ : ShOk 21 false) (n : Int) (ps : List (Int × Int)) (A : Option Addr) (c : Nat) (w : World) (hm : ps.length ≤ maxLen) (hr : Row w A (pairsC ps)) (hX : Laid w) :
    Calls Tryd.prog 7 #[.int .i64 n, .slice A ps.length c] w fun e w' => e = .returned (.bool true) ∧ Below w.heap.size w w' := by
  have key := hJ n ps A c w hm hr hX
  by_cases hc : codeL n ps = 0
  · have hc0 : code n ps = 0 := by
      by_cases h : code n ps = 0
      · exact h
      · rw [codeL_err h] at hc; exact hc
    obtain ⟨h2, h3, h4⟩ := code_zero hc0
    obtain ⟨n, rfl⟩ := Int.eq_ofNat_of_zero_le (show 0 ≤ n by unfold Large at h2; omega)
    obtain ⟨hn1, hn6, hl⟩ : 1 ≤ n ∧ n ≤ 6 ∧ ps.length ≤ 20 := by unfold Large at h2; omega
    have HC := Lib.hid hc
    have HL := Lib.hid (codeL_zero hc).2
    rw [hc, show (((0 : Int) == 0) && shB (n : Int).toNat ps false) = shB n ps false from rfl] at key
    clear h2 h3 h4 hc hc0
    go_enter Tryd.func7, Tryd.ntmps7
    go_wp2_with fail
    refine key.mono ?_
    rintro e w1 ⟨rfl, hb1⟩
    go_wp2_with fail
    refine (latticeCode_any n ps A c _ hm (hr.below hb1)).mono ?_
    rintro e w2 ⟨rfl, hb2⟩
    rw [HC.out]
    have hb02 := hb1.trans (hb2.mono hb1.size)
    clear hb1 hb2 key
    go_wp2_with fail
    refine (Shares_any n ps A c false _ (hr.below hb02) hn6 hl HL.out).mono ?_
    rintro e w3 ⟨rfl, hb3⟩
    have HB := Lib.hid (hb02.trans (hb3.mono hb02.size))
    clear hb02 hb3
    generalize shB n ps false = k at *
    go_wp2
    go_ret
    exact ⟨by simp, HB.out⟩
  · rw [show (codeL n ps == 0) = false from by simpa using hc, Bool.false_and] at key
    go_enter Tryd.func7, Tryd.ntmps7
    go_wp2_with fail
    refine key.mono ?_
    rintro e w1 ⟨rfl, hb1⟩
    go_wp2_with fail
    refine (latticeCode_any n ps A c _ hm (hr.below hb1)).mono ?_
    rintro e w2 ⟨rfl, hb2⟩
    have HB := Lib.hid (hb1.trans (hb2.mono hb1.size))
    clear key
    generalize codeL n ps = k at *
    have hk : (k == 0) = false := by simpa using hc
    have hk2 : (k != 0) = true := by simpa using hc
    clear hc hb1 hb2
    go_wp2
    go_ret
    exact ⟨rfl, HB.out⟩

set_option maxHeartbeats 2000000 in
theorem LatticeIrreducibles_with (hJ : IrrOk 22) (n : Int) (ps : List (Int × Int)) (A : Option Addr) (c : Nat) (w : World) (hm : ps.length ≤ maxLen) (hr : Row w A (pairsC ps)) (hX : Laid w) :
    Calls Tryd.prog 8 #[.int .i64 n, .slice A ps.length c] w fun e w' => e = .returned (.bool true) ∧ Below w.heap.size w w' := by
  have key := hJ n ps A c w hm hr hX
  by_cases hc : codeL n ps = 0
  · have hc0 : code n ps = 0 := by
      by_cases h : code n ps = 0
      · exact h
      · rw [codeL_err h] at hc; exact hc
    obtain ⟨h2, h3, h4⟩ := code_zero hc0
    obtain ⟨n, rfl⟩ := Int.eq_ofNat_of_zero_le (show 0 ≤ n by unfold Large at h2; omega)
    obtain ⟨hn1, hn6, hl⟩ : 1 ≤ n ∧ n ≤ 6 ∧ ps.length ≤ 20 := by unfold Large at h2; omega
    have HC := Lib.hid hc
    have HL := Lib.hid (codeL_zero hc).2
    rw [hc, if_pos rfl, Int.toNat_natCast] at key
    clear h2 h3 h4 hc hc0
    go_enter Tryd.func8, Tryd.ntmps8
    go_wp2_with fail
    refine key.mono ?_
    rintro e w1 ⟨rfl, hb1⟩
    go_wp2_with fail
    refine (latticeCode_any n ps A c _ hm (hr.below hb1)).mono ?_
    rintro e w2 ⟨rfl, hb2⟩
    rw [HC.out]
    have hb02 := hb1.trans (hb2.mono hb1.size)
    clear hb1 hb2 key
    go_wp2_with fail
    refine (Irreducible_any n ps A c _ (hr.below hb02) hn6 hl).mono ?_
    rintro e w3 ⟨rfl, hb3⟩
    have HB := Lib.hid (hb02.trans (hb3.mono hb02.size))
    clear hb02 hb3
    generalize irrW n ps n = k at *
    go_wp2
    go_ret
    exact ⟨by simp, HB.out⟩
  · rw [if_neg hc] at key
    go_enter Tryd.func8, Tryd.ntmps8
    go_wp2_with fail
    refine key.mono ?_
    rintro e w1 ⟨rfl, hb1⟩
    go_wp2_with fail
    refine (latticeCode_any n ps A c _ hm (hr.below hb1)).mono ?_
    rintro e w2 ⟨rfl, hb2⟩
    have HB := Lib.hid (hb1.trans (hb2.mono hb1.size))
    clear key
    generalize codeL n ps = k at *
    have hk : (k == 0) = false := by simpa using hc
    have hk2 : (k != 0) = true := by simpa using hc
    clear hc hb1 hb2
    go_wp2
    go_ret
    exact ⟨rfl, HB.out⟩

end Go.Proofs.YtogjkkaohaljpaaDoor
