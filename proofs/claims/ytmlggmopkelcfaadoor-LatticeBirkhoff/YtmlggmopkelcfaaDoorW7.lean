/- order.Table, and OrderCheck at any arguments. -/
import Derived.Test.YtmlggmopkelcfaaDoorW6
namespace Go.Proofs.YtmlggmopkelcfaaDoor
open Go.RowKit

theorem upT_testBit (n : Nat) (ps : List (Int × Int)) (a b : Nat) : (upT n ps a).testBit b = (decide (b < n) && under ps a b) := testBit_wordOf _ _ _
theorem upT_lt (n : Nat) (ps : List (Int × Int)) (a : Nat) : upT n ps a < one n := wordOf_lt _ _
theorem upT_u32 {n : Nat} (hn : n ≤ 6) (ps : List (Int × Int)) (a : Nat) : upT n ps a < 4294967296 := by have h1 := upT_lt n ps a; have h2 := one_le_64 hn; omega
theorem rev_testBit (n : Nat) (f : Nat → Nat) (a b : Nat) : (rev n f a).testBit b = (decide (b < n) && (f b).testBit a) := testBit_wordOf _ _ _
theorem rev_lt (n : Nat) (f : Nat → Nat) (a : Nat) : rev n f a < one n := wordOf_lt _ _
theorem rev_u32 {n : Nat} (hn : n ≤ 6) (f : Nat → Nat) (a : Nat) : rev n f a < 4294967296 := by have h1 := rev_lt n f a; have h2 := one_le_64 hn; omega

theorem and_lt_one {a b n : Nat} (ha : a < one n) : a &&& b < one n := Nat.lt_of_le_of_lt Nat.and_le_left ha

theorem cyc_iff (n : Nat) (ps : List (Int × Int)) : cycB n (upT n ps) n = true ↔ Cyc n ps := by
  unfold cycB
  rw [List.any_eq_true]
  constructor
  · rintro ⟨a, ha, h⟩
    have ha' : a < n := by simpa using ha
    apply Classical.byContradiction
    intro hc
    have : upT n ps a &&& rev n (upT n ps) a = one a := by
      refine word_ext (n := n) (and_lt_one (upT_lt n ps a)) (one_lt_one ha') fun i hi => ?_
      rw [Nat.testBit_and, upT_testBit, rev_testBit, upT_testBit, one_testBit]
      simp only [hi, ha', decide_true, Bool.true_and]
      rw [Bool.eq_iff_iff, Bool.and_eq_true, under_iff, under_iff]
      simp only [decide_eq_true_eq]
      constructor
      · rintro ⟨h1, h2⟩
        apply Classical.byContradiction
        intro hne
        rcases Nat.lt_or_ge i a with h3 | h3
        · exact hc ⟨a, i, by omega, by omega, by omega, h1, h2⟩
        · exact hc ⟨i, a, by omega, by omega, by omega, h2, h1⟩
      · rintro rfl
        exact ⟨Reach.refl _ _, Reach.refl _ _⟩
    simp [this] at h
  · rintro ⟨i, j, hj, hji, hi, h1, h2⟩
    obtain ⟨a, rfl⟩ := Int.eq_ofNat_of_zero_le (show 0 ≤ i by omega)
    obtain ⟨b, rfl⟩ := Int.eq_ofNat_of_zero_le hj
    refine ⟨a, by simp; omega, ?_⟩
    rw [bne_iff_ne]
    intro he
    have h3 : (upT n ps a &&& rev n (upT n ps) a).testBit b = (one a).testBit b := by rw [he]
    rw [Nat.testBit_and, upT_testBit, rev_testBit, upT_testBit, one_testBit] at h3
    have e1 : decide (b < n) = true := by simp; omega
    have e2 : decide (a < n) = true := by simp; omega
    have e3 : decide (a = b) = false := by simp; omega
    rw [e1, e2, e3, under_iff.2 h1, under_iff.2 h2] at h3
    simp at h3

/-- What a code of 0 says. -/
theorem code_zero {n : Int} {ps : List (Int × Int)} (h : code n ps = 0) : ¬ Large n ps ∧ Good n ps ∧ ¬ Cyc n ps := by
  by_cases h1 : Large n ps
  · rw [code_large h1] at h; omega
  · by_cases h2 : Good n ps
    · by_cases h3 : Cyc n ps
      · rw [code_cyc h1 h2 h3] at h; omega
      · exact ⟨h1, h2, h3⟩
    · rw [code_bad h1 h2] at h; omega

theorem check_any (n : Int) (ps : List (Int × Int)) (A : Option Addr) (c : Nat) (w : World) (hm : ps.length ≤ maxLen) (hr : Row w A (pairsC ps)) :
    Calls Tryd.prog 22 #[.int .i64 n, .slice A ps.length c] w fun e w' => e = .returned (.int .i64 (code1 n ps)) ∧ Below w.heap.size w w' := by
  by_cases h : Large n ps
  · exact (check_large n ps A c w hm h).mono fun _ _ ⟨he, hw⟩ => ⟨he, hw ▸ Below.refl _ _⟩
  · obtain ⟨k, rfl⟩ := Int.eq_ofNat_of_zero_le (show 0 ≤ n by unfold Large at h; omega)
    exact check_small k ps A c w hr h

theorem ret_pair {v : Value} {k : IntKind} {a b : Int} (h : a = b) : Ending.returned (.tuple #[v, .int k a]) = .returned (.tuple #[v, .int k b]) := by rw [h]

set_option maxHeartbeats 1000000 in
/-- Table, where something is wrong. -/
theorem Table_err (n : Int) (ps : List (Int × Int)) (A : Option Addr) (c : Nat) (w : World) (hm : ps.length ≤ maxLen) (hr : Row w A (pairsC ps)) (hc : code n ps ≠ 0) :
    Calls Tryd.prog 18 #[.int .i64 n, .slice A ps.length c] w fun e w' => e = .returned (.tuple #[.slice none 0 0, .int .i64 (code n ps)]) ∧ Below w.heap.size w w' := by
  by_cases h1 : Large n ps ∨ ¬ Good n ps
  · have e1 : code n ps = code1 n ps := by
      rcases h1 with h1 | h1
      · rw [code_large h1, code1_large h1]
      · by_cases h2 : Large n ps
        · rw [code_large h2, code1_large h2]
        · rw [code_bad h2 h1, code1_bad h2 h1]
    have h2 : (code1 n ps != 0) = true := by rw [← e1]; simpa using hc
    have HE := Lib.hid e1
    clear e1 hc h1
    go_enter Tryd.func18, Tryd.ntmps18
    go_wp2_with fail
    refine (check_any n ps A c _ hm hr).mono ?_
    rintro e w1 ⟨rfl, hb⟩
    go_wp2
    go_ret2
    exact ⟨ret_pair HE.out.symm, hb⟩
  · obtain ⟨h2, h3⟩ : ¬ Large n ps ∧ Good n ps := by
      refine ⟨fun h => h1 (.inl h), ?_⟩
      apply Classical.byContradiction
      exact fun h => h1 (.inr h)
    have h4 : Cyc n ps := by
      apply Classical.byContradiction
      exact fun h => hc (code_ok h2 h3 h)
    obtain ⟨k, rfl⟩ := Int.eq_ofNat_of_zero_le (show 0 ≤ n by unfold Large at h2; omega)
    obtain ⟨hn1, hn6, hl⟩ : 1 ≤ k ∧ k ≤ 6 ∧ ps.length ≤ 20 := by unfold Large at h2; omega
    have HC := Lib.hid (code_cyc h2 h3 h4)
    have HC1 := Lib.hid (code1_ok h2 h3)
    have HY := Lib.hid ((cyc_iff k ps).2 h4)
    have HG := Lib.hid h3
    clear h1 h2 h3 h4 hc
    go_enter Tryd.func18, Tryd.ntmps18
    go_wp2_with fail
    refine (check_any k ps A c _ hm hr).mono ?_
    rintro e w1 ⟨rfl, hb1⟩
    rw [HC1.out]
    go_wp2_with fail
    refine (extend_any k ps A c _ (hr.below hb1) hn1 hn6 hl HG.out).mono ?_
    rintro e w2 ⟨rfl, hown, hb2⟩
    have HO := Lib.hid hown
    clear hown
    go_wp2_with fail
    refine (hasCycle_any k (upT k ps) _ _ _ HO.out.tab hn1 hn6 (fun a _ => upT_u32 hn6 ps a)).mono ?_
    rintro e w3 ⟨rfl, hb3⟩
    rw [HY.out]
    go_wp2
    go_ret2
    exact ⟨ret_pair HC.out.symm, hb1.trans ((hb2.mono hb1.size).trans (hb3.mono (Nat.le_trans hb1.size hb2.size)))⟩

set_option maxHeartbeats 1000000 in
/-- Table, where nothing is wrong. -/
theorem Table_ok (n : Nat) (ps : List (Int × Int)) (A : Option Addr) (c : Nat) (w : World) (hm : ps.length ≤ maxLen) (hr : Row w A (pairsC ps)) (hc : code n ps = 0) :
    Calls Tryd.prog 18 #[.int .i64 n, .slice A ps.length c] w fun e w' => ∃ g, e = .returned (.tuple #[.slice (some ⟨g, 0, none⟩) n n, .int .i64 0]) ∧ Own w' w.heap.size g n (upT n ps) ∧ Below w.heap.size w w' := by
  obtain ⟨h2, h3, h4⟩ := code_zero hc
  obtain ⟨hn1, hn6, hl⟩ : 1 ≤ n ∧ n ≤ 6 ∧ ps.length ≤ 20 := by unfold Large at h2; omega
  have HC1 := Lib.hid (code1_ok h2 h3)
  have hy : cycB n (upT n ps) n = false := by
    cases h : cycB n (upT n ps) n with
    | false => rfl
    | true => exact absurd ((cyc_iff n ps).1 h) h4
  have HY := Lib.hid hy
  have HG := Lib.hid h3
  clear h2 h3 h4 hc hy
  go_enter Tryd.func18, Tryd.ntmps18
  go_wp2_with fail
  refine (check_any n ps A c _ hm hr).mono ?_
  rintro e w1 ⟨rfl, hb1⟩
  rw [HC1.out]
  go_wp2_with fail
  refine (extend_any n ps A c _ (hr.below hb1) hn1 hn6 hl HG.out).mono ?_
  rintro e w2 ⟨rfl, hown, hb2⟩
  have HO := Lib.hid hown
  clear hown
  go_wp2_with fail
  refine (hasCycle_any n (upT n ps) _ _ _ HO.out.tab hn1 hn6 (fun a _ => upT_u32 hn6 ps a)).mono ?_
  rintro e w3 ⟨rfl, hb3⟩
  rw [HY.out]
  go_wp2
  go_ret2
  refine ⟨w1.heap.size, rfl, ?_, hb1.trans ((hb2.mono hb1.size).trans (hb3.mono (Nat.le_trans hb1.size hb2.size)))⟩
  exact (HO.out.below hb3).rebase hb1.size

end Go.Proofs.YtmlggmopkelcfaaDoor
