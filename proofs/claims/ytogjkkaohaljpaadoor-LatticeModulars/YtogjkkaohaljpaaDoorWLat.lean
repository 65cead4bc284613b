/- syllogistref.Lattice, and the law's code. -/
import Derived.Test.YtogjkkaohaljpaaDoorWJ
namespace Go.Proofs.YtogjkkaohaljpaaDoor
open Go.RowKit

set_option maxHeartbeats 1000000 in
theorem Lattice_any (n : Nat) (ps : List (Int × Int)) (A : Option Addr) (c : Nat) (w : World) (hr : Row w A (pairsC ps)) (hn6 : n ≤ 6) (hl : ps.length ≤ 20) :
    Calls Tryd.prog 17 #[.int .i64 n, .slice A ps.length c] w fun e w' => e = .returned (.bool (latB n ps)) ∧ Below w.heap.size w w' := by
  go_enter Tryd.func17, Tryd.ntmps17
  go_wp2
  go_loopw [5] (fun iv wr => ∃ i : Nat, iv = .int .i64 i ∧ i ≤ n ∧ Lt n ps i 0 ∧ Below w.heap.size w wr) (fun iv _ => n - (intOf iv).toNat)
  case atStart => exact ⟨0, rfl, Nat.zero_le _, fun a b hab => by omega, Below.refl _ _⟩
  case round =>
    obtain ⟨i, rfl, hi, hlt, hbel⟩ := hrel
    have HL := Lib.hid hlt
    clear hlt
    by_cases hin : i < n
    · go_wp2
      go_loopw [6] (fun iv wr => ∃ j : Nat, iv = .int .i64 j ∧ j ≤ n ∧ Lt n ps i j ∧ Below w.heap.size w wr) (fun iv _ => n - (intOf iv).toNat)
      case atStart => exact ⟨0, rfl, Nat.zero_le _, HL.out, hbel⟩
      case round =>
        clear HL hbel
        obtain ⟨j, rfl, hj, hlt, hbel⟩ := hrel
        have HL := Lib.hid hlt
        clear hlt
        by_cases hjn : j < n
        · go_wp2_with fail
          refine (Joined_any n i j ps A c _ (hr.below hbel) hn6 hl).mono ?_
          rintro e w1 ⟨rfl, hb1⟩
          have hbel1 := hbel.trans (hb1.mono hbel.size)
          clear hb1
          by_cases h1 : joined n ps i j < 0
          · have HV := Lib.hid (latB_no hin hjn (.inl h1))
            go_wp2
            go_ret
            exact ⟨ret_bool HV.out.symm, hbel1⟩
          · go_wp2_with fail
            refine (Met_any n i j ps A c _ (hr.below hbel1) hn6 hl).mono ?_
            rintro e w2 ⟨rfl, hb2⟩
            have hbel2 := hbel1.trans (hb2.mono hbel1.size)
            clear hb2
            by_cases h2 : met n ps i j < 0
            · have HV := Lib.hid (latB_no hin hjn (.inr h2))
              go_wp2
              go_ret
              exact ⟨ret_bool HV.out.symm, hbel2⟩
            · have HS := Lib.hid (HL.out.step (by omega) (by omega))
              go_wp2
              go_roundw
              case rel => exact ⟨j + 1, by go_num, by omega, HS.out, hbel2⟩
              case measure => simp [intOf]; omega
        · obtain rfl : j = n := by omega
          go_wp2
          go_roundw
          case rel => exact ⟨i + 1, by go_num, by omega, HL.out.next, hbel⟩
          case measure => simp [intOf]; omega
    · obtain rfl : i = n := by omega
      have HV := Lib.hid (latB_iff.2 HL.out)
      go_wp2
      go_ret
      exact ⟨ret_bool HV.out.symm, hbel⟩

set_option maxHeartbeats 1000000 in
theorem latticeCode_any (n : Int) (ps : List (Int × Int)) (A : Option Addr) (c : Nat) (w : World) (hm : ps.length ≤ maxLen) (hr : Row w A (pairsC ps)) :
    Calls Tryd.prog 19 #[.int .i64 n, .slice A ps.length c] w fun e w' => e = .returned (.int .i64 (codeL n ps)) ∧ Below w.heap.size w w' := by
  by_cases hc : code n ps = 0
  · obtain ⟨h2, h3, h4⟩ := code_zero hc
    obtain ⟨n, rfl⟩ := Int.eq_ofNat_of_zero_le (show 0 ≤ n by unfold Large at h2; omega)
    obtain ⟨hn1, hn6, hl⟩ : 1 ≤ n ∧ n ≤ 6 ∧ ps.length ≤ 20 := by unfold Large at h2; omega
    have HC := Lib.hid hc
    clear h2 h3 h4 hc
    go_enter Tryd.func19, Tryd.ntmps19
    go_wp2_with fail
    refine (OrderCheck_any n ps A c _ hm hr).mono ?_
    rintro e w1 ⟨rfl, hb1⟩
    rw [HC.out]
    go_wp2_with fail
    refine (Lattice_any n ps A c _ (hr.below hb1) hn6 hl).mono ?_
    rintro e w2 ⟨rfl, hb2⟩
    have HB := Lib.hid (hb1.trans (hb2.mono hb1.size))
    cases hk : latB n ps with
    | false =>
      have HV := Lib.hid (codeL_no HC.out hk)
      go_wp2
      go_ret
      exact ⟨ret_int HV.out.symm, HB.out⟩
    | true =>
      have HV := Lib.hid (codeL_ok HC.out hk)
      go_wp2
      go_ret
      exact ⟨ret_int HV.out.symm, HB.out⟩
  · have HV := Lib.hid (codeL_err hc)
    go_enter Tryd.func19, Tryd.ntmps19
    go_wp2_with fail
    refine (OrderCheck_any n ps A c _ hm hr).mono ?_
    rintro e w1 ⟨rfl, hb1⟩
    have hk : (code n ps == 0) = false := by simpa using hc
    clear hc
    go_wp2
    go_ret
    exact ⟨ret_int HV.out.symm, hb1⟩

end Go.Proofs.YtogjkkaohaljpaaDoor
