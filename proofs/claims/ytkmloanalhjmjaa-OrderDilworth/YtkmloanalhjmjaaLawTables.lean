/- The walk of the law on Table, by the document's answer. -/
import Derived.Test.YtkmloanalhjmjaaW7
namespace Go.Proofs.Ytkmloanalhjmjaa
open Go.RowKit

def LtI (n : Nat) (w w1 : World) (v : Value) (wr : World) : Prop := ∃ i : Nat, v = .int .i64 i ∧ i ≤ n ∧ Below w1.heap.size w1 wr ∧ Below w.heap.size w wr
def LtJ (n : Nat) (w w1 : World) (v : Value) (wr : World) : Prop := ∃ j : Nat, v = .int .i64 j ∧ j ≤ n ∧ Below w1.heap.size w1 wr ∧ Below w.heap.size w wr

set_option maxHeartbeats 1000000 in
theorem OrderTables_walk (n : Int) (ps : List (Int × Int)) (A : Option Addr) (c : Nat) (w : World) (hm : ps.length ≤ maxLen) (hr : Row w A (pairsC ps)) :
    Calls Try.prog 3 #[.int .i64 n, .slice A ps.length c] w fun e w' => e = .returned (.bool true) ∧ Below w.heap.size w w' := by
  by_cases hc : code n ps = 0
  · obtain ⟨h2, h3, h4⟩ := code_zero hc
    obtain ⟨n, rfl⟩ := Int.eq_ofNat_of_zero_le (show 0 ≤ n by unfold Large at h2; omega)
    obtain ⟨hn1, hn6, hl⟩ : 1 ≤ n ∧ n ≤ 6 ∧ ps.length ≤ 20 := by unfold Large at h2; omega
    have HC := Lib.hid hc
    clear h2 h3 h4 hc
    go_enter Try.func3, Try.ntmps3
    go_wp2_with fail
    refine (Table_ok n ps A c _ hm hr HC.out).mono ?_
    rintro e w1 ⟨g, rfl, hown, hb1⟩
    have HO := Lib.hid hown
    clear hown
    go_wp2_with fail
    refine (OrderCheck_any n ps A c _ hm (hr.below hb1)).mono ?_
    rintro e w2 ⟨rfl, hb2⟩
    rw [HC.out]
    have HB2 := Lib.hid (hb1.trans (hb2.mono hb1.size))
    go_wp2
    go_loopw [8] (fun v wr => LtI n w w1 v wr) (fun v _ => n - (intOf v).toNat)
    case atStart => exact ⟨0, rfl, Nat.zero_le _, hb2, HB2.out⟩
    case round =>
      clear hb2 HB2
      obtain ⟨i, rfl, hi, hb2, hbel⟩ := hrel
      by_cases hin : i < n
      · go_wp2
        go_loopw [9] (fun v wr => LtJ n w w1 v wr) (fun v _ => n - (intOf v).toNat)
        case atStart => exact ⟨0, rfl, Nat.zero_le _, hb2, hbel⟩
        case round =>
          clear hb2 hbel
          obtain ⟨j, rfl, hj, hb2, hbel⟩ := hrel
          have hci := (HO.out.below hb2).cell hin
          by_cases hjn : j < n
          · go_wp2_with fail
            refine (Bit_any (upT n ps i) j (by omega) (upT_u32 hn6 ps i) _).mono ?_
            rintro e w' ⟨rfl, rfl⟩
            go_wp2_with fail
            refine (Under_any n ps A c i j _ (hr.below hbel) hl).mono ?_
            rintro e w3 ⟨rfl, hb3⟩
            have HE := Lib.hid (show (upT n ps i).testBit j = under ps i j by rw [upT_testBit]; simp [hjn])
            rw [HE.out]
            have hb23 := hb2.trans (hb3.mono hb2.size)
            have hbel3 := hbel.trans (hb3.mono hbel.size)
            go_wp2
            go_roundw
            case rel => exact ⟨j + 1, by go_num, by omega, hb23, hbel3⟩
            case measure => simp [intOf]; omega
          · go_wp2_with fail
            refine (Fits_any n (upT n ps i) (by omega) _).mono ?_
            rintro e w' ⟨rfl, rfl⟩
            have hd : decide (upT n ps i < one n) = true := by simpa using upT_lt n ps i
            rw [hd]
            go_wp2
            go_roundw
            case rel => exact ⟨i + 1, by go_num, by omega, hb2, hbel⟩
            case measure => simp [intOf]; omega
      · go_wp2
        go_ret
        exact ⟨rfl, hbel⟩
  · go_enter Try.func3, Try.ntmps3
    go_wp2_with fail
    refine (Table_err n ps A c _ hm hr hc).mono ?_
    rintro e w1 ⟨rfl, hb1⟩
    go_wp2_with fail
    refine (OrderCheck_any n ps A c _ hm (hr.below hb1)).mono ?_
    rintro e w2 ⟨rfl, hb2⟩
    have HB2 := Lib.hid (hb1.trans (hb2.mono hb1.size))
    generalize code n ps = k at *
    have hk : (k != 0) = true := by simpa using hc
    clear hc
    go_wp2
    go_ret
    exact ⟨rfl, HB2.out⟩

end Go.Proofs.Ytkmloanalhjmjaa
