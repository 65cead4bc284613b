/- The walk of the law on Line, by the document's answer. -/
import Derived.Test.YtkmloanalhjmjaaW13
namespace Go.Proofs.Ytkmloanalhjmjaa
open Go.RowKit

theorem line_len (n : Nat) (ps : List (Int × Int)) : (nats (lineL n ps n)).length = n := by rw [nats_length, lineL_length]

set_option maxHeartbeats 1000000 in
theorem OrderLines_walk (n : Int) (ps : List (Int × Int)) (A : Option Addr) (c : Nat) (w : World) (hm : ps.length ≤ maxLen) (hr : Row w A (pairsC ps)) :
    Calls Try.prog 5 #[.int .i64 n, .slice A ps.length c] w fun e w' => e = .returned (.bool true) ∧ Below w.heap.size w w' := by
  by_cases hc : code n ps = 0
  · obtain ⟨h2, h3, h4⟩ := code_zero hc
    obtain ⟨n, rfl⟩ := Int.eq_ofNat_of_zero_le (show 0 ≤ n by unfold Large at h2; omega)
    obtain ⟨hn1, hn6, hl⟩ : 1 ≤ n ∧ n ≤ 6 ∧ ps.length ≤ 20 := by unfold Large at h2; omega
    have HC := Lib.hid hc
    have HY := Lib.hid h4
    clear h2 h3 h4 hc
    go_enter Try.func5, Try.ntmps5
    go_wp2_with fail
    refine (Line_ok n ps A c _ hm hr HC.out).mono ?_
    rintro e w1 ⟨v, rfl, hown, hb1⟩
    obtain ⟨A2, c2, rfl, hrow, hmax⟩ := hown.row
    have HR := Lib.hid hrow
    clear hown hrow hmax
    rw [line_len]
    go_wp2_with fail
    refine (OrderCheck_any n ps A c _ hm (hr.below hb1)).mono ?_
    rintro e w2 ⟨rfl, hb2⟩
    rw [HC.out]
    have hb02 := hb1.trans (hb2.mono hb1.size)
    go_wp2_with fail
    refine (Lined_any n ps A c hn6 hl HY.out n 0 (by omega) none 0 _ (hr.below hb02) (.inl rfl) (fun _ => ⟨rfl, rfl⟩)).mono ?_
    rintro e w3 ⟨A3, c3, rfl, hrow3, hb3⟩
    have hb03 := hb02.trans (hb3.mono hb02.size)
    have key := Ints_any (nats (lineL n ps n)) (nats (lineL n ps n)) A2 A3 c2 c3 w3 (HR.out.below (hb2.trans (hb3.mono hb2.size))) hrow3 (by rw [line_len]; omega) (by rw [line_len]; omega)
    rw [line_len, show decide (nats (lineL n ps n) = nats (lineL n ps n)) = true from by simp] at key
    have HK := Lib.hid key
    clear key hrow3
    go_wp2_with fail
    refine HK.out.mono ?_
    rintro e w4 ⟨rfl, d, rfl⟩
    clear HK
    go_wp2
    go_ret
    exact ⟨rfl, below_drewN hb03 d⟩
  · go_enter Try.func5, Try.ntmps5
    go_wp2_with fail
    refine (Line_err n ps A c _ hm hr hc).mono ?_
    rintro e w1 ⟨rfl, hb1⟩
    go_wp2_with fail
    refine (OrderCheck_any n ps A c _ hm (hr.below hb1)).mono ?_
    rintro e w2 ⟨rfl, hb2⟩
    have HB2 := Lib.hid (hb1.trans (hb2.mono hb1.size))
    generalize code n ps = k at *
    have hk : (k != 0) = true := by simpa using hc
    clear hc
    go_wp2
    go_ret
    exact ⟨rfl, HB2.out⟩

end Go.Proofs.Ytkmloanalhjmjaa
