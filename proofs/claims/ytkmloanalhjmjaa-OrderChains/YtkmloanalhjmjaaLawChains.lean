/- The walk of the law on Chain, by the document's answer. -/
import Derived.Test.YtkmloanalhjmjaaW14
import Derived.Test.YtkmloanalhjmjaaW15
namespace Go.Proofs.Ytkmloanalhjmjaa
open Go.RowKit

set_option maxHeartbeats 1000000 in
theorem OrderChains_walk (n : Int) (ps : List (Int × Int)) (A : Option Addr) (c : Nat) (w : World) (hm : ps.length ≤ maxLen) (hr : Row w A (pairsC ps)) :
    Calls Try.prog 6 #[.int .i64 n, .slice A ps.length c] w fun e w' => e = .returned (.bool true) ∧ Below w.heap.size w w' := by
  by_cases hc : code n ps = 0
  · obtain ⟨h2, h3, h4⟩ := code_zero hc
    obtain ⟨n, rfl⟩ := Int.eq_ofNat_of_zero_le (show 0 ≤ n by unfold Large at h2; omega)
    obtain ⟨hn1, hn6, hl⟩ : 1 ≤ n ∧ n ≤ 6 ∧ ps.length ≤ 20 := by unfold Large at h2; omega
    have hlen : (chainW n ps).length ≤ n := by unfold chainW; rw [bt_length]; exact hc_bound h4 _ (Nat.le_refl _)
    have HC := Lib.hid hc
    have HY := Lib.hid h4
    clear h2 h3 h4 hc
    go_enter Try.func6, Try.ntmps6
    go_wp2_with fail
    refine (Chain_ok n ps A c _ hm hr HC.out).mono ?_
    rintro e w1 ⟨v, rfl, hown, hb1⟩
    obtain ⟨A2, c2, rfl, hrow, hmax⟩ := hown.row
    have HR := Lib.hid hrow
    clear hown hrow hmax
    rw [nats_length]
    go_wp2_with fail
    refine (OrderCheck_any n ps A c _ hm (hr.below hb1)).mono ?_
    rintro e w2 ⟨rfl, hb2⟩
    rw [HC.out]
    have hb02 := hb1.trans (hb2.mono hb1.size)
    go_wp2_with fail
    refine (Longest_nil n ps A c hn6 hl HY.out _ (hr.below hb02)).mono ?_
    rintro e w3 ⟨A3, c3, rfl, hrow3, hb3⟩
    have hb03 := hb02.trans (hb3.mono hb02.size)
    have key := Ints_any (nats (chainW n ps)) (nats (chainW n ps)) A2 A3 c2 c3 w3 (HR.out.below (hb2.trans (hb3.mono hb2.size))) hrow3 (by rw [nats_length]; omega) (by rw [nats_length]; omega)
    rw [nats_length, show decide (nats (chainW n ps) = nats (chainW n ps)) = true from by simp] at key
    have HK := Lib.hid key
    clear key hrow3
    go_wp2_with fail
    refine HK.out.mono ?_
    rintro e w4 ⟨rfl, d, rfl⟩
    clear HK
    go_wp2
    go_ret
    exact ⟨rfl, below_drewN hb03 d⟩
  · go_enter Try.func6, Try.ntmps6
    go_wp2_with fail
    refine (Chain_err n ps A c _ hm hr hc).mono ?_
    rintro e w1 ⟨rfl, hb1⟩
    go_wp2_with fail
    refine (OrderCheck_any n ps A c _ hm (hr.below hb1)).mono ?_
    rintro e w2 ⟨rfl, hb2⟩
    have HB2 := Lib.hid (hb1.trans (hb2.mono hb1.size))
    generalize code n ps = k at *
    have hk : (k != 0) = true := by simpa using hc
    clear hc
    go_wp2
    go_ret
    exact ⟨rfl, HB2.out⟩

end Go.Proofs.Ytkmloanalhjmjaa
