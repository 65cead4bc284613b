/- The walk of the law on Covers, without the document's answer. -/
import Derived.Test.YtkmloanalhjmjaaLawTable
import Derived.Test.YtkmloanalhjmjaaW8
import Derived.Test.YtkmloanalhjmjaaW9
import Derived.Test.YtkmloanalhjmjaaHasse
namespace Go.Proofs.Ytkmloanalhjmjaa
open Go.RowKit

set_option maxHeartbeats 1000000 in
theorem OrderCover_walk (n : Int) (ps : List (Int × Int)) (A : Option Addr) (c : Nat) (w : World) (hm : ps.length ≤ maxLen) (hr : Row w A (pairsC ps)) :
    Calls Try.prog 10 #[.int .i64 n, .slice A ps.length c] w fun e w' => e = .returned (.bool true) ∧ Below w.heap.size w w' := by
  by_cases hc : code n ps = 0
  · obtain ⟨h2, h3, h4⟩ := code_zero hc
    obtain ⟨n, rfl⟩ := Int.eq_ofNat_of_zero_le (show 0 ≤ n by unfold Large at h2; omega)
    obtain ⟨hn1, hn6, hl⟩ : 1 ≤ n ∧ n ≤ 6 ∧ ps.length ≤ 20 := by unfold Large at h2; omega
    have HC := Lib.hid hc
    have HC2 := Lib.hid (covL_code hc)
    have HE := Lib.hid (covL_tab h4)
    clear h2 h3 h4 hc
    go_enter Try.func10, Try.ntmps10
    go_wp2_with fail
    refine (Covers_ok n ps A c _ hm hr HC.out).mono ?_
    rintro e w1 ⟨v, rfl, hown, hb1⟩
    obtain ⟨A2, c2, rfl, hrow, hmax⟩ := hown.row
    have HR := Lib.hid hrow
    clear hown hrow
    go_wp2_with fail
    refine (Table_ok n ps A c _ hm (hr.below hb1) HC.out).mono ?_
    rintro e w2 ⟨g, rfl, hown, hb2⟩
    have HO := Lib.hid hown
    clear hown
    have hb02 := hb1.trans (hb2.mono hb1.size)
    go_wp2_with fail
    refine (ordered_any n ps A c _ hm (hr.below hb02)).mono ?_
    rintro e w3 ⟨rfl, hb3⟩
    rw [HC.out]
    have hb03 := hb02.trans (hb3.mono hb02.size)
    have hb13 := hb2.trans (hb3.mono hb2.size)
    go_wp2_with fail
    refine (Table_ok n (covL n ps n 0) A2 c2 _ hmax (HR.out.below hb13) HC2.out).mono ?_
    rintro e w4 ⟨g2, rfl, hown, hb4⟩
    have HO2 := Lib.hid hown
    clear hown
    have hb04 := hb03.trans (hb4.mono hb03.size)
    have HO4 := Lib.hid (HO.out.below (hb3.trans (hb4.mono hb3.size)))
    have H1 := Lib.hid HO4.out.row
    have H2 := Lib.hid HO2.out.row
    go_wp2_with fail
    have key := Words_any (tab n (upT n ps)) (tab n (upT n (covL n ps n 0))) (some ⟨g, 0, none⟩) (some ⟨g2, 0, none⟩) n n w4 H1.out H2.out (by simp; omega) (by simp; omega)
    rw [tab_length, tab_length] at key
    refine key.mono ?_
    rintro e w5 ⟨rfl, d, rfl⟩
    have hd : decide (tab n (upT n ps) = tab n (upT n (covL n ps n 0))) = true := by simp [HE.out]
    rw [hd]
    clear hd key
    go_wp2
    go_ret
    exact ⟨rfl, below_drewN hb04 d⟩
  · go_enter Try.func10, Try.ntmps10
    go_wp2_with fail
    refine (Covers_err n ps A c _ hm hr hc).mono ?_
    rintro e w1 ⟨rfl, hb1⟩
    go_wp2_with fail
    refine (Table_err n ps A c _ hm (hr.below hb1) hc).mono ?_
    rintro e w2 ⟨rfl, hb2⟩
    have hb02 := hb1.trans (hb2.mono hb1.size)
    go_wp2_with fail
    refine (ordered_any n ps A c _ hm (hr.below hb02)).mono ?_
    rintro e w3 ⟨rfl, hb3⟩
    have HB2 := Lib.hid (hb02.trans (hb3.mono hb02.size))
    generalize code n ps = k at *
    have hk : (k != 0) = true := by simpa using hc
    have hk2 : (k == 0) = false := by simpa using hc
    clear hc
    go_wp2
    go_ret
    exact ⟨rfl, HB2.out⟩

end Go.Proofs.Ytkmloanalhjmjaa
