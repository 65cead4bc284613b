/- The law on distributive and modular lattices, without the document's answer. -/
import Derived.Test.YtogjkkaohaljpaaDoorLatSpec
import Derived.Test.YtogjkkaohaljpaaDoorWTurn
namespace Go.Proofs.YtogjkkaohaljpaaDoor
open Go.RowKit

set_option maxHeartbeats 2000000 in
theorem LatticeModular_with (hS : ShOk 18 true) (hM : ShOk 21 false) (hI : IsOk 16) (n : Int) (ps : List (Int × Int)) (A : Option Addr) (c : Nat) (w : World) (hm : ps.length ≤ maxLen) (hr : Row w A (pairsC ps)) (hX : Laid w) :
    Calls Tryd.prog 10 #[.int .i64 n, .slice A ps.length c] w fun e w' => e = .returned (.bool true) ∧ Below w.heap.size w w' := by
  by_cases hc : code n ps = 0
  · obtain ⟨h2, h3, h4⟩ := code_zero hc
    obtain ⟨n, rfl⟩ := Int.eq_ofNat_of_zero_le (show 0 ≤ n by unfold Large at h2; omega)
    obtain ⟨hn1, hn6, hl⟩ : 1 ≤ n ∧ n ≤ 6 ∧ ps.length ≤ 20 := by unfold Large at h2; omega
    have HC := Lib.hid hc
    have HY := Lib.hid h4
    clear h2 h3 h4 hc
    cases hL : latB n ps with
    | false =>
      have HCL := Lib.hid (codeL_no HC.out hL)
      have HL := Lib.hid hL
      clear hL
      go_enter Tryd.func10, Tryd.ntmps10
      go_wp2_with fail
      refine (hS n ps A c _ hm hr hX).mono ?_
      rintro e w1 ⟨rfl, hb1⟩
      rw [HCL.out, show (((3 : Int) == 0) && shB (n : Int).toNat ps true) = false from rfl]
      go_wp2_with fail
      refine (hM n ps A c _ hm (hr.below hb1) (hX.below hb1)).mono ?_
      rintro e w2 ⟨rfl, hb2⟩
      rw [HCL.out, show (((3 : Int) == 0) && shB (n : Int).toNat ps false) = false from rfl]
      have hb02 := hb1.trans (hb2.mono hb1.size)
      go_wp2_with fail
      refine (hI n ps A c _ hm (hr.below hb02) (hX.below hb02)).mono ?_
      rintro e w3 ⟨rfl, hb3⟩
      rw [HC.out, Int.toNat_natCast, HL.out, Bool.and_false]
      have hb03 := hb02.trans (hb3.mono hb02.size)
      go_wp2_with fail
      refine (ordered_any n ps A c _ hm (hr.below hb03)).mono ?_
      rintro e w4 ⟨rfl, hb4⟩
      rw [HC.out]
      have HB := Lib.hid (hb03.trans (hb4.mono hb03.size))
      clear hb1 hb2 hb02 hb3 hb03 hb4 hr hS hM hI
      go_wp2
      go_ret
      exact ⟨rfl, HB.out⟩
    | true =>
      have HCL := Lib.hid (codeL_ok HC.out hL)
      have HCT := Lib.hid (codeL_ok (turned_code HC.out) (by rw [latB_turned]; exact hL))
      have HL := Lib.hid hL
      have HTt := Lib.hid (shB_turned HY.out hL true)
      have HTf := Lib.hid (shB_turned HY.out hL false)
      have HWk := Lib.hid (fun h => shB_weak (n := n) (ps := ps) h)
      clear hL
      go_enter Tryd.func10, Tryd.ntmps10
      go_wp2_with fail
      refine (hS n ps A c _ hm hr hX).mono ?_
      rintro e w1 ⟨rfl, hb1⟩
      rw [HCL.out, show (((0 : Int) == 0) && shB (n : Int).toNat ps true) = shB n ps true from rfl]
      go_wp2_with fail
      refine (hM n ps A c _ hm (hr.below hb1) (hX.below hb1)).mono ?_
      rintro e w2 ⟨rfl, hb2⟩
      rw [HCL.out, show (((0 : Int) == 0) && shB (n : Int).toNat ps false) = shB n ps false from rfl]
      have hb02 := hb1.trans (hb2.mono hb1.size)
      go_wp2_with fail
      refine (hI n ps A c _ hm (hr.below hb02) (hX.below hb02)).mono ?_
      rintro e w3 ⟨rfl, hb3⟩
      rw [HC.out, Int.toNat_natCast, HL.out, show (((0 : Int) == 0) && true) = true from rfl]
      have hb03 := hb02.trans (hb3.mono hb02.size)
      go_wp2_with fail
      refine (ordered_any n ps A c _ hm (hr.below hb03)).mono ?_
      rintro e w4 ⟨rfl, hb4⟩
      rw [HC.out]
      have hb04 := hb03.trans (hb4.mono hb03.size)
      go_wp2_with fail
      refine (Turned_any ps A c _ (hr.below hb04) hl).mono ?_
      rintro e w5 ⟨v5, rfl, hown, hb5⟩
      have hb05 := hb04.trans (hb5.mono hb04.size)
      obtain ⟨A5, c5, rfl, hrow5, hmax5⟩ := hown.row
      clear hown
      go_wp2_with fail
      refine (hS n (turned ps) A5 c5 _ hmax5 hrow5 (hX.below hb05)).mono ?_
      rintro e w6 ⟨rfl, hb6⟩
      rw [HCT.out, show (((0 : Int) == 0) && shB (n : Int).toNat (turned ps) true) = shB n (turned ps) true from rfl, HTt.out]
      have hb06 := hb05.trans (hb6.mono hb05.size)
      go_wp2_with fail
      refine (Turned_any ps A c _ (hr.below hb06) hl).mono ?_
      rintro e w7 ⟨v7, rfl, hown, hb7⟩
      have hb07 := hb06.trans (hb7.mono hb06.size)
      obtain ⟨A7, c7, rfl, hrow7, hmax7⟩ := hown.row
      clear hown
      go_wp2_with fail
      refine (hM n (turned ps) A7 c7 _ hmax7 hrow7 (hX.below hb07)).mono ?_
      rintro e w8 ⟨rfl, hb8⟩
      rw [HCT.out, show (((0 : Int) == 0) && shB (n : Int).toNat (turned ps) false) = shB n (turned ps) false from rfl, HTf.out]
      have HB := Lib.hid (hb07.trans (hb8.mono hb07.size))
      clear hb1 hb2 hb02 hb3 hb03 hb4 hb04 hb5 hb05 hb6 hb06 hb7 hb07 hb8 hr hS hM hI hrow5 hrow7 hmax5 hmax7 HCL HCT HTt HTf
      cases h1 : shB n ps true with
      | false =>
        clear h1
        cases h2 : shB n ps false with
        | false =>
          clear h2
          go_wp2
          go_ret
          exact ⟨rfl, HB.out⟩
        | true =>
          clear h2
          go_wp2
          go_ret
          exact ⟨rfl, HB.out⟩
      | true =>
        rw [HWk.out h1]
        clear h1
        go_wp2
        go_ret
        exact ⟨rfl, HB.out⟩
  · have HCL := Lib.hid (codeL_err hc)
    go_enter Tryd.func10, Tryd.ntmps10
    go_wp2_with fail
    refine (hS n ps A c _ hm hr hX).mono ?_
    rintro e w1 ⟨rfl, hb1⟩
    rw [HCL.out]
    generalize (code n ps == 0 && shB n.toNat ps true) = s1 at *
    go_wp2_with fail
    refine (hM n ps A c _ hm (hr.below hb1) (hX.below hb1)).mono ?_
    rintro e w2 ⟨rfl, hb2⟩
    rw [HCL.out]
    generalize (code n ps == 0 && shB n.toNat ps false) = s2 at *
    have hb02 := hb1.trans (hb2.mono hb1.size)
    go_wp2_with fail
    refine (hI n ps A c _ hm (hr.below hb02) (hX.below hb02)).mono ?_
    rintro e w3 ⟨rfl, hb3⟩
    generalize (code n ps == 0 && latB n.toNat ps) = s3 at *
    have hb03 := hb02.trans (hb3.mono hb02.size)
    go_wp2_with fail
    refine (ordered_any n ps A c _ hm (hr.below hb03)).mono ?_
    rintro e w4 ⟨rfl, hb4⟩
    have HB := Lib.hid (hb03.trans (hb4.mono hb03.size))
    clear hb1 hb2 hb02 hb3 hb03 hb4 hr hS hM hI HCL
    generalize code n ps = k at *
    have hk : (k != 0) = true := by simpa using hc
    have hk2 : (k == 0) = false := by simpa using hc
    clear hc
    go_wp2
    go_ret
    exact ⟨rfl, HB.out⟩

end Go.Proofs.YtogjkkaohaljpaaDoor
