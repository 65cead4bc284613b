/- cellCode; the law RightsCloses, walked from the contract of Close. -/
import Derived.Test.YthgmbiaajgpaaaaRtSpec
import Derived.Test.YthgmbiaajgpaaaaWRt3
namespace Go.Proofs.Ythgmbiaajgpaaaa
open Go.RowKit

theorem cellCode_any (n : Int) (m : Mat) (A : Option Addr) (c : Nat) (A2 : Option Addr) (nc c2 : Nat) (x y : Int) (w : World) (hm : m.length ≤ maxLen) (hr : Mats w A m) :
    Calls Try.prog 13 #[.int .i64 n, .slice A m.length c, .slice A2 nc c2, .int .i64 x, .int .i64 y] w fun e w' => e = .returned (.int .i64 (codeXC n m nc x y)) ∧ w' = w := by
  have HK := Lib.hid (MatrixCheck_any n m A c A2 nc c2 w hm hr)
  by_cases h0 : codeX n m nc = 0
  · rw [h0] at HK
    by_cases hg : x < 0 ∨ n ≤ x ∨ y < 0 ∨ n ≤ y
    · have HE := Lib.hid (show codeXC n m nc x y = 2 by unfold codeXC; rw [if_neg (by simp [h0]), if_pos hg])
      rw [HE.out]
      clear h0 hr hm HE
      by_cases h1 : x < 0
      · clear hg; go_enter Try.func13, Try.ntmps13; go_wp2_with fail; refine HK.out.mono ?_; rintro e w1 ⟨rfl, rfl⟩; go_wp2; go_ret; exact ⟨rfl, rfl⟩
      · by_cases h2 : n ≤ x
        · clear hg; go_enter Try.func13, Try.ntmps13; go_wp2_with fail; refine HK.out.mono ?_; rintro e w1 ⟨rfl, rfl⟩; go_wp2; go_ret; exact ⟨rfl, rfl⟩
        · by_cases h3 : y < 0
          · clear hg; go_enter Try.func13, Try.ntmps13; go_wp2_with fail; refine HK.out.mono ?_; rintro e w1 ⟨rfl, rfl⟩; go_wp2; go_ret; exact ⟨rfl, rfl⟩
          · have h4 : n ≤ y := by omega
            clear hg; go_enter Try.func13, Try.ntmps13; go_wp2_with fail; refine HK.out.mono ?_; rintro e w1 ⟨rfl, rfl⟩; go_wp2; go_ret; exact ⟨rfl, rfl⟩
    · have HE := Lib.hid (show codeXC n m nc x y = 0 by unfold codeXC; rw [if_neg (by simp [h0]), if_neg hg])
      rw [HE.out]
      have h1 : decide (x < 0) = false := by rw [decide_eq_false_iff_not]; omega
      have h2 : decide (n ≤ x) = false := by rw [decide_eq_false_iff_not]; omega
      have h3 : decide (y < 0) = false := by rw [decide_eq_false_iff_not]; omega
      have h4 : decide (n ≤ y) = false := by rw [decide_eq_false_iff_not]; omega
      clear h0 hr hm HE hg
      go_enter Try.func13, Try.ntmps13; go_wp2_with fail; refine HK.out.mono ?_; rintro e w1 ⟨rfl, rfl⟩; go_wp2; go_ret; exact ⟨rfl, rfl⟩
  · have HE := Lib.hid (show codeXC n m nc x y = codeX n m nc by unfold codeXC; rw [if_pos h0])
    rw [HE.out]
    have hb : (codeX n m nc == 0) = false := by simpa using h0
    clear hr hm HE
    generalize codeX n m nc = q at *
    go_enter Try.func13, Try.ntmps13; go_wp2_with fail; refine HK.out.mono ?_; rintro e w1 ⟨rfl, rfl⟩; go_wp2; go_ret; exact ⟨rfl, rfl⟩

set_option maxHeartbeats 2000000 in
theorem RightsCloses_with {fn : Nat} (hfn : fn = 8) (hP : RtCloseOk fn) (n : Int) (m : Mat) (A : Option Addr) (c : Nat) (l : List Chn) (A2 : Option Addr) (c2 : Nat) (w : World) (hm : m.length ≤ maxLen) (hcap : m.length ≤ c) (hr : Mats w A m) (hm2 : l.length ≤ maxLen) (hcap2 : l.length ≤ c2) (hc32 : C32 l) (hr2 : Row w A2 (chnsC l)) (hX : Laid w) :
    Calls Try.prog 3 #[.int .i64 n, .slice A m.length c, .slice A2 l.length c2] w fun e w' => e = .returned (.bool true) ∧ Below w.heap.size w w' := by
  subst hfn
  have HK := Lib.hid (hP n m A c l A2 c2 w hm hcap hr hm2 hcap2 hc32 hr2 hX)
  have HC := Lib.hid (fun W (hb : Below w.heap.size w W) => MatrixCheck_any n m A c A2 l.length c2 W hm (hr.below hb))
  clear hX hcap2
  by_cases h0 : codeX n m l.length = 0
  · obtain ⟨g1, g2, g3, g4⟩ := codeX_zero h0
    obtain ⟨n, rfl⟩ := Int.eq_ofNat_of_zero_le (show 0 ≤ n by omega)
    have hF := hr.u2
    have e1 : m = tab2 n (atM m) := sq_tab2 g4
    have hlen : m.length = n := by rw [e1, tab2_len]
    have HKR := Lib.hid (fun W (hb : Below w.heap.size w W) => Rounds_any n (by omega) (by omega) (atM m) l A A2 c c2 W hF hc32 g3 (by omega) (by rw [← e1]; exact hr.below hb) (hr2.below hb))
    have HR := Lib.hid (fun g (h : CloseR n m l g) => show g = tab2 n (closeX n l (atM m)) from h.1 h0)
    rw [h0] at HK
    rw [h0] at HC
    unfold RoundsPost at HKR
    generalize closeX n l (atM m) = G at *
    generalize lastX n l (atM m) = q at *
    have hn6 : n ≤ 6 := by omega
    clear h0 g1 g2 g3 g4 hF e1 hr hc32 hr2 hm hm2 hcap
    rw [hlen] at HK HC ⊢
    clear hlen
    go_enter Try.func3, Try.ntmps3
    go_wp2_with fail
    refine HK.out.mono ?_
    rintro e w1 ⟨B, k, g, rfl, hres, hk, hg, hb1⟩
    obtain rfl := HR.out _ hres
    clear hres
    have HB1 := Lib.hid hb1
    have HG := Lib.hid hg
    clear hb1 hg
    rw [tab2_len] at *
    go_wp2_with fail
    refine (HC.out _ HB1.out).mono ?_
    rintro e w2 ⟨rfl, rfl⟩
    go_wp2_with fail
    refine (HKR.out _ HB1.out).mono ?_
    rintro e w3 ⟨B3, k3, rfl, hg3, hk3, hb3⟩
    have km := Matrices_any (tab2 n G) (tab2 n G) B B3 k k3 w3 (HG.out.below hb3) hg3 (fun r hr => by rw [tab2_rows r hr]; omega) (fun r hr => by rw [tab2_rows r hr]; omega) (by rw [tab2_len]; omega) (by rw [tab2_len]; omega)
    rw [tab2_len, decide_eq_true rfl] at km
    have HB3 := Lib.hid (HB1.out.trans (hb3.mono HB1.out.size))
    clear hg3 hb3
    go_wp2_with fail
    refine km.mono ?_
    rintro e w4 ⟨rfl, d, rfl⟩
    go_wp2
    go_ret
    exact ⟨rfl, below_drewN HB3.out d⟩
  · have HR := Lib.hid (fun g (h : CloseR n m l g) => show g = [] from h.2 h0)
    have hne : (codeX n m l.length != 0) = true := by simpa using h0
    clear h0 hr hc32 hr2 hm hm2 hcap
    generalize codeX n m l.length = q at *
    go_enter Try.func3, Try.ntmps3
    go_wp2_with fail
    refine HK.out.mono ?_
    rintro e w1 ⟨B, k, g, rfl, hres, hk, hg, hb1⟩
    obtain rfl := HR.out _ hres
    have HB1 := Lib.hid hb1
    clear hres hb1 hg
    simp only [List.length_nil] at *
    go_wp2_with fail
    refine (HC.out _ HB1.out).mono ?_
    rintro e w2 ⟨rfl, rfl⟩
    go_wp2
    go_ret
    exact ⟨rfl, HB1.out⟩

end Go.Proofs.Ythgmbiaajgpaaaa
