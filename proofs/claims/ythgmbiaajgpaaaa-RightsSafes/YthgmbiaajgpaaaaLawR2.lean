/- The law RightsSafes, walked from the contract of Safe. -/
import Derived.Test.YthgmbiaajgpaaaaLawR1
namespace Go.Proofs.Ythgmbiaajgpaaaa
open Go.RowKit

set_option maxHeartbeats 2000000 in
theorem RightsSafes_with {fn : Nat} (hfn : fn = 12) (hP : RtSafeOk fn) (n : Int) (m : Mat) (A : Option Addr) (c : Nat) (l : List Chn) (A2 : Option Addr) (c2 : Nat) (x y : Int) (r : Nat) (w : World) (hm : m.length ≤ maxLen) (hcap : m.length ≤ c) (hr : Mats w A m) (hm2 : l.length ≤ maxLen) (hcap2 : l.length ≤ c2) (hc32 : C32 l) (hr2 : Row w A2 (chnsC l)) (hr32 : r < 4294967296) (hX : Laid w) :
    Calls Try.prog 4 #[.int .i64 n, .slice A m.length c, .slice A2 l.length c2, .int .i64 x, .int .i64 y, .int .u32 (r : Int)] w fun e w' => e = .returned (.bool true) ∧ Below w.heap.size w w' := by
  subst hfn
  have HK := Lib.hid (hP n m A c l A2 c2 x y r w hm hcap hr hm2 hcap2 hc32 hr2 hr32 hX)
  have HC := Lib.hid (fun W (hb : Below w.heap.size w W) => cellCode_any n m A c A2 l.length c2 x y W hm (hr.below hb))
  clear hX hcap2
  by_cases h0 : codeXC n m l.length x y = 0
  · obtain ⟨h1, hx0, hxn, hy0, hyn⟩ := codeXC_zero h0
    obtain ⟨g1, g2, g3, g4⟩ := codeX_zero h1
    obtain ⟨n, rfl⟩ := Int.eq_ofNat_of_zero_le (show 0 ≤ n by omega)
    obtain ⟨x, rfl⟩ := Int.eq_ofNat_of_zero_le hx0
    obtain ⟨y, rfl⟩ := Int.eq_ofNat_of_zero_le hy0
    have hF := hr.u2
    have e1 : m = tab2 n (atM m) := sq_tab2 g4
    have hlen : m.length = n := by rw [e1, tab2_len]
    have HKR := Lib.hid (fun W (hb : Below w.heap.size w W) => Rounds_any n (by omega) (by omega) (atM m) l A A2 c c2 W hF hc32 g3 (by omega) (by rw [← e1]; exact hr.below hb) (hr2.below hb))
    have HU := Lib.hid (show U2 (closeX n l (atM m)) from iterX_u32 hF hc32 _)
    rw [h0] at HK
    rw [h0] at HC
    unfold RoundsPost at HKR
    generalize codeXC (n : Int) m l.length x y = q9 at *
    simp only [Int.toNat_natCast] at HK
    generalize closeX n l (atM m) = G at *
    generalize lastX n l (atM m) = q at *
    have hn6 : n ≤ 6 := by omega
    clear h0 h1 g1 g2 g3 g4 hF e1 hr hc32 hr2 hm hm2 hcap hx0 hy0
    rw [hlen] at HK HC ⊢
    clear hlen
    go_enter Try.func4, Try.ntmps4
    go_wp2_with fail
    refine HK.out.mono ?_
    rintro e w1 ⟨b, rfl, hres, hb1⟩
    have hb : b = !(sub r (G x y)) := by simpa using hres
    have HB1 := Lib.hid hb1
    clear hb1 hres
    go_wp2_with fail
    refine (HC.out _ HB1.out).mono ?_
    rintro e w2 ⟨rfl, rfl⟩
    go_wp2_with fail
    refine (HKR.out _ HB1.out).mono ?_
    rintro e w3 ⟨B3, k3, rfl, hg3, hk3, hb3⟩
    obtain ⟨bA, oA, Ai, ci, rfl, a0, _, _, _, rowi⟩ := hg3.row (i := x) (tabA_get _ (by omega))
    rw [tabA_length] at a0
    obtain ⟨b1, o1, rfl, hb9⟩ := rowi.at (k := y) (by simp [words]; omega)
    have y1 := hb9 y _ (words_at (tabA_get (G x) (by omega)))
    have HB3 := Lib.hid (HB1.out.trans (hb3.mono HB1.out.size))
    clear hg3 hb3 hb9 rowi
    have kI := In_any r (G x y) hr32 (HU.out x y) w3
    rw [show (r ||| G x y == G x y) = sub r (G x y) from rfl] at kI
    generalize sub r (G x y) = s at *
    subst hb
    go_wp2_with fail
    refine kI.mono ?_
    rintro e w4 ⟨rfl, rfl⟩
    cases s
    · go_wp2
      go_ret
      exact ⟨rfl, HB3.out⟩
    · go_wp2
      go_ret
      exact ⟨rfl, HB3.out⟩
  · have HR := Lib.hid (fun (b : Bool) (h : b = true ↔ codeXC n m l.length x y = 0 ∧ sub r (closeX n.toNat l (atM m) x.toNat y.toNat) = false) => show b = false by
      cases b
      · rfl
      · exact absurd (h.1 rfl).1 h0)
    have hne : (codeXC n m l.length x y != 0) = true := by simpa using h0
    clear h0 hr hc32 hr2 hm hm2 hcap
    generalize codeXC n m l.length x y = q at *
    go_enter Try.func4, Try.ntmps4
    go_wp2_with fail
    refine HK.out.mono ?_
    rintro e w1 ⟨b, rfl, hres, hb1⟩
    obtain rfl := HR.out _ hres
    have HB1 := Lib.hid hb1
    clear hres hb1
    go_wp2_with fail
    refine (HC.out _ HB1.out).mono ?_
    rintro e w2 ⟨rfl, rfl⟩
    go_wp2
    go_ret
    exact ⟨rfl, HB1.out⟩

end Go.Proofs.Ythgmbiaajgpaaaa
