/- The law RightsSteps, walked from the contract of Steps. -/
import Derived.Test.YthgmbiaajgpaaaaLawR1
namespace Go.Proofs.Ythgmbiaajgpaaaa
open Go.RowKit

set_option maxHeartbeats 4000000 in
theorem RightsSteps_with {fn : Nat} (hfn : fn = 15) (hP : RtStepsOk fn) (n : Int) (m : Mat) (A : Option Addr) (c : Nat) (l : List Chn) (A2 : Option Addr) (c2 : Nat) (x y : Int) (r : Nat) (w : World) (hm : m.length ≤ maxLen) (hcap : m.length ≤ c) (hr : Mats w A m) (hm2 : l.length ≤ maxLen) (hcap2 : l.length ≤ c2) (hc32 : C32 l) (hr2 : Row w A2 (chnsC l)) (hr32 : r < 4294967296) (hX : Laid w) :
    Calls Try.prog 5 #[.int .i64 n, .slice A m.length c, .slice A2 l.length c2, .int .i64 x, .int .i64 y, .int .u32 (r : Int)] w fun e w' => e = .returned (.bool true) ∧ Below w.heap.size w w' := by
  subst hfn
  have HK := Lib.hid (hP n m A c l A2 c2 x y r w hm hcap hr hm2 hcap2 hc32 hr2 hr32 hX)
  have HC := Lib.hid (fun W (hb : Below w.heap.size w W) => cellCode_any n m A c A2 l.length c2 x y W hm (hr.below hb))
  clear hX hcap2
  by_cases h0 : codeXC n m l.length x y = 0
  · obtain ⟨h1, hx0, hxn, hy0, hyn⟩ := codeXC_zero h0
    obtain ⟨g1, g2, g3, g4⟩ := codeX_zero h1
    obtain ⟨n, rfl⟩ := Int.eq_ofNat_of_zero_le (show 0 ≤ n by omega)
    obtain ⟨x, rfl⟩ := Int.eq_ofNat_of_zero_le hx0
    obtain ⟨y, rfl⟩ := Int.eq_ofNat_of_zero_le hy0
    have hF := hr.u2
    have e1 : m = tab2 n (atM m) := sq_tab2 g4
    have hlen : m.length = n := by rw [e1, tab2_len]
    have HKR := Lib.hid (fun W (hb : Below w.heap.size w W) => Rounds_any n (by omega) (by omega) (atM m) l A A2 c c2 W hF hc32 g3 (by omega) (by rw [← e1]; exact hr.below hb) (hr2.below hb))
    have HU := Lib.hid (show U2 (closeX n l (atM m)) from iterX_u32 hF hc32 _)
    have hln1 : 1 ≤ n := by omega
    have hn6 : n ≤ 6 := by omega
    have hlx := (last_spec hn6 hF hc32).1
    have HRd := Lib.hid (fun (t : Nat) (B : Option Addr) (cb : Nat) (W : World) (hb : Below w.heap.size w W) (h : Mats W B (tab2 n (iterX n l (atM m) t))) => Round_any n hln1 hn6 (iterX n l (atM m) t) l B A2 cb c2 W (iterX_u32 hF hc32 t) hc32 g3 h (hr2.below hb))
    have HUt := Lib.hid (fun t => iterX_u32 (n := n) hF hc32 t)
    have HR := Lib.hid (fun (k f : Int) (h : StepR n m l x y r k f) => show (sub r (closeX n l (atM m) x y) = false → k = 0 ∧ f = 5) ∧ (sub r (closeX n l (atM m) x y) = true → f = 0 ∧ ∃ t : Nat, k = t ∧ t ≤ lastX n l (atM m) ∧
      sub r (iterX n l (atM m) t x y) = true ∧ ∀ s, s < t → sub r (iterX n l (atM m) s x y) = false) from ⟨h.2.1 h0, h.2.2 h0⟩)
    have HM0 := Lib.hid (show Mats w A (tab2 n (iterX n l (atM m) 0)) by show Mats w A (tab2 n (atM m)); rw [← e1]; exact hr)
    rw [h0] at HC
    unfold RoundsPost at HKR
    unfold RoundPost at HRd
    have hnc : n ≤ c := by omega
    generalize closeX n l (atM m) = G at *
    generalize lastX n l (atM m) = q at *
    clear h0 h1 g1 g2 g3 g4 e1 hr hc32 hr2 hm hm2 hcap hx0 hy0
    rw [hlen] at HK HC ⊢
    clear hlen hF
    generalize atM m = F at *
    go_enter Try.func5, Try.ntmps5
    go_wp2_with fail
    refine HK.out.mono ?_
    rintro e w1 ⟨k, f, rfl, hres, hb1⟩
    have hb := HR.out _ _ hres
    have HB1 := Lib.hid hb1
    clear hb1 hres HR HK
    obtain ⟨hb0, hb2⟩ := hb
    have HN := Lib.hid hb0
    have HS := Lib.hid hb2
    clear hb0 hb2
    go_wp2_with fail
    refine (HC.out _ HB1.out).mono ?_
    rintro e w2 ⟨rfl, rfl⟩
    go_wp2_with fail
    refine (HKR.out _ HB1.out).mono ?_
    rintro e w3 ⟨B3, k3, rfl, hg3, hk3, hb3⟩
    obtain ⟨bA, oA, Ai, ci, rfl, a0, _, _, _, rowi⟩ := hg3.row (i := x) (tabA_get _ (by omega))
    rw [tabA_length] at a0
    obtain ⟨b1, o1, rfl, hb9⟩ := rowi.at (k := y) (by simp [words]; omega)
    have y1 := hb9 y _ (words_at (tabA_get (G x) (by omega)))
    have HB3 := Lib.hid (HB1.out.trans (hb3.mono HB1.out.size))
    clear hg3 hb3 hb9 rowi
    have kI := In_any r (G x y) hr32 (HU.out x y) w3
    rw [show (r ||| G x y == G x y) = sub r (G x y) from rfl] at kI
    cases hs : sub r (G x y) with
    | false =>
      obtain ⟨rfl, rfl⟩ := HN.out hs
      rw [hs] at kI
      clear hs HN HS
      go_wp2_with fail
      refine kI.mono ?_
      rintro e w4 ⟨rfl, rfl⟩
      go_wp2
      go_ret
      exact ⟨rfl, HB3.out⟩
    | true =>
      obtain ⟨rfl, T, rfl, hTq, hT, hbT⟩ := HS.out hs
      rw [hs] at kI
      clear hs HN HS
      have HT := Lib.hid hT
      have HBT := Lib.hid hbT
      clear hT hbT
      go_wp2_with fail
      refine kI.mono ?_
      rintro e w4 ⟨rfl, rfl⟩
      clear kI a0 y1
      go_wp2
      go_loopw [1, 18] (fun mv tv wr => ∃ (t : Nat) (B : Option Addr) (cb : Nat), tv = .int .i64 t ∧ t ≤ T ∧ mv = .slice B n cb ∧ n ≤ cb ∧ Hid (Mats wr B (tab2 n (iterX n l F t))) ∧ Hid (Below w.heap.size w wr)) (fun _ tv _ => T - (intOf tv).toNat)
      case atStart => exact ⟨0, A, c, rfl, Nat.zero_le _, rfl, hnc, Lib.hid (HM0.out.below HB3.out), HB3⟩
      case round =>
        clear HB3 HB1 HM0
        obtain ⟨t, B, cb, rfl, ht, rfl, hcb, HM, HB⟩ := hrel
        by_cases htq : t < q
        · have htq2 : (t : Int) < q := by omega
          obtain ⟨bA, oA, Ai, ci, rfl, a0, _, _, _, rowi⟩ := HM.out.row (i := x) (tabA_get _ (by omega))
          rw [tabA_length] at a0
          obtain ⟨b1, o1, rfl, hb9⟩ := rowi.at (k := y) (by simp [words]; omega)
          have y1 := hb9 y _ (words_at (tabA_get (iterX n l F t x) (by omega)))
          clear hb9 rowi
          have kI := In_any r (iterX n l F t x y) hr32 (HUt.out t x y) wr
          rw [show (r ||| iterX n l F t x y == iterX n l F t x y) = sub r (iterX n l F t x y) from rfl] at kI
          by_cases htT : t < T
          · rw [HBT.out t htT] at kI
            go_wp2_with fail
            refine kI.mono ?_
            rintro e w5 ⟨rfl, rfl⟩
            clear kI a0 y1
            go_wp2_with fail
            refine (HRd.out t _ cb _ HB.out HM.out).mono ?_
            rintro e w6 ⟨B6, c6, rfl, hm6, hc6, hb6⟩
            have HM6 := Lib.hid hm6
            have HB6 := Lib.hid (HB.out.trans (hb6.mono HB.out.size))
            clear hm6 hb6
            go_wp2
            go_roundw
            case rel => exact ⟨t + 1, B6, c6, by go_num, by omega, rfl, hc6, HM6, HB6⟩
            case measure => simp [intOf]; omega
          · obtain rfl : t = T := by omega
            rw [HT.out] at kI
            go_wp2_with fail
            refine kI.mono ?_
            rintro e w5 ⟨rfl, rfl⟩
            go_wp2
            go_ret
            exact ⟨rfl, HB.out⟩
        · obtain rfl : t = T := by omega
          have htq2 : (q : Int) ≤ t := by omega
          go_wp2
          go_ret
          exact ⟨rfl, HB.out⟩
  · have HR := Lib.hid (fun k f (h : StepR n m l x y r k f) => show k = 0 ∧ f = codeXC n m l.length x y from h.1 h0)
    have hne : (codeXC n m l.length x y != 0) = true := by simpa using h0
    clear h0 hr hc32 hr2 hm hm2 hcap
    generalize codeXC n m l.length x y = q at *
    go_enter Try.func5, Try.ntmps5
    go_wp2_with fail
    refine HK.out.mono ?_
    rintro e w1 ⟨k, f, rfl, hres, hb1⟩
    obtain ⟨rfl, rfl⟩ := HR.out _ _ hres
    have HB1 := Lib.hid hb1
    clear hres hb1
    go_wp2_with fail
    refine (HC.out _ HB1.out).mono ?_
    rintro e w2 ⟨rfl, rfl⟩
    go_wp2
    go_ret
    exact ⟨rfl, HB1.out⟩

end Go.Proofs.Ythgmbiaajgpaaaa
