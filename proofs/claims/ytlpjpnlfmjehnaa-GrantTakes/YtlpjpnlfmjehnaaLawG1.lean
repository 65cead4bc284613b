/- The laws GrantCans and GrantSide, walked from the contract of Can. -/
import Derived.Test.YtlpjpnlfmjehnaaGSpec
import Derived.Test.YtlpjpnlfmjehnaaWG2
import Derived.Test.YtlpjpnlfmjehnaaW9
import Derived.Test.YtlpjpnlfmjehnaaPop
namespace Go.Proofs.Ytlpjpnlfmjehnaa
open Go.RowKit

theorem codeGC_E {n : Int} {es : List Ed} {x y : Int} {r : Nat} (h : codeE n es ≠ 0) : codeGC n es x y r = codeE n es := if_pos h
theorem codeGC_arg {n : Int} {es : List Ed} {x y : Int} {r : Nat} (h : codeE n es = 0) (k : x < 0 ∨ n ≤ x ∨ y < 0 ∨ n ≤ y ∨ x = y) : codeGC n es x y r = 2 := by rw [codeGC, if_neg (fun h1 => h1 h), if_pos k]
theorem codeGC_pop {n : Int} {es : List Ed} {x y : Int} {r : Nat} (h : codeE n es = 0) (k : ¬ (x < 0 ∨ n ≤ x ∨ y < 0 ∨ n ≤ y ∨ x = y)) (hp : pop r ≠ 1) : codeGC n es x y r = 4 := by rw [codeGC, if_neg (fun h1 => h1 h), if_neg k, if_pos hp]
theorem codeGC_ok {n : Int} {es : List Ed} {x y : Int} {r : Nat} (h : codeE n es = 0) (k : ¬ (x < 0 ∨ n ≤ x ∨ y < 0 ∨ n ≤ y ∨ x = y)) (hp : pop r = 1) : codeGC n es x y r = 0 := by rw [codeGC, if_neg (fun h1 => h1 h), if_neg k, if_neg (fun h1 => h1 hp)]

set_option maxHeartbeats 2000000 in
theorem grantCode_any (n : Int) (es : List Ed) (A : Option Addr) (c : Nat) (x y : Int) (r : Nat) (w : World) (hr32 : r < 4294967296) (hr : Row w A (edgesC es)) :
    Calls Try.prog 14 #[.int .i64 n, .slice A es.length c, .int .i64 x, .int .i64 y, .int .u32 (r : Int)] w fun e w' => e = .returned (.int .i64 (codeGC n es x y r)) ∧ Below w.heap.size w w' := by
  have kE := fun W (hb : Below w.heap.size w W) => EdgesCheck_any n es A c W (hr.below hb)
  by_cases hE : codeE n es = 0
  · rw [hE] at kE
    have HE := Lib.hid hE
    clear hE
    by_cases h0 : x < 0
    · have HC := Lib.hid (codeGC_arg (n := n) (x := x) (y := y) (r := r) HE.out (by omega))
      go_enter Try.func14, Try.ntmps14
      go_wp2_with fail
      refine (kE _ (Below.refl _ _)).mono ?_
      rintro e w2 ⟨rfl, hb2⟩
      go_wp2
      go_ret
      exact ⟨ret_int HC.out.symm, hb2⟩
    · by_cases h1 : n ≤ x
      · have HC := Lib.hid (codeGC_arg (n := n) (x := x) (y := y) (r := r) HE.out (by omega))
        go_enter Try.func14, Try.ntmps14
        go_wp2_with fail
        refine (kE _ (Below.refl _ _)).mono ?_
        rintro e w2 ⟨rfl, hb2⟩
        go_wp2
        go_ret
        exact ⟨ret_int HC.out.symm, hb2⟩
      · by_cases h2 : y < 0
        · have HC := Lib.hid (codeGC_arg (n := n) (x := x) (y := y) (r := r) HE.out (by omega))
          go_enter Try.func14, Try.ntmps14
          go_wp2_with fail
          refine (kE _ (Below.refl _ _)).mono ?_
          rintro e w2 ⟨rfl, hb2⟩
          go_wp2
          go_ret
          exact ⟨ret_int HC.out.symm, hb2⟩
        · by_cases h3 : n ≤ y
          · have HC := Lib.hid (codeGC_arg (n := n) (x := x) (y := y) (r := r) HE.out (by omega))
            go_enter Try.func14, Try.ntmps14
            go_wp2_with fail
            refine (kE _ (Below.refl _ _)).mono ?_
            rintro e w2 ⟨rfl, hb2⟩
            go_wp2
            go_ret
            exact ⟨ret_int HC.out.symm, hb2⟩
          · by_cases h4 : x = y
            · have HC := Lib.hid (codeGC_arg (n := n) (x := x) (y := y) (r := r) HE.out (by omega))
              have hbb : (x == y) = true := by rw [beq_iff_eq]; exact h4
              clear h4
              go_enter Try.func14, Try.ntmps14
              go_wp2_with fail
              refine (kE _ (Below.refl _ _)).mono ?_
              rintro e w2 ⟨rfl, hb2⟩
              go_wp2
              go_ret
              exact ⟨ret_int HC.out.symm, hb2⟩
            · have hbb : (x == y) = false := by rw [beq_eq_false_iff_ne]; exact h4
              have hno : ¬ (x < 0 ∨ n ≤ x ∨ y < 0 ∨ n ≤ y ∨ x = y) := by omega
              by_cases hp : pop r = 1
              · have HC := Lib.hid (codeGC_ok HE.out hno hp)
                have hpp : ((pop r : Int) != 1) = false := by simp [hp]
                clear hno hp
                go_enter Try.func14, Try.ntmps14
                go_wp2_with fail
                refine (kE _ (Below.refl _ _)).mono ?_
                rintro e w2 ⟨rfl, hb2⟩
                go_wp2_with fail
                refine (Size_any r hr32 _).mono ?_
                rintro e w3 ⟨rfl, rfl⟩
                go_wp2
                go_ret
                exact ⟨ret_int HC.out.symm, hb2⟩
              · have HC := Lib.hid (codeGC_pop HE.out hno hp)
                have hpp : ((pop r : Int) != 1) = true := by simp; omega
                clear hno hp
                go_enter Try.func14, Try.ntmps14
                go_wp2_with fail
                refine (kE _ (Below.refl _ _)).mono ?_
                rintro e w2 ⟨rfl, hb2⟩
                go_wp2_with fail
                refine (Size_any r hr32 _).mono ?_
                rintro e w3 ⟨rfl, rfl⟩
                go_wp2
                go_ret
                exact ⟨ret_int HC.out.symm, hb2⟩
  · have HC := Lib.hid (codeGC_E (x := x) (y := y) (r := r) hE)
    generalize codeE n es = q at *
    have hq : (q == 0) = false := by rw [beq_eq_false_iff_ne]; exact hE
    clear hE
    go_enter Try.func14, Try.ntmps14
    go_wp2_with fail
    refine (kE _ (Below.refl _ _)).mono ?_
    rintro e w2 ⟨rfl, hb2⟩
    go_wp2
    go_ret
    exact ⟨ret_int HC.out.symm, hb2⟩

set_option maxHeartbeats 2000000 in
theorem GrantCans_with {fn : Nat} (hfn : fn = 13) (hC : GCanOk fn) (n : Int) (es : List Ed) (A : Option Addr) (c : Nat) (x y : Int) (r : Nat) (w : World) (hr32 : r < 4294967296) (hm : es.length ≤ maxLen) (hcap : es.length ≤ c) (h32 : E32 es) (hr : Row w A (edgesC es)) (hX : Laid w) :
    Calls Try.prog 4 #[.int .i64 n, .slice A es.length c, .int .i64 x, .int .i64 y, .int .u32 (r : Int)] w fun e w' => e = .returned (.bool true) ∧ Below w.heap.size w w' := by
  subst hfn
  have kC := hC n es A c x y r w hm hcap h32 hr hr32 hX
  have kG := fun W (hb : Below w.heap.size w W) => grantCode_any n es A c x y r W hr32 (hr.below hb)
  by_cases hc : codeGC n es x y r = 0
  · obtain ⟨g1, g2, g3, _⟩ := codeGC_zero hc
    obtain ⟨e1, e2, e3, e4⟩ := codeE_zero g1
    have kR := fun W (hb : Below w.heap.size w W) => refCan_any n e2 es A c x y r W h32 hr32 e3 e4 ⟨g2, g3⟩ (hr.below hb)
    have HCan := Lib.hid (show (codeGC n es x y r = 0 ∧ CanE es x y r) ↔ CanE es x y r by simp [hc])
    rw [hc] at kC kG
    clear hc g1 e1 e3 e4 hm hcap
    go_enter Try.func4, Try.ntmps4
    go_wp2_with fail
    refine kC.mono ?_
    rintro e w1 ⟨b, rfl, hb, hb1⟩
    have HB := Lib.hid hb
    clear hb
    go_wp2_with fail
    refine (kG _ hb1).mono ?_
    rintro e w2 ⟨rfl, hb2⟩
    have hb3 := hb1.trans (hb2.mono hb1.size)
    clear hb1 hb2
    go_wp2_with fail
    refine (kR _ hb3).mono ?_
    rintro e w3 ⟨b', rfl, hb', hb4⟩
    have hb5 := hb3.trans (hb4.mono hb3.size)
    have hbb : b = b' := Bool.eq_iff_iff.2 (by rw [hb']; simpa using HB.out)
    subst hbb
    clear hb3 hb4 hb'
    cases b <;>
    · go_wp2
      go_ret
      exact ⟨rfl, hb5⟩
  · have HCan := Lib.hid (show ¬ (codeGC n es x y r = 0 ∧ CanE es x y r) from fun h => hc h.1)
    generalize codeGC n es x y r = q at *
    have hq : (q != 0) = true := by simpa using hc
    have HQ := Lib.hid hc
    clear hc hm hcap
    go_enter Try.func4, Try.ntmps4
    go_wp2_with fail
    refine kC.mono ?_
    rintro e w1 ⟨b, rfl, hb, hb1⟩
    obtain rfl : b = false := by cases b with | false => rfl | true => exact absurd (hb.1 rfl).1 HQ.out
    clear hb
    go_wp2_with fail
    refine (kG _ hb1).mono ?_
    rintro e w2 ⟨rfl, hb2⟩
    have hb3 := hb1.trans (hb2.mono hb1.size)
    clear hb1 hb2
    go_wp2
    go_ret
    exact ⟨rfl, hb3⟩

set_option maxHeartbeats 4000000 in
theorem GrantSide_with {fn : Nat} (hfn : fn = 13) (hC : GCanOk fn) (n : Int) (es : List Ed) (A : Option Addr) (c : Nat) (a y d : Int) (r : Nat) (w : World) (hr32 : r < 4294967296) (hm : es.length ≤ maxLen) (hcap : es.length ≤ c) (h32 : E32 es) (hr : Row w A (edgesC es)) (hX : Laid w) :
    Calls Try.prog 7 #[.int .i64 n, .slice A es.length c, .int .i64 a, .int .i64 y, .int .i64 d, .int .u32 (r : Int)] w fun e w' => e = .returned (.bool true) ∧ Below w.heap.size w w' := by
  subst hfn
  have HK1 := Lib.hid (hC n es A c a y r w hm hcap h32 hr hr32 hX)
  have HK2 := Lib.hid (fun W (hb : Below w.heap.size w W) => hC n es A c d y r W hm hcap h32 (hr.below hb) hr32 (hX.below hb))
  have HKE := Lib.hid (fun W (hb : Below w.heap.size w W) => EdgesCheck_any n es A c W (hr.below hb))
  clear hX hcap
  by_cases hk : codeGC n es a y r = 0 ∧ codeGC n es d y r = 0
  · obtain ⟨hk1, hk2⟩ := hk
    obtain ⟨hE, a0, an, y0, yn, ay, pp⟩ := codeGC_zero hk1
    obtain ⟨_, c0, cn, _, _, cy, _⟩ := codeGC_zero hk2
    obtain ⟨e1, e2, e3, e4⟩ := codeE_zero hE
    rw [hk1] at HK1
    rw [hk2] at HK2
    rw [hE] at HKE
    have q1 : (a == y) = false := by rw [beq_eq_false_iff_ne]; exact ay
    have q2 : (d == y) = false := by rw [beq_eq_false_iff_ne]; exact cy
    have q3 : ((pop r : Int) != 1) = false := by simp [pp]
    have hlen : es.length ≤ 100000000 := by omega
    have kO1 := Lib.hid (fun W (hb : Below w.heap.size w W) => Over_any es A c a d W h32 hlen (hr.below hb))
    have kO2 := Lib.hid (fun W (hb : Below w.heap.size w W) => Over_any es A c d a W h32 hlen (hr.below hb))
    have kO3 := Lib.hid (fun W (hb : Below w.heap.size w W) => Over_any es A c a y W h32 hlen (hr.below hb))
    have u1 := overL_u32 h32 a d
    have u2 := overL_u32 h32 d a
    have u3 := overL_u32 h32 a y
    have HJ := Lib.hid (fun (h : (overL es a d ||| overL es d a) &&& 3 ≠ 0) => show CanE es a y r ↔ CanE es d y r from ⟨fun k => k.side (CnE.one (joined_adj h).symm), fun k => k.side (CnE.one (joined_adj h))⟩)
    have HH := Lib.hid (fun (h : sub r (overL es a y) = true) => show CanE es a y r from ⟨a, .here a, ay, h⟩)
    clear hk1 hk2 hE e1 e2 e3 e4 pp ay cy h32 hr hm
    have hor := u32_or_nat (overL es a d) (overL es d a) u1 u2
    have u4 : overL es a d ||| overL es d a < 4294967296 := or_u32 u1 u2
    have hand : bits .and .u32 ((overL es a d ||| overL es d a : Nat) : Int) 3 = (((overL es a d ||| overL es d a) &&& 3 : Nat) : Int) := u32_and_nat _ 3 u4 (by decide)
    generalize overL es a d ||| overL es d a = o3 at *
    generalize o3 &&& 3 = o4 at *
    generalize overL es a d = o1 at *
    generalize overL es d a = o2 at *
    generalize overL es a y = o5 at *
    go_enter Try.func7, Try.ntmps7
    go_wp2_with fail
    refine HK1.out.mono ?_
    rintro e w1 ⟨b1, rfl, hb1, hw1⟩
    have HB1 := Lib.hid hb1
    clear hb1
    go_wp2_with fail
    refine (HK2.out _ hw1).mono ?_
    rintro e w2 ⟨b2, rfl, hb2, hw2⟩
    have HB2 := Lib.hid hb2
    have hw3 := hw1.trans (hw2.mono hw1.size)
    clear hb2 hw1 hw2
    go_wp2_with fail
    refine (HKE.out _ hw3).mono ?_
    rintro e w4 ⟨rfl, hw4⟩
    have hw5 := hw3.trans (hw4.mono hw3.size)
    clear hw3 hw4
    go_wp2_with fail
    refine (Size_any r hr32 _).mono ?_
    rintro e w6 ⟨rfl, rfl⟩
    go_wp2_with fail
    refine (kO1.out _ hw5).mono ?_
    rintro e w7 ⟨rfl, hw7⟩
    have hw8 := hw5.trans (hw7.mono hw5.size)
    clear hw5 hw7
    go_wp2_with fail
    refine (kO2.out _ hw8).mono ?_
    rintro e w9 ⟨rfl, hw9⟩
    have hw10 := hw8.trans (hw9.mono hw8.size)
    clear hw8 hw9
    obtain ⟨sB, hsB⟩ : ∃ sB, sub r o5 = sB := ⟨_, rfl⟩
    have HS := Lib.hid hsB
    have hin := fun W => In_any r o5 hr32 u3 W
    simp only [show (r ||| o5 == o5) = sB from hsB] at hin
    clear hsB
    have HH2 := Lib.hid (show sB = true → b1 = true from fun h => HB1.out.2 ⟨trivial, HH.out (by rw [HS.out, h])⟩)
    by_cases ho : o4 = 0
    · subst ho
      go_wp2_with fail
      refine (kO3.out _ hw10).mono ?_
      rintro e w11 ⟨rfl, hw11⟩
      have hw12 := hw10.trans (hw11.mono hw10.size)
      clear hw10 hw11
      go_wp2_with fail
      refine (hin _).mono ?_
      rintro e w13 ⟨rfl, rfl⟩
      cases sB with
      | true =>
        obtain rfl := HH2.out rfl
        go_wp2
        go_ret
        exact ⟨rfl, hw12⟩
      | false =>
        go_wp2
        go_ret
        exact ⟨rfl, hw12⟩
    · have hb12 : b1 = b2 := Bool.eq_iff_iff.2 (by rw [HB1.out, HB2.out]; simpa using HJ.out ho)
      subst hb12
      have ho4 : ((o4 : Int) != 0) = true := by simpa using ho
      clear ho
      go_wp2_with fail
      refine (kO3.out _ hw10).mono ?_
      rintro e w11 ⟨rfl, hw11⟩
      have hw12 := hw10.trans (hw11.mono hw10.size)
      clear hw10 hw11
      go_wp2_with fail
      refine (hin _).mono ?_
      rintro e w13 ⟨rfl, rfl⟩
      cases sB with
      | true =>
        obtain rfl := HH2.out rfl
        go_wp2
        go_ret
        exact ⟨rfl, hw12⟩
      | false =>
        go_wp2
        go_ret
        exact ⟨rfl, hw12⟩
  · have HBad := Lib.hid hk
    have HOr := Lib.hid (show codeGC n es a y r = 0 → codeGC n es d y r ≠ 0 from fun h1 h2 => hk ⟨h1, h2⟩)
    clear hk hm h32 hr
    obtain ⟨k1, hk1⟩ : ∃ k1, k1 = codeGC n es a y r := ⟨_, rfl⟩
    obtain ⟨k2, hk2⟩ : ∃ k2, k2 = codeGC n es d y r := ⟨_, rfl⟩
    rw [← hk1] at HK1 HOr
    rw [← hk2] at HK2 HOr
    clear hk1 hk2
    by_cases hE : codeE n es = 0
    · have hEq : ((codeE n es) != 0) = false := by simp [hE]
      by_cases a0 : ¬ a < 0
      · by_cases y0 : ¬ y < 0
        · by_cases c0 : ¬ d < 0
          · by_cases an : ¬ n ≤ a
            · by_cases yn : ¬ n ≤ y
              · by_cases cn : ¬ n ≤ d
                · by_cases ay : ¬ a = y
                  · have hbqay : (a == y) = false := by rw [beq_eq_false_iff_ne]; exact ay
                    by_cases cy : ¬ d = y
                    · have hbqcy : (d == y) = false := by rw [beq_eq_false_iff_ne]; exact cy
                      by_cases pp : pop r = 1
                      · exact absurd ⟨codeGC_ok hE (by omega) pp, codeGC_ok hE (by omega) pp⟩ HBad.out
                      · have hpp : ((pop r : Int) != 1) = true := by simp; omega
                        clear pp
                        go_enter Try.func7, Try.ntmps7
                        go_wp2_with fail
                        refine HK1.out.mono ?_
                        rintro e w1 ⟨b1, rfl, hb1, hw1⟩
                        have HB1 := Lib.hid hb1
                        clear hb1
                        go_wp2_with fail
                        refine (HK2.out _ hw1).mono ?_
                        rintro e w2 ⟨b2, rfl, hb2, hw2⟩
                        have HB2 := Lib.hid hb2
                        have hw3 := hw1.trans (hw2.mono hw1.size)
                        clear hb2 hw1 hw2
                        go_wp2_with fail
                        refine (HKE.out _ hw3).mono ?_
                        rintro e w4 ⟨rfl, hw4⟩
                        have hw5 := hw3.trans (hw4.mono hw3.size)
                        clear hw3 hw4
                        go_wp2_with fail
                        refine (Size_any r hr32 _).mono ?_
                        rintro e w6 ⟨rfl, rfl⟩
                        cases hk1 : decide (k1 = 0) with
                        | true =>
                          have e1 := of_decide_eq_true hk1
                          have e2 : (k2 != 0) = true := by simpa using HOr.out e1
                          subst e1
                          clear hk1
                          go_wp2
                          go_ret
                          exact ⟨rfl, hw5⟩
                        | false =>
                          have e1 : (k1 != 0) = true := by simpa using of_decide_eq_false hk1
                          clear hk1
                          go_wp2
                          go_ret
                          exact ⟨rfl, hw5⟩
                    · have hbq : (d == y) = true := by rw [beq_iff_eq]; omega
                      clear cy
                      go_enter Try.func7, Try.ntmps7
                      go_wp2_with fail
                      refine HK1.out.mono ?_
                      rintro e w1 ⟨b1, rfl, hb1, hw1⟩
                      have HB1 := Lib.hid hb1
                      clear hb1
                      go_wp2_with fail
                      refine (HK2.out _ hw1).mono ?_
                      rintro e w2 ⟨b2, rfl, hb2, hw2⟩
                      have HB2 := Lib.hid hb2
                      have hw3 := hw1.trans (hw2.mono hw1.size)
                      clear hb2 hw1 hw2
                      go_wp2_with fail
                      refine (HKE.out _ hw3).mono ?_
                      rintro e w4 ⟨rfl, hw4⟩
                      have hw5 := hw3.trans (hw4.mono hw3.size)
                      clear hw3 hw4
                      cases hk1 : decide (k1 = 0) with
                      | true =>
                        have e1 := of_decide_eq_true hk1
                        have e2 : (k2 != 0) = true := by simpa using HOr.out e1
                        subst e1
                        clear hk1
                        go_wp2
                        go_ret
                        exact ⟨rfl, hw5⟩
                      | false =>
                        have e1 : (k1 != 0) = true := by simpa using of_decide_eq_false hk1
                        clear hk1
                        go_wp2
                        go_ret
                        exact ⟨rfl, hw5⟩
                  · have hbq : (a == y) = true := by rw [beq_iff_eq]; omega
                    clear ay
                    go_enter Try.func7, Try.ntmps7
                    go_wp2_with fail
                    refine HK1.out.mono ?_
                    rintro e w1 ⟨b1, rfl, hb1, hw1⟩
                    have HB1 := Lib.hid hb1
                    clear hb1
                    go_wp2_with fail
                    refine (HK2.out _ hw1).mono ?_
                    rintro e w2 ⟨b2, rfl, hb2, hw2⟩
                    have HB2 := Lib.hid hb2
                    have hw3 := hw1.trans (hw2.mono hw1.size)
                    clear hb2 hw1 hw2
                    go_wp2_with fail
                    refine (HKE.out _ hw3).mono ?_
                    rintro e w4 ⟨rfl, hw4⟩
                    have hw5 := hw3.trans (hw4.mono hw3.size)
                    clear hw3 hw4
                    cases hk1 : decide (k1 = 0) with
                    | true =>
                      have e1 := of_decide_eq_true hk1
                      have e2 : (k2 != 0) = true := by simpa using HOr.out e1
                      subst e1
                      clear hk1
                      go_wp2
                      go_ret
                      exact ⟨rfl, hw5⟩
                    | false =>
                      have e1 : (k1 != 0) = true := by simpa using of_decide_eq_false hk1
                      clear hk1
                      go_wp2
                      go_ret
                      exact ⟨rfl, hw5⟩
                · go_enter Try.func7, Try.ntmps7
                  go_wp2_with fail
                  refine HK1.out.mono ?_
                  rintro e w1 ⟨b1, rfl, hb1, hw1⟩
                  have HB1 := Lib.hid hb1
                  clear hb1
                  go_wp2_with fail
                  refine (HK2.out _ hw1).mono ?_
                  rintro e w2 ⟨b2, rfl, hb2, hw2⟩
                  have HB2 := Lib.hid hb2
                  have hw3 := hw1.trans (hw2.mono hw1.size)
                  clear hb2 hw1 hw2
                  go_wp2_with fail
                  refine (HKE.out _ hw3).mono ?_
                  rintro e w4 ⟨rfl, hw4⟩
                  have hw5 := hw3.trans (hw4.mono hw3.size)
                  clear hw3 hw4
                  cases hk1 : decide (k1 = 0) with
                  | true =>
                    have e1 := of_decide_eq_true hk1
                    have e2 : (k2 != 0) = true := by simpa using HOr.out e1
                    subst e1
                    clear hk1
                    go_wp2
                    go_ret
                    exact ⟨rfl, hw5⟩
                  | false =>
                    have e1 : (k1 != 0) = true := by simpa using of_decide_eq_false hk1
                    clear hk1
                    go_wp2
                    go_ret
                    exact ⟨rfl, hw5⟩
              · go_enter Try.func7, Try.ntmps7
                go_wp2_with fail
                refine HK1.out.mono ?_
                rintro e w1 ⟨b1, rfl, hb1, hw1⟩
                have HB1 := Lib.hid hb1
                clear hb1
                go_wp2_with fail
                refine (HK2.out _ hw1).mono ?_
                rintro e w2 ⟨b2, rfl, hb2, hw2⟩
                have HB2 := Lib.hid hb2
                have hw3 := hw1.trans (hw2.mono hw1.size)
                clear hb2 hw1 hw2
                go_wp2_with fail
                refine (HKE.out _ hw3).mono ?_
                rintro e w4 ⟨rfl, hw4⟩
                have hw5 := hw3.trans (hw4.mono hw3.size)
                clear hw3 hw4
                cases hk1 : decide (k1 = 0) with
                | true =>
                  have e1 := of_decide_eq_true hk1
                  have e2 : (k2 != 0) = true := by simpa using HOr.out e1
                  subst e1
                  clear hk1
                  go_wp2
                  go_ret
                  exact ⟨rfl, hw5⟩
                | false =>
                  have e1 : (k1 != 0) = true := by simpa using of_decide_eq_false hk1
                  clear hk1
                  go_wp2
                  go_ret
                  exact ⟨rfl, hw5⟩
            · go_enter Try.func7, Try.ntmps7
              go_wp2_with fail
              refine HK1.out.mono ?_
              rintro e w1 ⟨b1, rfl, hb1, hw1⟩
              have HB1 := Lib.hid hb1
              clear hb1
              go_wp2_with fail
              refine (HK2.out _ hw1).mono ?_
              rintro e w2 ⟨b2, rfl, hb2, hw2⟩
              have HB2 := Lib.hid hb2
              have hw3 := hw1.trans (hw2.mono hw1.size)
              clear hb2 hw1 hw2
              go_wp2_with fail
              refine (HKE.out _ hw3).mono ?_
              rintro e w4 ⟨rfl, hw4⟩
              have hw5 := hw3.trans (hw4.mono hw3.size)
              clear hw3 hw4
              cases hk1 : decide (k1 = 0) with
              | true =>
                have e1 := of_decide_eq_true hk1
                have e2 : (k2 != 0) = true := by simpa using HOr.out e1
                subst e1
                clear hk1
                go_wp2
                go_ret
                exact ⟨rfl, hw5⟩
              | false =>
                have e1 : (k1 != 0) = true := by simpa using of_decide_eq_false hk1
                clear hk1
                go_wp2
                go_ret
                exact ⟨rfl, hw5⟩
          · go_enter Try.func7, Try.ntmps7
            go_wp2_with fail
            refine HK1.out.mono ?_
            rintro e w1 ⟨b1, rfl, hb1, hw1⟩
            have HB1 := Lib.hid hb1
            clear hb1
            go_wp2_with fail
            refine (HK2.out _ hw1).mono ?_
            rintro e w2 ⟨b2, rfl, hb2, hw2⟩
            have HB2 := Lib.hid hb2
            have hw3 := hw1.trans (hw2.mono hw1.size)
            clear hb2 hw1 hw2
            go_wp2_with fail
            refine (HKE.out _ hw3).mono ?_
            rintro e w4 ⟨rfl, hw4⟩
            have hw5 := hw3.trans (hw4.mono hw3.size)
            clear hw3 hw4
            cases hk1 : decide (k1 = 0) with
            | true =>
              have e1 := of_decide_eq_true hk1
              have e2 : (k2 != 0) = true := by simpa using HOr.out e1
              subst e1
              clear hk1
              go_wp2
              go_ret
              exact ⟨rfl, hw5⟩
            | false =>
              have e1 : (k1 != 0) = true := by simpa using of_decide_eq_false hk1
              clear hk1
              go_wp2
              go_ret
              exact ⟨rfl, hw5⟩
        · go_enter Try.func7, Try.ntmps7
          go_wp2_with fail
          refine HK1.out.mono ?_
          rintro e w1 ⟨b1, rfl, hb1, hw1⟩
          have HB1 := Lib.hid hb1
          clear hb1
          go_wp2_with fail
          refine (HK2.out _ hw1).mono ?_
          rintro e w2 ⟨b2, rfl, hb2, hw2⟩
          have HB2 := Lib.hid hb2
          have hw3 := hw1.trans (hw2.mono hw1.size)
          clear hb2 hw1 hw2
          go_wp2_with fail
          refine (HKE.out _ hw3).mono ?_
          rintro e w4 ⟨rfl, hw4⟩
          have hw5 := hw3.trans (hw4.mono hw3.size)
          clear hw3 hw4
          cases hk1 : decide (k1 = 0) with
          | true =>
            have e1 := of_decide_eq_true hk1
            have e2 : (k2 != 0) = true := by simpa using HOr.out e1
            subst e1
            clear hk1
            go_wp2
            go_ret
            exact ⟨rfl, hw5⟩
          | false =>
            have e1 : (k1 != 0) = true := by simpa using of_decide_eq_false hk1
            clear hk1
            go_wp2
            go_ret
            exact ⟨rfl, hw5⟩
      · go_enter Try.func7, Try.ntmps7
        go_wp2_with fail
        refine HK1.out.mono ?_
        rintro e w1 ⟨b1, rfl, hb1, hw1⟩
        have HB1 := Lib.hid hb1
        clear hb1
        go_wp2_with fail
        refine (HK2.out _ hw1).mono ?_
        rintro e w2 ⟨b2, rfl, hb2, hw2⟩
        have HB2 := Lib.hid hb2
        have hw3 := hw1.trans (hw2.mono hw1.size)
        clear hb2 hw1 hw2
        go_wp2_with fail
        refine (HKE.out _ hw3).mono ?_
        rintro e w4 ⟨rfl, hw4⟩
        have hw5 := hw3.trans (hw4.mono hw3.size)
        clear hw3 hw4
        cases hk1 : decide (k1 = 0) with
        | true =>
          have e1 := of_decide_eq_true hk1
          have e2 : (k2 != 0) = true := by simpa using HOr.out e1
          subst e1
          clear hk1
          go_wp2
          go_ret
          exact ⟨rfl, hw5⟩
        | false =>
          have e1 : (k1 != 0) = true := by simpa using of_decide_eq_false hk1
          clear hk1
          go_wp2
          go_ret
          exact ⟨rfl, hw5⟩
    · have hEq : ((codeE n es) != 0) = true := by simpa using hE
      have HE9 := Lib.hid hE
      clear hE
      go_enter Try.func7, Try.ntmps7
      go_wp2_with fail
      refine HK1.out.mono ?_
      rintro e w1 ⟨b1, rfl, hb1, hw1⟩
      have HB1 := Lib.hid hb1
      clear hb1
      go_wp2_with fail
      refine (HK2.out _ hw1).mono ?_
      rintro e w2 ⟨b2, rfl, hb2, hw2⟩
      have HB2 := Lib.hid hb2
      have hw3 := hw1.trans (hw2.mono hw1.size)
      clear hb2 hw1 hw2
      go_wp2_with fail
      refine (HKE.out _ hw3).mono ?_
      rintro e w4 ⟨rfl, hw4⟩
      have hw5 := hw3.trans (hw4.mono hw3.size)
      clear hw3 hw4
      cases hk1 : decide (k1 = 0) with
      | true =>
        have e1 := of_decide_eq_true hk1
        have e2 : (k2 != 0) = true := by simpa using HOr.out e1
        subst e1
        clear hk1
        go_wp2
        go_ret
        exact ⟨rfl, hw5⟩
      | false =>
        have e1 : (k1 != 0) = true := by simpa using of_decide_eq_false hk1
        clear hk1
        go_wp2
        go_ret
        exact ⟨rfl, hw5⟩

end Go.Proofs.Ytlpjpnlfmjehnaa
