/- The law RightsSafe, walked from the contracts of Safe, Steps and Close. -/
import Derived.Test.YthgmbiaajgpaaaaLawR1
namespace Go.Proofs.Ythgmbiaajgpaaaa
open Go.RowKit

set_option maxHeartbeats 4000000 in
theorem RightsSafe_with {fs ft fc : Nat} (hfs : fs = 12) (hft : ft = 15) (hfc : fc = 8) (hS : RtSafeOk fs) (hT : RtStepsOk ft) (hC : RtCloseOk fc) (n : Int) (m : Mat) (A : Option Addr) (c : Nat) (l : List Chn) (A2 : Option Addr) (c2 : Nat) (x y : Int) (r : Nat) (w : World) (hm : m.length ≤ maxLen) (hcap : m.length ≤ c) (hr : Mats w A m) (hm2 : l.length ≤ maxLen) (hcap2 : l.length ≤ c2) (hc32 : C32 l) (hr2 : Row w A2 (chnsC l)) (hr32 : r < 4294967296) (hX : Laid w) :
    Calls Try.prog 7 #[.int .i64 n, .slice A m.length c, .slice A2 l.length c2, .int .i64 x, .int .i64 y, .int .u32 (r : Int)] w fun e w' => e = .returned (.bool true) ∧ Below w.heap.size w w' := by
  subst hfs
  subst hft
  subst hfc
  have HKS := Lib.hid (hS n m A c l A2 c2 x y r w hm hcap hr hm2 hcap2 hc32 hr2 hr32 hX)
  have HKT := Lib.hid (fun W (hb : Below w.heap.size w W) => hT n m A c l A2 c2 x y r W hm hcap (hr.below hb) hm2 hcap2 hc32 (hr2.below hb) hr32 (hX.below hb))
  have HKC := Lib.hid (fun W (hb : Below w.heap.size w W) => hC n m A c l A2 c2 W hm hcap (hr.below hb) hm2 hcap2 hc32 (hr2.below hb) (hX.below hb))
  have HC := Lib.hid (fun W (hb : Below w.heap.size w W) => MatrixCheck_any n m A c A2 l.length c2 W hm (hr.below hb))
  clear hX hcap2 hS hT hC
  by_cases h0 : codeXC n m l.length x y = 0
  · obtain ⟨h1, hx0, hxn, hy0, hyn⟩ := codeXC_zero h0
    obtain ⟨g1, g2, g3, g4⟩ := codeX_zero h1
    obtain ⟨n, rfl⟩ := Int.eq_ofNat_of_zero_le (show 0 ≤ n by omega)
    obtain ⟨x, rfl⟩ := Int.eq_ofNat_of_zero_le hx0
    obtain ⟨y, rfl⟩ := Int.eq_ofNat_of_zero_le hy0
    have hF := Lib.hid hr.u2
    have e1 : m = tab2 n (atM m) := sq_tab2 g4
    have hlen : m.length = n := by rw [e1, tab2_len]
    have HU := Lib.hid (show U2 (closeX n l (atM m)) from iterX_u32 hF.out hc32 _)
    have HRS := Lib.hid (fun (b : Bool) (h : b = true ↔ codeXC (n : Int) m l.length x y = 0 ∧ sub r (closeX (n : Int).toNat l (atM m) (x : Int).toNat (y : Int).toNat) = false) => show b = !(sub r (closeX n l (atM m) x y)) by
      simp only [Int.toNat_natCast, h0, true_and] at h
      cases hs : sub r (closeX n l (atM m) x y) <;> rw [hs] at h <;> cases b <;> simp at h ⊢)
    have HRT := Lib.hid (fun (k f : Int) (h : StepR n m l x y r k f) => show (sub r (closeX n l (atM m) x y) = false → k = 0 ∧ f = 5) ∧ (sub r (closeX n l (atM m) x y) = true → f = 0 ∧ (k == 0) = sub r (atM m x y)) from ⟨h.2.1 h0, fun hs => by
      obtain ⟨hf, t, rfl, _, ht, hb⟩ := h.2.2 h0 hs
      refine ⟨hf, ?_⟩
      simp only [Int.toNat_natCast] at ht hb
      cases t with
      | zero => rw [show sub r (atM m x y) = true from ht]; rfl
      | succ t => rw [show sub r (atM m x y) = false from hb 0 (by omega)]; simp; omega⟩)
    have HRC := Lib.hid (fun g (h : CloseR n m l g) => show g = tab2 n (closeX n l (atM m)) from h.1 h1)
    have HM0 := Lib.hid (show Mats w A (tab2 n (atM m)) by rw [← e1]; exact hr)
    rw [h1] at HC HKC
    rw [h0] at HKS
    have HKS2 := Lib.hid (show Calls Try.prog 12 #[.int .i64 (n : Int), .slice A m.length c, .slice A2 l.length c2, .int .i64 (x : Int), .int .i64 (y : Int), .int .u32 (r : Int)] w (fun e w' => ∃ b : Bool, e = .returned (.tuple #[.bool b, .int .i64 0]) ∧ b = !(sub r (closeX n l (atM m) x y)) ∧ Below w.heap.size w w') from
      HKS.out.mono fun e w' ⟨b, he, hb, hw⟩ => ⟨b, he, HRS.out b (by rw [h0]; exact hb), hw⟩)
    clear HKS HRS
    have hn6 : n ≤ 6 := by omega
    generalize closeX n l (atM m) = G at *
    clear h0 h1 g1 g2 g3 g4 e1 hr hc32 hr2 hm hm2 hcap hx0 hy0
    rw [hlen] at HKS2 HKT HKC HC ⊢
    clear hlen
    generalize atM m = F at *
    go_enter Try.func7, Try.ntmps7
    go_wp2_with fail
    refine HKS2.out.mono ?_
    rintro e w1 ⟨b, rfl, hb, hb1⟩
    have HB1 := Lib.hid hb1
    clear hb1 HKS2
    go_wp2_with fail
    refine (HKT.out _ HB1.out).mono ?_
    rintro e w2 ⟨k, f, rfl, hres, hb2⟩
    obtain ⟨hb0, hb3⟩ := HRT.out _ _ hres
    have HN := Lib.hid hb0
    have HS := Lib.hid hb3
    have HB2 := Lib.hid (HB1.out.trans (hb2.mono HB1.out.size))
    clear hb0 hb3 hb2 hres HRT HKT
    go_wp2_with fail
    refine (HC.out _ HB2.out).mono ?_
    rintro e w3 ⟨rfl, rfl⟩
    go_wp2_with fail
    refine (HKC.out _ HB2.out).mono ?_
    rintro e w4 ⟨B4, k4, g, rfl, hres, hk4, hg4, hb4⟩
    obtain rfl := HRC.out _ hres
    obtain ⟨bA, oA, Ai, ci, rfl, a0, _, _, _, rowi⟩ := hg4.row (i := x) (tabA_get _ (by omega))
    rw [tabA_length] at a0
    rw [tab2_len] at *
    obtain ⟨b1, o1, rfl, hb9⟩ := rowi.at (k := y) (by simp [words]; omega)
    have y1 := hb9 y _ (words_at (tabA_get (G x) (by omega)))
    have HB4 := Lib.hid (HB2.out.trans (hb4.mono HB2.out.size))
    obtain ⟨bA', oA', Ai', ci', rfl, a0', _, _, _, rowi'⟩ := (HM0.out.below HB4.out).row (i := x) (tabA_get _ (by omega))
    rw [tabA_length] at a0'
    obtain ⟨b1', o1', rfl, hb9'⟩ := rowi'.at (k := y) (by simp [words]; omega)
    have y1' := hb9' y _ (words_at (tabA_get (F x) (by omega)))
    clear hg4 hb4 hb9 rowi hb9' rowi' hres HRC HM0
    have kI := In_any r (G x y) hr32 (HU.out x y) w4
    rw [show (r ||| G x y == G x y) = sub r (G x y) from rfl] at kI
    have kJ := In_any r (F x y) hr32 (hF.out x y) w4
    rw [show (r ||| F x y == F x y) = sub r (F x y) from rfl] at kJ
    cases hs : sub r (G x y) with
    | false =>
      obtain ⟨rfl, rfl⟩ := HN.out hs
      rw [hs] at kI hb
      subst hb
      clear hs HN HS kJ
      go_wp2_with fail
      refine kI.mono ?_
      rintro e w5 ⟨rfl, rfl⟩
      go_wp2
      go_ret
      exact ⟨rfl, HB4.out⟩
    | true =>
      obtain ⟨rfl, hk⟩ := HS.out hs
      rw [hs] at kI hb
      subst hb
      rw [← hk] at kJ
      clear hs HN HS hk
      go_wp2_with fail
      refine kI.mono ?_
      rintro e w5 ⟨rfl, rfl⟩
      go_wp2_with fail
      refine kJ.mono ?_
      rintro e w5 ⟨rfl, rfl⟩
      cases hk : (k == 0)
      · go_wp2
        go_ret
        exact ⟨rfl, HB4.out⟩
      · go_wp2
        go_ret
        exact ⟨rfl, HB4.out⟩
  · have HRT := Lib.hid (fun k f (h : StepR n m l x y r k f) => show k = 0 ∧ f = codeXC n m l.length x y from h.1 h0)
    have hne : (codeXC n m l.length x y != 0) = true := by simpa using h0
    by_cases h1 : codeX n m l.length = 0
    · have hg : x < 0 ∨ n ≤ x ∨ y < 0 ∨ n ≤ y := by
        by_cases hg : x < 0 ∨ n ≤ x ∨ y < 0 ∨ n ≤ y
        · exact hg
        · exact absurd (show codeXC n m l.length x y = 0 by unfold codeXC; rw [if_neg (by simp [h1]), if_neg hg]) h0
      rw [h1] at HC
      clear h0 h1 hr hc32 hr2 hm hm2 hcap HKC
      generalize codeXC n m l.length x y = q at *
      by_cases h1 : x < 0
      · clear hg
        go_enter Try.func7, Try.ntmps7
        go_wp2_with fail
        refine HKS.out.mono ?_
        rintro e w1 ⟨b, rfl, hres, hb1⟩
        have HB1 := Lib.hid hb1
        clear hb1 hres
        go_wp2_with fail
        refine (HKT.out _ HB1.out).mono ?_
        rintro e w2 ⟨k, f, rfl, hres, hb2⟩
        obtain ⟨rfl, rfl⟩ := HRT.out _ _ hres
        have HB2 := Lib.hid (HB1.out.trans (hb2.mono HB1.out.size))
        clear hb2 hres
        go_wp2_with fail
        refine (HC.out _ HB2.out).mono ?_
        rintro e w3 ⟨rfl, rfl⟩
        go_wp2
        go_ret
        exact ⟨rfl, HB2.out⟩
      · by_cases h2 : y < 0
        · clear hg
          go_enter Try.func7, Try.ntmps7
          go_wp2_with fail
          refine HKS.out.mono ?_
          rintro e w1 ⟨b, rfl, hres, hb1⟩
          have HB1 := Lib.hid hb1
          clear hb1 hres
          go_wp2_with fail
          refine (HKT.out _ HB1.out).mono ?_
          rintro e w2 ⟨k, f, rfl, hres, hb2⟩
          obtain ⟨rfl, rfl⟩ := HRT.out _ _ hres
          have HB2 := Lib.hid (HB1.out.trans (hb2.mono HB1.out.size))
          clear hb2 hres
          go_wp2_with fail
          refine (HC.out _ HB2.out).mono ?_
          rintro e w3 ⟨rfl, rfl⟩
          go_wp2
          go_ret
          exact ⟨rfl, HB2.out⟩
        · by_cases h3 : n ≤ x
          · clear hg
            go_enter Try.func7, Try.ntmps7
            go_wp2_with fail
            refine HKS.out.mono ?_
            rintro e w1 ⟨b, rfl, hres, hb1⟩
            have HB1 := Lib.hid hb1
            clear hb1 hres
            go_wp2_with fail
            refine (HKT.out _ HB1.out).mono ?_
            rintro e w2 ⟨k, f, rfl, hres, hb2⟩
            obtain ⟨rfl, rfl⟩ := HRT.out _ _ hres
            have HB2 := Lib.hid (HB1.out.trans (hb2.mono HB1.out.size))
            clear hb2 hres
            go_wp2_with fail
            refine (HC.out _ HB2.out).mono ?_
            rintro e w3 ⟨rfl, rfl⟩
            go_wp2
            go_ret
            exact ⟨rfl, HB2.out⟩
          · have h4 : n ≤ y := by omega
            clear hg
            go_enter Try.func7, Try.ntmps7
            go_wp2_with fail
            refine HKS.out.mono ?_
            rintro e w1 ⟨b, rfl, hres, hb1⟩
            have HB1 := Lib.hid hb1
            clear hb1 hres
            go_wp2_with fail
            refine (HKT.out _ HB1.out).mono ?_
            rintro e w2 ⟨k, f, rfl, hres, hb2⟩
            obtain ⟨rfl, rfl⟩ := HRT.out _ _ hres
            have HB2 := Lib.hid (HB1.out.trans (hb2.mono HB1.out.size))
            clear hb2 hres
            go_wp2_with fail
            refine (HC.out _ HB2.out).mono ?_
            rintro e w3 ⟨rfl, rfl⟩
            go_wp2
            go_ret
            exact ⟨rfl, HB2.out⟩
    · have hn1 : (codeX n m l.length != 0) = true := by simpa using h1
      clear h0 h1 hr hc32 hr2 hm hm2 hcap HKC
      generalize codeXC n m l.length x y = q at *
      generalize codeX n m l.length = q2 at *
      go_enter Try.func7, Try.ntmps7
      go_wp2_with fail
      refine HKS.out.mono ?_
      rintro e w1 ⟨b, rfl, hres, hb1⟩
      have HB1 := Lib.hid hb1
      clear hb1 hres
      go_wp2_with fail
      refine (HKT.out _ HB1.out).mono ?_
      rintro e w2 ⟨k, f, rfl, hres, hb2⟩
      obtain ⟨rfl, rfl⟩ := HRT.out _ _ hres
      have HB2 := Lib.hid (HB1.out.trans (hb2.mono HB1.out.size))
      clear hb2 hres
      go_wp2_with fail
      refine (HC.out _ HB2.out).mono ?_
      rintro e w3 ⟨rfl, rfl⟩
      go_wp2
      go_ret
      exact ⟨rfl, HB2.out⟩

end Go.Proofs.Ythgmbiaajgpaaaa
