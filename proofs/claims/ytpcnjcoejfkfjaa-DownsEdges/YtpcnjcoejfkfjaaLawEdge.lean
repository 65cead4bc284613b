/- The laws on filling and edges. -/
import Derived.Test.YtpcnjcoejfkfjaaDownSpec
import Derived.Test.YtpcnjcoejfkfjaaWFree
namespace Go.Proofs.Ytpcnjcoejfkfjaa
open Go.RowKit

theorem or_in {n s t : Nat} (hs : s < one n) (ht : t < one n) : (s ||| t == t) = true ↔ ∀ a, a < n → s.testBit a = true → t.testBit a = true := by
  rw [beq_iff_eq]
  constructor
  · intro h a _ hsa
    rw [← h, Nat.testBit_or, hsa]; rfl
  · intro h
    refine word_ext (or_lt_one hs ht) ht fun a ha => ?_
    rw [Nat.testBit_or]
    cases e : s.testBit a with
    | false => simp
    | true => rw [h a ha e]; rfl

set_option maxHeartbeats 2000000 in
theorem DownsEdge_with (hF : FillOk 14) (hE : EdgeOk 18) (n : Int) (ps : List (Int × Int)) (A : Option Addr) (c s : Nat) (w : World) (hs : s < 4294967296) (hm : ps.length ≤ maxLen) (hr : Row w A (pairsC ps)) (hX : Laid w) :
    Calls Try.prog 7 #[.int .i64 n, .slice A ps.length c, .int .u32 s] w fun e w' => e = .returned (.bool true) ∧ Below w.heap.size w w' := by
  have key := hF n ps A c s w hs hm hr hX
  by_cases hc : code n ps = 0
  · obtain ⟨h2, h3, h4⟩ := code_zero hc
    obtain ⟨n, rfl⟩ := Int.eq_ofNat_of_zero_le (show 0 ≤ n by unfold Large at h2; omega)
    obtain ⟨hn1, hn6, hl⟩ : 1 ≤ n ∧ n ≤ 6 ∧ ps.length ≤ 20 := by unfold Large at h2; omega
    have HC := Lib.hid hc
    have HY := Lib.hid h4
    have h64 := one_le_64 hn6
    clear h2 h3 h4 hc
    by_cases hk : s < one n
    · rw [codeS_ok HC.out hk, if_pos rfl, Int.toNat_natCast] at key
      have hd : fillW n ps s < one n := fill_lt _ _ _
      have hg : edgeW n ps (fillW n ps s) < one n := edge_lt _ _ _
      have key2 := fun w' hr hX => hE n ps A c (fillW n ps s) w' (by omega) hm hr hX
      rw [codeE_ok HC.out hd (isDown_iff.2 (fill_down n ps s)), if_pos rfl, Int.toNat_natCast] at key2
      have key3 := fun w' hr hX => hF n ps A c (edgeW n ps (fillW n ps s)) w' (by omega) hm hr hX
      rw [codeS_ok HC.out hg, if_pos rfl, Int.toNat_natCast, fill_edge HY.out hd (fill_down n ps s)] at key3
      have HI1 := Lib.hid ((or_in hk hd).2 fun a ha h => fill_sub ha h)
      have HI2 := Lib.hid ((or_in hg hk).2 fun a ha h => edge_fill_sub h)
      have HFr := Lib.hid (edge_free n ps (fillW n ps s))
      have hfit : decide (s < one n) = true := by simpa using hk
      generalize edgeW n ps (fillW n ps s) = g at *
      generalize fillW n ps s = d at *
      go_enter Try.func7, Try.ntmps7
      go_wp2_with fail
      refine key.mono ?_
      rintro e w1 ⟨rfl, hb1⟩
      go_wp2_with fail
      refine (ordered_any n ps A c _ hm (hr.below hb1)).mono ?_
      rintro e w2 ⟨rfl, hb2⟩
      rw [HC.out]
      have hb02 := hb1.trans (hb2.mono hb1.size)
      clear hb1 hb2 key
      go_wp2_with fail
      refine (Fits_any n s (by omega) _).mono ?_
      rintro e w3 ⟨rfl, rfl⟩
      rw [hfit]
      go_wp2_with fail
      refine (key2 _ (hr.below hb02) (hX.below hb02)).mono ?_
      rintro e w4 ⟨rfl, hb4⟩
      have hb04 := hb02.trans (hb4.mono hb02.size)
      clear hb02 hb4
      go_wp2_with fail
      refine (key3 _ (hr.below hb04) (hX.below hb04)).mono ?_
      rintro e w5 ⟨rfl, hb5⟩
      have hb05 := hb04.trans (hb5.mono hb04.size)
      clear hb04 hb5 key2 key3 hF hE
      go_wp2_with fail
      refine (In_any s d (by omega) (by omega) _).mono ?_
      rintro e w6 ⟨rfl, rfl⟩
      rw [HI1.out]
      go_wp2_with fail
      refine (In_any g s (by omega) (by omega) _).mono ?_
      rintro e w6 ⟨rfl, rfl⟩
      rw [HI2.out]
      go_wp2_with fail
      refine (Free_any n g ps A c _ (hr.below hb05) hn6 hl (by omega)).mono ?_
      rintro e w7 ⟨rfl, hb7⟩
      rw [HFr.out]
      have HB := Lib.hid (hb05.trans (hb7.mono hb05.size))
      clear hb05 hb7
      go_wp2
      go_ret
      exact ⟨rfl, HB.out⟩
    · rw [codeS_no HC.out hk, if_neg (by decide)] at key
      have hfit : decide (s < one n) = false := by simpa using hk
      go_enter Try.func7, Try.ntmps7
      go_wp2_with fail
      refine key.mono ?_
      rintro e w1 ⟨rfl, hb1⟩
      go_wp2_with fail
      refine (ordered_any n ps A c _ hm (hr.below hb1)).mono ?_
      rintro e w2 ⟨rfl, hb2⟩
      rw [HC.out]
      have hb02 := hb1.trans (hb2.mono hb1.size)
      clear hb1 hb2 key
      go_wp2_with fail
      refine (Fits_any n s (by omega) _).mono ?_
      rintro e w3 ⟨rfl, rfl⟩
      rw [hfit]
      clear hk
      go_wp2
      go_ret
      exact ⟨rfl, hb02⟩
  · rw [codeS_err hc, if_neg hc] at key
    go_enter Try.func7, Try.ntmps7
    go_wp2_with fail
    refine key.mono ?_
    rintro e w1 ⟨rfl, hb1⟩
    go_wp2_with fail
    refine (ordered_any n ps A c _ hm (hr.below hb1)).mono ?_
    rintro e w2 ⟨rfl, hb2⟩
    have HB := Lib.hid (hb1.trans (hb2.mono hb1.size))
    clear key
    generalize code n ps = k at *
    have hk : (k == 0) = false := by simpa using hc
    have hk2 : (k != 0) = true := by simpa using hc
    clear hc hb1 hb2
    go_wp2
    go_ret
    exact ⟨rfl, HB.out⟩

set_option maxHeartbeats 2000000 in
theorem DownsFills_with (hF : FillOk 14) (n : Int) (ps : List (Int × Int)) (A : Option Addr) (c s : Nat) (w : World) (hs : s < 4294967296) (hm : ps.length ≤ maxLen) (hr : Row w A (pairsC ps)) (hX : Laid w) :
    Calls Try.prog 5 #[.int .i64 n, .slice A ps.length c, .int .u32 s] w fun e w' => e = .returned (.bool true) ∧ Below w.heap.size w w' := by
  have key := hF n ps A c s w hs hm hr hX
  by_cases hc : codeS n ps s = 0
  · have hc0 : code n ps = 0 := by
      by_cases h : code n ps = 0
      · exact h
      · rw [codeS_err h] at hc; exact hc
    obtain ⟨h2, h3, h4⟩ := code_zero hc0
    obtain ⟨n, rfl⟩ := Int.eq_ofNat_of_zero_le (show 0 ≤ n by unfold Large at h2; omega)
    obtain ⟨hn1, hn6, hl⟩ : 1 ≤ n ∧ n ≤ 6 ∧ ps.length ≤ 20 := by unfold Large at h2; omega
    have hk : s < one n := by
      refine Classical.byContradiction fun h => ?_
      rw [codeS_no hc0 h] at hc
      cases hc
    have HC := Lib.hid hc
    have h64 := one_le_64 hn6
    have h1n := one_int n (by omega)
    rw [hc, if_pos rfl, Int.toNat_natCast] at key
    have hd : fillW n ps s < one n := fill_lt _ _ _
    have HI1 := Lib.hid ((or_in hk hd).2 fun a ha h => fill_sub ha h)
    have HDn := Lib.hid (isDown_iff.2 (fill_down n ps s))
    have HLe := Lib.hid (fun t (ht : t < one n) (h1 : (s ||| t == t) = true) (h2 : downB n ps t = true) => (or_in hd ht).2 fun a _ h => fill_least (isDown_iff.1 h2) ((or_in hk ht).1 h1) h)
    have hfit : decide (fillW n ps s < one n) = true := by simpa using hd
    clear h2 h3 h4 hc hc0
    generalize fillW n ps s = d at *
    go_enter Try.func5, Try.ntmps5
    go_wp2_with fail
    refine key.mono ?_
    rintro e w1 ⟨rfl, hb1⟩
    go_wp2_with fail
    refine (setCode_any n ps A c s _ hm (hr.below hb1)).mono ?_
    rintro e w2 ⟨rfl, hb2⟩
    rw [HC.out]
    have hb02 := hb1.trans (hb2.mono hb1.size)
    clear hb1 hb2 key
    go_wp2
    go_loopw [10] (fun tv wr => ∃ t : Nat, tv = .int .u32 t ∧ t ≤ one n ∧ Below w.heap.size w wr) (fun tv _ => one n - (intOf tv).toNat)
    case atStart => exact ⟨0, rfl, Nat.zero_le _, hb02⟩
    case round =>
      clear hb02
      obtain ⟨t, rfl, ht, hbel⟩ := hrel
      by_cases hlt : t < one n
      · go_wp2_with fail
        refine (In_any s t (by omega) (by omega) _).mono ?_
        rintro e w3 ⟨rfl, rfl⟩
        cases h1 : (s ||| t == t) with
        | false =>
          clear h1
          go_wp2
          go_roundw
          case rel => exact ⟨t + 1, by go_num, by omega, hbel⟩
          case measure => simp [intOf]; omega
        | true =>
          have H1 := Lib.hid h1
          clear h1
          go_wp2_with fail
          refine (Down_any n t ps A c _ (hr.below hbel) hn6 hl (by omega)).mono ?_
          rintro e w4 ⟨rfl, hb4⟩
          have hbel4 := hbel.trans (hb4.mono hbel.size)
          clear hb4
          cases h2 : downB n ps t with
          | false =>
            clear h2
            go_wp2
            go_roundw
            case rel => exact ⟨t + 1, by go_num, by omega, hbel4⟩
            case measure => simp [intOf]; omega
          | true =>
            have H3 := Lib.hid (HLe.out t hlt H1.out h2)
            clear h2
            go_wp2_with fail
            refine (In_any d t (by omega) (by omega) _).mono ?_
            rintro e w5 ⟨rfl, rfl⟩
            rw [H3.out]
            go_wp2
            go_roundw
            case rel => exact ⟨t + 1, by go_num, by omega, hbel4⟩
            case measure => simp [intOf]; omega
      · have hte : t = one n := by omega
        subst hte
        go_wp2_with fail
        refine (In_any s d (by omega) (by omega) _).mono ?_
        rintro e w3 ⟨rfl, rfl⟩
        rw [HI1.out]
        go_wp2_with fail
        refine (Fits_any n d (by omega) _).mono ?_
        rintro e w3 ⟨rfl, rfl⟩
        rw [hfit]
        go_wp2_with fail
        refine (Down_any n d ps A c _ (hr.below hbel) hn6 hl (by omega)).mono ?_
        rintro e w4 ⟨rfl, hb4⟩
        rw [HDn.out]
        have HB := Lib.hid (hbel.trans (hb4.mono hbel.size))
        clear hb4 hbel
        go_wp2
        go_ret
        exact ⟨rfl, HB.out⟩
  · rw [if_neg hc] at key
    go_enter Try.func5, Try.ntmps5
    go_wp2_with fail
    refine key.mono ?_
    rintro e w1 ⟨rfl, hb1⟩
    go_wp2_with fail
    refine (setCode_any n ps A c s _ hm (hr.below hb1)).mono ?_
    rintro e w2 ⟨rfl, hb2⟩
    have HB := Lib.hid (hb1.trans (hb2.mono hb1.size))
    clear key
    generalize codeS n ps s = k at *
    have hk : (k == 0) = false := by simpa using hc
    have hk2 : (k != 0) = true := by simpa using hc
    clear hc hb1 hb2
    go_wp2
    go_ret
    exact ⟨rfl, HB.out⟩

end Go.Proofs.Ytpcnjcoejfkfjaa
