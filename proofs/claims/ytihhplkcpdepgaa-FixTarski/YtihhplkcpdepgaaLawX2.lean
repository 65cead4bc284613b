/- The laws after Knaster and Tarski, by the document's answers. -/
import Derived.Test.YtihhplkcpdepgaaLawX1
namespace Go.Proofs.Ytihhplkcpdepgaa
open Go.RowKit

set_option maxHeartbeats 2000000 in
theorem FixTarski_with (hL : XLeastOk 15) (hM : XMostOk 17) (hR : XRisesOk 9) (n : Int) (f : List Nat) (A : Option Addr) (c s : Nat) (w : World) (hs : s < 4294967296) (h32 : U32 f) (hm : f.length ≤ maxLen) (hr : Row w A (words f)) (hX : Laid w) :
    Calls Try.prog 7 #[.int .i64 n, .slice A f.length c, .int .u32 s] w fun e w' => e = .returned (.bool true) ∧ Below w.heap.size w w' := by
  have key := hL n f A c w h32 hm hr hX
  have key2 := fun w' hr hX => hM n f A c w' h32 hm hr hX
  have key3 := fun w' hr hX => hR n f A c w' h32 hm hr hX
  by_cases hc : codeM n f = 0
  · obtain ⟨n, rfl, hn1, hn5, hl, hf⟩ := codeM_zero hc
    have h32n := one_le_32 hn5
    have hl32 : f.length ≤ 32 := by omega
    have HC := Lib.hid hc
    have HL := Lib.hid hl
    clear hl
    cases hri : riseB f with
    | true =>
      rw [codeN_ok hc hri, Int.toNat_natCast] at key
      rw [codeN_ok hc hri, Int.toNat_natCast] at key2
      rw [hc, hri, show (((0 : Int) == 0) && true) = true from rfl] at key3
      have HRi := Lib.hid hri
      have KEY2 := Lib.hid key2
      have KEY3 := Lib.hid key3
      have h1n := one_int n (by omega)
      have hfull : (one n : Int) - 1 = (full n : Nat) := by have := one_pos n; unfold full; omega
      clear hc hri key2 key3
      go_enter Try.func7, Try.ntmps7
      go_wp2_with fail
      refine key.mono ?_
      rintro e w1 ⟨a, rfl, ha, _, hb1⟩
      have HA := Lib.hid (ha trivial)
      clear ha key
      go_wp2_with fail
      refine (KEY2.out _ (hr.below hb1) (hX.below hb1)).mono ?_
      rintro e w2 ⟨b, rfl, hb, _, hb2⟩
      have HB := Lib.hid (hb trivial)
      have hb02 := hb1.trans (hb2.mono hb1.size)
      clear hb KEY2 hb1 hb2
      go_wp2_with fail
      refine (MapCheck_any n f A c _ (hr.below hb02)).mono ?_
      rintro e w3 ⟨rfl, rfl⟩
      rw [HC.out]
      go_wp2_with fail
      refine (Rises_any f A c _ (hr.below hb02) h32 hl32).mono ?_
      rintro e w3 ⟨rfl, d, rfl⟩
      rw [HRi.out]
      have hb3 := below_drewN hb02 d
      generalize w2.drewN d = w3 at *
      clear hb02
      go_wp2_with fail
      refine (KEY3.out _ (hr.below hb3) (hX.below hb3)).mono ?_
      rintro e w4 ⟨rfl, hb4⟩
      have hb04 := hb3.trans (hb4.mono hb3.size)
      clear hb3 hb4 KEY3
      have halt : a < one n := HA.out.1
      have hblt : b < one n := HB.out.1
      have hfl := HL.out
      obtain ⟨g, off, rfl, hcell⟩ := (hr.below hb04).at (k := a) (by rw [words_length]; omega)
      have ca := hcell _ _ (words_at (rows_at (show a < f.length by omega)))
      have cb := hcell _ _ (words_at (rows_at (show b < f.length by omega)))
      rw [show f.getD a 0 = a from HA.out.2.1] at ca
      rw [show f.getD b 0 = b from HB.out.2.1] at cb
      have HIn := Lib.hid (show (a ||| b == b) = true from HA.out.2.2 b hblt HB.out.2.1)
      have hda : ((a : Int) != (a : Int)) = false := by simp
      have hdb : ((b : Int) != (b : Int)) = false := by simp
      have hma : (s &&& full n) < one n := Nat.lt_of_le_of_lt Nat.and_le_right (full_lt n)
      have hand : bits .and .u32 (s : Int) (full n : Int) = ((s &&& full n : Nat) : Int) := u32_and_nat _ _ hs (by have := full_lt n; omega)
      obtain ⟨t, ht⟩ : ∃ t, s &&& full n = t := ⟨_, rfl⟩
      rw [ht] at hma hand
      obtain ⟨y, hy⟩ : ∃ y, im f t = y := ⟨_, rfl⟩
      have ct := hcell _ _ (words_at (rows_at (show t < f.length by omega)))
      have hy32 := h32 _ (rows_mem (show t < f.length by omega))
      rw [show f.getD t 0 = y from hy] at ct hy32
      have HP := Lib.hid (fun (h : sub y t = true) => HA.out.pre hf HL.out (rise_iff.1 HRi.out) hma (by rw [hy]; exact h))
      have HQ := Lib.hid (fun (h : sub t y = true) => HB.out.post hf HL.out (rise_iff.1 HRi.out) hma (by rw [hy]; exact h))
      clear hcell ht hy hfl
      have haf : a < f.length := by have := HL.out; omega
      have hbf : b < f.length := by have := HL.out; omega
      have htf : t < f.length := by have := HL.out; omega
      have ha32 : a < 4294967296 := by omega
      have hb32 : b < 4294967296 := by omega
      have ht32 : t < 4294967296 := by omega
      have hna : ¬ (one n : Int) ≤ (a : Int) := by omega
      have hnb : ¬ (one n : Int) ≤ (b : Int) := by omega
      go_wp2_with fail
      refine (In_any a b ha32 hb32 _).mono ?_
      rintro e w5 ⟨rfl, rfl⟩
      rw [HIn.out]
      go_wp2_with fail
      refine (In_any y t hy32 ht32 _).mono ?_
      rintro e w5 ⟨rfl, rfl⟩
      rw [show (y ||| t == t) = sub y t from rfl]
      cases h1 : sub y t with
      | true =>
        have h2 := HP.out h1
        go_wp2_with fail
        refine (In_any a t ha32 ht32 _).mono ?_
        rintro e w5 ⟨rfl, rfl⟩
        rw [show (a ||| t == t) = true from h2]
        go_wp2_with fail
        refine (In_any t y ht32 hy32 _).mono ?_
        rintro e w5 ⟨rfl, rfl⟩
        rw [show (t ||| y == y) = sub t y from rfl]
        cases h3 : sub t y with
        | true =>
          have h4 := HQ.out h3
          go_wp2_with fail
          refine (In_any t b ht32 hb32 _).mono ?_
          rintro e w5 ⟨rfl, rfl⟩
          rw [show (t ||| b == b) = true from h4]
          go_wp2
          go_ret
          exact ⟨rfl, hb04⟩
        | false =>
          go_wp2
          go_ret
          exact ⟨rfl, hb04⟩
      | false =>
        go_wp2_with fail
        refine (In_any t y ht32 hy32 _).mono ?_
        rintro e w5 ⟨rfl, rfl⟩
        rw [show (t ||| y == y) = sub t y from rfl]
        cases h3 : sub t y with
        | true =>
          have h4 := HQ.out h3
          go_wp2_with fail
          refine (In_any t b ht32 hb32 _).mono ?_
          rintro e w5 ⟨rfl, rfl⟩
          rw [show (t ||| b == b) = true from h4]
          go_wp2
          go_ret
          exact ⟨rfl, hb04⟩
        | false =>
          go_wp2
          go_ret
          exact ⟨rfl, hb04⟩
    | false =>
      rw [codeN_none hc hri] at key
      rw [codeN_none hc hri] at key2
      have HRi := Lib.hid hri
      have KEY2 := Lib.hid key2
      clear hc hri key2 key3
      go_enter Try.func7, Try.ntmps7
      go_wp2_with fail
      refine key.mono ?_
      rintro e w1 ⟨a, rfl, _, _, hb1⟩
      clear key
      go_wp2_with fail
      refine (KEY2.out _ (hr.below hb1) (hX.below hb1)).mono ?_
      rintro e w2 ⟨b, rfl, _, _, hb2⟩
      have hb02 := hb1.trans (hb2.mono hb1.size)
      clear KEY2 hb1 hb2
      go_wp2_with fail
      refine (MapCheck_any n f A c _ (hr.below hb02)).mono ?_
      rintro e w3 ⟨rfl, rfl⟩
      rw [HC.out]
      go_wp2_with fail
      refine (Rises_any f A c _ (hr.below hb02) h32 hl32).mono ?_
      rintro e w3 ⟨rfl, d, rfl⟩
      rw [HRi.out]
      have HB := Lib.hid (below_drewN hb02 d)
      clear hb02
      go_wp2
      go_ret
      exact ⟨rfl, HB.out⟩
  · rw [codeN_err hc] at key
    rw [codeN_err hc] at key2
    have KEY2 := Lib.hid key2
    clear key2 key3
    go_enter Try.func7, Try.ntmps7
    go_wp2_with fail
    refine key.mono ?_
    rintro e w1 ⟨a, rfl, _, _, hb1⟩
    clear key
    go_wp2_with fail
    refine (KEY2.out _ (hr.below hb1) (hX.below hb1)).mono ?_
    rintro e w2 ⟨b, rfl, _, _, hb2⟩
    have hb02 := hb1.trans (hb2.mono hb1.size)
    clear KEY2 hb1 hb2
    go_wp2_with fail
    refine (MapCheck_any n f A c _ (hr.below hb02)).mono ?_
    rintro e w3 ⟨rfl, rfl⟩
    generalize codeM n f = k at *
    have hk : (k == 0) = false := by simpa using hc
    have hk2 : (k != 0) = true := by simpa using hc
    clear hc
    go_wp2
    go_ret
    exact ⟨rfl, hb02⟩
end Go.Proofs.Ytihhplkcpdepgaa
