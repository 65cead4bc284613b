/- The law ClauseHorn. -/
import Derived.Test.YtjbefclfhehhaaaLawI1
namespace Go.Proofs.Ytjbefclfhehhaaa
open Go.RowKit

theorem horn_bad {n : Int} {l : List Cla} (h : hornB l = false) : codeH n l ≠ 0 := by
  by_cases h0 : codeC n l = 0
  · rw [codeH_form h0 h]; decide
  · rw [codeH_err h0]; exact h0
theorem horn_at {l : List Cla} {k : Nat} {c : Cla} (hc : l[k]? = some c) (h : 1 < pop c.1) : hornB l = false := by
  cases e : hornB l with
  | false => rfl
  | true => have := horn_iff.1 e c (List.mem_of_getElem? hc); omega
theorem least_any {n : Nat} {l : List Cla} {s t : Nat} (hf : FitR n l) (h : IsLeastM n l s) (ht : trueB l t = true) : sub s t = true := by
  have h1 : t &&& full n < one n := Nat.lt_of_le_of_lt Nat.and_le_right (full_lt n)
  have := h.2.2 _ h1 (by rw [true_full hf]; exact ht)
  exact sub_iff.2 fun i hi => by
    have := sub_iff.1 this i hi
    rw [Nat.testBit_and] at this
    exact (Bool.and_eq_true_iff.1 this).1

set_option maxHeartbeats 2000000 in
theorem ClauseHorn_with (hF : IHornOk 12) (hG : ISolveOk 9) (n : Int) (rs : List Cla) (A : Option Addr) (c a b : Nat) (w : World) (ha : a < 4294967296) (hb : b < 4294967296) (h32 : W32 rs) (hm : rs.length ≤ maxLen) (hr : Row w A (rulesC rs)) (hX : Laid w) :
    Calls Try.prog 8 #[.int .i64 n, .slice A rs.length c, .int .u32 a, .int .u32 b] w fun e w' => e = .returned (.bool true) ∧ Below w.heap.size w w' := by
  have key := hF n rs A c w h32 hm hr hX
  have key2 := fun W (hb : Below w.heap.size w W) => hG n rs A c W h32 hm (hr.below hb) (hX.below hb)
  have hl63 : rs.length < 9223372036854775808 := by unfold maxLen at hm; omega
  go_enter Try.func8, Try.ntmps8
  go_wp2_with fail
  refine key.mono ?_
  rintro e w1 ⟨s, rfl, hs0, hs1, hb1⟩
  have HS0 := Lib.hid hs0
  have HS1 := Lib.hid hs1
  have K2 := key2 w1 hb1
  clear key key2 hs0 hs1
  obtain ⟨eh, he⟩ : ∃ eh, codeH n rs = eh := ⟨_, rfl⟩
  obtain ⟨ef, hef⟩ : ∃ ef, codeS n rs = ef := ⟨_, rfl⟩
  obtain ⟨t, ht⟩ : ∃ t, solS n rs = t := ⟨_, rfl⟩
  rw [he] at HS0 HS1 ⊢
  rw [hef, ht] at K2
  have HE := Lib.hid he
  have HEF := Lib.hid hef
  have HT := Lib.hid ht
  clear he hef ht
  go_wp2_with fail
  refine K2.mono ?_
  rintro e w2 ⟨rfl, hb2⟩
  have hb12 := hb1.trans (hb2.mono hb1.size)
  clear hb2 hb1 K2
  go_wp2
  go_loopw [29] (fun iv wr => ∃ k : Nat, iv = .int .i64 k ∧ k ≤ rs.length ∧ hornB (rs.take k) = true ∧ Below w.heap.size w wr) (fun iv _ => rs.length - (intOf iv).toNat)
  case atStart => exact ⟨0, rfl, Nat.zero_le _, by simp [hornB], hb12⟩
  case round =>
    clear hb12
    obtain ⟨k, rfl, hk, hh, hbel⟩ := hrel
    have HH := Lib.hid hh
    clear hh
    by_cases hlt : k < rs.length
    · obtain ⟨⟨r1, r2⟩, hrk⟩ := get_some hlt
      obtain ⟨g, off, rfl, c1, c2⟩ := RowC.at (hr.below hbel) hrk
      obtain ⟨b1, b2⟩ := h32 _ (List.mem_of_getElem? hrk)
      have HR := Lib.hid hrk
      clear hrk
      have hb2 := hbel.alloc hbel.size (.cells #[.int .u32 (r1 : Int), .int .u32 (r2 : Int)] 32)
      by_cases hp : 1 < pop r1
      · have hne : eh ≠ 0 := by rw [← HE.out]; exact horn_bad (horn_at HR.out hp)
        have hne2 : (eh != 0) = true := by simpa using hne
        have hp2 : decide ((1 : Int) < (pop r1 : Int)) = true := by rw [decide_eq_true_iff]; omega
        clear hp hne
        go_wp2_with fail
        refine (Size_any r1 b1 _).mono ?_
        rintro e w3 ⟨rfl, rfl⟩
        go_wp2
        go_ret
        exact ⟨ret_bool (by simp), hb2⟩
      · have HS := Lib.hid (show hornB (rs.take (k + 1)) = true by rw [hornB_take HR.out, HH.out]; simp; omega)
        have hp2 : decide ((1 : Int) < (pop r1 : Int)) = false := by rw [decide_eq_false_iff_not]; omega
        clear hp
        go_wp2_with fail
        refine (Size_any r1 b1 _).mono ?_
        rintro e w3 ⟨rfl, rfl⟩
        go_wp2
        go_roundw
        case rel => exact ⟨k + 1, by go_num, by omega, HS.out, hb2⟩
        case measure => simp [intOf]; omega
    · have hhorn : hornB rs = true := by have := HH.out; rw [List.take_of_length_le (by omega)] at this; exact this
      by_cases hc : codeC n rs = 0
      · obtain ⟨n, rfl, hn1, hn6, hl16, hf⟩ := codeC_zero hc
        have HC := Lib.hid hc
        have key3 := sat_any n rs A c wr (hr.below hbel)
        rw [hc] at key3
        cases hfs : firstS n rs with
        | none =>
          obtain rfl : eh = 5 := by rw [← HE.out, codeH_none hc hhorn hfs]
          obtain rfl : ef = 5 := by rw [← HEF.out, codeS_none hc hfs]
          obtain rfl : t = 0 := by rw [← HT.out, solS_none hc hfs]
          have hs := HS1.out (by decide)
          subst hs
          clear hc hfs HS0 HS1 HH hhorn
          go_wp2_with fail
          refine key3.mono ?_
          rintro e w3 ⟨rfl, hb3⟩
          have hb4 := hbel.trans (hb3.mono hbel.size)
          clear hb3 hbel key3
          go_wp2
          go_ret
          exact ⟨rfl, hb4⟩
        | some s1 =>
          obtain rfl : eh = 0 := by rw [← HE.out, codeH_some hc hhorn hfs]
          obtain rfl : ef = 0 := by rw [← HEF.out, codeS_some hc hfs]
          have hLe := HS0.out rfl
          rw [Int.toNat_natCast] at hLe
          have hs1 : s1 = s := by have := hLe.first; rw [hfs] at this; exact Option.some.inj this
          subst hs1
          obtain rfl : t = s1 := by rw [← HT.out, solS_some hc hfs]
          have hs32 : t < 4294967296 := by have := hLe.1; have := one_le_64 hn6; omega
          have HLe := Lib.hid hLe
          have HTr := Lib.hid hLe.2.1
          have HHorn := Lib.hid hhorn
          clear hc hfs HS0 HS1 HH hhorn hLe
          go_wp2_with fail
          refine key3.mono ?_
          rintro e w3 ⟨rfl, hb3⟩
          have hb4 := hbel.trans (hb3.mono hbel.size)
          clear hb3 hbel key3
          go_wp2_with fail
          refine (True_any rs A c t _ (hr.below hb4) h32 hs32 hm).mono ?_
          rintro e w5 ⟨rfl, hb5⟩
          have hb6 := hb4.trans (hb5.mono hb4.size)
          rw [HTr.out]
          clear hb5 hb4
          cases hta : trueB rs a with
          | false =>
            go_wp2_with fail
            refine (True_any rs A c a _ (hr.below hb6) h32 ha hm).mono ?_
            rintro e w7 ⟨rfl, hb7⟩
            have hb8 := hb6.trans (hb7.mono hb6.size)
            rw [hta]
            clear hb6 hb7 hta
            go_wp2
            go_ret
            exact ⟨rfl, hb8⟩
          | true =>
            go_wp2_with fail
            refine (True_any rs A c a _ (hr.below hb6) h32 ha hm).mono ?_
            rintro e w7 ⟨rfl, hb7⟩
            have hb8 := hb6.trans (hb7.mono hb6.size)
            rw [hta]
            have HTA := Lib.hid hta
            clear hb6 hb7 hta
            cases htb : trueB rs b with
            | false =>
              go_wp2_with fail
              refine (True_any rs A c b _ (hr.below hb8) h32 hb hm).mono ?_
              rintro e w9 ⟨rfl, hb9⟩
              have hb10 := hb8.trans (hb9.mono hb8.size)
              rw [htb]
              clear hb8 hb9 htb
              go_wp2
              go_ret
              exact ⟨rfl, hb10⟩
            | true =>
              have hand := u32_and_nat a b ha hb
              have hab : a &&& b < 4294967296 := Nat.lt_of_le_of_lt Nat.and_le_left ha
              have HAB := Lib.hid (horn_and HHorn.out h32 HTA.out htb)
              have HSub := Lib.hid (least_any hf HLe.out HAB.out)
              go_wp2_with fail
              refine (True_any rs A c b _ (hr.below hb8) h32 hb hm).mono ?_
              rintro e w9 ⟨rfl, hb9⟩
              have hb10 := hb8.trans (hb9.mono hb8.size)
              rw [htb]
              clear hb8 hb9 htb
              go_wp2_with fail
              refine (True_any rs A c (a &&& b) _ (hr.below hb10) h32 hab hm).mono ?_
              rintro e w11 ⟨rfl, hb11⟩
              have hb12 := hb10.trans (hb11.mono hb10.size)
              rw [HAB.out]
              clear hb10 hb11
              go_wp2_with fail
              refine (In_any t (a &&& b) hs32 hab _).mono ?_
              rintro e w13 ⟨rfl, rfl⟩
              rw [show (t ||| (a &&& b) == a &&& b) = true from HSub.out]
              go_wp2
              go_ret
              exact ⟨rfl, hb12⟩
      · have hne1 : eh ≠ 0 := by rw [← HE.out, codeH_err hc]; exact hc
        have hne2 : ef ≠ 0 := by rw [← HEF.out, codeS_err hc]; exact hc
        have hq1 : (eh != 0) = true := by simpa using hne1
        have hq2 : (ef != 0) = true := by simpa using hne2
        have key3 := sat_any n rs A c wr (hr.below hbel)
        rw [show (codeC n rs == 0) = false from by simpa using hc] at key3
        clear hc hne1 hne2 HS0 HS1 HH hhorn
        go_wp2_with fail
        refine key3.mono ?_
        rintro e w3 ⟨rfl, hb3⟩
        have hb4 := hbel.trans (hb3.mono hbel.size)
        clear hb3 hbel key3
        go_wp2
        go_ret
        exact ⟨ret_bool (by simp), hb4⟩

end Go.Proofs.Ytjbefclfhehhaaa
