/- The law ClauseHorns. -/
import Derived.Test.YtjbefclfhehhaaaLawI1
namespace Go.Proofs.Ytjbefclfhehhaaa
open Go.RowKit

theorem hornK_err {n : Int} {l : List Cla} (h : hornK (codeC n l) l ≠ 0) : codeH n l = hornK (codeC n l) l := by
  unfold hornK at *
  by_cases h0 : codeC n l = 0
  · cases hb : hornB l with
    | false => rw [codeH_form h0 hb, if_pos ⟨h0, rfl⟩]
    | true => rw [hb, if_neg (by simp)] at h; exact absurd h0 h
  · rw [if_neg (fun k => h0 k.1), codeH_err h0]
theorem hornK_ok {n : Int} {l : List Cla} (h : hornK (codeC n l) l = 0) : codeC n l = 0 ∧ hornB l = true := by
  unfold hornK at h
  by_cases h0 : codeC n l = 0
  · refine ⟨h0, ?_⟩
    cases hb : hornB l with
    | true => rfl
    | false => rw [if_pos ⟨h0, hb⟩] at h; omega
  · rw [if_neg (fun k => h0 k.1)] at h; exact absurd h h0
theorem hornK_nil (x : Int) (l : List Cla) : hornK x (l.take 0) = x := by simp [hornK, hornB]

/-- The loops of ClauseHorns. -/
def HornR (x : Int) (rs : List Cla) (w : World) (xv iv : Value) (wr : World) : Prop :=
  ∃ k : Nat, iv = .int .i64 k ∧ k ≤ rs.length ∧ (∃ q : Int, q = hornK x (rs.take k) ∧ xv = .int .i64 q) ∧ Below w.heap.size w wr
def MeetR (rs : List Cla) (n : Nat) (w : World) (wv bv tv : Value) (wr : World) : Prop :=
  ∃ t : Nat, tv = .int .u32 t ∧ t ≤ one n ∧ (∃ q : Nat, q = meetM rs n t ∧ wv = .int .u32 q) ∧ (∃ b : Bool, b = someM rs t ∧ bv = .bool b) ∧ Below w.heap.size w wr

set_option maxHeartbeats 2000000 in
theorem ClauseHorns_with (hF : IHornOk 12) (n : Int) (rs : List Cla) (A : Option Addr) (c : Nat) (w : World) (h32 : W32 rs) (hm : rs.length ≤ maxLen) (hr : Row w A (rulesC rs)) (hX : Laid w) :
    Calls Try.prog 4 #[.int .i64 n, .slice A rs.length c] w fun e w' => e = .returned (.bool true) ∧ Below w.heap.size w w' := by
  have key := hF n rs A c w h32 hm hr hX
  have hl63 : rs.length < 9223372036854775808 := by unfold maxLen at hm; omega
  have HK1 := Lib.hid (fun h => hornK_err (n := n) (l := rs) h)
  have HK0 := Lib.hid (fun h => hornK_ok (n := n) (l := rs) h)
  obtain ⟨x, hx⟩ : ∃ x, x = codeC n rs := ⟨_, rfl⟩
  have HXX := Lib.hid hx
  go_enter Try.func4, Try.ntmps4
  go_wp2_with fail
  refine key.mono ?_
  rintro e w1 ⟨s, rfl, hs0, hs1, hb1⟩
  have HS0 := Lib.hid hs0
  have HS1 := Lib.hid hs1
  clear key hs0 hs1
  obtain ⟨eh, he⟩ : ∃ eh, codeH n rs = eh := ⟨_, rfl⟩
  rw [he] at HS0 HS1 HK1 ⊢
  have HE := Lib.hid he
  clear he
  go_wp2_with fail
  refine (SatCheck_any n rs A c _ (hr.below hb1)).mono ?_
  rintro e w2 ⟨rfl, hb2⟩
  have hb12 := hb1.trans (hb2.mono hb1.size)
  rw [← hx] at HK1 HK0 ⊢
  clear hb2 hb1 hx
  go_wp2
  go_loopw [7, 24] (fun xv iv wr => HornR x rs w xv iv wr) (fun _ iv _ => rs.length - (intOf iv).toNat)
  case atStart => exact ⟨0, rfl, Nat.zero_le _, ⟨x, (hornK_nil x rs).symm, rfl⟩, hb12⟩
  case round =>
    clear hb12
    obtain ⟨k, rfl, hk, ⟨q, hq, rfl⟩, hbel⟩ := hrel
    have HQ := Lib.hid hq
    clear hq
    by_cases hlt : k < rs.length
    · obtain ⟨⟨r1, r2⟩, hrk⟩ := get_some hlt
      obtain ⟨b, off, rfl, c1, c2⟩ := RowC.at (hr.below hbel) hrk
      obtain ⟨b1, b2⟩ := h32 _ (List.mem_of_getElem? hrk)
      have HStep := Lib.hid (hornK_step (x := x) hrk)
      rw [← HQ.out] at HStep
      clear hrk
      have hb2 := hbel.alloc hbel.size (.cells #[.int .u32 (r1 : Int), .int .u32 (r2 : Int)] 32)
      by_cases hq0 : q = 0
      · have HQ0 := Lib.hid hq0
        subst hq0
        by_cases hp : 1 < pop r1
        · have HS := Lib.hid (show (3 : Int) = hornK x (rs.take (k + 1)) by rw [HStep.out, if_pos ⟨rfl, hp⟩])
          have hp2 : decide ((1 : Int) < (pop r1 : Int)) = true := by rw [decide_eq_true_iff]; omega
          clear hp
          go_wp2_with fail
          refine (Size_any r1 b1 _).mono ?_
          rintro e w3 ⟨rfl, rfl⟩
          go_wp2
          go_roundw
          case rel => exact ⟨k + 1, by go_num, by omega, ⟨3, HS.out, rfl⟩, hb2⟩
          case measure => simp [intOf]; omega
        · have HS := Lib.hid (show (0 : Int) = hornK x (rs.take (k + 1)) by rw [HStep.out, if_neg (fun h => hp h.2)])
          have hp2 : decide ((1 : Int) < (pop r1 : Int)) = false := by rw [decide_eq_false_iff_not]; omega
          clear hp
          go_wp2_with fail
          refine (Size_any r1 b1 _).mono ?_
          rintro e w3 ⟨rfl, rfl⟩
          go_wp2
          go_roundw
          case rel => exact ⟨k + 1, by go_num, by omega, ⟨0, HS.out, rfl⟩, hb2⟩
          case measure => simp [intOf]; omega
      · have HS := Lib.hid (show q = hornK x (rs.take (k + 1)) by rw [HStep.out, if_neg (fun h => hq0 h.1)])
        have hq2 : (q == 0) = false := by simpa using hq0
        clear hq0
        go_wp2
        go_roundw
        case rel => exact ⟨k + 1, by go_num, by omega, ⟨q, HS.out, rfl⟩, hb2⟩
        case measure => simp [intOf]; omega
    · have HQ2 := Lib.hid (show q = hornK x rs by rw [HQ.out, List.take_of_length_le (by omega)])
      rw [← HQ2.out] at HK1 HK0
      by_cases hq0 : q = 0
      · obtain ⟨hx0, hhorn⟩ := HK0.out hq0
        subst hq0
        rw [HXX.out] at hx0
        obtain ⟨n, rfl, hn1, hn6, hl16, hf⟩ := codeC_zero hx0
        have h1n := one_int n (by omega)
        have h64 := one_le_64 hn6
        have hfull : ((one n : Int) - 1) % 4294967296 = (full n : Nat) := by have := one_pos n; unfold full; omega
        have HN := Lib.hid (fun h => codeH_none hx0 hhorn h)
        have HM := Lib.hid (fun s h => codeH_some (s := s) hx0 hhorn h)
        clear hx0 HK1 HK0 HQ HQ2
        go_wp2
        rw [hfull, h1n]
        clear hfull
        go_loopw [10, 11, 12] (fun wv bv tv wr => MeetR rs n w wv bv tv wr) (fun _ _ tv _ => one n - (intOf tv).toNat)
        case atStart => exact ⟨0, rfl, Nat.zero_le _, ⟨_, (meetM_zero rs n).symm, rfl⟩, ⟨false, rfl, rfl⟩, hbel⟩
        case round =>
          clear hbel
          obtain ⟨t, rfl, ht, ⟨q, hq, rfl⟩, ⟨b, hb, rfl⟩, hbel⟩ := hrel
          have hq64 : q < one n := by rw [hq]; exact meetM_lt _ _ _
          have HQ := Lib.hid hq
          have HBb := Lib.hid hb
          clear hq hb
          by_cases hlt : t < one n
          · have key := True_any rs A c t _ (hr.below hbel) h32 (by omega) hm
            have HSm := Lib.hid (someM_succ rs t)
            have hand := u32_and_nat q t (by omega) (by omega)
            cases h1 : trueB rs t with
            | true =>
              rw [h1] at key
              rw [h1, Bool.or_true] at HSm
              have HM1 := Lib.hid (meetM_yes (n := n) h1)
              clear h1
              go_wp2_with fail
              refine key.mono ?_
              rintro e w3 ⟨rfl, hb3⟩
              have hb4 := hbel.trans (hb3.mono hbel.size)
              clear key hb3
              go_wp2
              go_roundw
              case rel => exact ⟨t + 1, by go_num, by omega, ⟨q &&& t, by rw [HM1.out, HQ.out], by first | rfl | rw [hand]⟩, ⟨true, HSm.out.symm, rfl⟩, hb4⟩
              case measure => simp [intOf]; omega
            | false =>
              rw [h1] at key
              rw [h1, Bool.or_false] at HSm
              have HM1 := Lib.hid (meetM_no (n := n) h1)
              clear h1
              go_wp2_with fail
              refine key.mono ?_
              rintro e w3 ⟨rfl, hb3⟩
              have hb4 := hbel.trans (hb3.mono hbel.size)
              clear key hb3
              go_wp2
              go_roundw
              case rel => exact ⟨t + 1, by go_num, by omega, ⟨q, by rw [HM1.out, HQ.out], rfl⟩, ⟨b, by rw [HSm.out, HBb.out], rfl⟩, hb4⟩
              case measure => simp [intOf]; omega
          · obtain rfl : t = one n := by omega
            have HF := Lib.hid (show b = (firstS n rs).isSome by rw [HBb.out, someM_first])
            cases hfs : firstS n rs with
            | none =>
              have hbf : b = false := by rw [HF.out, hfs]; rfl
              subst hbf
              have heh : eh = 5 := by rw [← HE.out]; exact HN.out hfs
              have hs := HS1.out (by rw [heh]; decide)
              subst hs
              subst heh
              clear HS0 HS1 HN HM hfs HF HBb
              go_wp2
              go_ret
              exact ⟨rfl, hbel⟩
            | some s1 =>
              have hbf : b = true := by rw [HF.out, hfs]; rfl
              subst hbf
              have heh : eh = 0 := by rw [← HE.out]; exact HM.out s1 hfs
              have hs := HS0.out heh
              rw [Int.toNat_natCast] at hs
              have HQS := Lib.hid (show q = s by rw [HQ.out, meetM_least hs])
              subst heh
              clear HS0 HS1 HN HM hfs HF HBb hs
              go_wp2
              go_ret
              exact ⟨ret_bool (by rw [HQS.out]; simp), hbel⟩
      · have hq2 : (q != 0) = true := by simpa using hq0
        have HEq := Lib.hid (HK1.out hq0)
        obtain rfl := HEq.out
        have hs := HS1.out hq0
        subst hs
        clear hq0 HS0 HS1 HK1 HK0 HEq HQ HQ2
        go_wp2
        go_ret
        exact ⟨ret_bool (by simp), hbel⟩

end Go.Proofs.Ytjbefclfhehhaaa
