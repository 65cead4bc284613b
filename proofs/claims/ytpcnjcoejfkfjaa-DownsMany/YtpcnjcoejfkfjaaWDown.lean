/- syllogistref.Down, and the law's code. -/
import Derived.Test.YtpcnjcoejfkfjaaDowns
namespace Go.Proofs.Ytpcnjcoejfkfjaa
open Go.RowKit

set_option maxHeartbeats 1000000 in
theorem Down_any (n s : Nat) (ps : List (Int × Int)) (A : Option Addr) (c : Nat) (w : World) (hr : Row w A (pairsC ps)) (hn6 : n ≤ 6) (hl : ps.length ≤ 20) (hs : s < 4294967296) :
    Calls Try.prog 11 #[.int .i64 n, .slice A ps.length c, .int .u32 s] w fun e w' => e = .returned (.bool (downB n ps s)) ∧ Below w.heap.size w w' := by
  go_enter Try.func11, Try.ntmps11
  go_wp2
  go_loopw [7] (fun v wr => ∃ i : Nat, v = .int .i64 i ∧ i ≤ n ∧ Dn n ps s i 0 ∧ Below w.heap.size w wr) (fun v _ => n - (intOf v).toNat)
  case atStart => exact ⟨0, rfl, Nat.zero_le _, Dn.init n ps s, Below.refl _ _⟩
  case round =>
    obtain ⟨i, rfl, hi, hfr, hbel⟩ := hrel
    have HF := Lib.hid hfr
    clear hfr
    by_cases hin : i < n
    · go_wp2
      go_loopw [8] (fun v wr => ∃ j : Nat, v = .int .i64 j ∧ j ≤ n ∧ Dn n ps s i j ∧ Below w.heap.size w wr) (fun v _ => n - (intOf v).toNat)
      case atStart => exact ⟨0, rfl, Nat.zero_le _, HF.out, hbel⟩
      case round =>
        clear HF hbel
        obtain ⟨j, rfl, hj, hfr, hbel⟩ := hrel
        have HF := Lib.hid hfr
        clear hfr
        by_cases hjn : j < n
        · go_wp2_with fail
          refine (Bit_any s j (by omega) hs _).mono ?_
          rintro e w' ⟨rfl, rfl⟩
          cases hb1 : s.testBit j with
          | false =>
            have H1 := Lib.hid hb1
            clear hb1
            go_wp2
            go_roundw
            case rel => exact ⟨j + 1, by go_num, by omega, HF.out.step (fun h => by rw [H1.out] at h; cases h), hbel⟩
            case measure => simp [intOf]; omega
          | true =>
            have H1 := Lib.hid hb1
            clear hb1
            go_wp2_with fail
            refine (Bit_any s i (by omega) hs _).mono ?_
            rintro e w' ⟨rfl, rfl⟩
            cases hb2 : s.testBit i with
            | true =>
              have H2 := Lib.hid hb2
              clear hb2
              go_wp2
              go_roundw
              case rel => exact ⟨j + 1, by go_num, by omega, HF.out.step (fun _ h => by rw [H2.out] at h; cases h), hbel⟩
              case measure => simp [intOf]; omega
            | false =>
              have H2 := Lib.hid hb2
              clear hb2
              go_wp2_with fail
              refine (Under_any n ps A c i j _ (hr.below hbel) hl).mono ?_
              rintro e w2 ⟨rfl, hb2⟩
              have hbel2 := hbel.trans (hb2.mono hbel.size)
              cases hu : under ps i j with
              | false =>
                have HU := Lib.hid hu
                clear hu
                go_wp2
                go_roundw
                case rel => exact ⟨j + 1, by go_num, by omega, HF.out.step (fun _ _ => HU.out), hbel2⟩
                case measure => simp [intOf]; omega
              | true =>
                have HV := Lib.hid (downB_no hin hjn H1.out H2.out hu)
                clear hu
                go_wp2
                go_ret
                exact ⟨ret_bool HV.out.symm, hbel2⟩
        · obtain rfl : j = n := by omega
          go_wp2
          go_roundw
          case rel => exact ⟨i + 1, by go_num, by omega, HF.out.next, hbel⟩
          case measure => simp [intOf]; omega
    · obtain rfl : i = n := by omega
      have HV := Lib.hid (downB_iff.2 HF.out)
      go_wp2
      go_ret
      exact ⟨ret_bool HV.out.symm, hbel⟩

/-- The code that the errors give of functions of an order and a set. -/
noncomputable def codeS (n : Int) (ps : List (Int × Int)) (s : Nat) : Int := if code n ps = 0 then (if s < one n.toNat then 0 else 4) else code n ps
theorem codeS_err {n : Int} {ps : List (Int × Int)} {s : Nat} (h : code n ps ≠ 0) : codeS n ps s = code n ps := by simp [codeS, h]
theorem codeS_no {n : Nat} {ps : List (Int × Int)} {s : Nat} (h : code n ps = 0) (k : ¬ s < one n) : codeS n ps s = 4 := by simp [codeS, h, k]
theorem codeS_ok {n : Nat} {ps : List (Int × Int)} {s : Nat} (h : code n ps = 0) (k : s < one n) : codeS n ps s = 0 := by simp [codeS, h, k]
set_option maxHeartbeats 1000000 in
theorem setCode_any (n : Int) (ps : List (Int × Int)) (A : Option Addr) (c s : Nat) (w : World) (hm : ps.length ≤ maxLen) (hr : Row w A (pairsC ps)) :
    Calls Try.prog 15 #[.int .i64 n, .slice A ps.length c, .int .u32 s] w fun e w' => e = .returned (.int .i64 (codeS n ps s)) ∧ Below w.heap.size w w' := by
  by_cases hc : code n ps = 0
  · obtain ⟨h2, h3, h4⟩ := code_zero hc
    obtain ⟨n, rfl⟩ := Int.eq_ofNat_of_zero_le (show 0 ≤ n by unfold Large at h2; omega)
    obtain ⟨hn1, hn6, hl⟩ : 1 ≤ n ∧ n ≤ 6 ∧ ps.length ≤ 20 := by unfold Large at h2; omega
    have HC := Lib.hid hc
    clear h2 h3 h4 hc
    go_enter Try.func15, Try.ntmps15
    go_wp2_with fail
    refine (OrderCheck_any n ps A c _ hm hr).mono ?_
    rintro e w1 ⟨rfl, hb1⟩
    rw [HC.out]
    go_wp2_with fail
    refine (Fits_any n s (by omega) _).mono ?_
    rintro e w2 ⟨rfl, rfl⟩
    by_cases hk : s < one n
    · have HV := Lib.hid (codeS_ok HC.out hk)
      rw [show decide (s < one n) = true from by simpa using hk]
      clear hk
      go_wp2
      go_ret
      exact ⟨ret_int HV.out.symm, hb1⟩
    · have HV := Lib.hid (codeS_no HC.out hk)
      rw [show decide (s < one n) = false from by simpa using hk]
      clear hk
      go_wp2
      go_ret
      exact ⟨ret_int HV.out.symm, hb1⟩
  · have HV := Lib.hid (codeS_err (s := s) hc)
    go_enter Try.func15, Try.ntmps15
    go_wp2_with fail
    refine (OrderCheck_any n ps A c _ hm hr).mono ?_
    rintro e w1 ⟨rfl, hb1⟩
    have hk : (code n ps == 0) = false := by simpa using hc
    clear hc
    go_wp2
    go_ret
    exact ⟨ret_int HV.out.symm, hb1⟩

end Go.Proofs.Ytpcnjcoejfkfjaa
