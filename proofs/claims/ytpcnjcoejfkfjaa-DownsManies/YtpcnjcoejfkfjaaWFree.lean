/- syllogistref.Free. -/
import Derived.Test.YtpcnjcoejfkfjaaFreeM
namespace Go.Proofs.Ytpcnjcoejfkfjaa
open Go.RowKit

set_option maxHeartbeats 1000000 in
theorem Free_any (n s : Nat) (ps : List (Int × Int)) (A : Option Addr) (c : Nat) (w : World) (hr : Row w A (pairsC ps)) (hn6 : n ≤ 6) (hl : ps.length ≤ 20) (hs : s < 4294967296) :
    Calls Try.prog 22 #[.int .i64 n, .slice A ps.length c, .int .u32 s] w fun e w' => e = .returned (.bool (freeB n ps s)) ∧ Below w.heap.size w w' := by
  go_enter Try.func22, Try.ntmps22
  go_wp2
  go_loopw [7] (fun v wr => ∃ i : Nat, v = .int .i64 i ∧ i ≤ n ∧ Fr n ps s i 0 ∧ Below w.heap.size w wr) (fun v _ => n - (intOf v).toNat)
  case atStart => exact ⟨0, rfl, Nat.zero_le _, Fr.init n ps s, Below.refl _ _⟩
  case round =>
    obtain ⟨i, rfl, hi, hfr, hbel⟩ := hrel
    have HF := Lib.hid hfr
    clear hfr
    by_cases hin : i < n
    · go_wp2
      go_loopw [8] (fun v wr => ∃ j : Nat, v = .int .i64 j ∧ j ≤ n ∧ Fr n ps s i j ∧ Below w.heap.size w wr) (fun v _ => n - (intOf v).toNat)
      case atStart => exact ⟨0, rfl, Nat.zero_le _, HF.out, hbel⟩
      case round =>
        clear HF hbel
        obtain ⟨j, rfl, hj, hfr, hbel⟩ := hrel
        have HF := Lib.hid hfr
        clear hfr
        by_cases hjn : j < n
        · by_cases hij : i = j
          · have hd : ((i : Int) != (j : Int)) = false := by simp; omega
            have HE := Lib.hid hij
            clear hij
            go_wp2
            go_roundw
            case rel => exact ⟨j + 1, by go_num, by omega, HF.out.step (fun h => absurd HE.out h), hbel⟩
            case measure => simp [intOf]; omega
          · have hd : ((i : Int) != (j : Int)) = true := by simp; omega
            have HE := Lib.hid hij
            clear hij
            go_wp2_with fail
            refine (Bit_any s i (by omega) hs _).mono ?_
            rintro e w' ⟨rfl, rfl⟩
            cases hb1 : s.testBit i with
            | false =>
              have H1 := Lib.hid hb1
              clear hb1
              go_wp2
              go_roundw
              case rel => exact ⟨j + 1, by go_num, by omega, HF.out.step (fun _ h => by rw [H1.out] at h; cases h), hbel⟩
              case measure => simp [intOf]; omega
            | true =>
              have H1 := Lib.hid hb1
              clear hb1
              go_wp2_with fail
              refine (Bit_any s j (by omega) hs _).mono ?_
              rintro e w' ⟨rfl, rfl⟩
              cases hb2 : s.testBit j with
              | false =>
                have H2 := Lib.hid hb2
                clear hb2
                go_wp2
                go_roundw
                case rel => exact ⟨j + 1, by go_num, by omega, HF.out.step (fun _ _ h => by rw [H2.out] at h; cases h), hbel⟩
                case measure => simp [intOf]; omega
              | true =>
                have H2 := Lib.hid hb2
                clear hb2
                go_wp2_with fail
                refine (Under_any n ps A c i j _ (hr.below hbel) hl).mono ?_
                rintro e w2 ⟨rfl, hb2⟩
                have hbel2 := hbel.trans (hb2.mono hbel.size)
                cases hu : under ps i j with
                | false =>
                  have HU := Lib.hid hu
                  clear hu
                  go_wp2
                  go_roundw
                  case rel => exact ⟨j + 1, by go_num, by omega, HF.out.step (fun _ _ _ => HU.out), hbel2⟩
                  case measure => simp [intOf]; omega
                | true =>
                  have HV := Lib.hid (freeB_no hin hjn HE.out H1.out H2.out hu)
                  clear hu
                  go_wp2
                  go_ret
                  exact ⟨ret_bool HV.out.symm, hbel2⟩
        · obtain rfl : j = n := by omega
          go_wp2
          go_roundw
          case rel => exact ⟨i + 1, by go_num, by omega, HF.out.next, hbel⟩
          case measure => simp [intOf]; omega
    · obtain rfl : i = n := by omega
      have HV := Lib.hid (freeB_iff.2 HF.out)
      go_wp2
      go_ret
      exact ⟨ret_bool HV.out.symm, hbel⟩

end Go.Proofs.Ytpcnjcoejfkfjaa
