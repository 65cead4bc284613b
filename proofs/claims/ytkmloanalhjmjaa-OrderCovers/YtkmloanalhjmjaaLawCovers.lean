/- The walk of the law on Covers, by the document's answer. -/
import Derived.Test.YtkmloanalhjmjaaW8
namespace Go.Proofs.Ytkmloanalhjmjaa
open Go.RowKit

/-- Two equal pairs are equal. -/
theorem eqPair (a b : Int) (w : World) : (Op.equalIn 10000 35 (.agg #[.int .i64 a, .int .i64 b]) (.agg #[.int .i64 a, .int .i64 b])).run Try.prog w = .ok true w := by
  have u3 := Try.underlying3
  have a3 := Try.isAgg3
  have z3 := Try.sizeOf3
  rw [show (10000 : Nat) = 9999 + 1 from rfl, Op.equalIn]
  simp only [Sem.run_bind, run_underlying Try.underlying35, Result.andThen_ok]
  simp only [Std.Legacy.Range.forIn_eq_forIn_range', Std.Legacy.Range.size, Nat.sub_zero, Nat.add_sub_cancel, Nat.div_one, List.range'_succ, List.range'_zero, List.forIn_cons, List.forIn_nil]
  go_simp

/-- What has been compared. -/
def LcI (n : Nat) (ps : List (Int × Int)) (w w1 : World) (kv iv : Value) (wr : World) : Prop :=
  ∃ i : Nat, iv = .int .i64 i ∧ i ≤ n ∧ kv = .int .i64 (covL n ps i 0).length ∧ Below w1.heap.size w1 wr ∧ Below w.heap.size w wr
def LcJ (n : Nat) (ps : List (Int × Int)) (w w1 : World) (i : Nat) (kv jv : Value) (wr : World) : Prop :=
  ∃ j : Nat, jv = .int .i64 j ∧ j ≤ n ∧ kv = .int .i64 (covL n ps i j).length ∧ Below w1.heap.size w1 wr ∧ Below w.heap.size w wr

set_option maxHeartbeats 1000000 in
theorem OrderCovers_walk (n : Int) (ps : List (Int × Int)) (A : Option Addr) (c : Nat) (w : World) (hm : ps.length ≤ maxLen) (hr : Row w A (pairsC ps)) :
    Calls Try.prog 4 #[.int .i64 n, .slice A ps.length c] w fun e w' => e = .returned (.bool true) ∧ Below w.heap.size w w' := by
  by_cases hc : code n ps = 0
  · obtain ⟨h2, h3, h4⟩ := code_zero hc
    obtain ⟨n, rfl⟩ := Int.eq_ofNat_of_zero_le (show 0 ≤ n by unfold Large at h2; omega)
    obtain ⟨hn1, hn6, hl⟩ : 1 ≤ n ∧ n ≤ 6 ∧ ps.length ≤ 20 := by unfold Large at h2; omega
    have HC := Lib.hid hc
    clear h2 h3 h4 hc
    go_enter Try.func4, Try.ntmps4
    go_wp2_with fail
    refine (Covers_ok n ps A c _ hm hr HC.out).mono ?_
    rintro e w1 ⟨v, rfl, hown, hb1⟩
    obtain ⟨A2, c2, rfl, hrow, hmax⟩ := hown.row
    have HR := Lib.hid hrow
    clear hown hrow hmax
    have hlen : (covL n ps n 0).length ≤ 36 := by
      have h1 := covL_len n ps n 0
      have h2 : n * n ≤ 6 * 6 := Nat.mul_le_mul hn6 hn6
      omega
    go_wp2_with fail
    refine (OrderCheck_any n ps A c _ hm (hr.below hb1)).mono ?_
    rintro e w2 ⟨rfl, hb2⟩
    rw [HC.out]
    have HB2 := Lib.hid (hb1.trans (hb2.mono hb1.size))
    go_wp2
    go_loopw [8, 9] (fun kv iv wr => LcI n ps w w1 kv iv wr) (fun _ v _ => n - (intOf v).toNat)
    case atStart => exact ⟨0, rfl, Nat.zero_le _, by rw [covL_zero]; rfl, hb2, HB2.out⟩
    case round =>
      clear hb2 HB2
      obtain ⟨i, rfl, hi, rfl, hb2, hbel⟩ := hrel
      by_cases hin : i < n
      · go_wp2
        go_loopw [8, 10] (fun kv jv wr => LcJ n ps w w1 i kv jv wr) (fun _ v _ => n - (intOf v).toNat)
        case atStart => exact ⟨0, rfl, Nat.zero_le _, rfl, hb2, hbel⟩
        case round =>
          clear hb2 hbel
          obtain ⟨j, rfl, hj, rfl, hb2, hbel⟩ := hrel
          by_cases hjn : j < n
          · go_wp2_with fail
            refine (Cover_any n i j ps A c _ (hr.below hbel) hn6 hl hin hjn).mono ?_
            rintro e w3 ⟨rfl, hb3⟩
            have hb23 := hb2.trans (hb3.mono hb2.size)
            have hbel3 := hbel.trans (hb3.mono hbel.size)
            cases hv : covB n ps i j with
            | false =>
              have HV := Lib.hid hv
              clear hv
              go_wp2
              go_roundw
              case rel => exact ⟨j + 1, by go_num, by omega, by rw [covL_no HV.out], hb23, hbel3⟩
              case measure => simp [intOf]; omega
            | true =>
              have hat := covL_at hin hjn hv
              have hlt : (covL n ps i j).length < (covL n ps n 0).length := (List.getElem?_eq_some_iff.1 hat).1
              have HV := Lib.hid (covL_yes hv)
              obtain ⟨g, off, rfl, hcell⟩ := (HR.out.below hb23).at (k := 0) (by rw [pairsC_length]; omega)
              have hc0 := hcell _ _ (pairsC_at0 hat)
              have hc1 : w3.cell? ⟨g, off + (covL n ps i j).length * 2 + 1, none⟩ = some (.int .i64 (j : Nat)) := by rw [Nat.add_assoc]; exact hcell _ _ (pairsC_at1 hat)
              clear hv hat hcell
              have hq := eqPair i j
              go_wp2
              go_roundw
              case rel => exact ⟨j + 1, by go_num, by omega, by rw [HV.out, List.length_append]; go_num, hb23, hbel3⟩
              case measure => simp [intOf]; omega
          · obtain rfl : j = n := by omega
            go_wp2
            go_roundw
            case rel => exact ⟨i + 1, by go_num, by omega, by rw [covL_next], hb2, hbel⟩
            case measure => simp [intOf]; omega
      · obtain rfl : i = n := by omega
        go_wp2
        go_ret
        exact ⟨by simp, hbel⟩
  · go_enter Try.func4, Try.ntmps4
    go_wp2_with fail
    refine (Covers_err n ps A c _ hm hr hc).mono ?_
    rintro e w1 ⟨rfl, hb1⟩
    go_wp2_with fail
    refine (OrderCheck_any n ps A c _ hm (hr.below hb1)).mono ?_
    rintro e w2 ⟨rfl, hb2⟩
    have HB2 := Lib.hid (hb1.trans (hb2.mono hb1.size))
    generalize code n ps = k at *
    have hk : (k != 0) = true := by simpa using hc
    clear hc
    go_wp2
    go_ret
    exact ⟨rfl, HB2.out⟩

end Go.Proofs.Ytkmloanalhjmjaa
