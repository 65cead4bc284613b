/- The walk of the law on Table, without the document's answer. -/
import Derived.Test.YtkmloanalhjmjaaLawTables
namespace Go.Proofs.Ytkmloanalhjmjaa
open Go.RowKit

theorem ordered_any (n : Int) (ps : List (Int × Int)) (A : Option Addr) (c : Nat) (w : World) (hm : ps.length ≤ maxLen) (hr : Row w A (pairsC ps)) :
    Calls Try.prog 31 #[.int .i64 n, .slice A ps.length c] w fun e w' => e = .returned (.bool (code n ps == 0)) ∧ Below w.heap.size w w' := by
  go_enter Try.func31, Try.ntmps31
  go_wp2_with fail
  refine (OrderCheck_any n ps A c _ hm hr).mono ?_
  rintro e w1 ⟨rfl, hb⟩
  go_wp2
  go_ret
  exact ⟨rfl, hb⟩

/-- What holds of the table of an order. -/
theorem up_trans {n : Nat} {ps : List (Int × Int)} {i j : Nat} (h : (upT n ps i).testBit j = true) : (upT n ps j ||| upT n ps i == upT n ps i) = true := by
  rw [beq_iff_eq]
  refine word_ext (n := n) (or_lt_one (upT_lt _ _ _) (upT_lt _ _ _)) (upT_lt _ _ _) fun k hk => ?_
  rw [upT_testBit] at h
  rw [Nat.testBit_or, upT_testBit, upT_testBit]
  have h1 : under ps i j = true := by simpa using (Bool.and_eq_true_iff.1 h).2
  cases h2 : under ps j k with
  | false => simp
  | true => simp [hk, under_iff.2 ((under_iff.1 h1).trans (under_iff.1 h2))]
theorem up_anti {n : Nat} {ps : List (Int × Int)} (hc : ¬ Cyc n ps) {i j : Nat} (hi : i < n) (hj : j < n) (hne : i ≠ j) (h : (upT n ps i).testBit j = true) : (upT n ps j).testBit i = false := by
  rw [upT_testBit] at h
  have h1 : under ps i j = true := by simpa using (Bool.and_eq_true_iff.1 h).2
  rw [upT_testBit]
  cases h2 : under ps j i with
  | false => simp
  | true =>
    exfalso
    rcases Nat.lt_or_ge i j with h3 | h3
    · exact hc (cyc_of h3 hj h2 h1)
    · exact hc (cyc_of (by omega) hi h1 h2)
theorem up_refl {n : Nat} {ps : List (Int × Int)} {i : Nat} (hi : i < n) : (upT n ps i).testBit i = true := by
  rw [upT_testBit, under_iff.2 (Reach.refl _ _)]
  simp [hi]

set_option maxHeartbeats 2000000 in
theorem OrderTable_walk (n : Int) (ps : List (Int × Int)) (A : Option Addr) (c : Nat) (w : World) (hm : ps.length ≤ maxLen) (hr : Row w A (pairsC ps)) :
    Calls Try.prog 9 #[.int .i64 n, .slice A ps.length c] w fun e w' => e = .returned (.bool true) ∧ Below w.heap.size w w' := by
  by_cases hc : code n ps = 0
  · obtain ⟨h2, h3, h4⟩ := code_zero hc
    obtain ⟨n, rfl⟩ := Int.eq_ofNat_of_zero_le (show 0 ≤ n by unfold Large at h2; omega)
    obtain ⟨hn1, hn6, hl⟩ : 1 ≤ n ∧ n ≤ 6 ∧ ps.length ≤ 20 := by unfold Large at h2; omega
    have HC := Lib.hid hc
    have HG := Lib.hid h3
    have HY := Lib.hid h4
    clear h2 h3 h4 hc
    go_enter Try.func9, Try.ntmps9
    go_wp2_with fail
    refine (Table_ok n ps A c _ hm hr HC.out).mono ?_
    rintro e w1 ⟨g, rfl, hown, hb1⟩
    have HO := Lib.hid hown
    clear hown
    go_wp2_with fail
    refine (ordered_any n ps A c _ hm (hr.below hb1)).mono ?_
    rintro e w2 ⟨rfl, hb2⟩
    rw [HC.out]
    have HB2 := Lib.hid (hb1.trans (hb2.mono hb1.size))
    go_wp2
    go_loopw [7] (fun v wr => LtI n w w1 v wr) (fun v _ => n - (intOf v).toNat)
    case atStart => exact ⟨0, rfl, Nat.zero_le _, hb2, HB2.out⟩
    case round =>
      clear hb2 HB2
      obtain ⟨i, rfl, hi, hb2, hbel⟩ := hrel
      by_cases hin : i < n
      · have hci := (HO.out.below hb2).cell hin
        go_wp2_with fail
        refine (Bit_any (upT n ps i) i (by omega) (upT_u32 hn6 ps i) _).mono ?_
        rintro e w' ⟨rfl, rfl⟩
        rw [up_refl hin]
        go_wp2
        go_loopw [8] (fun v wr => LtJ n w w1 v wr) (fun v _ => n - (intOf v).toNat)
        case atStart => exact ⟨0, rfl, Nat.zero_le _, hb2, hbel⟩
        case round =>
          clear hb2 hbel hci
          obtain ⟨j, rfl, hj, hb2, hbel⟩ := hrel
          have hci := (HO.out.below hb2).cell hin
          by_cases hjn : j < n
          · have hcj := (HO.out.below hb2).cell hjn
            cases hbit : (upT n ps i).testBit j with
            | false =>
              have HBit := Lib.hid hbit
              clear hbit
              go_wp2
              go_quiet ((go_at_call 16; exact Calls.quiet_of_same (Bit_still (upT n ps i) j HBit.out (by omega) (upT_u32 hn6 ps i) _)))
              go_wp2
              go_roundw
              case rel => exact ⟨j + 1, by go_num, by omega, below_drewN hb2 _, below_drewN hbel _⟩
              case measure => simp [intOf]; omega
            | true =>
              have hin2 := up_trans hbit
              by_cases hij : i = j
              · subst hij
                have HBit := Lib.hid hbit
                have HIn := Lib.hid hin2
                clear hbit hin2
                go_wp2
                go_quiet (first | (go_at_call 16; exact Calls.quiet_of_same (Bit_still (upT n ps i) i HBit.out (by omega) (upT_u32 hn6 ps i) _)) | (go_at_call 32; exact Calls.quiet_of_same (In_still (upT n ps i) (upT n ps i) HIn.out (upT_u32 hn6 ps i) (upT_u32 hn6 ps i) _)))
                go_wp2
                go_roundw
                case rel => exact ⟨i + 1, by go_num, by omega, below_drewN hb2 _, below_drewN hbel _⟩
                case measure => simp [intOf]; omega
              · have hd : ((i : Int) != (j : Int)) = true := by simp; omega
                have hbit2 := up_anti HY.out hin hjn hij hbit
                have HBit := Lib.hid hbit
                have HBit2 := Lib.hid hbit2
                have HIn := Lib.hid hin2
                clear hbit hin2 hbit2 hij
                go_wp2
                go_quiet (first | (go_at_call 16; with_reducible exact Calls.quiet_of_same (Bit_still (upT n ps i) j HBit.out (by omega) (upT_u32 hn6 ps i) _)) | (go_at_call 32; exact Calls.quiet_of_same (In_still (upT n ps j) (upT n ps i) HIn.out (upT_u32 hn6 ps j) (upT_u32 hn6 ps i) _)) | (go_at_call 16; with_reducible exact Calls.quiet_of_same (Bit_still (upT n ps j) i HBit2.out (by omega) (upT_u32 hn6 ps j) _)))
                go_wp2
                go_roundw
                case rel => exact ⟨j + 1, by go_num, by omega, below_drewN hb2 _, below_drewN hbel _⟩
                case measure => simp [intOf]; omega
          · go_wp2
            go_roundw
            case rel => exact ⟨i + 1, by go_num, by omega, hb2, hbel⟩
            case measure => simp [intOf]; omega
      · go_wp2
        go_loopw [81] (fun v wr => ∃ j : Nat, v = .int .i64 j ∧ j ≤ ps.length ∧ Below w1.heap.size w1 wr ∧ Below w.heap.size w wr) (fun v _ => ps.length - (intOf v).toNat)
        case atStart => exact ⟨0, rfl, Nat.zero_le _, hb2, hbel⟩
        case round =>
          clear hb2 hbel
          obtain ⟨j, rfl, hj, hb2, hbel⟩ := hrel
          by_cases hjl : j < ps.length
          · obtain ⟨p, hp⟩ := get_some hjl
            obtain ⟨p1, p2⟩ := p
            obtain ⟨o1, o2, o3, o4⟩ := HG.out _ (List.mem_of_getElem? hp)
            simp only at o1 o2 o3 o4
            obtain ⟨x, rfl⟩ := Int.eq_ofNat_of_zero_le o1
            obtain ⟨y, rfl⟩ := Int.eq_ofNat_of_zero_le o3
            have hx : x < n := by omega
            have hy : y < n := by omega
            have hbit : (upT n ps x).testBit y = true := by
              rw [upT_testBit, under_iff.2 ((Reach.refl ps x).step (p := ((x : Int), (y : Int))) (List.mem_of_getElem? hp))]
              simp [hy]
            obtain ⟨bp, op, rfl, hpc⟩ := (hr.below hbel).at (k := j * 2) (by rw [pairsC_length]; omega)
            have hp1 := hpc _ _ (pairsC_at0 hp)
            have hp2 : wr.cell? ⟨bp, op + j * 2 + 1, none⟩ = some (.int .i64 (y : Nat)) := by rw [Nat.add_assoc]; exact hpc _ _ (pairsC_at1 hp)
            have hc := (HO.out.below hb2).cell hx
            have HBit := Lib.hid hbit
            clear hpc hp o1 o2 o3 o4 hbit
            go_wp2
            have hq1 : (wr.alloc (.cells #[.int .i64 x, .int .i64 y] 35)).cell? ⟨wr.heap.size, 0, none⟩ = some (.int .i64 x) := by simp
            have hq2 : (wr.alloc (.cells #[.int .i64 x, .int .i64 y] 35)).cell? ⟨wr.heap.size, 1, none⟩ = some (.int .i64 y) := by simp
            have HB2 := Lib.hid (hbel.alloc hbel.size (.cells #[.int .i64 x, .int .i64 y] 35))
            have HB3 := Lib.hid (hb2.alloc hb2.size (.cells #[.int .i64 x, .int .i64 y] 35))
            have hc2 := (HO.out.below HB3.out).cell hx
            clear hb2 hbel hc hp1 hp2
            generalize wr.heap.size = sz at *
            generalize wr.alloc (.cells #[.int .i64 x, .int .i64 y] 35) = w2 at *
            refine wp_region_still_lit (by kernel_rfl) (by kernel_rfl) ?_
            iterate 7 still_step
            still_call (Bit_still (upT n ps x) y HBit.out (by omega) (upT_u32 hn6 ps x) _)
            repeat still_step
            refine wpStill_nil ?_
            go_wp2
            go_roundw
            case rel => exact ⟨j + 1, by go_num, by omega, HB3.out.drew, HB2.out.drew⟩
            case measure => simp [intOf]; omega
          · go_wp2
            go_ret
            exact ⟨rfl, hbel⟩
  · go_enter Try.func9, Try.ntmps9
    go_wp2_with fail
    refine (Table_err n ps A c _ hm hr hc).mono ?_
    rintro e w1 ⟨rfl, hb1⟩
    go_wp2_with fail
    refine (ordered_any n ps A c _ hm (hr.below hb1)).mono ?_
    rintro e w2 ⟨rfl, hb2⟩
    have HB2 := Lib.hid (hb1.trans (hb2.mono hb1.size))
    generalize code n ps = k at *
    have hk : (k != 0) = true := by simpa using hc
    have hk2 : (k == 0) = false := by simpa using hc
    clear hc
    go_wp2
    go_ret
    exact ⟨rfl, HB2.out⟩

end Go.Proofs.Ytkmloanalhjmjaa
