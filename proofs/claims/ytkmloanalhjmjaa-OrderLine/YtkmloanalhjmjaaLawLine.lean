/- The walk of the law on Line, without the document's answer. -/
import Derived.Test.YtkmloanalhjmjaaSzp
import Derived.Test.YtkmloanalhjmjaaLawLines
import Derived.Test.YtkmloanalhjmjaaLawTable
import Derived.Test.YtkmloanalhjmjaaW8
import Derived.Deep.RegionLaw
namespace Go.Proofs.Ytkmloanalhjmjaa
open Go.RowKit

/-- The loop that lays the chain. -/
def ChainRel (n : Nat) (ps : List (Int × Int)) (w w1 : World) (v i : Value) (wr : World) : Prop :=
  ∃ k : Nat, i = .int .i64 (k + 1 : Nat) ∧ k + 1 ≤ n ∧ OwnP wr w1.heap.size v (consTo (lineL n ps n) k) ∧ Below w1.heap.size w1 wr ∧ Below w.heap.size w wr

set_option maxHeartbeats 2000000 in
theorem OrderLine_walk (n : Int) (ps : List (Int × Int)) (A : Option Addr) (c : Nat) (w : World) (hm : ps.length ≤ maxLen) (hr : Row w A (pairsC ps)) :
    Calls Try.prog 11 #[.int .i64 n, .slice A ps.length c] w fun e w' => e = .returned (.bool true) ∧ Below w.heap.size w w' := by
  by_cases hc : code n ps = 0
  · obtain ⟨h2, h3, h4⟩ := code_zero hc
    obtain ⟨n, rfl⟩ := Int.eq_ofNat_of_zero_le (show 0 ≤ n by unfold Large at h2; omega)
    obtain ⟨hn1, hn6, hl⟩ : 1 ≤ n ∧ n ≤ 6 ∧ ps.length ≤ 20 := by unfold Large at h2; omega
    obtain ⟨i0, hi, hz0, hz1, hz2⟩ := info_parts info35
    have HI := Lib.hid (And.intro hi (And.intro hz0 (And.intro hz1 hz2)))
    have HC := Lib.hid hc
    have HC2 := Lib.hid (lineP_code hc)
    have HY := Lib.hid h4
    clear h2 h3 h4 hc hi hz0 hz1 hz2
    go_enter Try.func11, Try.ntmps11
    go_wp2_with fail
    refine (Line_ok n ps A c _ hm hr HC.out).mono ?_
    rintro e w1 ⟨v, rfl, hown, hb1⟩
    obtain ⟨A2, c2, rfl, hrow, hmax⟩ := hown.row
    have HR := Lib.hid hrow
    have hsz1 := hb1.size
    clear hown hrow hmax
    rw [line_len]
    go_wp2_with fail
    refine (ordered_any n ps A c _ hm (hr.below hb1)).mono ?_
    rintro e w2 ⟨rfl, hb2⟩
    rw [HC.out]
    have hb02 := hb1.trans (hb2.mono hb1.size)
    go_wp2
    go_loopw [7, 8] (fun v i wr => ChainRel n ps w w1 v i wr) (fun _ v _ => n - (intOf v).toNat)
    case atStart => exact ⟨0, rfl, by omega, OwnP.nil _ _, hb2, hb02⟩
    case round =>
      clear hb2 hb02
      obtain ⟨k, rfl, hk, hown, hb2, hb02⟩ := hrel
      have HP := Lib.hid hown
      clear hown
      by_cases hkn : k + 1 < n
      · have hlen := lineL_length n ps n
        have g0 := getD_at (l := lineL n ps n) (i := k) (by omega)
        have g1 := getD_at (l := lineL n ps n) (i := k + 1) (by omega)
        obtain ⟨b, off, rfl, hcell⟩ := (HR.out.below hb2).at (k := 0) (by rw [ints_length, nats_length]; omega)
        have hc0 := hcell _ _ (ints_at (nats_at g0))
        have hc1 := hcell _ _ (ints_at (nats_at g1))
        have HL := Lib.hid (show consTo (lineL n ps n) (k + 1) = consTo (lineL n ps n) k ++ [((((lineL n ps n).getD k 0 : Nat) : Int), (((lineL n ps n).getD (k + 1) 0 : Nat) : Int))] from rfl)
        have hcl := consTo_length (lineL n ps n) k
        have hcl2 : (consTo (lineL n ps n) k).length ≤ 6 := by omega
        clear hlen g0 g1 hcell hcl
        generalize (lineL n ps n).getD k 0 = x at *
        generalize (lineL n ps n).getD (k + 1) 0 = y at *
        have e1 : ((k + 1 : Nat) : Int) - 1 = (k : Int) := by omega
        have hsz := hb2.size
        have hsz0 := hb02.size
        have HA := Lib.hid (fun o : Obj => show ((wr.alloc o).drew).ownsRow w1.heap.size 35 2 u7 (consTo (lineL n ps n) k).length (pairsC (consTo (lineL n ps n) k)) from HP.out.alloc o)
        obtain ⟨hi, hz0, hz1, hz2⟩ := HI.out
        have H63 := Lib.hid (show (consTo (lineL n ps n) k).length + 1 ≤ maxLen by unfold maxLen; omega)
        have HBy := Lib.hid (show ((consTo (lineL n ps n) k).length + 1) * 16 ≤ 140737488355328 by omega)
        have HOne := Lib.hid (show ∀ u ∈ [Value.int .i64 (x : Nat), .int .i64 (y : Nat)], u.oneCell' = true by intro u hu; simp at hu; rcases hu with rfl | rfl <;> rfl)
        have HBase := Lib.hid (fun o : Obj => show w1.heap.size ≤ ((wr.alloc o).drew).heap.size by show _ ≤ (wr.alloc o).heap.size; simp; omega)
        have HNews := Lib.hid (show ∀ j u, [Value.int .i64 (x : Nat), .int .i64 (y : Nat)][j]? = some u → ((wr.alloc (.cells #[.int .i64 (x : Nat), .int .i64 (y : Nat)] 35)).drew).cell? ((⟨wr.heap.size, 0, none⟩ : Addr).add j) = some u from cell_two wr _ _ _)
        have hwk : IntKind.i64.wrap (k : Int) = (k : Int) := IntWalk.i64_in _ (by omega)
        have hk0 : (0 : Int) ≤ (k : Int) := by omega
        have hk1 : (k : Int) < (n : Int) := by omega
        have hk2 : (0 : Int) ≤ (k : Int) + 1 := by omega
        have hk3 : (k : Int) + 1 < (n : Int) := by omega
        have hk4 : ((k : Int) + 1).toNat = k + 1 := by omega
        clear e1
        go_wp2
        go_region_law ((refine step_append_lies _ rfl (.tmp 39) (.tmp 50) 22 rfl w1.heap.size 35 i0 (.agg #[.int .i64 0, .int .i64 0]) 2 16 Try.underlying22 hi hz0 hz1 hz2 rfl (by decide) u7 (consTo (lineL n ps n) k).length (pairsC (consTo (lineL n ps n) k)) (by simp [Act.eval]) (HA.out _) ⟨wr.heap.size, 0, none⟩ 1 1 [.int .i64 (x : Nat), .int .i64 (y : Nat)] (by simp [Act.eval]) rfl HNews.out HOne.out (by decide) H63.out HBy.out (HBase.out _) _ rfl ?_; intro g3 cap3 w4 hown4 hgrow4 hat4 hlt4))
        all_goals
          have HO4 := Lib.hid hown4
          have HG4 := Lib.hid hgrow4
          clear hown4 hgrow4 hat4
          go_wp2
          go_roundw
          case rel =>
            have hlt := fun k hk => (World.ownsRow.lt HP.out k hk).1
            refine ⟨k + 1, by go_num, by omega, ?_, ?_, ?_⟩
            · rw [HL.out]
              unfold OwnP
              rw [pairsC_append, List.length_append]
              exact HO4.out
            · exact ((hb2.alloc hsz _).drew).grown HG4.out (HBase.out _) hlt
            · exact ((hb02.alloc (by omega) _).drew).grown HG4.out (Nat.le_trans hsz1 (HBase.out _)) (fun k hk => Nat.le_trans hsz1 (hlt k hk))
          case measure => simp [intOf]; omega
      · have HPP := Lib.hid (show OwnP wr w1.heap.size u7 (lineP n ps) by unfold lineP; rw [show n - 1 = k from by omega]; exact HP.out)
        obtain ⟨A3, c3, rfl, hrow3, hmax3⟩ := HPP.out.row
        have HR3 := Lib.hid hrow3
        clear HP HPP hrow3
        go_wp2_with fail
        refine (Table_ok n ps A c _ hm (hr.below hb02) HC.out).mono ?_
        rintro e w3 ⟨g, rfl, hown, hb3⟩
        have HO := Lib.hid hown
        clear hown
        have hb03 := hb02.trans (hb3.mono hb02.size)
        go_wp2_with fail
        refine (Table_ok n (lineP n ps) A3 c3 _ hmax3 (HR3.out.below hb3) HC2.out).mono ?_
        rintro e w4 ⟨g4, rfl, hown, hb4⟩
        have HO4 := Lib.hid hown
        clear hown
        have hb04 := hb03.trans (hb4.mono hb03.size)
        have HO3 := Lib.hid (HO.out.below hb4)
        clear hb2 hb02 hb3 hb03 hb4 HO HR3 hb1
        go_wp2
        go_loopw [13] (fun v wr => ∃ i : Nat, v = .int .i64 i ∧ i ≤ n ∧ ∃ d, wr = w4.drewN d) (fun v _ => n - (intOf v).toNat)
        case atStart => exact ⟨0, rfl, Nat.zero_le _, 0, rfl⟩
        case round =>
          obtain ⟨i, rfl, hin, d, rfl⟩ := hrel
          by_cases hlt : i < n
          · have hc3 : (w4.drewN d).cell? ⟨g, i, none⟩ = some (.int .u32 (upT n ps i : Nat)) := HO3.out.cell hlt
            have hc4 : (w4.drewN d).cell? ⟨g4, i, none⟩ = some (.int .u32 (upT n (lineP n ps) i : Nat)) := HO4.out.cell hlt
            have HIn := Lib.hid (lineP_in HY.out hlt)
            generalize hw5 : w4.drewN d = w5 at *
            have HW := Lib.hid hw5
            clear hw5
            go_wp2
            go_quiet ((go_at_call 32; exact Calls.quiet_of_same (In_still (upT n ps i) (upT n (lineP n ps) i) HIn.out (upT_u32 hn6 _ _) (upT_u32 hn6 _ _) _)))
            go_wp2
            go_roundw
            case rel => exact ⟨i + 1, by go_num, by omega, d + nq, by rw [← HW.out, World.drewN_drewN]⟩
            case measure => simp [intOf]; omega
          · go_wp2
            go_ret
            exact ⟨rfl, below_drewN hb04 d⟩
  · go_enter Try.func11, Try.ntmps11
    go_wp2_with fail
    refine (Line_err n ps A c _ hm hr hc).mono ?_
    rintro e w1 ⟨rfl, hb1⟩
    go_wp2_with fail
    refine (ordered_any n ps A c _ hm (hr.below hb1)).mono ?_
    rintro e w2 ⟨rfl, hb2⟩
    have HB2 := Lib.hid (hb1.trans (hb2.mono hb1.size))
    generalize code n ps = k at *
    have hk : (k != 0) = true := by simpa using hc
    have hk2 : (k == 0) = false := by simpa using hc
    clear hc
    go_wp2
    go_ret
    exact ⟨rfl, HB2.out⟩

end Go.Proofs.Ytkmloanalhjmjaa
