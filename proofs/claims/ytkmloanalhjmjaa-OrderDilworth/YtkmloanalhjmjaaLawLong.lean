/- syllogistref.Turned, and the walk of the law on longest chains and greatest sets apart. -/
import Derived.Test.YtkmloanalhjmjaaMirsky
import Derived.Test.YtkmloanalhjmjaaW15
import Derived.Test.YtkmloanalhjmjaaW11
import Derived.Test.YtkmloanalhjmjaaLawTable
import Derived.Test.YtkmloanalhjmjaaW8
namespace Go.Proofs.Ytkmloanalhjmjaa
open Go.RowKit

def TurnRel (ps : List (Int × Int)) (w : World) (v i : Value) (wr : World) : Prop :=
  ∃ j : Nat, i = .int .i64 j ∧ j ≤ ps.length ∧ OwnP wr w.heap.size v (turned (ps.take j)) ∧ Below w.heap.size w wr

theorem turned_snoc {ps : List (Int × Int)} {j : Nat} {a b : Int} (h : ps[j]? = some (a, b)) : turned (ps.take (j + 1)) = turned (ps.take j) ++ [(b, a)] := by
  rw [List.take_add_one, h]
  simp [turned]

set_option maxHeartbeats 1000000 in
theorem Turned_any (ps : List (Int × Int)) (A : Option Addr) (c : Nat) (w : World) (hr : Row w A (pairsC ps)) (hl : ps.length ≤ 20) :
    Calls Try.prog 34 #[.slice A ps.length c] w fun e w' => ∃ v, e = .returned v ∧ OwnP w' w.heap.size v (turned ps) ∧ Below w.heap.size w w' := by
  obtain ⟨i0, hi, hz0, hz1, hz2⟩ := info_parts info35
  have HI := Lib.hid (And.intro hi (And.intro hz0 (And.intro hz1 hz2)))
  clear hi hz0 hz1 hz2
  go_enter Try.func34, Try.ntmps34
  go_wp2
  go_loopw [3, 8] (fun v i wr => TurnRel ps w v i wr) (fun _ i _ => ps.length - (intOf i).toNat)
  case atStart => exact ⟨0, rfl, Nat.zero_le _, OwnP.nil _ _, Below.refl _ _⟩
  case round =>
    obtain ⟨j, rfl, hj, hown, hbel⟩ := hrel
    have HP := Lib.hid hown
    clear hown
    by_cases hjl : j < ps.length
    · obtain ⟨p, hp⟩ := get_some hjl
      obtain ⟨p1, p2⟩ := p
      obtain ⟨bp, op, rfl, hpc⟩ := (hr.below hbel).at (k := j * 2) (by rw [pairsC_length]; omega)
      have hp1 := hpc _ _ (pairsC_at0 hp)
      have hp2 : wr.cell? ⟨bp, op + j * 2 + 1, none⟩ = some (.int .i64 p2) := by rw [Nat.add_assoc]; exact hpc _ _ (pairsC_at1 hp)
      have HT := Lib.hid (turned_snoc hp)
      have htl : (turned (ps.take j)).length ≤ 20 := by rw [turned_length, List.length_take]; omega
      have hsz := hbel.size
      clear hpc hp
      obtain ⟨hi, hz0, hz1, hz2⟩ := HI.out
      go_wp2_with (first | (at_builtin; refine wpList_append_lies _ rfl _ _ 22 rfl w.heap.size 35 i0 (.agg #[.int .i64 0, .int .i64 0]) 2 16 Try.underlying22 hi hz0 hz1 hz2 rfl (by decide) _ _ _ rfl ((HP.out.alloc _).alloc _) ⟨wr.heap.size + 1, 0, none⟩ 1 1 [.int .i64 p2, .int .i64 p1] rfl rfl ?c0 ?c1 (by decide) ?c2 ?c3 ?c4 _ rfl ?c5))
      case c1 => exact ⟨rfl, rfl⟩
      case c2 => unfold maxLen; omega
      case c3 => omega
      case c4 => first | omega | (simp; omega)
      case c5 =>
        intro g3 cap3 w4 hown4 hgrow4 hat4 hlt4
        have hb4 : Below w.heap.size w w4 := below_own ((hbel.alloc hsz _).alloc (by simp; omega) _) ((HP.out.alloc _).alloc _) hgrow4
        have HO4 := Lib.hid hown4
        clear hown4 hgrow4 hat4 hi hz0 hz1 hz2
        go_wp2
        go_roundw
        case rel =>
          refine ⟨j + 1, by go_num, by omega, ?_, hb4⟩
          rw [HT.out]
          unfold OwnP
          rw [pairsC_append, List.length_append]
          exact HO4.out
        case measure => simp [intOf]; omega
    · have HE := Lib.hid (show ps.take j = ps from List.take_of_length_le (by omega))
      go_wp2
      go_ret
      exact ⟨_, rfl, by have := HP.out; rw [HE.out] at this; exact this, hbel⟩

set_option maxHeartbeats 2000000 in
theorem OrderLong_walk (n : Int) (ps : List (Int × Int)) (A : Option Addr) (c : Nat) (w : World) (hm : ps.length ≤ maxLen) (hr : Row w A (pairsC ps)) :
    Calls Try.prog 13 #[.int .i64 n, .slice A ps.length c] w fun e w' => e = .returned (.bool true) ∧ Below w.heap.size w w' := by
  by_cases hc : code n ps = 0
  · obtain ⟨h2, h3, h4⟩ := code_zero hc
    obtain ⟨n, rfl⟩ := Int.eq_ofNat_of_zero_le (show 0 ≤ n by unfold Large at h2; omega)
    obtain ⟨hn1, hn6, hl⟩ : 1 ≤ n ∧ n ≤ 6 ∧ ps.length ≤ 20 := by unfold Large at h2; omega
    have hL : (chainW n ps).length ≤ n := by unfold chainW; rw [bt_length]; exact hc_bound h4 _ (Nat.le_refl _)
    have hS := pop_le (widest n ps)
    have hM := mirsky hn6 h4
    have hW : widest n ps < 4294967296 := by
      have h1 : widest n ps ≤ one n := widestTo_le n ps _
      have h2 := one_le_64 hn6
      omega
    have HC := Lib.hid hc
    have HC2 := Lib.hid (turned_code hc)
    have HTL := Lib.hid (turned_long h4)
    have HTW := Lib.hid (turned_widest n ps)
    clear h2 h3 h4 hc
    go_enter Try.func13, Try.ntmps13
    go_wp2_with fail
    refine (Chain_ok n ps A c _ hm hr HC.out).mono ?_
    rintro e w1 ⟨v, rfl, hown, hb1⟩
    obtain ⟨A2, c2, rfl, _, _⟩ := hown.row
    clear hown
    rw [nats_length]
    go_wp2_with fail
    refine (Apart_ok n ps A c _ hm (hr.below hb1) HC.out).mono ?_
    rintro e w2 ⟨rfl, hb2⟩
    have hb02 := hb1.trans (hb2.mono hb1.size)
    go_wp2_with fail
    refine (ordered_any n ps A c _ hm (hr.below hb02)).mono ?_
    rintro e w3 ⟨rfl, hb3⟩
    rw [HC.out]
    have hb03 := hb02.trans (hb3.mono hb02.size)
    go_wp2_with fail
    refine (Turned_any ps A c _ (hr.below hb03) hl).mono ?_
    rintro e w4 ⟨v4, rfl, hown, hb4⟩
    have hb04 := hb03.trans (hb4.mono hb03.size)
    obtain ⟨A4, c4, rfl, hrow4, hmax4⟩ := hown.row
    have HR4 := Lib.hid hrow4
    clear hown hrow4
    go_wp2_with fail
    refine (Chain_ok n (turned ps) A4 c4 _ hmax4 HR4.out HC2.out).mono ?_
    rintro e w5 ⟨v5, rfl, hown, hb5⟩
    have hb05 := hb04.trans (hb5.mono hb04.size)
    obtain ⟨A5, c5, rfl, _, _⟩ := hown.row
    clear hown
    rw [nats_length, HTL.out]
    go_wp2_with fail
    refine (Turned_any ps A c _ (hr.below hb05) hl).mono ?_
    rintro e w6 ⟨v6, rfl, hown, hb6⟩
    have hb06 := hb05.trans (hb6.mono hb05.size)
    obtain ⟨A6, c6, rfl, hrow6, hmax6⟩ := hown.row
    have HR6 := Lib.hid hrow6
    clear hown hrow6
    go_wp2_with fail
    refine (Apart_ok n (turned ps) A6 c6 _ hmax6 HR6.out HC2.out).mono ?_
    rintro e w7 ⟨rfl, hb7⟩
    have hb07 := hb06.trans (hb7.mono hb06.size)
    rw [HTW.out]
    go_wp2_with fail
    refine (Size_any (widest n ps) hW _).mono ?_
    rintro e w' ⟨rfl, rfl⟩
    clear hb1 hb2 hb02 hb3 hb03 hb4 hb04 hb5 hb05 hb6 hb06 hb7 HR4 HR6 HC HC2 HTL HTW hmax4 hmax6
    generalize (chainW n ps).length = L at *
    generalize pop (widest n ps) = S at *
    obtain ⟨P, hP⟩ : ∃ P : Nat, P = L * S := ⟨_, rfl⟩
    have hPb : P ≤ 6 * 32 := by rw [hP]; exact Nat.mul_le_mul (by omega) hS
    have hnP : n ≤ P := by omega
    have hPI : (L : Int) * (S : Int) = (P : Int) := by rw [hP]; simp
    clear hP hM
    go_wp2
    go_ret
    exact ⟨rfl, hb07⟩
  · go_enter Try.func13, Try.ntmps13
    go_wp2_with fail
    refine (Chain_err n ps A c _ hm hr hc).mono ?_
    rintro e w1 ⟨rfl, hb1⟩
    go_wp2_with fail
    refine (Apart_err n ps A c _ hm (hr.below hb1) hc).mono ?_
    rintro e w2 ⟨rfl, hb2⟩
    have hb02 := hb1.trans (hb2.mono hb1.size)
    go_wp2_with fail
    refine (ordered_any n ps A c _ hm (hr.below hb02)).mono ?_
    rintro e w3 ⟨rfl, hb3⟩
    have HB2 := Lib.hid (hb02.trans (hb3.mono hb02.size))
    generalize code n ps = k at *
    have hk : (k != 0) = true := by simpa using hc
    have hk2 : (k == 0) = false := by simpa using hc
    clear hc
    go_wp2
    go_ret
    exact ⟨rfl, HB2.out⟩

end Go.Proofs.Ytkmloanalhjmjaa
