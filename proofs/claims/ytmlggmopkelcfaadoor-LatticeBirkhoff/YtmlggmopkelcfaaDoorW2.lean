/- Under: what is reached. -/
import Derived.Test.YtmlggmopkelcfaaDoorW1
import Derived.Test.YtmlggmopkelcfaaDoorMath
namespace Go.Proofs.YtmlggmopkelcfaaDoor
open Go.RowKit

theorem info3 : (Tryd.prog.info? 3).map (fun i => (i.zero, i.size, i.bytes)) = some (some (.int .i64 0), 1, 8) := by kernel_rfl

/-- The list of things come to, in memory. -/
def UnderRel (ps : List (Int × Int)) (a : Int) (w : World) (v i : Value) (wr : World) : Prop :=
  ∃ (xs : List Int) (k : Nat), i = .int .i64 k ∧ k ≤ xs.length ∧ Come ps a xs k 0 ∧ wr.ownsRow w.heap.size 3 1 v xs.length (ints xs) ∧ Below w.heap.size w wr


def UnderIn (ps : List (Int × Int)) (a : Int) (w : World) (k : Nat) (x : Int) (v i : Value) (wr : World) : Prop :=
  ∃ (xs : List Int) (j : Nat), i = .int .i64 j ∧ j ≤ ps.length ∧ Come ps a xs k j ∧ xs[k]? = some x ∧ wr.ownsRow w.heap.size 3 1 v xs.length (ints xs) ∧ Below w.heap.size w wr

set_option maxHeartbeats 1000000 in
theorem Under_any (n : Int) (ps : List (Int × Int)) (A : Option Addr) (c : Nat) (a b : Int) (w : World) (h : Row w A (pairsC ps)) (hl : ps.length ≤ 20) :
    Calls Tryd.prog 7 #[.int .i64 n, .slice A ps.length c, .int .i64 a, .int .i64 b] w fun e w' => e = .returned (.bool (under ps a b)) ∧ Below w.heap.size w w' := by
  obtain ⟨i0, hi, hz0, hz1, hz2⟩ := info_parts info3
  have HI := Lib.hid (And.intro hi (And.intro hz0 (And.intro hz1 hz2)))
  clear hi hz0 hz1 hz2
  go_enter Tryd.func7, Tryd.ntmps7
  go_wp2
  go_loopw [9, 10] (fun v i wr => UnderRel ps a w v i wr) (fun _ i _ => 21 - (intOf i).toNat)
  case atStart =>
    refine ⟨[a], 0, rfl, by simp, Come.init ps a, ?_, (Below.refl _ _).alloc (Nat.le_refl _) _⟩
    exact World.ownsRow_lit w #[.int .i64 a] 1 (Nat.le_refl _) (by unfold maxLen; omega) rfl
  case round =>
    obtain ⟨xs, k, rfl, hk, hcome, hown, hbel⟩ := hrel
    have hlen := hcome.len
    have hpos : 0 < xs.length := List.length_pos_of_mem hcome.first
    obtain ⟨g, cap, rfl, hg1, hg2⟩ := hown.form hpos
    by_cases hlt : k < xs.length
    · obtain ⟨x, hx⟩ := get_some hlt
      have HX := Lib.hid hx
      have HC := Lib.hid hcome
      clear hx hpos hcome
      go_wp2
      go_loopw [9, 23] (fun v i wi => UnderIn ps a w k x v i wi) (fun _ i _ => ps.length - (intOf i).toNat)
      case atStart => exact ⟨xs, 0, rfl, Nat.zero_le _, HC.out, HX.out, hown, hbel⟩
      case round =>
        clear hown hbel hlen hlt hk HX HC hg1 hg2
        obtain ⟨ys, j, rfl, hj, hcome, hx, hown, hbel⟩ := hrel
        have hlen := hcome.len
        have hkl : k < ys.length := (List.getElem?_eq_some_iff.1 hx).1
        obtain ⟨g2, cap2, rfl, hg1, hg2⟩ := hown.form (by omega)
        by_cases hjl : j < ps.length
        · obtain ⟨p, hp⟩ := get_some hjl
          obtain ⟨p1, p2⟩ := p
          obtain ⟨bp, op, rfl, hpc⟩ := (h.below hbel).at (k := j * 2) (by rw [pairsC_length]; omega)
          have hp1 := hpc _ _ (pairsC_at0 hp)
          have hp2 : wr.cell? ⟨bp, op + j * 2 + 1, none⟩ = some (.int .i64 p2) := by rw [Nat.add_assoc]; exact hpc _ _ (pairsC_at1 hp)
          have hcx := (hown.cellAt k (by omega)).trans (ints_at hx)
          have HP := Lib.hid hp
          have HX := Lib.hid hx
          have HC := Lib.hid hcome
          have HO := Lib.hid hown
          clear hpc hp hx hcome hown
          go_wp2
          have hown2 := HO.out.alloc (.cells #[.int .i64 p1, .int .i64 p2] 26)
          have hbel2 := hbel.alloc hbel.size (.cells #[.int .i64 p1, .int .i64 p2] 26)
          have hq1 : (wr.alloc (.cells #[.int .i64 p1, .int .i64 p2] 26)).cell? ⟨wr.heap.size, 0, none⟩ = some (.int .i64 p1) := by simp
          have hq2 : (wr.alloc (.cells #[.int .i64 p1, .int .i64 p2] 26)).cell? ⟨wr.heap.size, 1, none⟩ = some (.int .i64 p2) := by simp
          have hcx2 : (wr.alloc (.cells #[.int .i64 p1, .int .i64 p2] 26)).cell? ⟨g2, k, none⟩ = some (.int .i64 x) := (hown2.cellAt k (by omega)).trans (ints_at HX.out)
          have hrow2 := Row.of_own hown2
          generalize wr.heap.size = sz at *
          generalize wr.alloc (.cells #[.int .i64 p1, .int .i64 p2] 26) = w2 at *
          have HO2 := Lib.hid hown2
          have HR2 := Lib.hid hrow2
          have HB2 := Lib.hid hbel2
          clear hown2 hrow2 hbel2 hbel HO hp1 hp2 hcx
          by_cases he : p1 = x
          · have hd : (p1 == x) = true := by simp [he]
            have HE := Lib.hid he
            clear he
            by_cases hm : p2 ∈ ys
            · have hd2 : decide (p2 ∈ ys) = true := by simp [hm]
              have HM := Lib.hid hm
              clear hm
              go_quiet ((go_at_call 16; exact Has_quiet ys _ _ _ _ _ HR2.out (by omega)))
              go_wp2
              go_roundw
              case rel => exact ⟨ys, j + 1, by go_num, by omega, HC.out.skip HX.out HP.out (fun _ => HM.out), HX.out, HO2.out, below_drewN HB2.out _⟩
              case measure => simp [intOf]; omega
            · have hd2 : decide (p2 ∈ ys) = false := by simp [hm]
              have HM := Lib.hid hm
              clear hm
              go_quiet ((go_at_call 16; exact Has_quiet ys _ _ _ _ _ HR2.out (by omega)))
              have hq3 : (w2.drewN nq).cell? ⟨sz, 1, none⟩ = some (.int .i64 p2) := hq2
              have HO3 := Lib.hid (own_drewN HO2.out nq)
              have HB3 := Lib.hid (below_drewN HB2.out nq)
              clear HO2 HB2 HR2 hq1 hq2 hcx2
              generalize w2.drewN nq = w3 at *
              obtain ⟨hi, hz0, hz1, hz2⟩ := HI.out
              go_wp2_with (at_builtin; refine wpList_append_lies _ rfl _ _ 30 rfl w.heap.size 3 i0 (.int .i64 0) 1 8 Tryd.underlying30 hi hz0 hz1 hz2 rfl (by decide) _ _ _ rfl (HO3.out.alloc _) ⟨w3.heap.size, 0, none⟩ 1 1 [.int .i64 p2] rfl rfl (cell_one_new _ _ _) ?c1 (by decide) ?c2 ?c3 ?c4 _ rfl ?c5)
              case c1 => intro u hu; simp at hu; subst hu; rfl
              case c2 => unfold maxLen; omega
              case c3 => omega
              case c4 => have := HB3.out.size; simp; omega
              case c5 =>
                intro g3 cap3 w4 hown4 hgrow4 hat4 hlt4
                have HB4 := Lib.hid (below_own (HB3.out.alloc HB3.out.size _) (HO3.out.alloc _) hgrow4)
                have HO4 := Lib.hid hown4
                clear hown4 hgrow4 hat4 hi hz0 hz1 hz2
                go_wp2
                go_roundw
                case rel => exact ⟨ys ++ [p2], j + 1, by go_num, by omega, HC.out.add HX.out HP.out HE.out HM.out, by rw [List.getElem?_append_left hkl]; exact HX.out, by rw [show (ys ++ [p2]).length = ys.length + 1 from by simp, show ints (ys ++ [p2]) = ints ys ++ [.int .i64 p2] from by simp [ints]]; exact HO4.out, HB4.out⟩
                case measure => simp [intOf]; omega
          · have hd : (p1 == x) = false := by simp [he]
            have HE := Lib.hid he
            clear he
            go_quiet (fail)
            go_wp2
            go_roundw
            case rel => exact ⟨ys, j + 1, by go_num, by omega, HC.out.skip HX.out HP.out (fun h => absurd h HE.out), HX.out, HO2.out, below_drewN HB2.out _⟩
            case measure => simp [intOf]; omega
        · obtain rfl : j = ps.length := by omega
          have HC := Lib.hid hcome
          have HO := Lib.hid hown
          clear hcome hown hx
          go_wp2
          go_roundw
          case rel => exact ⟨ys, k + 1, by go_num, by omega, HC.out.next, HO.out, hbel⟩
          case measure => simp [intOf]; omega
    · have HC := Lib.hid hcome
      have HR := Lib.hid (Row.of_own hown)
      clear hcome hown
      go_wp2_with fail
      refine (Has_any xs _ _ b _ HR.out (by omega)).mono ?_
      rintro e w' ⟨rfl, rfl⟩
      go_wp2
      go_ret
      exact ⟨ret_bool (HC.out.answer (by omega) b), hbel⟩
end Go.Proofs.YtmlggmopkelcfaaDoor
