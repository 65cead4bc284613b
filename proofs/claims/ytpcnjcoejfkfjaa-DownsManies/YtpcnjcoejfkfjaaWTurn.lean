/- syllogistref.Turned. -/
import Derived.Test.YtpcnjcoejfkfjaaTurn
import Derived.Test.YtpcnjcoejfkfjaaWP
namespace Go.Proofs.Ytpcnjcoejfkfjaa
open Go.RowKit

def TurnRel (ps : List (Int × Int)) (w : World) (v i : Value) (wr : World) : Prop :=
  ∃ j : Nat, i = .int .i64 j ∧ j ≤ ps.length ∧ OwnP wr w.heap.size v (turned (ps.take j)) ∧ Below w.heap.size w wr

theorem turned_snoc {ps : List (Int × Int)} {j : Nat} {a b : Int} (h : ps[j]? = some (a, b)) : turned (ps.take (j + 1)) = turned (ps.take j) ++ [(b, a)] := by
  rw [List.take_add_one, h]
  simp [turned]

set_option maxHeartbeats 1000000 in
theorem Turned_any (ps : List (Int × Int)) (A : Option Addr) (c : Nat) (w : World) (hr : Row w A (pairsC ps)) (hl : ps.length ≤ 20) :
    Calls Try.prog 23 #[.slice A ps.length c] w fun e w' => ∃ v, e = .returned v ∧ OwnP w' w.heap.size v (turned ps) ∧ Below w.heap.size w w' := by
  obtain ⟨i0, hi, hz0, hz1, hz2⟩ := info_parts info35
  have HI := Lib.hid (And.intro hi (And.intro hz0 (And.intro hz1 hz2)))
  clear hi hz0 hz1 hz2
  go_enter Try.func23, Try.ntmps23
  go_wp2
  go_loopw [3, 8] (fun v i wr => TurnRel ps w v i wr) (fun _ i _ => ps.length - (intOf i).toNat)
  case atStart => exact ⟨0, rfl, Nat.zero_le _, OwnP.nil _ _, Below.refl _ _⟩
  case round =>
    obtain ⟨j, rfl, hj, hown, hbel⟩ := hrel
    have HP := Lib.hid hown
    clear hown
    by_cases hjl : j < ps.length
    · obtain ⟨p, hp⟩ := get_some hjl
      obtain ⟨p1, p2⟩ := p
      obtain ⟨bp, op, rfl, hpc⟩ := (hr.below hbel).at (k := j * 2) (by rw [pairsC_length]; omega)
      have hp1 := hpc _ _ (pairsC_at0 hp)
      have hp2 : wr.cell? ⟨bp, op + j * 2 + 1, none⟩ = some (.int .i64 p2) := by rw [Nat.add_assoc]; exact hpc _ _ (pairsC_at1 hp)
      have HT := Lib.hid (turned_snoc hp)
      have htl : (turned (ps.take j)).length ≤ 20 := by rw [turned_length, List.length_take]; omega
      have hsz := hbel.size
      clear hpc hp
      obtain ⟨hi, hz0, hz1, hz2⟩ := HI.out
      go_wp2_with (first | (at_builtin; refine wpList_append_lies _ rfl _ _ 22 rfl w.heap.size 45 i0 (.agg #[.int .i64 0, .int .i64 0]) 2 16 Try.underlying22 hi hz0 hz1 hz2 rfl (by decide) _ _ _ rfl ((HP.out.alloc _).alloc _) ⟨wr.heap.size + 1, 0, none⟩ 1 1 [.int .i64 p2, .int .i64 p1] rfl rfl ?c0 ?c1 (by decide) ?c2 ?c3 ?c4 _ rfl ?c5))
      case c1 => exact ⟨rfl, rfl⟩
      case c2 => unfold maxLen; omega
      case c3 => omega
      case c4 => first | omega | (simp; omega)
      case c5 =>
        intro g3 cap3 w4 hown4 hgrow4 hat4 hlt4
        have hb4 : Below w.heap.size w w4 := below_own ((hbel.alloc hsz _).alloc (by simp; omega) _) ((HP.out.alloc _).alloc _) hgrow4
        have HO4 := Lib.hid hown4
        clear hown4 hgrow4 hat4 hi hz0 hz1 hz2
        go_wp2
        go_roundw
        case rel =>
          refine ⟨j + 1, by go_num, by omega, ?_, hb4⟩
          rw [HT.out]
          unfold OwnP
          rw [pairsC_append, List.length_append]
          exact HO4.out
        case measure => simp [intOf]; omega
    · have HE := Lib.hid (show ps.take j = ps from List.take_of_length_le (by omega))
      go_wp2
      go_ret
      exact ⟨_, rfl, by have := HP.out; rw [HE.out] at this; exact this, hbel⟩

end Go.Proofs.Ytpcnjcoejfkfjaa
