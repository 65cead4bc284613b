/- syllogistref.TwoCheck, Said. -/
import Derived.Test.YtekeeodnjlebcaaDoorTw
import Derived.Test.YtekeeodnjlebcaaDoorWI2
import Derived.Test.YtekeeodnjlebcaaDoorOwnI
namespace Go.Proofs.YtekeeodnjlebcaaDoor
open Go.RowKit

theorem Size_still (x : Nat) (hx : x < 4294967296) (w : World) : Calls Tryd.prog 18 #[.int .u32 x] w fun e w' => e = .returned (.int .i64 (pop x)) ∧ w' = w :=
  (Size_any x hx w).mono fun _ _ ⟨he, hw⟩ => ⟨he, hw.symm⟩
/-- What the loop over the clauses makes of the code. -/
def twoK (x : Int) (l : List Cla) : Int := if x = 0 ∧ twoB l = false then 3 else x
theorem twoB_take {l : List Cla} {k : Nat} {c : Cla} (hc : l[k]? = some c) : twoB (l.take (k + 1)) = (twoB (l.take k) && decide (1 ≤ pop c.1 + pop c.2 ∧ pop c.1 + pop c.2 ≤ 2)) := by
  rw [List.take_add_one, hc]
  simp [twoB]
theorem twoK_step {x : Int} {l : List Cla} {k : Nat} {c : Cla} (hc : l[k]? = some c) : twoK x (l.take (k + 1)) = if twoK x (l.take k) = 0 ∧ ¬ (1 ≤ pop c.1 + pop c.2 ∧ pop c.1 + pop c.2 ≤ 2) then 3 else twoK x (l.take k) := by
  unfold twoK
  rw [twoB_take hc]
  by_cases h1 : x = 0
  · subst h1
    cases twoB (l.take k) with
    | false => simp
    | true =>
      by_cases h2 : 1 ≤ pop c.1 + pop c.2 ∧ pop c.1 + pop c.2 ≤ 2
      · rw [if_neg (by simp [h2]), if_neg (by simp [h2])]; simp
      · rw [if_pos (by simp only [true_and, Bool.true_and]; exact decide_eq_false h2), if_pos ⟨by simp, h2⟩]
  · simp [h1]
theorem twoK_nil (x : Int) (l : List Cla) : twoK x (l.take 0) = x := by simp [twoK, twoB]
theorem twoK_all (n : Int) (l : List Cla) : twoK (codeC n l) l = codeD n l := by
  unfold twoK codeD
  by_cases h0 : codeC n l = 0
  · rw [h0]
    cases twoB l <;> simp
  · simp [h0]

set_option maxHeartbeats 1000000 in
theorem TwoCheck_any (n : Int) (rs : List Cla) (A : Option Addr) (c : Nat) (w : World) (hr : Row w A (rulesC rs)) (h32 : W32 rs) (hm : rs.length ≤ maxLen) :
    Calls Tryd.prog 8 #[.int .i64 n, .slice A rs.length c] w fun e w' => e = .returned (.int .i64 (codeD n rs)) ∧ Below w.heap.size w w' := by
  have hl63 : rs.length < 9223372036854775808 := by unfold maxLen at hm; omega
  have HD := Lib.hid (twoK_all n rs)
  go_enter Tryd.func8, Tryd.ntmps8
  go_wp2_with fail
  refine (SatCheck_any n rs A c _ hr).mono ?_
  rintro e w1 ⟨rfl, hb1⟩
  obtain ⟨x, hx⟩ : ∃ x, codeC n rs = x := ⟨_, rfl⟩
  rw [hx] at HD ⊢
  clear hx
  go_wp2
  go_loopw [5, 14] (fun xv iv wr => ∃ k : Nat, iv = .int .i64 k ∧ k ≤ rs.length ∧ (∃ q : Int, q = twoK x (rs.take k) ∧ xv = .int .i64 q) ∧ Below w.heap.size w wr) (fun _ iv _ => rs.length - (intOf iv).toNat)
  case atStart => exact ⟨0, rfl, Nat.zero_le _, ⟨x, (twoK_nil x rs).symm, rfl⟩, hb1⟩
  case round =>
    clear hb1
    obtain ⟨k, rfl, hk, ⟨q, hq, rfl⟩, hbel⟩ := hrel
    have HQ := Lib.hid hq
    clear hq
    by_cases hlt : k < rs.length
    · obtain ⟨⟨r1, r2⟩, hrk⟩ := get_some hlt
      obtain ⟨b, off, rfl, c1, c2⟩ := RowC.at (hr.below hbel) hrk
      obtain ⟨b1, b2⟩ := h32 _ (List.mem_of_getElem? hrk)
      have HStep := Lib.hid (twoK_step (x := x) hrk)
      rw [← HQ.out] at HStep
      simp only at HStep b1 b2
      clear hrk
      have hp1 := pop_le r1
      have hp2 := pop_le r2
      have ca := fun W => Size_still r1 b1 W
      have cb := fun W => Size_still r2 b2 W
      generalize pop r1 = p1 at *
      generalize pop r2 = p2 at *
      have hsum : IntKind.i64.wrap ((p1 : Int) + (p2 : Int)) = (p1 : Int) + (p2 : Int) := IntWalk.i64_in _ (by omega)
      have hb2 := hbel.alloc hbel.size (.cells #[.int .u32 (r1 : Int), .int .u32 (r2 : Int)] 37)
      obtain ⟨z0, z1⟩ := two_cells (heap_alloc_new wr (.cells #[.int .u32 (r1 : Int), .int .u32 (r2 : Int)] 37))
      have HB2 := Lib.hid hb2
      clear hb2
      by_cases hq0 : q = 0
      · subst hq0
        by_cases hp : 1 ≤ p1 + p2 ∧ p1 + p2 ≤ 2
        · have HS := Lib.hid (show (0 : Int) = twoK x (rs.take (k + 1)) by rw [HStep.out, if_neg (fun h => h.2 hp)])
          have e1 : decide ((p1 : Int) + (p2 : Int) < 1) = false := by rw [decide_eq_false_iff_not]; omega
          have e2 : decide ((2 : Int) < (p1 : Int) + (p2 : Int)) = false := by rw [decide_eq_false_iff_not]; omega
          clear hp
          go_wp2
          go_quiet (first
            | (go_at_call 18; with_reducible exact Calls.quiet_of_same (ca _))
            | (go_at_call 18; with_reducible exact Calls.quiet_of_same (cb _)))
          go_wp2
          go_roundw
          case rel => exact ⟨k + 1, by go_num, by omega, ⟨0, HS.out, rfl⟩, below_drewN HB2.out _⟩
          case measure => simp [intOf]; omega
        · have HS := Lib.hid (show (3 : Int) = twoK x (rs.take (k + 1)) by rw [HStep.out, if_pos ⟨rfl, hp⟩])
          by_cases h0 : p1 + p2 < 1
          · have e1 : decide ((p1 : Int) + (p2 : Int) < 1) = true := by rw [decide_eq_true_iff]; omega
            clear hp h0
            go_wp2
            go_quiet (first
              | (go_at_call 18; with_reducible exact Calls.quiet_of_same (ca _))
              | (go_at_call 18; with_reducible exact Calls.quiet_of_same (cb _)))
            go_wp2
            go_roundw
            case rel => exact ⟨k + 1, by go_num, by omega, ⟨3, HS.out, rfl⟩, below_drewN HB2.out _⟩
            case measure => simp [intOf]; omega
          · have e1 : decide ((p1 : Int) + (p2 : Int) < 1) = false := by rw [decide_eq_false_iff_not]; omega
            have e2 : decide ((2 : Int) < (p1 : Int) + (p2 : Int)) = true := by rw [decide_eq_true_iff]; omega
            clear hp h0
            go_wp2
            go_quiet (first
              | (go_at_call 18; with_reducible exact Calls.quiet_of_same (ca _))
              | (go_at_call 18; with_reducible exact Calls.quiet_of_same (cb _)))
            go_wp2
            go_roundw
            case rel => exact ⟨k + 1, by go_num, by omega, ⟨3, HS.out, rfl⟩, below_drewN HB2.out _⟩
            case measure => simp [intOf]; omega
      · have HS := Lib.hid (show q = twoK x (rs.take (k + 1)) by rw [HStep.out, if_neg (fun h => hq0 h.1)])
        have hq2 : (q == 0) = false := by simpa using hq0
        clear hq0
        go_wp2
        go_quiet (first
          | (go_at_call 18; with_reducible exact Calls.quiet_of_same (ca _))
          | (go_at_call 18; with_reducible exact Calls.quiet_of_same (cb _)))
        go_wp2
        go_roundw
        case rel => exact ⟨k + 1, by go_num, by omega, ⟨q, HS.out, rfl⟩, below_drewN HB2.out _⟩
        case measure => simp [intOf]; omega
    · have HQ2 := Lib.hid (show q = twoK x rs by rw [HQ.out, List.take_of_length_le (by omega)])
      go_wp2
      go_ret
      exact ⟨ret_int (by rw [HQ2.out, HD.out]), hbel⟩

end Go.Proofs.YtekeeodnjlebcaaDoor
