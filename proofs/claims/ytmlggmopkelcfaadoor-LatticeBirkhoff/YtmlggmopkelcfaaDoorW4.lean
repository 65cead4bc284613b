/- order.check: the errors that show before the relation is extended. -/
import Derived.Test.YtmlggmopkelcfaaDoorW3
namespace Go.Proofs.YtmlggmopkelcfaaDoor
open Go.RowKit

theorem index0 (p1 p2 : Int) (w : World) : (Instr.index 26 (.agg #[.int .i64 p1, .int .i64 p2]) (.int .i64 0)).run Tryd.prog w = .ok (.int .i64 p1) w := by kernel_rfl
theorem index1 (p1 p2 : Int) (w : World) : (Instr.index 26 (.agg #[.int .i64 p1, .int .i64 p2]) (.int .i64 1)).run Tryd.prog w = .ok (.int .i64 p2) w := by kernel_rfl

set_option maxHeartbeats 1000000 in
theorem check_large (n : Int) (ps : List (Int × Int)) (A : Option Addr) (c : Nat) (w : World) (hm : ps.length ≤ maxLen) (h : Large n ps) :
    Calls Tryd.prog 22 #[.int .i64 n, .slice A ps.length c] w fun e w' => e = .returned (.int .i64 (code1 n ps)) ∧ w = w' := by
  rw [code1_large h]
  unfold maxLen at hm
  by_cases h1 : n < 1
  · clear h
    go_enter Tryd.func22, Tryd.ntmps22
    go_wp2
    go_ret
    exact ⟨rfl, rfl⟩
  · by_cases h2 : 6 < n
    · clear h
      go_enter Tryd.func22, Tryd.ntmps22
      go_wp2
      go_ret
      exact ⟨rfl, rfl⟩
    · have h3 : 20 < ps.length := by rcases h with h | h | h <;> omega
      clear h
      go_enter Tryd.func22, Tryd.ntmps22
      go_wp2
      go_ret
      exact ⟨rfl, rfl⟩

def PairRel (n : Nat) (p1 p2 : Int) (v : Value) : Prop :=
  v = .int .i64 0 ∨ (v = .int .i64 1 ∧ 0 ≤ p1 ∧ p1 < n) ∨ (v = .int .i64 2 ∧ okPair n (p1, p2))

set_option maxHeartbeats 1000000 in
theorem check_small (n : Nat) (ps : List (Int × Int)) (A : Option Addr) (c : Nat) (w : World) (hr : Row w A (pairsC ps)) (h : ¬ Large n ps) :
    Calls Tryd.prog 22 #[.int .i64 n, .slice A ps.length c] w fun e w' => e = .returned (.int .i64 (code1 n ps)) ∧ Below w.heap.size w w' := by
  have H := Lib.hid h
  obtain ⟨hn1, hn6, hl⟩ : 1 ≤ n ∧ n ≤ 6 ∧ ps.length ≤ 20 := by unfold Large at h; omega
  clear h
  go_enter Tryd.func22, Tryd.ntmps22
  go_wp2
  go_loopw [22] (fun i wr => CheckRel n ps w i wr) (fun i _ => ps.length - (intOf i).toNat)
  case atStart => exact ⟨0, rfl, Nat.zero_le _, by intro p hp; simp at hp, Below.refl _ _⟩
  case round =>
    obtain ⟨j, rfl, hj, hgood, hbel⟩ := hrel
    have HG := Lib.hid hgood
    clear hgood
    by_cases hjl : j < ps.length
    · obtain ⟨p, hp⟩ := get_some hjl
      obtain ⟨p1, p2⟩ := p
      obtain ⟨bp, op, rfl, hpc⟩ := (hr.below hbel).at (k := j * 2) (by rw [pairsC_length]; omega)
      have hp1 := hpc _ _ (pairsC_at0 hp)
      have hp2 : wr.cell? ⟨bp, op + j * 2 + 1, none⟩ = some (.int .i64 p2) := by rw [Nat.add_assoc]; exact hpc _ _ (pairsC_at1 hp)
      have HP := Lib.hid hp
      have hb2 := hbel.alloc hbel.size (.cells #[.int .i64 p1, .int .i64 p2] 26)
      clear hpc hp
      go_wp2
      go_loop [27] (fun v => PairRel n p1 p2 v) (fun v => 2 - (intOf v).toNat)
      case atStart => exact .inl rfl
      case round =>
        have i0 := index0 p1 p2
        have i1 := index1 p1 p2
        rcases hrel with rfl | ⟨rfl, o1, o2⟩ | ⟨rfl, hok⟩
        · by_cases o : 0 ≤ p1 ∧ p1 < n
          · obtain ⟨o1, o2⟩ := o
            go_wp2
            go_round
            case rel => exact .inr (.inl ⟨rfl, o1, o2⟩)
            case measure => simp [intOf]
          · have hc : code1 n ps = 2 := code1_bad H.out (fun hg => o ⟨(hg _ (List.mem_of_getElem? HP.out)).1, (hg _ (List.mem_of_getElem? HP.out)).2.1⟩)
            have HC := Lib.hid hc
            clear hc
            by_cases o1 : p1 < 0
            · clear o; go_wp2; go_ret; exact ⟨ret_int HC.out.symm, hb2⟩
            · have o2 : (n : Int) ≤ p1 := by omega
              clear o; go_wp2; go_ret; exact ⟨ret_int HC.out.symm, hb2⟩
        · by_cases o : 0 ≤ p2 ∧ p2 < n
          · obtain ⟨o3, o4⟩ := o
            go_wp2
            go_round
            case rel => exact .inr (.inr ⟨rfl, o1, o2, o3, o4⟩)
            case measure => simp [intOf]
          · have hc : code1 n ps = 2 := code1_bad H.out (fun hg => o ⟨(hg _ (List.mem_of_getElem? HP.out)).2.2.1, (hg _ (List.mem_of_getElem? HP.out)).2.2.2⟩)
            have HC := Lib.hid hc
            clear hc
            by_cases o3 : p2 < 0
            · clear o; go_wp2; go_ret; exact ⟨ret_int HC.out.symm, hb2⟩
            · have o4 : (n : Int) ≤ p2 := by omega
              clear o; go_wp2; go_ret; exact ⟨ret_int HC.out.symm, hb2⟩
        · have HK := Lib.hid hok
          clear hok
          go_wp2
          go_roundw
          case rel => exact ⟨j + 1, by go_num, by omega, good_take HG.out HP.out HK.out, hb2⟩
          case measure => simp [intOf]; omega
    · have hgood : Good n ps := by have := HG.out; rw [List.take_of_length_le (by omega)] at this; exact this
      have HC := Lib.hid (code1_ok H.out hgood)
      clear HG hgood
      go_wp2
      go_ret
      exact ⟨ret_int HC.out.symm, hbel⟩
end Go.Proofs.YtmlggmopkelcfaaDoor
