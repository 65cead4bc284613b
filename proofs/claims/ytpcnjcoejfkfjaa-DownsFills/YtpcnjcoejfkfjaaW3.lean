/- OrderCheck: what is wrong with a number and its pairs. -/
import Derived.Test.YtpcnjcoejfkfjaaW2
namespace Go.Proofs.Ytpcnjcoejfkfjaa
open Go.RowKit

def CheckRel (n : Int) (ps : List (Int × Int)) (w : World) (i : Value) (wr : World) : Prop :=
  ∃ j : Nat, i = .int .i64 j ∧ j ≤ ps.length ∧ Good n (ps.take j) ∧ Below w.heap.size w wr

set_option maxHeartbeats 1000000 in
theorem OrderCheck_large (n : Int) (ps : List (Int × Int)) (A : Option Addr) (c : Nat) (w : World) (hm : ps.length ≤ maxLen) (h : Large n ps) :
    Calls Try.prog 10 #[.int .i64 n, .slice A ps.length c] w fun e w' => e = .returned (.int .i64 (code n ps)) ∧ w = w' := by
  rw [code_large h]
  unfold maxLen at hm
  by_cases h1 : n < 1
  · clear h
    go_enter Try.func10, Try.ntmps10
    go_wp2
    go_ret
    exact ⟨rfl, rfl⟩
  · by_cases h2 : 6 < n
    · clear h
      go_enter Try.func10, Try.ntmps10
      go_wp2
      go_ret
      exact ⟨rfl, rfl⟩
    · have h3 : 20 < ps.length := by rcases h with h | h | h <;> omega
      clear h
      go_enter Try.func10, Try.ntmps10
      go_wp2
      go_ret
      exact ⟨rfl, rfl⟩

def CheckI (n : Nat) (ps : List (Int × Int)) (w : World) (v : Value) (wr : World) : Prop :=
  ∃ i : Nat, v = .int .i64 i ∧ i ≤ n ∧ Apart2 ps i 0 ∧ Below w.heap.size w wr
def CheckJ (ps : List (Int × Int)) (w : World) (i : Nat) (v : Value) (wr : World) : Prop :=
  ∃ j : Nat, v = .int .i64 j ∧ j ≤ i ∧ Apart2 ps i j ∧ Below w.heap.size w wr

set_option maxHeartbeats 1000000 in
theorem OrderCheck_small (n : Nat) (ps : List (Int × Int)) (A : Option Addr) (c : Nat) (w : World) (hr : Row w A (pairsC ps)) (h : ¬ Large n ps) :
    Calls Try.prog 10 #[.int .i64 n, .slice A ps.length c] w fun e w' => e = .returned (.int .i64 (code n ps)) ∧ Below w.heap.size w w' := by
  have H := Lib.hid h
  obtain ⟨hn1, hn6, hl⟩ : 1 ≤ n ∧ n ≤ 6 ∧ ps.length ≤ 20 := by unfold Large at h; omega
  clear h
  go_enter Try.func10, Try.ntmps10
  go_wp2
  go_loopw [22] (fun i wr => CheckRel n ps w i wr) (fun i _ => ps.length - (intOf i).toNat)
  case atStart => exact ⟨0, rfl, Nat.zero_le _, by intro p hp; simp at hp, Below.refl _ _⟩
  case round =>
    obtain ⟨j, rfl, hj, hgood, hbel⟩ := hrel
    have HG := Lib.hid hgood
    clear hgood
    by_cases hjl : j < ps.length
    · obtain ⟨p, hp⟩ := get_some hjl
      obtain ⟨p1, p2⟩ := p
      obtain ⟨bp, op, rfl, hpc⟩ := (hr.below hbel).at (k := j * 2) (by rw [pairsC_length]; omega)
      have hp1 := hpc _ _ (pairsC_at0 hp)
      have hp2 : wr.cell? ⟨bp, op + j * 2 + 1, none⟩ = some (.int .i64 p2) := by rw [Nat.add_assoc]; exact hpc _ _ (pairsC_at1 hp)
      have HP := Lib.hid hp
      clear hpc hp
      have hb2 := hbel.alloc hbel.size (.cells #[.int .i64 p1, .int .i64 p2] 45)
      by_cases hok : okPair n (p1, p2)
      · have HK := Lib.hid hok
        obtain ⟨o1, o2, o3, o4⟩ := hok
        go_wp2
        go_roundw
        case rel => exact ⟨j + 1, by go_num, by omega, good_take HG.out HP.out HK.out, hb2⟩
        case measure => simp [intOf]; omega
      · have hc : code n ps = 2 := code_bad H.out (fun hg => hok (hg _ (List.mem_of_getElem? HP.out)))
        have HC := Lib.hid hc
        have hok2 : p1 < 0 ∨ (n : Int) ≤ p1 ∨ p2 < 0 ∨ (n : Int) ≤ p2 := by unfold okPair at hok; simp only at hok; omega
        clear hc hok
        by_cases o1 : p1 < 0
        · clear hok2; go_wp2; go_ret; exact ⟨ret_int HC.out.symm, hb2⟩
        · by_cases o2 : (n : Int) ≤ p1
          · clear hok2; go_wp2; go_ret; exact ⟨ret_int HC.out.symm, hb2⟩
          · by_cases o3 : p2 < 0
            · clear hok2; go_wp2; go_ret; exact ⟨ret_int HC.out.symm, hb2⟩
            · have o4 : (n : Int) ≤ p2 := by omega
              clear hok2; go_wp2; go_ret; exact ⟨ret_int HC.out.symm, hb2⟩
    · have hgood : Good n ps := by have := HG.out; rw [List.take_of_length_le (by omega)] at this; exact this
      have HGd := Lib.hid hgood
      clear HG hgood
      go_wp2
      go_loopw [7] (fun v wr => CheckI n ps w v wr) (fun v _ => n - (intOf v).toNat)
      case atStart => exact ⟨0, rfl, Nat.zero_le _, by intro a b hab ha; omega, hbel⟩
      case round =>
        clear hbel
        obtain ⟨i, rfl, hi, hap, hbel⟩ := hrel
        have HA := Lib.hid hap
        clear hap
        by_cases hin : i < n
        · go_wp2
          go_loopw [8] (fun v wr => CheckJ ps w i v wr) (fun v _ => i - (intOf v).toNat)
          case atStart => exact ⟨0, rfl, Nat.zero_le _, HA.out, hbel⟩
          case round =>
            clear hbel HA
            obtain ⟨k, rfl, hk, hap, hbel⟩ := hrel
            have HA := Lib.hid hap
            clear hap
            by_cases hki : k < i
            · go_wp2_with fail
              refine (Under_any n ps A c i k _ (hr.below hbel) hl).mono ?_
              rintro e w1 ⟨rfl, hb1⟩
              have hbel1 := hbel.trans (hb1.mono hbel.size)
              cases hu1 : under ps i k with
              | false =>
                have HU := Lib.hid hu1
                clear hu1
                go_wp2
                go_roundw
                case rel => exact ⟨k + 1, by go_num, by omega, HA.out.step (by rw [HU.out]; simp), hbel1⟩
                case measure => simp [intOf]; omega
              | true =>
                have HU := Lib.hid hu1
                clear hu1
                go_wp2_with fail
                refine (Under_any n ps A c k i _ (hr.below hbel1) hl).mono ?_
                rintro e w2 ⟨rfl, hb2⟩
                have hbel2 := hbel1.trans (hb2.mono hbel1.size)
                cases hu2 : under ps k i with
                | false =>
                  have HU2 := Lib.hid hu2
                  clear hu2
                  go_wp2
                  go_roundw
                  case rel => exact ⟨k + 1, by go_num, by omega, HA.out.step (by rw [HU2.out]; simp), hbel2⟩
                  case measure => simp [intOf]; omega
                | true =>
                  have hc : code n ps = 3 := code_cyc H.out HGd.out (cyc_of hki hin HU.out hu2)
                  have HC := Lib.hid hc
                  clear hu2 hc
                  go_wp2
                  go_ret
                  exact ⟨ret_int HC.out.symm, hbel2⟩
            · obtain rfl : k = i := by omega
              go_wp2
              go_roundw
              case rel => exact ⟨k + 1, by go_num, by omega, HA.out.next, hbel⟩
              case measure => simp [intOf]; omega
        · obtain rfl : i = n := by omega
          have hc : code i ps = 0 := code_ok H.out HGd.out HA.out.all
          have HC := Lib.hid hc
          clear hc
          go_wp2
          go_ret
          exact ⟨ret_int HC.out.symm, hbel⟩
end Go.Proofs.Ytpcnjcoejfkfjaa
