/- syllogistref.MatrixCheck, Matrices. -/
import Derived.Test.YthgmbiaajgpaaaaMx2
import Derived.Test.YthgmbiaajgpaaaaW9
namespace Go.Proofs.Ythgmbiaajgpaaaa
open Go.RowKit

set_option maxHeartbeats 1000000 in
theorem MatrixCheck_any (n : Int) (m : Mat) (A : Option Addr) (c : Nat) (A2 : Option Addr) (nc c2 : Nat) (w : World) (hm : m.length ≤ maxLen) (hr : Mats w A m) :
    Calls Try.prog 9 #[.int .i64 n, .slice A m.length c, .slice A2 nc c2] w fun e w' => e = .returned (.int .i64 (codeX n m nc)) ∧ w' = w := by
  by_cases hL : n < 1 ∨ 6 < n ∨ 10 < nc
  · have HC := Lib.hid (codeX_large (m := m) hL)
    rw [HC.out]
    by_cases h1 : n < 1
    · clear hL; go_enter Try.func9, Try.ntmps9; go_wp2; go_ret; exact ⟨rfl, rfl⟩
    · by_cases h2 : 6 < n
      · clear hL; go_enter Try.func9, Try.ntmps9; go_wp2; go_ret; exact ⟨rfl, rfl⟩
      · have h3 : 10 < nc := by omega
        clear hL; go_enter Try.func9, Try.ntmps9; go_wp2; go_ret; exact ⟨rfl, rfl⟩
  · have HL := Lib.hid hL
    have d1 : decide (n < 1) = false := by rw [decide_eq_false_iff_not]; omega
    have d2 : decide (6 < n) = false := by rw [decide_eq_false_iff_not]; omega
    have d3 : decide (10 < (nc : Int)) = false := by rw [decide_eq_false_iff_not]; omega
    clear hL
    by_cases hml : (m.length : Int) = n
    · have HML := Lib.hid hml
      have hne : ((m.length : Int) != n) = false := by simpa using hml
      have hm63 : m.length < 9223372036854775808 := by unfold maxLen at hm; omega
      clear hml hm
      go_enter Try.func9, Try.ntmps9
      go_wp2
      clear d1 d2 d3 hne
      go_loopw [26] (fun v wr => ∃ j : Nat, v = .int .i64 j ∧ j ≤ m.length ∧ (∀ r ∈ m.take j, (r.length : Int) = n) ∧ wr = w) (fun v _ => m.length - (intOf v).toNat)
      case atStart => exact ⟨0, rfl, Nat.zero_le _, by simp, rfl⟩
      case round =>
        obtain ⟨j, rfl, hj, hal, rfl⟩ := hrel
        have HA := Lib.hid hal
        clear hal
        by_cases hlt : j < m.length
        · obtain ⟨r, hri⟩ := get_some hlt
          obtain ⟨b, off, A', c', rfl, hcell, _⟩ := hr.row hri
          have HX := Lib.hid hri
          clear hri
          by_cases hrl : (r.length : Int) = n
          · have HN := Lib.hid (show ∀ x ∈ m.take (j + 1), (x.length : Int) = n by
              intro x hx
              rw [List.take_add_one, HX.out, List.mem_append] at hx
              rcases hx with hx | hx
              · exact HA.out x hx
              · simp at hx; rw [hx]; exact hrl)
            have hne : ((r.length : Int) != n) = false := by simpa using hrl
            clear hrl
            go_wp2
            go_roundw
            case rel => exact ⟨j + 1, by go_num, by omega, HN.out, by first | rfl | trivial⟩
            case measure => simp [intOf]; omega
          · have HC := Lib.hid (codeX_bad HL.out (m := m) (nc := nc) (fun h => hrl (h.2 _ (List.mem_of_getElem? HX.out))))
            have hne : ((r.length : Int) != n) = true := by simpa using hrl
            clear hrl
            go_wp2
            go_ret
            exact ⟨ret_int HC.out.symm, rfl⟩
        · obtain rfl : j = m.length := by omega
          have HC := Lib.hid (codeX_ok HL.out (m := m) (nc := nc) ⟨HML.out, fun r hr => HA.out r (by rw [List.take_length]; exact hr)⟩)
          go_wp2
          go_ret
          exact ⟨ret_int HC.out.symm, rfl⟩
    · have HC := Lib.hid (codeX_bad HL.out (m := m) (nc := nc) (fun h => hml h.1))
      have hne : ((m.length : Int) != n) = true := by simpa using hml
      clear hml
      go_enter Try.func9, Try.ntmps9
      go_wp2
      go_ret
      exact ⟨ret_int HC.out.symm, rfl⟩

set_option maxHeartbeats 1000000 in
theorem Matrices_any (m m2 : Mat) (A A2 : Option Addr) (c c2 : Nat) (w : World) (h : Mats w A m) (h2 : Mats w A2 m2) (hl1 : ∀ r ∈ m, r.length ≤ 1000000) (hl2 : ∀ r ∈ m2, r.length ≤ 1000000) (hn : m.length ≤ 1000000) (hn2 : m2.length ≤ 1000000) :
    Calls Try.prog 11 #[.slice A m.length c, .slice A2 m2.length c2] w fun e w' => e = .returned (.bool (decide (m = m2))) ∧ ∃ d, w' = w.drewN d := by
  by_cases hl : m.length = m2.length
  · have hd : ((m.length : Int) != (m2.length : Int)) = false := by simp [hl]
    have HL := Lib.hid hl
    have H1 := Lib.hid h
    have H2 := Lib.hid h2
    have HB := Lib.hid (And.intro hl1 hl2)
    clear hl hl1 hl2
    go_enter Try.func11, Try.ntmps11
    go_wp2
    go_loopw [5] (fun v wr => ∃ j d : Nat, v = .int .i64 j ∧ j ≤ m.length ∧ m.take j = m2.take j ∧ wr = w.drewN d) (fun v _ => m.length - (intOf v).toNat)
    case atStart => exact ⟨0, 0, rfl, Nat.zero_le _, rfl, rfl⟩
    case round =>
      obtain ⟨j, d, rfl, hj, heq, rfl⟩ := hrel
      have HE := Lib.hid heq
      clear heq
      by_cases hlt : j < m.length
      · obtain ⟨r, hr⟩ := get_some hlt
        obtain ⟨r', hr'⟩ := get_some (show j < m2.length by rw [← HL.out]; exact hlt)
        have hlt2 : (j : Int) < m2.length := by have := HL.out; omega
        have k1 : Mats (w.drewN d) A m := H1.out
        have k2 : Mats (w.drewN d) A2 m2 := H2.out
        obtain ⟨b, off, A', c', rfl, c0, _, _, _, row⟩ := k1.row hr
        obtain ⟨b', off', A'', c'', rfl, c0', _, _, _, row'⟩ := k2.row hr'
        have HX := Lib.hid hr
        have HX' := Lib.hid hr'
        have b1 := HB.out.1 r (List.mem_of_getElem? hr)
        have b2 := HB.out.2 r' (List.mem_of_getElem? hr')
        clear hr hr' k1 k2
        generalize hw3 : w.drewN d = w3 at *
        have HW := Lib.hid hw3
        clear hw3
        have hW := fun q => Words_any r r' A' A'' c' c'' (w3.drewN q) (row.drewN q) (row'.drewN q) b1 b2
        have hW2 : ∀ q, Calls Try.prog 19 #[.slice A' r.length c', .slice A'' r'.length c''] (w3.drewN q) fun e w' => e = .returned (.bool (decide (r = r'))) ∧ ∃ m, w' = w3.drewN m := fun q => (hW q).mono fun e w' ⟨he, dd, hw⟩ => ⟨he, q + dd, by rw [hw, World.drewN_drewN]⟩
        clear hW row row' b1 b2
        by_cases hrr : r = r'
        · have HN := Lib.hid (show m.take (j + 1) = m2.take (j + 1) by rw [List.take_add_one, List.take_add_one, HE.out, HX.out, HX'.out, hrr])
          rw [decide_eq_true hrr] at hW2
          clear hrr
          go_wp2
          go_quiet (with_reducible exact hW2 _)
          go_wp2
          go_roundw
          case rel => exact ⟨j + 1, d + nq, by go_num, by omega, HN.out, by rw [← HW.out, World.drewN_drewN]⟩
          case measure => simp [intOf]; omega
        · have HC := Lib.hid (show decide (m = m2) = false by
            rw [decide_eq_false_iff_not]
            intro e
            have h1 := HX.out
            rw [e, HX'.out] at h1
            exact hrr (Option.some.inj h1).symm)
          rw [decide_eq_false hrr] at hW2
          clear hrr
          go_wp2
          go_quiet (with_reducible exact hW2 _)
          go_wp2
          go_ret
          exact ⟨ret_bool HC.out.symm, d + nq, by rw [← HW.out, World.drewN_drewN]⟩
      · obtain rfl : j = m.length := by omega
        have HC := Lib.hid (show decide (m = m2) = true by
          rw [decide_eq_true_iff]
          have := HE.out
          rw [List.take_length, HL.out, List.take_length] at this
          exact this)
        go_wp2
        go_ret
        exact ⟨ret_bool HC.out.symm, d, rfl⟩
  · have hd : ((m.length : Int) != (m2.length : Int)) = true := by simpa using fun h => hl (by omega)
    have HC := Lib.hid (show decide (m = m2) = false by rw [decide_eq_false_iff_not]; rintro rfl; exact hl rfl)
    clear hl
    go_enter Try.func11, Try.ntmps11
    go_wp2
    go_ret
    exact ⟨ret_bool HC.out.symm, 0, rfl⟩

end Go.Proofs.Ythgmbiaajgpaaaa
