/- syllogistref.Joined and Met. -/
import Derived.Test.YtogjkkaohaljpaaDoorWTurn
import Derived.Test.YtogjkkaohaljpaaDoorLat
namespace Go.Proofs.YtogjkkaohaljpaaDoor
open Go.RowKit

set_option maxHeartbeats 1000000 in
theorem Joined_any (n a b : Nat) (ps : List (Int × Int)) (A : Option Addr) (c : Nat) (w : World) (hr : Row w A (pairsC ps)) (hn6 : n ≤ 6) (hl : ps.length ≤ 20) :
    Calls Tryd.prog 13 #[.int .i64 n, .slice A ps.length c, .int .i64 a, .int .i64 b] w fun e w' => e = .returned (.int .i64 (joined n ps a b)) ∧ Below w.heap.size w w' := by
  go_enter Tryd.func13, Tryd.ntmps13
  go_wp2
  go_loopw [9] (fun iv wr => ∃ k : Nat, iv = .int .i64 k ∧ k ≤ n ∧ (∀ d, d < k → jB ps a b d n = false) ∧ Below w.heap.size w wr) (fun iv _ => n - (intOf iv).toNat)
  case atStart => exact ⟨0, rfl, Nat.zero_le _, fun d hd => by omega, Below.refl _ _⟩
  case round =>
    obtain ⟨k, rfl, hk, hno, hbel⟩ := hrel
    have HN := Lib.hid hno
    clear hno
    by_cases hkn : k < n
    · go_wp2_with fail
      refine (Under_any n ps A c a k _ (hr.below hbel) hl).mono ?_
      rintro e w1 ⟨rfl, hb1⟩
      have hbel1 := hbel.trans (hb1.mono hbel.size)
      clear hb1 hbel
      cases h1 : under ps a k with
      | false =>
        have HI := Lib.hid (show jB ps a b k 0 = false by simp [jB, h1])
        have HB := Lib.hid hbel1
        clear h1 hbel1
        go_wp2
        go_loopw [10, 11] (fun ov iv wr => ∃ (d : Nat) (ok : Bool), iv = .int .i64 d ∧ d ≤ n ∧ ov = .bool ok ∧ ok = jB ps a b k d ∧ Below w.heap.size w wr) (fun _ iv _ => n - (intOf iv).toNat)
        case atStart => exact ⟨0, _, rfl, Nat.zero_le _, rfl, HI.out.symm, HB.out⟩
        case round =>
          clear HI HB
          obtain ⟨d, ok, rfl, hd, rfl, hok, hbel⟩ := hrel
          have HO := Lib.hid hok
          clear hok
          by_cases hdn : d < n
          · cases ok with
            | false =>
              have HS := Lib.hid (show false = jB ps a b k (d + 1) by rw [jB, ← HO.out]; rfl)
              go_wp2
              go_roundw
              case rel => exact ⟨d + 1, false, by go_num, by omega, rfl, HS.out, hbel⟩
              case measure => simp [intOf]; omega
            | true =>
              go_wp2_with fail
              refine (Under_any n ps A c a d _ (hr.below hbel) hl).mono ?_
              rintro e w3 ⟨rfl, hb3⟩
              have hbel3 := hbel.trans (hb3.mono hbel.size)
              clear hb3
              cases h3 : under ps a d with
              | false =>
                have HS := Lib.hid (show true = jB ps a b k (d + 1) by rw [jB, ← HO.out, h3]; simp)
                clear h3
                go_wp2
                go_roundw
                case rel => exact ⟨d + 1, true, by go_num, by omega, rfl, HS.out, hbel3⟩
                case measure => simp [intOf]; omega
              | true =>
                have H3 := Lib.hid h3
                clear h3
                go_wp2_with fail
                refine (Under_any n ps A c b d _ (hr.below hbel3) hl).mono ?_
                rintro e w4 ⟨rfl, hb4⟩
                have hbel4 := hbel3.trans (hb4.mono hbel3.size)
                clear hb4
                cases h4 : under ps b d with
                | false =>
                  have HS := Lib.hid (show true = jB ps a b k (d + 1) by rw [jB, ← HO.out, h4]; simp)
                  clear h4
                  go_wp2
                  go_roundw
                  case rel => exact ⟨d + 1, true, by go_num, by omega, rfl, HS.out, hbel4⟩
                  case measure => simp [intOf]; omega
                | true =>
                  have H4 := Lib.hid h4
                  clear h4
                  go_wp2_with fail
                  refine (Under_any n ps A c k d _ (hr.below hbel4) hl).mono ?_
                  rintro e w5 ⟨rfl, hb5⟩
                  have hbel5 := hbel4.trans (hb5.mono hbel4.size)
                  clear hb5
                  have HS := Lib.hid (show under ps k d = jB ps a b k (d + 1) by rw [jB, ← HO.out, H3.out, H4.out]; simp)
                  go_wp2
                  go_roundw
                  case rel => exact ⟨d + 1, _, by go_num, by omega, rfl, HS.out, hbel5⟩
                  case measure => simp [intOf]; omega
          · obtain rfl : d = n := by omega
            cases ok with
            | false =>
              go_wp2
              go_roundw
              case rel =>
                refine ⟨k + 1, by go_num, by omega, fun e he => ?_, hbel⟩
                by_cases hek : e = k
                · subst hek; exact HO.out.symm
                · exact HN.out e (by omega)
              case measure => simp [intOf]; omega
            | true =>
              have HJ := Lib.hid (joined_at hkn HO.out.symm HN.out)
              go_wp2
              go_ret
              exact ⟨ret_int HJ.out.symm, hbel⟩
      | true =>
        have H1 := Lib.hid h1
        clear h1
        go_wp2_with fail
        refine (Under_any n ps A c b k _ (hr.below hbel1) hl).mono ?_
        rintro e w2 ⟨rfl, hb2⟩
        have HB := Lib.hid (hbel1.trans (hb2.mono hbel1.size))
        have HI := Lib.hid (show jB ps a b k 0 = under ps b k by simp [jB, H1.out])
        clear hb2 hbel1 H1
        go_wp2
        go_loopw [10, 11] (fun ov iv wr => ∃ (d : Nat) (ok : Bool), iv = .int .i64 d ∧ d ≤ n ∧ ov = .bool ok ∧ ok = jB ps a b k d ∧ Below w.heap.size w wr) (fun _ iv _ => n - (intOf iv).toNat)
        case atStart => exact ⟨0, _, rfl, Nat.zero_le _, rfl, HI.out.symm, HB.out⟩
        case round =>
          clear HI HB
          obtain ⟨d, ok, rfl, hd, rfl, hok, hbel⟩ := hrel
          have HO := Lib.hid hok
          clear hok
          by_cases hdn : d < n
          · cases ok with
            | false =>
              have HS := Lib.hid (show false = jB ps a b k (d + 1) by rw [jB, ← HO.out]; rfl)
              go_wp2
              go_roundw
              case rel => exact ⟨d + 1, false, by go_num, by omega, rfl, HS.out, hbel⟩
              case measure => simp [intOf]; omega
            | true =>
              go_wp2_with fail
              refine (Under_any n ps A c a d _ (hr.below hbel) hl).mono ?_
              rintro e w3 ⟨rfl, hb3⟩
              have hbel3 := hbel.trans (hb3.mono hbel.size)
              clear hb3
              cases h3 : under ps a d with
              | false =>
                have HS := Lib.hid (show true = jB ps a b k (d + 1) by rw [jB, ← HO.out, h3]; simp)
                clear h3
                go_wp2
                go_roundw
                case rel => exact ⟨d + 1, true, by go_num, by omega, rfl, HS.out, hbel3⟩
                case measure => simp [intOf]; omega
              | true =>
                have H3 := Lib.hid h3
                clear h3
                go_wp2_with fail
                refine (Under_any n ps A c b d _ (hr.below hbel3) hl).mono ?_
                rintro e w4 ⟨rfl, hb4⟩
                have hbel4 := hbel3.trans (hb4.mono hbel3.size)
                clear hb4
                cases h4 : under ps b d with
                | false =>
                  have HS := Lib.hid (show true = jB ps a b k (d + 1) by rw [jB, ← HO.out, h4]; simp)
                  clear h4
                  go_wp2
                  go_roundw
                  case rel => exact ⟨d + 1, true, by go_num, by omega, rfl, HS.out, hbel4⟩
                  case measure => simp [intOf]; omega
                | true =>
                  have H4 := Lib.hid h4
                  clear h4
                  go_wp2_with fail
                  refine (Under_any n ps A c k d _ (hr.below hbel4) hl).mono ?_
                  rintro e w5 ⟨rfl, hb5⟩
                  have hbel5 := hbel4.trans (hb5.mono hbel4.size)
                  clear hb5
                  have HS := Lib.hid (show under ps k d = jB ps a b k (d + 1) by rw [jB, ← HO.out, H3.out, H4.out]; simp)
                  go_wp2
                  go_roundw
                  case rel => exact ⟨d + 1, _, by go_num, by omega, rfl, HS.out, hbel5⟩
                  case measure => simp [intOf]; omega
          · obtain rfl : d = n := by omega
            cases ok with
            | false =>
              go_wp2
              go_roundw
              case rel =>
                refine ⟨k + 1, by go_num, by omega, fun e he => ?_, hbel⟩
                by_cases hek : e = k
                · subst hek; exact HO.out.symm
                · exact HN.out e (by omega)
              case measure => simp [intOf]; omega
            | true =>
              have HJ := Lib.hid (joined_at hkn HO.out.symm HN.out)
              go_wp2
              go_ret
              exact ⟨ret_int HJ.out.symm, hbel⟩
    · obtain rfl : k = n := by omega
      have HJ := Lib.hid (joined_none HN.out)
      go_wp2
      go_ret
      exact ⟨ret_int HJ.out.symm, hbel⟩

theorem Met_any (n a b : Nat) (ps : List (Int × Int)) (A : Option Addr) (c : Nat) (w : World) (hr : Row w A (pairsC ps)) (hn6 : n ≤ 6) (hl : ps.length ≤ 20) :
    Calls Tryd.prog 15 #[.int .i64 n, .slice A ps.length c, .int .i64 a, .int .i64 b] w fun e w' => e = .returned (.int .i64 (met n ps a b)) ∧ Below w.heap.size w w' := by
  go_enter Tryd.func15, Tryd.ntmps15
  go_wp2_with fail
  refine (Turned_any ps A c _ hr hl).mono ?_
  rintro e w1 ⟨v, rfl, hown, hb1⟩
  obtain ⟨A2, c2, rfl, hrow, _⟩ := hown.row
  go_wp2_with fail
  refine (Joined_any n a b (turned ps) A2 c2 _ hrow hn6 (by rw [turned_length]; exact hl)).mono ?_
  rintro e w2 ⟨rfl, hb2⟩
  go_wp2
  go_ret
  exact ⟨rfl, hb1.trans (hb2.mono hb1.size)⟩

end Go.Proofs.YtogjkkaohaljpaaDoor
