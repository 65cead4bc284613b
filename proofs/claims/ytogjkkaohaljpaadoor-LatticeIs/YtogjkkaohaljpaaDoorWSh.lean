/- syllogistref.Shares and Irreducible. -/
import Derived.Test.YtogjkkaohaljpaaDoorWLat
namespace Go.Proofs.YtogjkkaohaljpaaDoor
open Go.RowKit

set_option maxHeartbeats 2000000 in
theorem Shares_any (n : Nat) (ps : List (Int × Int)) (A : Option Addr) (c : Nat) (all : Bool) (w : World) (hr : Row w A (pairsC ps)) (hn6 : n ≤ 6) (hl : ps.length ≤ 20) (hL : latB n ps = true) :
    Calls Tryd.prog 20 #[.int .i64 n, .slice A ps.length c, .bool all] w fun e w' => e = .returned (.bool (shB n ps all)) ∧ Below w.heap.size w w' := by
  have HLt := Lib.hid hL
  clear hL
  go_enter Tryd.func20, Tryd.ntmps20
  go_wp2
  go_loopw [7] (fun iv wr => ∃ i : Nat, iv = .int .i64 i ∧ i ≤ n ∧ Sh n ps all i 0 0 ∧ Below w.heap.size w wr) (fun iv _ => n - (intOf iv).toNat)
  case atStart => exact ⟨0, rfl, Nat.zero_le _, fun a b c _ _ _ hab => by omega, Below.refl _ _⟩
  case round =>
    obtain ⟨i, rfl, hi, hlt, hbel⟩ := hrel
    have HL := Lib.hid hlt
    clear hlt
    by_cases hin : i < n
    · go_wp2
      go_loopw [8] (fun iv wr => ∃ j : Nat, iv = .int .i64 j ∧ j ≤ n ∧ Sh n ps all i j 0 ∧ Below w.heap.size w wr) (fun iv _ => n - (intOf iv).toNat)
      case atStart => exact ⟨0, rfl, Nat.zero_le _, HL.out, hbel⟩
      case round =>
        clear HL hbel
        obtain ⟨j, rfl, hj, hlt, hbel⟩ := hrel
        have HL := Lib.hid hlt
        clear hlt
        by_cases hjn : j < n
        · go_wp2
          go_loopw [9] (fun iv wr => ∃ k : Nat, iv = .int .i64 k ∧ k ≤ n ∧ Sh n ps all i j k ∧ Below w.heap.size w wr) (fun iv _ => n - (intOf iv).toNat)
          case atStart => exact ⟨0, rfl, Nat.zero_le _, HL.out, hbel⟩
          case round =>
            clear HL hbel
            obtain ⟨k, rfl, hk, hlt, hbel⟩ := hrel
            have HL := Lib.hid hlt
            clear hlt
            by_cases hkn : k < n
            · cases all with
              | true =>
                go_wp2_with fail
                have hJ := (jn_isJ HLt.out hjn hkn).2.lt
                have hM1 := (mt_isM HLt.out hin hjn).2.lt
                have hM2 := (mt_isM HLt.out hin hkn).2.lt
                refine (Joined_any n j k ps A c _ (hr.below hbel) hn6 hl).mono ?_
                rintro e w2 ⟨rfl, hb2⟩
                rw [(jn_isJ HLt.out hjn hkn).1]
                have hbel2 := hbel.trans (hb2.mono hbel.size)
                clear hb2
                go_wp2_with fail
                refine (Met_any n i (jn n ps j k) ps A c _ (hr.below hbel2) hn6 hl).mono ?_
                rintro e w3 ⟨rfl, hb3⟩
                rw [(mt_isM HLt.out hin hJ).1]
                have hbel3 := hbel2.trans (hb3.mono hbel2.size)
                clear hb3
                go_wp2_with fail
                refine (Met_any n i j ps A c _ (hr.below hbel3) hn6 hl).mono ?_
                rintro e w4 ⟨rfl, hb4⟩
                rw [(mt_isM HLt.out hin hjn).1]
                have hbel4 := hbel3.trans (hb4.mono hbel3.size)
                clear hb4
                go_wp2_with fail
                refine (Met_any n i k ps A c _ (hr.below hbel4) hn6 hl).mono ?_
                rintro e w5 ⟨rfl, hb5⟩
                rw [(mt_isM HLt.out hin hkn).1]
                have hbel5 := hbel4.trans (hb5.mono hbel4.size)
                clear hb5
                go_wp2_with fail
                refine (Joined_any n (mt n ps i j) (mt n ps i k) ps A c _ (hr.below hbel5) hn6 hl).mono ?_
                rintro e w6 ⟨rfl, hb6⟩
                rw [(jn_isJ HLt.out hM1 hM2).1]
                have hbel6 := hbel5.trans (hb6.mono hbel5.size)
                clear hb6
                by_cases hxy : mt n ps i (jn n ps j k) = jn n ps (mt n ps i j) (mt n ps i k)
                · have HS := Lib.hid (HL.out.step (fun _ => hxy))
                  have hd : ((mt n ps i (jn n ps j k) : Int) != (jn n ps (mt n ps i j) (mt n ps i k) : Int)) = false := by simp; omega
                  clear hxy
                  go_wp2
                  go_roundw
                  case rel => exact ⟨k + 1, by go_num, by omega, HS.out, hbel6⟩
                  case measure => simp [intOf]; omega
                · have HV := Lib.hid (shB_no hin hjn hkn (fun h => hxy (h (.inl rfl))))
                  have hd : ((mt n ps i (jn n ps j k) : Int) != (jn n ps (mt n ps i j) (mt n ps i k) : Int)) = true := by simp; omega
                  clear hxy
                  go_wp2
                  go_ret
                  exact ⟨ret_bool HV.out.symm, hbel6⟩
              | false =>
                go_wp2_with fail
                refine (Under_any n ps A c k i _ (hr.below hbel) hl).mono ?_
                rintro e w1 ⟨rfl, hb1⟩
                have hbel1 := hbel.trans (hb1.mono hbel.size)
                clear hb1
                cases hu : under ps k i with
                | false =>
                  have HS := Lib.hid (HL.out.step (fun h => by rw [hu] at h; simp at h))
                  go_wp2
                  go_roundw
                  case rel => exact ⟨k + 1, by go_num, by omega, HS.out, hbel1⟩
                  case measure => simp [intOf]; omega
                | true =>
                  have HU := Lib.hid hu
                  clear hu
                  go_wp2_with fail
                  have hJ := (jn_isJ HLt.out hjn hkn).2.lt
                  have hM1 := (mt_isM HLt.out hin hjn).2.lt
                  have hM2 := (mt_isM HLt.out hin hkn).2.lt
                  refine (Joined_any n j k ps A c _ (hr.below hbel1) hn6 hl).mono ?_
                  rintro e w2 ⟨rfl, hb2⟩
                  rw [(jn_isJ HLt.out hjn hkn).1]
                  have hbel2 := hbel1.trans (hb2.mono hbel1.size)
                  clear hb2
                  go_wp2_with fail
                  refine (Met_any n i (jn n ps j k) ps A c _ (hr.below hbel2) hn6 hl).mono ?_
                  rintro e w3 ⟨rfl, hb3⟩
                  rw [(mt_isM HLt.out hin hJ).1]
                  have hbel3 := hbel2.trans (hb3.mono hbel2.size)
                  clear hb3
                  go_wp2_with fail
                  refine (Met_any n i j ps A c _ (hr.below hbel3) hn6 hl).mono ?_
                  rintro e w4 ⟨rfl, hb4⟩
                  rw [(mt_isM HLt.out hin hjn).1]
                  have hbel4 := hbel3.trans (hb4.mono hbel3.size)
                  clear hb4
                  go_wp2_with fail
                  refine (Met_any n i k ps A c _ (hr.below hbel4) hn6 hl).mono ?_
                  rintro e w5 ⟨rfl, hb5⟩
                  rw [(mt_isM HLt.out hin hkn).1]
                  have hbel5 := hbel4.trans (hb5.mono hbel4.size)
                  clear hb5
                  go_wp2_with fail
                  refine (Joined_any n (mt n ps i j) (mt n ps i k) ps A c _ (hr.below hbel5) hn6 hl).mono ?_
                  rintro e w6 ⟨rfl, hb6⟩
                  rw [(jn_isJ HLt.out hM1 hM2).1]
                  have hbel6 := hbel5.trans (hb6.mono hbel5.size)
                  clear hb6
                  by_cases hxy : mt n ps i (jn n ps j k) = jn n ps (mt n ps i j) (mt n ps i k)
                  · have HS := Lib.hid (HL.out.step (fun _ => hxy))
                    have hd : ((mt n ps i (jn n ps j k) : Int) != (jn n ps (mt n ps i j) (mt n ps i k) : Int)) = false := by simp; omega
                    clear hxy
                    go_wp2
                    go_roundw
                    case rel => exact ⟨k + 1, by go_num, by omega, HS.out, hbel6⟩
                    case measure => simp [intOf]; omega
                  · have HV := Lib.hid (shB_no (all := false) hin hjn hkn (fun h => hxy (h (.inr HU.out))))
                    have hd : ((mt n ps i (jn n ps j k) : Int) != (jn n ps (mt n ps i j) (mt n ps i k) : Int)) = true := by simp; omega
                    clear hxy
                    go_wp2
                    go_ret
                    exact ⟨ret_bool HV.out.symm, hbel6⟩
            · obtain rfl : k = n := by omega
              go_wp2
              go_roundw
              case rel => exact ⟨j + 1, by go_num, by omega, HL.out.next, hbel⟩
              case measure => simp [intOf]; omega
        · obtain rfl : j = n := by omega
          go_wp2
          go_roundw
          case rel => exact ⟨i + 1, by go_num, by omega, HL.out.next2, hbel⟩
          case measure => simp [intOf]; omega
    · obtain rfl : i = n := by omega
      have HV := Lib.hid (shB_iff.2 HL.out)
      go_wp2
      go_ret
      exact ⟨ret_bool HV.out.symm, hbel⟩

/-- The loops of Irreducible. -/
def IrrA (n : Nat) (ps : List (Int × Int)) (w : World) (x : Nat) (lv ov iv : Value) (wr : World) : Prop :=
  ∃ (i : Nat) (l o : Bool), iv = .int .i64 i ∧ i ≤ n ∧ lv = .bool l ∧ l = leastB ps x i ∧ ov = .bool o ∧ o = irB n ps x i 0 ∧ Below w.heap.size w wr
def IrrB (n : Nat) (ps : List (Int × Int)) (w : World) (x i : Nat) (ov iv : Value) (wr : World) : Prop :=
  ∃ (j : Nat) (o : Bool), iv = .int .i64 j ∧ j ≤ n ∧ ov = .bool o ∧ o = irB n ps x i j ∧ Below w.heap.size w wr

set_option maxHeartbeats 2000000 in
theorem Irreducible_any (n : Nat) (ps : List (Int × Int)) (A : Option Addr) (c : Nat) (w : World) (hr : Row w A (pairsC ps)) (hn6 : n ≤ 6) (hl : ps.length ≤ 20) :
    Calls Tryd.prog 23 #[.int .i64 n, .slice A ps.length c] w fun e w' => e = .returned (.int .u32 (irrW n ps n)) ∧ Below w.heap.size w w' := by
  go_enter Tryd.func23, Tryd.ntmps23
  go_wp2
  go_loopw [5, 6] (fun sv iv wr => ∃ x : Nat, iv = .int .i64 x ∧ x ≤ n ∧ sv = .int .u32 (irrW n ps x) ∧ Below w.heap.size w wr) (fun _ iv _ => n - (intOf iv).toNat)
  case atStart => exact ⟨0, rfl, Nat.zero_le _, rfl, Below.refl _ _⟩
  case round =>
    obtain ⟨x, rfl, hx, rfl, hbel⟩ := hrel
    by_cases hxn : x < n
    · go_wp2
      go_loopw [7, 8, 9] (fun lv ov iv wr => IrrA n ps w x lv ov iv wr) (fun _ _ iv _ => n - (intOf iv).toNat)
      case atStart => exact ⟨0, true, true, rfl, Nat.zero_le _, rfl, rfl, rfl, (irB_start n ps x).symm, hbel⟩
      case round =>
        clear hbel
        obtain ⟨i, l, o, rfl, hi, rfl, hlq, rfl, hoq, hbel⟩ := hrel
        have HLq := Lib.hid hlq
        have HOq := Lib.hid hoq
        clear hlq hoq
        by_cases hin : i < n
        · cases l with
          | false =>
            have HLs := Lib.hid (show false = leastB ps x (i + 1) by rw [leastB, ← HLq.out]; rfl)
            have HB := Lib.hid hbel
            clear hbel HLq
            go_wp2
            go_loopw [8, 10] (fun ov iv wr => IrrB n ps w x i ov iv wr) (fun _ iv _ => n - (intOf iv).toNat)
            case atStart => exact ⟨0, o, rfl, Nat.zero_le _, rfl, HOq.out, HB.out⟩
            case round =>
              clear HB HOq
              obtain ⟨j, o, rfl, hj, rfl, hoq, hbel⟩ := hrel
              have HOq := Lib.hid hoq
              clear hoq
              by_cases hjn : j < n
              · go_wp2_with fail
                refine (Joined_any n i j ps A c _ (hr.below hbel) hn6 hl).mono ?_
                rintro e w2 ⟨rfl, hb2⟩
                have hbel2 := hbel.trans (hb2.mono hbel.size)
                clear hb2 hbel
                by_cases he : joined n ps i j = x
                · have hd : (joined n ps i j == (x : Int)) = true := by simp [he]
                  by_cases h1 : i = x
                  · have HS := Lib.hid (show o = irB n ps x i (j + 1) by rw [irB_step, ← HOq.out]; simp [h1])
                    have hd1 : ((i : Int) != (x : Int)) = false := by simp; omega
                    clear he h1
                    go_wp2
                    go_roundw
                    case rel => exact ⟨j + 1, o, by go_num, by omega, rfl, HS.out, hbel2⟩
                    case measure => simp [intOf]; omega
                  · have hd1 : ((i : Int) != (x : Int)) = true := by simp; omega
                    by_cases h2 : j = x
                    · have HS := Lib.hid (show o = irB n ps x i (j + 1) by rw [irB_step, ← HOq.out]; simp [h2])
                      have hd2 : ((j : Int) != (x : Int)) = false := by simp; omega
                      clear he h1 h2
                      go_wp2
                      go_roundw
                      case rel => exact ⟨j + 1, o, by go_num, by omega, rfl, HS.out, hbel2⟩
                      case measure => simp [intOf]; omega
                    · have HS := Lib.hid (show false = irB n ps x i (j + 1) by rw [irB_step]; simp [he, h1, h2])
                      have hd2 : ((j : Int) != (x : Int)) = true := by simp; omega
                      clear he h1 h2
                      go_wp2
                      go_roundw
                      case rel => exact ⟨j + 1, false, by go_num, by omega, rfl, HS.out, hbel2⟩
                      case measure => simp [intOf]; omega
                · have hd : (joined n ps i j == (x : Int)) = false := by simp [he]
                  have HS := Lib.hid (show o = irB n ps x i (j + 1) by rw [irB_step, ← HOq.out]; simp [he])
                  clear he
                  go_wp2
                  go_roundw
                  case rel => exact ⟨j + 1, o, by go_num, by omega, rfl, HS.out, hbel2⟩
                  case measure => simp [intOf]; omega
              · have hjn2 : j = n := by omega
                have HN := Lib.hid (show o = irB n ps x (i + 1) 0 by rw [irB_next, HOq.out, hjn2])
                clear hjn2
                go_wp2
                go_roundw
                case rel => exact ⟨i + 1, _, o, by go_num, by omega, rfl, HLs.out, rfl, HN.out, hbel⟩
                case measure => simp [intOf]; omega
          | true =>
            go_wp2_with fail
            refine (Under_any n ps A c x i _ (hr.below hbel) hl).mono ?_
            rintro e w1 ⟨rfl, hb1⟩
            have HLs := Lib.hid (show under ps x i = leastB ps x (i + 1) by rw [leastB, ← HLq.out]; rfl)
            have HB := Lib.hid (hbel.trans (hb1.mono hbel.size))
            clear hbel hb1 HLq
            go_wp2
            go_loopw [8, 10] (fun ov iv wr => IrrB n ps w x i ov iv wr) (fun _ iv _ => n - (intOf iv).toNat)
            case atStart => exact ⟨0, o, rfl, Nat.zero_le _, rfl, HOq.out, HB.out⟩
            case round =>
              clear HB HOq
              obtain ⟨j, o, rfl, hj, rfl, hoq, hbel⟩ := hrel
              have HOq := Lib.hid hoq
              clear hoq
              by_cases hjn : j < n
              · go_wp2_with fail
                refine (Joined_any n i j ps A c _ (hr.below hbel) hn6 hl).mono ?_
                rintro e w2 ⟨rfl, hb2⟩
                have hbel2 := hbel.trans (hb2.mono hbel.size)
                clear hb2 hbel
                by_cases he : joined n ps i j = x
                · have hd : (joined n ps i j == (x : Int)) = true := by simp [he]
                  by_cases h1 : i = x
                  · have HS := Lib.hid (show o = irB n ps x i (j + 1) by rw [irB_step, ← HOq.out]; simp [h1])
                    have hd1 : ((i : Int) != (x : Int)) = false := by simp; omega
                    clear he h1
                    go_wp2
                    go_roundw
                    case rel => exact ⟨j + 1, o, by go_num, by omega, rfl, HS.out, hbel2⟩
                    case measure => simp [intOf]; omega
                  · have hd1 : ((i : Int) != (x : Int)) = true := by simp; omega
                    by_cases h2 : j = x
                    · have HS := Lib.hid (show o = irB n ps x i (j + 1) by rw [irB_step, ← HOq.out]; simp [h2])
                      have hd2 : ((j : Int) != (x : Int)) = false := by simp; omega
                      clear he h1 h2
                      go_wp2
                      go_roundw
                      case rel => exact ⟨j + 1, o, by go_num, by omega, rfl, HS.out, hbel2⟩
                      case measure => simp [intOf]; omega
                    · have HS := Lib.hid (show false = irB n ps x i (j + 1) by rw [irB_step]; simp [he, h1, h2])
                      have hd2 : ((j : Int) != (x : Int)) = true := by simp; omega
                      clear he h1 h2
                      go_wp2
                      go_roundw
                      case rel => exact ⟨j + 1, false, by go_num, by omega, rfl, HS.out, hbel2⟩
                      case measure => simp [intOf]; omega
                · have hd : (joined n ps i j == (x : Int)) = false := by simp [he]
                  have HS := Lib.hid (show o = irB n ps x i (j + 1) by rw [irB_step, ← HOq.out]; simp [he])
                  clear he
                  go_wp2
                  go_roundw
                  case rel => exact ⟨j + 1, o, by go_num, by omega, rfl, HS.out, hbel2⟩
                  case measure => simp [intOf]; omega
              · have hjn2 : j = n := by omega
                have HN := Lib.hid (show o = irB n ps x (i + 1) 0 by rw [irB_next, HOq.out, hjn2])
                clear hjn2
                go_wp2
                go_roundw
                case rel => exact ⟨i + 1, _, o, by go_num, by omega, rfl, HLs.out, rfl, HN.out, hbel⟩
                case measure => simp [intOf]; omega
        · have hin2 : i = n := by omega
          have hW1 : irrW n ps x < 4294967296 := by have h1 := irrW_lt n ps x; have h2 := one_lt (show x < 32 by omega); omega
          have hW2 := irrW_lt n ps (x + 1)
          have hW3 := one_lt (show x + 1 < 32 by omega)
          have HOne := Lib.hid (one_int x (show x < 32 by omega))
          cases o with
          | false =>
            have HS := Lib.hid (irrW_no (n := n) (ps := ps) (i := x) (by unfold irrB; rw [hin2] at HOq; rw [← HOq.out]; rfl))
            clear hin2
            go_wp2
            go_roundw
            case rel => exact ⟨x + 1, by go_num, by omega, by rw [HS.out], hbel⟩
            case measure => simp [intOf]; omega
          | true =>
            cases l with
            | true =>
              have HS := Lib.hid (irrW_no (n := n) (ps := ps) (i := x) (by unfold irrB; rw [hin2] at HLq; rw [← HLq.out]; simp))
              clear hin2
              go_wp2
              go_roundw
              case rel => exact ⟨x + 1, by go_num, by omega, by rw [HS.out], hbel⟩
              case measure => simp [intOf]; omega
            | false =>
              have HS := Lib.hid (irrW_yes (n := n) (ps := ps) (i := x) (by unfold irrB; rw [hin2] at HLq HOq; rw [← HLq.out, ← HOq.out]; rfl))
              clear hin2
              go_wp2
              go_roundw
              case rel =>
                refine ⟨x + 1, by go_num, by omega, ?_, hbel⟩
                rw [HOne.out, HS.out]
                rw [HS.out] at hW2
                congr 1
                omega
              case measure => simp [intOf]; omega
    · obtain rfl : x = n := by omega
      go_wp2
      go_ret
      exact ⟨rfl, hbel⟩

end Go.Proofs.YtogjkkaohaljpaaDoor
