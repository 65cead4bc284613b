/- two.Stuck. -/
import Derived.Test.YtekeeodnjlebcaaDoorWJo5
namespace Go.Proofs.YtekeeodnjlebcaaDoor
open Go.RowKit

theorem stuckP_split (n : Nat) (l : List Cla) (v : Nat) : stuckP n l v = ((reachW n l v).testBit (n + v) && (reachW n l (n + v)).testBit v) := by
  unfold stuckP
  rw [Nat.add_comm v n]

set_option maxHeartbeats 1000000 in
theorem JStuck_ok : JStuckOk 10 := by
  intro n rs A c w h32 hl hr hX
  have hck := JReach_ok n rs A c w h32 hl hr hX
  by_cases hc : codeD n rs = 0
  · obtain ⟨n, rfl, hn1, hn6, hl16, hok, _⟩ := codeD_zero hc
    have HS := Lib.hid (stuckD_ok hc)
    have HL := Lib.hid (reachL_ok hc)
    rw [hc] at hck ⊢
    rw [HS.out]
    have h12 : one (n + n) ≤ 4096 := by unfold one; exact Nat.le_trans (Nat.pow_le_pow_right (by omega) (show n + n ≤ 12 by omega)) (by decide)
    have e64 := one_le_64 hn6
    clear hc hok HS h32 hl hr hX
    go_enter Tryd.func10, Tryd.ntmps10
    go_wp2_with fail
    refine hck.mono ?_
    rintro e w1 ⟨A2, c2, L, rfl, hL, hrow, hb1⟩
    rw [HL.out] at hL
    have hlen : L.length = n + n := by rw [hL]; simp
    obtain ⟨g, off, rfl, hcell⟩ := hrow.at (k := 0) (by rw [words_length]; omega)
    have HCl := Lib.hid (show ∀ i, i < n + n → w1.cell? ⟨g, off + i, none⟩ = some (.int .u32 (reachW n rs i : Nat)) from fun i hi => hcell _ _ (words_at (by rw [hL]; simp [hi])))
    clear hcell hrow hL HL hck
    rw [hlen]
    clear hlen
    go_wp2
    go_loopw [8, 20] (fun s v wr => ∃ k : Nat, v = .int .i64 k ∧ k ≤ n ∧ s = .int .u32 (wordOf k (stuckP n rs) : Nat) ∧ w1 = wr) (fun _ v _ => n - (intOf v).toNat)
    case atStart => exact ⟨0, rfl, Nat.zero_le _, rfl, rfl⟩
    case round =>
      obtain ⟨k, rfl, hk, rfl, rfl⟩ := hrel
      by_cases hlt : k < n
      · have ca := HCl.out k (by omega)
        have cb := HCl.out (n + k) (by omega)
        have hP := Lib.hid (stuckP_split n rs k)
        have ra := reachW_lt n rs k
        have rb := reachW_lt n rs (n + k)
        have hw1 : wordOf k (stuckP n rs) < 4294967296 := Nat.lt_trans (wordOf_lt _ _) (one_lt (by omega))
        have hw2 : one k < 4294967296 := one_lt (by omega)
        have o1 := one_int k (by omega)
        have hka := jHas_any (reachW n rs k) (n + k) (by omega) (by omega)
        have hkb := jHas_any (reachW n rs (n + k)) k (by omega) (by omega)
        have hi1 : ((n : Int) + k) < (n : Int) + n := by omega
        have hi2 : (k : Int) < (n : Int) + n := by omega
        generalize reachW n rs k = xa at *
        generalize reachW n rs (n + k) = xb at *
        cases h1 : xa.testBit (n + k) with
        | false =>
          have HN := Lib.hid (show stuckP n rs k = false by rw [hP.out, h1]; rfl)
          rw [h1] at hka
          clear h1 hkb hP
          go_wp2_with fail
          refine (hka _).mono ?_
          rintro e w' ⟨rfl, rfl⟩
          go_wp2
          go_roundw
          case rel => exact ⟨k + 1, by go_num, by omega, by rw [wordOf, HN.out]; simp, trivial⟩
          case measure => simp [intOf]; omega
        | true =>
          rw [h1] at hka
          cases h2 : xb.testBit k with
          | false =>
            have HN := Lib.hid (show stuckP n rs k = false by rw [hP.out, h1, h2]; rfl)
            rw [h2] at hkb
            clear h1 h2 hP
            go_wp2_with fail
            refine (hka _).mono ?_
            rintro e w' ⟨rfl, rfl⟩
            go_wp2_with fail
            refine (hkb _).mono ?_
            rintro e w' ⟨rfl, rfl⟩
            go_wp2
            go_roundw
            case rel => exact ⟨k + 1, by go_num, by omega, by rw [wordOf, HN.out]; simp, trivial⟩
            case measure => simp [intOf]; omega
          | true =>
            have HN := Lib.hid (show stuckP n rs k = true by rw [hP.out, h1, h2]; rfl)
            rw [h2] at hkb
            clear h1 h2 hP
            go_wp2_with fail
            refine (hka _).mono ?_
            rintro e w' ⟨rfl, rfl⟩
            go_wp2_with fail
            refine (hkb _).mono ?_
            rintro e w' ⟨rfl, rfl⟩
            go_wp2
            go_roundw
            case rel => exact ⟨k + 1, by go_num, by omega, by rw [wordOf, HN.out, if_pos rfl, u32_or_nat _ _ hw1 hw2], trivial⟩
            case measure => simp [intOf]; omega
      · obtain rfl : k = n := by omega
        go_wp2
        go_ret2
        exact ⟨rfl, hb1⟩
  · have HR := Lib.hid (stuckD_err hc)
    rw [HR.out]
    generalize codeD n rs = cc at *
    go_enter Tryd.func10, Tryd.ntmps10
    go_wp2_with fail
    refine hck.mono ?_
    rintro e w1 ⟨A2, c2, L, rfl, hL, hrow, hb1⟩
    clear hck hL hrow
    generalize L.length = ll at *
    go_wp2
    go_ret2
    exact ⟨rfl, hb1⟩

end Go.Proofs.YtekeeodnjlebcaaDoor
