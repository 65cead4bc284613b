/- The law on Edge, by the document's answer. -/
import Derived.Test.YtpcnjcoejfkfjaaLawEdge
namespace Go.Proofs.Ytpcnjcoejfkfjaa
open Go.RowKit

/-- Is i one of s and not below another one of the first j? -/
noncomputable def tpB (ps : List (Int × Int)) (s i : Nat) : Nat → Bool
  | 0 => s.testBit i
  | j + 1 => tpB ps s i j && (decide (j = i) || !s.testBit j || !under ps i j)
theorem tpB_iff {ps : List (Int × Int)} {s i m : Nat} : tpB ps s i m = true ↔ s.testBit i = true ∧ ∀ b : Nat, b < m → b ≠ i → s.testBit b = true → under ps i b = false := by
  induction m with
  | zero => simp [tpB]
  | succ m ih =>
    rw [tpB, Bool.and_eq_true, ih]
    constructor
    · rintro ⟨⟨h1, h2⟩, h3⟩
      refine ⟨h1, fun b hb hne hsb => ?_⟩
      by_cases e : b = m
      · subst e; simpa [hne, hsb] using h3
      · exact h2 b (by omega) hne hsb
    · rintro ⟨h1, h2⟩
      refine ⟨⟨h1, fun b hb => h2 b (by omega)⟩, ?_⟩
      by_cases e : m = i
      · simp [e]
      · cases k : s.testBit m with
        | false => simp
        | true => simp [h2 m (by omega) e k]
theorem tpB_edge {n : Nat} {ps : List (Int × Int)} {s i : Nat} (hi : i < n) : tpB ps s i n = (edgeW n ps s).testBit i := by
  rw [Bool.eq_iff_iff, tpB_iff, mem_edge]
  exact ⟨fun h => ⟨hi, h⟩, fun h => h.2⟩

set_option maxHeartbeats 2000000 in
theorem DownsEdges_with (hE : EdgeOk 18) (n : Int) (ps : List (Int × Int)) (A : Option Addr) (c s : Nat) (w : World) (hs : s < 4294967296) (hm : ps.length ≤ maxLen) (hr : Row w A (pairsC ps)) (hX : Laid w) :
    Calls Try.prog 6 #[.int .i64 n, .slice A ps.length c, .int .u32 s] w fun e w' => e = .returned (.bool true) ∧ Below w.heap.size w w' := by
  have key := hE n ps A c s w hs hm hr hX
  by_cases hc : codeS n ps s = 0
  · have hc0 : code n ps = 0 := by
      by_cases h : code n ps = 0
      · exact h
      · rw [codeS_err h] at hc; exact hc
    obtain ⟨h2, h3, h4⟩ := code_zero hc0
    obtain ⟨n, rfl⟩ := Int.eq_ofNat_of_zero_le (show 0 ≤ n by unfold Large at h2; omega)
    obtain ⟨hn1, hn6, hl⟩ : 1 ≤ n ∧ n ≤ 6 ∧ ps.length ≤ 20 := by unfold Large at h2; omega
    have hk : s < one n := by
      refine Classical.byContradiction fun h => ?_
      rw [codeS_no hc0 h] at hc
      cases hc
    have HC := Lib.hid hc
    have h64 := one_le_64 hn6
    clear h2 h3 h4 hc
    cases hdn : downB n ps s with
    | false =>
      rw [codeE_form hc0 hk hdn, if_neg (by decide)] at key
      have HDn := Lib.hid hdn
      clear hdn hc0
      go_enter Try.func6, Try.ntmps6
      go_wp2_with fail
      refine key.mono ?_
      rintro e w1 ⟨rfl, hb1⟩
      go_wp2_with fail
      refine (setCode_any n ps A c s _ hm (hr.below hb1)).mono ?_
      rintro e w2 ⟨rfl, hb2⟩
      rw [HC.out]
      have hb02 := hb1.trans (hb2.mono hb1.size)
      clear hb1 hb2 key
      go_wp2_with fail
      refine (Down_any n s ps A c _ (hr.below hb02) hn6 hl (by omega)).mono ?_
      rintro e w3 ⟨rfl, hb3⟩
      rw [HDn.out]
      have HB := Lib.hid (hb02.trans (hb3.mono hb02.size))
      clear hb02 hb3
      go_wp2
      go_ret
      exact ⟨rfl, HB.out⟩
    | true =>
      rw [codeE_ok hc0 hk hdn, if_pos rfl, Int.toNat_natCast] at key
      have HDn := Lib.hid hdn
      have hd : edgeW n ps s < one n := edge_lt _ _ _
      have hfit : decide (edgeW n ps s < one n) = true := by simpa using hd
      have HTp := Lib.hid (fun i (hi : i < n) => tpB_edge (ps := ps) (s := s) hi)
      clear hdn hc0
      generalize edgeW n ps s = d at *
      go_enter Try.func6, Try.ntmps6
      go_wp2_with fail
      refine key.mono ?_
      rintro e w1 ⟨rfl, hb1⟩
      go_wp2_with fail
      refine (setCode_any n ps A c s _ hm (hr.below hb1)).mono ?_
      rintro e w2 ⟨rfl, hb2⟩
      rw [HC.out]
      have hb02 := hb1.trans (hb2.mono hb1.size)
      clear hb1 hb2 key
      go_wp2_with fail
      refine (Down_any n s ps A c _ (hr.below hb02) hn6 hl (by omega)).mono ?_
      rintro e w3 ⟨rfl, hb3⟩
      rw [HDn.out]
      have hb03 := hb02.trans (hb3.mono hb02.size)
      clear hb02 hb3
      go_wp2
      go_loopw [10] (fun iv wr => ∃ i : Nat, iv = .int .i64 i ∧ i ≤ n ∧ Below w.heap.size w wr) (fun iv _ => n - (intOf iv).toNat)
      case atStart => exact ⟨0, rfl, Nat.zero_le _, hb03⟩
      case round =>
        clear hb03
        obtain ⟨i, rfl, hi, hbel⟩ := hrel
        by_cases hin : i < n
        · go_wp2_with fail
          refine (Bit_any s i (by omega) hs _).mono ?_
          rintro e w4 ⟨rfl, rfl⟩
          go_wp2
          go_loopw [11, 12] (fun tv jv wr => ∃ (j : Nat) (t : Bool), jv = .int .i64 j ∧ j ≤ n ∧ tv = .bool t ∧ t = tpB ps s i j ∧ Below w.heap.size w wr) (fun _ jv _ => n - (intOf jv).toNat)
          case atStart => exact ⟨0, _, rfl, Nat.zero_le _, rfl, rfl, hbel⟩
          case round =>
            clear hbel
            obtain ⟨j, t, rfl, hj, rfl, htq, hbel⟩ := hrel
            have HT := Lib.hid htq
            clear htq
            by_cases hjn : j < n
            · cases t with
              | false =>
                have HS := Lib.hid (show false = tpB ps s i (j + 1) by rw [tpB, ← HT.out]; rfl)
                go_wp2
                go_roundw
                case rel => exact ⟨j + 1, false, by go_num, by omega, rfl, HS.out, hbel⟩
                case measure => simp [intOf]; omega
              | true =>
                by_cases hji : j = i
                · have HS := Lib.hid (show true = tpB ps s i (j + 1) by rw [tpB, ← HT.out]; simp [hji])
                  have hq : ((j : Int) == (i : Int)) = true := by simp; omega
                  clear hji
                  go_wp2
                  go_roundw
                  case rel => exact ⟨j + 1, true, by go_num, by omega, rfl, HS.out, hbel⟩
                  case measure => simp [intOf]; omega
                · have hq : ((j : Int) == (i : Int)) = false := by simp; omega
                  have HJI := Lib.hid hji
                  clear hji
                  go_wp2_with fail
                  refine (Bit_any s j (by omega) hs _).mono ?_
                  rintro e w4 ⟨rfl, rfl⟩
                  cases hb : s.testBit j with
                  | false =>
                    have HS := Lib.hid (show true = tpB ps s i (j + 1) by rw [tpB, ← HT.out, hb]; simp)
                    clear hb
                    go_wp2
                    go_roundw
                    case rel => exact ⟨j + 1, true, by go_num, by omega, rfl, HS.out, hbel⟩
                    case measure => simp [intOf]; omega
                  | true =>
                    have HS := Lib.hid (show (!under ps i j) = tpB ps s i (j + 1) by rw [tpB, ← HT.out, hb]; simp [HJI.out])
                    clear hb
                    go_wp2_with fail
                    refine (Under_any n ps A c i j _ (hr.below hbel) hl).mono ?_
                    rintro e w5 ⟨rfl, hb5⟩
                    have hbel5 := hbel.trans (hb5.mono hbel.size)
                    clear hb5
                    go_wp2
                    go_roundw
                    case rel => exact ⟨j + 1, _, by go_num, by omega, rfl, HS.out, hbel5⟩
                    case measure => simp [intOf]; omega
            · have hje : j = n := by omega
              subst hje
              go_wp2_with fail
              refine (Bit_any d i (by omega) (by omega) _).mono ?_
              rintro e w4 ⟨rfl, rfl⟩
              rw [show d.testBit i = t from by rw [HT.out]; exact (HTp.out i hin).symm]
              cases t with
              | false =>
                go_wp2
                go_roundw
                case rel => exact ⟨i + 1, by go_num, by omega, hbel⟩
                case measure => simp [intOf]; omega
              | true =>
                go_wp2
                go_roundw
                case rel => exact ⟨i + 1, by go_num, by omega, hbel⟩
                case measure => simp [intOf]; omega
        · go_wp2_with fail
          refine (Fits_any n d (by omega) _).mono ?_
          rintro e w4 ⟨rfl, rfl⟩
          rw [hfit]
          go_wp2
          go_ret
          exact ⟨rfl, hbel⟩
  · rw [codeE_err hc, if_neg hc] at key
    go_enter Try.func6, Try.ntmps6
    go_wp2_with fail
    refine key.mono ?_
    rintro e w1 ⟨rfl, hb1⟩
    go_wp2_with fail
    refine (setCode_any n ps A c s _ hm (hr.below hb1)).mono ?_
    rintro e w2 ⟨rfl, hb2⟩
    have HB := Lib.hid (hb1.trans (hb2.mono hb1.size))
    clear key
    generalize codeS n ps s = k at *
    have hk : (k == 0) = false := by simpa using hc
    have hk2 : (k != 0) = true := by simpa using hc
    clear hc hb1 hb2
    go_wp2
    go_ret
    exact ⟨rfl, HB.out⟩

end Go.Proofs.Ytpcnjcoejfkfjaa
