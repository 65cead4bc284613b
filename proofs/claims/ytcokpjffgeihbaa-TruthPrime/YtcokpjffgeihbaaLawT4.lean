/- The law of Quine on Primes, from the contract. -/
import Derived.Test.YtcokpjffgeihbaaLawT3
import Derived.Test.YtcokpjffgeihbaaQuine
namespace Go.Proofs.Ytcokpjffgeihbaa
open Go.RowKit

/-- Is one of the first j products true for s? -/
def anyP (l : List (Nat × Nat)) (s j : Nat) : Bool := (l.take j).any (covB s)
theorem anyP_succ {l : List (Nat × Nat)} {s j : Nat} {r : Nat × Nat} (h : l[j]? = some r) : anyP l s (j + 1) = (anyP l s j || covB s r) := by
  unfold anyP
  rw [List.take_add_one, h]
  simp

set_option maxHeartbeats 4000000 in
theorem TruthPrime_with (hF : TPrimesOk 21) (n : Int) (f : List Bool) (A : Option Addr) (c : Nat) (w : World) (hm : f.length ≤ maxLen) (hr : Row w A (boolsC f)) (hX : Laid w) :
    Calls Try.prog 11 #[.int .i64 n, .slice A f.length c] w fun e w' => e = .returned (.bool true) ∧ Below w.heap.size w w' := by
  have key := hF n f A c w hm hr hX
  by_cases hc : codeT n f.length = 0
  · obtain ⟨k, rfl, hk, hl⟩ := codeT_zero hc
    have h16 := one_le_16 hk
    rw [hc, if_pos rfl, Int.toNat_natCast] at key
    have hpl : (primL k (atB f) (one k)).length ≤ 256 := by
      have h1 := primL_len k (atB f) (one k)
      have h3 : one k * one k ≤ 16 * 16 := Nat.mul_le_mul h16 h16
      omega
    have HC := Lib.hid hc
    have HLn := Lib.hid hl
    have hf16 : f.length ≤ 16 := by omega
    clear hc hl
    go_enter Try.func11, Try.ntmps11
    go_wp2_with fail
    refine key.mono ?_
    rintro e w1 ⟨A2, c2, l, rfl, hl2, hcap, hr2, hb1⟩
    have hll : l.length ≤ 256 := by rw [hl2]; exact hpl
    have HU := Lib.hid (show ∀ r ∈ l, r.1 < 16 ∧ r.2 < 16 from fun r hr => by
      rw [hl2] at hr
      obtain ⟨h1, h2, _⟩ := mem_primL.1 hr
      omega)
    have HQ := Lib.hid (show ∀ s, s < f.length → anyP l s l.length = atB f s from fun s hs => by
      unfold anyP
      rw [List.take_length, hl2]
      exact quine hk (by rw [← HLn.out]; exact hs))
    clear hl2 key hcap hpl
    go_wp2_with fail
    refine (stated_any k f A c _ hm).mono ?_
    rintro e w1' ⟨rfl, rfl⟩
    rw [HC.out, show ((0 : Int) == 0) = true from rfl]
    go_wp2
    go_loopw [7] (fun sv wr => ∃ s : Nat, sv = .int .i64 s ∧ s ≤ f.length ∧ Below w1.heap.size w1 wr) (fun sv _ => f.length - (intOf sv).toNat)
    case atStart => exact ⟨0, rfl, Nat.zero_le _, Below.refl _ _⟩
    case round =>
      obtain ⟨s, rfl, hs, hb2⟩ := hrel
      by_cases hlt : s < f.length
      · go_wp2
        go_loopw [8, 31] (fun bv jv wr => ∃ (j : Nat) (b : Bool), jv = .int .i64 j ∧ bv = .bool b ∧ j ≤ l.length ∧ b = anyP l s j ∧ Below w1.heap.size w1 wr) (fun _ jv _ => l.length - (intOf jv).toNat)
        case atStart => exact ⟨0, false, rfl, rfl, Nat.zero_le _, rfl, hb2⟩
        case round =>
          clear hb2
          rename World => wi
          obtain ⟨j, b, rfl, rfl, hj, hbv, hb2⟩ := hrel
          have HB := Lib.hid hbv
          clear hbv
          by_cases hjl : j < l.length
          · obtain ⟨r, hrj⟩ := get_some hjl
            obtain ⟨q1, o1, rfl, e0, e1⟩ := RowR.cells (hr2.below hb2) hrj
            obtain ⟨u1, u2⟩ := HU.out r (List.mem_of_getElem? hrj)
            have HN := Lib.hid (anyP_succ (s := s) hrj)
            rw [← HB.out] at HN
            unfold covB at HN
            have hb3 := hb2.alloc hb2.size (.cells #[.int .u32 (r.1 : Int), .int .u32 (r.2 : Int)] 49)
            have hz := u32_and_zero (show r.2 < 4294967296 by omega) (show s < 4294967296 by omega)
            have hin := fun W => In_any r.1 s (by omega) (by omega) W
            rw [show (r.1 ||| s == s) = sub r.1 s from rfl] at hin
            generalize sub r.1 s = p at hin HN
            generalize (r.2 &&& s == 0) = z at hz HN
            obtain ⟨r1, r2⟩ := r
            clear hrj
            cases b with
            | true =>
              go_wp2
              go_roundw
              case rel => exact ⟨j + 1, true, by go_num, rfl, by omega, by rw [HN.out]; rfl, hb3⟩
              case measure => simp [intOf]; omega
            | false =>
              cases p with
              | false =>
                go_wp2_with fail
                refine (hin _).mono ?_
                rintro e w3 ⟨rfl, rfl⟩
                go_wp2
                go_roundw
                case rel => exact ⟨j + 1, false, by go_num, rfl, by omega, by rw [HN.out]; rfl, hb3⟩
                case measure => simp [intOf]; omega
              | true =>
                cases z with
                | true =>
                  rw [beq_iff_eq] at hz
                  go_wp2_with fail
                  refine (hin _).mono ?_
                  rintro e w3 ⟨rfl, rfl⟩
                  go_wp2
                  go_roundw
                  case rel => exact ⟨j + 1, true, by go_num, rfl, by omega, by rw [HN.out]; rfl, hb3⟩
                  case measure => simp [intOf]; omega
                | false =>
                  rw [beq_eq_false_iff_ne] at hz
                  go_wp2_with fail
                  refine (hin _).mono ?_
                  rintro e w3 ⟨rfl, rfl⟩
                  go_wp2
                  go_roundw
                  case rel => exact ⟨j + 1, false, by go_num, by simp [hz], by omega, by rw [HN.out]; rfl, hb3⟩
                  case measure => simp [intOf]; omega
          · obtain rfl : j = l.length := by omega
            have hbe : b = atB f s := by rw [HB.out]; exact HQ.out s hlt
            obtain ⟨q1, o1, rfl, e0⟩ := atB_cell ((hr.below hb1).below hb2) hlt
            rw [← hbe] at e0
            clear hbe
            go_wp2
            go_roundw
            case rel => exact ⟨s + 1, by go_num, by omega, hb2⟩
            case measure => simp [intOf]; omega
      · go_wp2
        go_ret
        exact ⟨rfl, hb1.trans (hb2.mono hb1.size)⟩
  · have HC := Lib.hid hc
    rw [if_neg hc] at key
    have hcf : (codeT n f.length == 0) = false := by simpa using hc
    have HF := Lib.hid hcf
    generalize hq : codeT n f.length = q at key
    have HQ := Lib.hid hq
    have hq0 : q ≠ 0 := by rw [← HQ.out]; exact HC.out
    clear hc hq hcf
    go_enter Try.func11, Try.ntmps11
    go_wp2_with fail
    refine key.mono ?_
    rintro e w1 ⟨A2, c2, l, rfl, rfl, _, hr2, hb1⟩
    go_wp2_with fail
    refine (stated_any n f A c _ hm).mono ?_
    rintro e w1' ⟨rfl, rfl⟩
    rw [HF.out]
    go_wp2
    go_ret
    exact ⟨ret_bool (by simpa using hq0), hb1⟩

end Go.Proofs.Ytcokpjffgeihbaa
