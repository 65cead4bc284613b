/- The law BetweenTolds. -/
import Derived.Test.YtcebbhfpnkhlmaaKSpec
import Derived.Test.YtcebbhfpnkhlmaaWK1
namespace Go.Proofs.Ytcebbhfpnkhlmaa
open Go.RowKit

theorem add_lt {n s v : Nat} (hn : n ≤ 4) (hv : v < n) (hs : s < one n) (h : s.testBit v = false) : s + one v < one n := by
  have := one_le_16 hn
  rw [add_xor (by omega) (by omega) h]
  exact xor_lt hs hv

set_option maxHeartbeats 1000000 in
theorem BetweenTolds_with (hF : KToldOk 19) (n : Int) (f : List Bool) (A : Option Addr) (c : Nat) (v : Int) (w : World) (hm : f.length ≤ maxLen) (hr : Row w A (boolsC f)) (hX : Laid w) :
    Calls Try.prog 7 #[.int .i64 n, .slice A f.length c, .int .i64 v] w fun e w' => e = .returned (.bool true) ∧ Below w.heap.size w w' := by
  have key := hF n f A c v w hm hr hX
  have hcode := fun W => TruthCheck_any n f A c W hm
  by_cases h1 : codeT n f.length = 0
  · rw [h1] at hcode
    by_cases h2 : v < 0 ∨ n ≤ v
    · have hc : codeV n f.length v = 4 := by unfold codeV; rw [if_neg (by simp [h1]), if_pos h2]
      rw [hc, show (((4 : Int) == 0) && toldP (atB f) v.toNat f.length) = false from rfl] at key
      clear hc h1
      by_cases h3 : v < 0
      · clear h2
        go_enter Try.func7, Try.ntmps7
        go_wp2_with fail
        refine key.mono ?_
        rintro e w1 ⟨rfl, hb1⟩
        clear key
        go_wp2_with fail
        refine (hcode _).mono ?_
        rintro e w2 ⟨rfl, rfl⟩
        go_wp2
        go_ret
        exact ⟨rfl, hb1⟩
      · have h4 : n ≤ v := by omega
        clear h2
        go_enter Try.func7, Try.ntmps7
        go_wp2_with fail
        refine key.mono ?_
        rintro e w1 ⟨rfl, hb1⟩
        clear key
        go_wp2_with fail
        refine (hcode _).mono ?_
        rintro e w2 ⟨rfl, rfl⟩
        go_wp2
        go_ret
        exact ⟨rfl, hb1⟩
    · have hc : codeV n f.length v = 0 := by unfold codeV; rw [if_neg (by simp [h1]), if_neg h2]
      obtain ⟨n, v, rfl, rfl, hn, hl, hv⟩ := codeV_zero hc
      have h16 := one_le_16 hn
      have hl16 : f.length ≤ 16 := by omega
      rw [hc, show (((0 : Int) == 0) && toldP (atB f) (v : Int).toNat f.length) = toldP (atB f) v f.length from rfl] at key
      have HL := Lib.hid hl
      obtain ⟨tb, htb⟩ : ∃ tb, toldP (atB f) v f.length = tb := ⟨_, rfl⟩
      rw [htb] at key
      have HTB := Lib.hid htb
      have e2 := one_i64 v
      have hv0 : decide ((v : Int) < 0) = false := by rw [decide_eq_false_iff_not]; omega
      have hv1 : decide ((n : Int) ≤ (v : Int)) = false := by rw [decide_eq_false_iff_not]; omega
      have hv2 : decide (n ≤ v) = false := by rw [decide_eq_false_iff_not]; omega
      clear h1 h2 hc hl htb
      go_enter Try.func7, Try.ntmps7
      go_wp2_with fail
      refine key.mono ?_
      rintro e w1 ⟨rfl, hb1⟩
      clear key
      go_wp2_with fail
      refine (hcode _).mono ?_
      rintro e w2 ⟨rfl, rfl⟩
      go_wp2
      try rw [hv0]
      try rw [hv1]
      try rw [hv2]
      clear hv0 hv1 hv2
      go_loopw [10, 11] (fun qv sv wr => ∃ s : Nat, sv = .int .i64 s ∧ s ≤ f.length ∧ (∃ q : Bool, q = toldP (atB f) v s ∧ qv = .bool q) ∧ w1 = wr) (fun _ sv _ => f.length - (intOf sv).toNat)
      case atStart => exact ⟨0, rfl, Nat.zero_le _, ⟨true, rfl, rfl⟩, rfl⟩
      case round =>
        obtain ⟨s, rfl, hs, ⟨q, hq, rfl⟩, rfl⟩ := hrel
        have HQ := Lib.hid hq
        clear hq
        by_cases hlt : s < f.length
        · have HS := Lib.hid (told_succ (atB f) v s)
          rw [← HQ.out] at HS
          obtain ⟨g, off, rfl, d1⟩ := atB_cell (hr.below hb1) hlt
          have kB := fun W => Bit_any s v (by omega) (by omega) W
          cases hbit : s.testBit v with
          | true =>
            rw [hbit] at kB HS
            clear hbit
            go_wp2_with fail
            refine (kB _).mono ?_
            rintro e w3 ⟨rfl, rfl⟩
            go_wp2
            go_roundw
            case rel => exact ⟨s + 1, by go_num, by omega, ⟨q, by rw [HS.out]; simp, rfl⟩, trivial⟩
            case measure => simp [intOf]; omega
          | false =>
            have hlt2 : s + one v < f.length := by rw [HL.out] at hlt ⊢; exact add_lt hn hv hlt hbit
            obtain ⟨g', off', eg, d2⟩ := atB_cell (hr.below hb1) hlt2
            simp only [Option.some.injEq, Addr.mk.injEq, and_true] at eg
            obtain ⟨rfl, rfl⟩ := eg
            rw [hbit] at kB HS
            have hov : one v ≤ 16 := by have : one v ≤ one 4 := Nat.pow_le_pow_right (by omega) (by omega); simpa [one] using this
            generalize atB f (s + one v) = y at *
            generalize atB f s = x at *
            have hsum : (s : Int) + (one v : Int) = ((s + one v : Nat) : Int) := by omega
            obtain ⟨p, hp⟩ : ∃ p, s + one v = p := ⟨_, rfl⟩
            rw [hp] at hsum hlt2 d2
            clear hbit hp
            cases x
            · go_wp2_with fail
              refine (kB _).mono ?_
              rintro e w3 ⟨rfl, rfl⟩
              go_wp2
              go_roundw
              case rel => exact ⟨s + 1, by go_num, by omega, ⟨q, by rw [HS.out]; simp, rfl⟩, trivial⟩
              case measure => simp [intOf]; omega
            · cases y
              · go_wp2_with fail
                refine (kB _).mono ?_
                rintro e w3 ⟨rfl, rfl⟩
                go_wp2
                go_roundw
                case rel => exact ⟨s + 1, by go_num, by omega, ⟨q, by rw [HS.out]; simp, rfl⟩, trivial⟩
                case measure => simp [intOf]; omega
              · go_wp2_with fail
                refine (kB _).mono ?_
                rintro e w3 ⟨rfl, rfl⟩
                go_wp2
                go_roundw
                case rel => exact ⟨s + 1, by go_num, by omega, ⟨false, by rw [HS.out]; simp, rfl⟩, trivial⟩
                case measure => simp [intOf]; omega
        · obtain rfl : s = f.length := by omega
          have HE := Lib.hid (show q = tb by rw [HQ.out, HTB.out])
          go_wp2
          go_ret
          exact ⟨ret_bool (by rw [HE.out]; simp), hb1⟩
  · have hc : codeV n f.length v = codeT n f.length := by unfold codeV; rw [if_pos h1]
    rw [hc, show (codeT n f.length == 0) = false from by simpa using h1, Bool.false_and] at key
    clear hc
    generalize codeT n f.length = k at *
    have hk1 : (k == 0) = false := by simpa using h1
    have hk2 : (k != 0) = true := by simpa using h1
    clear h1
    go_enter Try.func7, Try.ntmps7
    go_wp2_with fail
    refine key.mono ?_
    rintro e w1 ⟨rfl, hb1⟩
    clear key
    go_wp2_with fail
    refine (hcode _).mono ?_
    rintro e w2 ⟨rfl, rfl⟩
    go_wp2
    go_ret
    exact ⟨ret_bool (by simp), hb1⟩

end Go.Proofs.Ytcebbhfpnkhlmaa
