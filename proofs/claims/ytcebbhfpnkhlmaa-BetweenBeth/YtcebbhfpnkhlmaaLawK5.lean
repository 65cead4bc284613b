/- The law BetweenBeth. -/
import Derived.Test.YtcebbhfpnkhlmaaLawK4
namespace Go.Proofs.Ytcebbhfpnkhlmaa
open Go.RowKit

/-- Not so of two that differ in v, of the first m. -/
def sameP (F : Nat → Bool) (v m : Nat) : Bool := (List.range m).all fun s => !F s || !F (s ^^^ one v)
theorem same_succ (F : Nat → Bool) (v m : Nat) : sameP F v (m + 1) = (sameP F v m && (!F m || !F (m ^^^ one v))) := by simp [sameP, List.range_succ]
theorem same_told {n v : Nat} {F : Nat → Bool} (hn : n ≤ 4) (hv : v < n) : sameP F v (one n) = toldP F v (one n) := by
  rw [Bool.eq_iff_iff, told_iff hn hv]
  unfold sameP
  rw [List.all_eq_true]
  constructor
  · intro h s hs k
    have := h s (List.mem_range.2 hs)
    rw [k.1, k.2] at this
    cases this
  · intro h s hs
    have := h s (List.mem_range.1 hs)
    cases h1 : F s <;> cases h2 : F (s ^^^ one v) <;> simp_all

set_option maxHeartbeats 2000000 in
theorem BetweenBeth_with (hF : KToldOk 19) (hG : KLeastOk 14) (n : Int) (f : List Bool) (A : Option Addr) (c : Nat) (v : Int) (w : World) (hm : f.length ≤ maxLen) (hr : Row w A (boolsC f)) (hX : Laid w) :
    Calls Try.prog 10 #[.int .i64 n, .slice A f.length c, .int .i64 v] w fun e w' => e = .returned (.bool true) ∧ Below w.heap.size w w' := by
  have key := hF n f A c v w hm hr hX
  have hst := fun W => stated_any n f A c W hm
  by_cases h1 : codeT n f.length = 0
  · rw [h1] at hst
    by_cases h2 : v < 0 ∨ n ≤ v
    · have hc : codeV n f.length v = 4 := by unfold codeV; rw [if_neg (by simp [h1]), if_pos h2]
      rw [hc, show (((4 : Int) == 0) && toldP (atB f) v.toNat f.length) = false from rfl] at key
      clear hc h1
      by_cases h3 : v < 0
      · clear h2
        go_enter Try.func10, Try.ntmps10
        go_wp2_with fail
        refine key.mono ?_
        rintro e w1 ⟨rfl, hb1⟩
        clear key
        go_wp2_with fail
        refine (hst _).mono ?_
        rintro e w2 ⟨rfl, rfl⟩
        go_wp2
        go_ret
        exact ⟨rfl, hb1⟩
      · have h4 : n ≤ v := by omega
        clear h2
        go_enter Try.func10, Try.ntmps10
        go_wp2_with fail
        refine key.mono ?_
        rintro e w1 ⟨rfl, hb1⟩
        clear key
        go_wp2_with fail
        refine (hst _).mono ?_
        rintro e w2 ⟨rfl, rfl⟩
        go_wp2
        go_ret
        exact ⟨rfl, hb1⟩
    · have hc : codeV n f.length v = 0 := by unfold codeV; rw [if_neg (by simp [h1]), if_neg h2]
      obtain ⟨n, v, rfl, rfl, hn, hl, hv⟩ := codeV_zero hc
      have h16 := one_le_16 hn
      have hl16 : f.length ≤ 16 := by omega
      rw [hc, show (((0 : Int) == 0) && toldP (atB f) (v : Int).toNat f.length) = toldP (atB f) v f.length from rfl] at key
      have HTold := Lib.hid (show toldP (atB f) v f.length = sameP (atB f) v f.length by rw [hl, same_told hn hv])
      have hvn : one v < one n := Nat.pow_lt_pow_right (by omega) hv
      obtain ⟨kp, hkp⟩ : ∃ kp, full n - one v = kp := ⟨_, rfl⟩
      have hkpn : kp < one n := by rw [← hkp]; have := full_lt n; omega
      have hkc : (one n : Int) - 1 - (one v : Int) = (kp : Int) := by
        rw [← hkp]
        have := one_pos n
        unfold full
        omega
      have h1n := one_int n (by omega)
      have h1v := one_int v (by omega)
      have key2 := fun W (hb : Below w.heap.size w W) => hG n f A c kp W (by omega) hm (hr.below hb) (hX.below hb)
      have hck : codeK n f.length f.length kp = 0 := codeK_ok h1 h1 hkpn
      rw [hck, if_pos rfl] at key2
      have HL := Lib.hid hl
      have HKP := Lib.hid hkp
      obtain ⟨tb, htb⟩ : ∃ tb, toldP (atB f) v f.length = tb := ⟨_, rfl⟩
      rw [htb] at key HTold
      have e2 := one_i64 v
      have hv0 : decide ((v : Int) < 0) = false := by rw [decide_eq_false_iff_not]; omega
      have hv1 : decide ((n : Int) ≤ (v : Int)) = false := by rw [decide_eq_false_iff_not]; omega
      have hv2 : decide (n ≤ v) = false := by rw [decide_eq_false_iff_not]; omega
      clear h1 h2 hc hl htb hck hkp
      go_enter Try.func10, Try.ntmps10
      go_wp2_with fail
      refine key.mono ?_
      rintro e w1 ⟨rfl, hb1⟩
      clear key
      go_wp2_with fail
      refine (hst _).mono ?_
      rintro e w2 ⟨rfl, rfl⟩
      go_wp2_with fail
      try rw [hkc]
      refine (key2 _ hb1).mono ?_
      rintro e w3 ⟨A3, c3, l, rfl, hL, hrow, hb3⟩
      have hLl : l.length = f.length := by rw [hL]; unfold leastL; simp
      have HLs := Lib.hid hL
      have HLl := Lib.hid hLl
      have hq : ((l.length : Int) != (f.length : Int)) = false := by rw [hLl]; simp
      have hl2 : l.length ≤ 16 := by omega
      have hb13 := hb1.trans (hb3.mono hb1.size)
      have hrf := hr.below hb13
      clear key2 hL hLl hb3 hb1 hst
      go_wp2
      try rw [hkc]
      try rw [hv0]
      try rw [hv1]
      try rw [hv2]
      try rw [h1n]
      try rw [h1v]
      clear hv0 hv1 hv2 h1n h1v hkc
      go_loopw [12, 13] (fun qv sv wr => ∃ s d : Nat, sv = .int .i64 s ∧ s ≤ f.length ∧ (∃ q : Bool, q = sameP (atB f) v s ∧ qv = .bool q) ∧ wr = w3.drewN d) (fun _ sv _ => f.length - (intOf sv).toNat)
      case atStart => exact ⟨0, 0, rfl, Nat.zero_le _, ⟨true, rfl, rfl⟩, rfl⟩
      case round =>
        obtain ⟨s, d, rfl, hs, ⟨q, hq1, rfl⟩, rfl⟩ := hrel
        have HQ := Lib.hid hq1
        clear hq1
        by_cases hlt : s < f.length
        · obtain ⟨p, hp⟩ : ∃ p, s ^^^ one v = p := ⟨_, rfl⟩
          have hpl : p < f.length := by rw [← hp, HL.out] at *; exact xor_lt hlt hv
          have hxor := i64_xorS (s := s) (v := v) (by omega) (by omega)
          rw [hp] at hxor
          have HS := Lib.hid (same_succ (atB f) v s)
          rw [← HQ.out, hp] at HS
          have hsl : s < l.length := by rw [HLl.out]; exact hlt
          obtain ⟨gf, of, rfl, d1⟩ := atB_cell (hrf.drewN d) hlt
          obtain ⟨g', off', eg, d2⟩ := atB_cell (hrf.drewN d) hpl
          simp only [Option.some.injEq, Addr.mk.injEq, and_true] at eg
          obtain ⟨rfl, rfl⟩ := eg
          obtain ⟨gl, ol, rfl, d3⟩ := atB_cell (hrow.drewN d) hsl
          have hat : atB l s = (atB f s || atB f p) := by
            rw [HLs.out]
            unfold leastL
            rw [atB_tabB _ hlt, HL.out, ← HKP.out, some_but hn hv (by rw [← HL.out]; exact hlt), hp]
          rw [hat] at d3
          clear hat hp
          generalize atB f s = x at *
          generalize atB f p = y at *
          generalize hw6 : w3.drewN d = w6 at *
          have HW6 := Lib.hid hw6
          clear hw6
          cases q <;> cases x <;> cases y
          all_goals
            go_wp2
            go_quiet (fail)
            go_wp2
            go_roundw
            case rel => exact ⟨s + 1, d + nq, by go_num, by omega, ⟨_, by rw [HS.out]; rfl, rfl⟩, by rw [← HW6.out, World.drewN_drewN]⟩
            case measure => simp [intOf]; omega
        · obtain rfl : s = f.length := by omega
          have HE := Lib.hid (show q = tb by rw [HQ.out, HTold.out])
          cases q <;> cases tb
          all_goals first
            | (have := HE.out; cases this; done)
            | (go_wp2
               go_ret
               exact ⟨rfl, below_drewN hb13 d⟩)
  · have hc : codeV n f.length v = codeT n f.length := by unfold codeV; rw [if_pos h1]
    rw [hc, show (codeT n f.length == 0) = false from by simpa using h1, Bool.false_and] at key
    rw [show (codeT n f.length == 0) = false from by simpa using h1] at hst
    clear hc
    generalize codeT n f.length = k at *
    have hk2 : (k != 0) = true := by simpa using h1
    clear h1
    go_enter Try.func10, Try.ntmps10
    go_wp2_with fail
    refine key.mono ?_
    rintro e w1 ⟨rfl, hb1⟩
    clear key
    go_wp2_with fail
    refine (hst _).mono ?_
    rintro e w2 ⟨rfl, rfl⟩
    go_wp2
    go_ret
    exact ⟨ret_bool (by simp), hb1⟩

end Go.Proofs.Ytcebbhfpnkhlmaa
