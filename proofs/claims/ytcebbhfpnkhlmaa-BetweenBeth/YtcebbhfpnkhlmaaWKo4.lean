/- between.Told. -/
import Derived.Test.YtcebbhfpnkhlmaaWKo3
namespace Go.Proofs.Ytcebbhfpnkhlmaa
open Go.RowKit

theorem told_no {F : Nat → Bool} {v m s : Nat} (hs : s < m) (h : s.testBit v = false) (h1 : F s = true) (h2 : F (s + one v) = true) : toldP F v m = false := by
  cases e : toldP F v m with
  | false => rfl
  | true =>
    unfold toldP at e
    rw [List.all_eq_true] at e
    have := e s (List.mem_range.2 hs)
    rw [h, h1, h2] at this
    cases this
theorem or_one {s v : Nat} (hs : s < 16) (hv : v < 4) : s ||| one v = if s.testBit v = true then s else s + one v := by
  have key : ∀ (s : Fin 16) (v : Fin 4), s.val ||| one v.val = if s.val.testBit v.val = true then s.val else s.val + one v.val := by decide +kernel
  exact key ⟨s, hs⟩ ⟨v, hv⟩
theorem or_fit {n s v : Nat} (hs : s < one n) (hv : v < n) : s ||| one v < one n := Nat.or_lt_two_pow hs (Nat.pow_lt_pow_right (by omega) hv)

set_option maxHeartbeats 1000000 in
theorem KTold_ok : KToldOk 19 := by
  intro n f A c v w hl hr hX
  have hb0 : Below w.heap.size w (w.alloc (.cells #[.slice A f.length c] 22)) := (Below.refl _ _).alloc (Nat.le_refl _) _
  have hck := checkTables_any n [f] (some ⟨w.heap.size, 0, none⟩) 1 (w.alloc (.cells #[.slice A f.length c] 22)) (by simp [maxLen]) (tabs_one hl hr) (hX.below hb0)
  rw [firstC_one] at hck
  simp only [List.length_cons, List.length_nil, Nat.zero_add] at hck
  by_cases h1 : codeT n f.length = 0
  · by_cases h2 : v < 0 ∨ n ≤ v
    · have hc : codeV n f.length v = 4 := by unfold codeV; rw [if_neg (by simp [h1]), if_pos h2]
      rw [h1] at hck
      rw [hc]
      clear hc h1
      by_cases h3 : v < 0
      · clear h2
        go_enter Try.func19, Try.ntmps19
        go_wp2_with fail
        refine hck.mono ?_
        rintro e w1 ⟨rfl, hb1⟩
        have HB := Lib.hid (hb0.trans (hb1.mono hb0.size))
        clear hck hb1 hb0
        go_wp2
        go_ret2
        exact ⟨by simp, HB.out⟩
      · have h4 : v ≥ n := by omega
        clear h2
        go_enter Try.func19, Try.ntmps19
        go_wp2_with fail
        refine hck.mono ?_
        rintro e w1 ⟨rfl, hb1⟩
        have HB := Lib.hid (hb0.trans (hb1.mono hb0.size))
        clear hck hb1 hb0
        go_wp2
        go_ret2
        exact ⟨by simp, HB.out⟩
    · have hc : codeV n f.length v = 0 := by unfold codeV; rw [if_neg (by simp [h1]), if_neg h2]
      obtain ⟨n, v, rfl, rfl, hn, hlen, hv⟩ := codeV_zero hc
      rw [h1] at hck
      rw [hc, show (((0 : Int) == 0) && toldP (atB f) (v : Int).toNat f.length) = toldP (atB f) v f.length from rfl]
      have HL := Lib.hid hlen
      have h16 := one_le_16 hn
      have hl16 : f.length ≤ 16 := by omega
      have e2 := one_i64 v
      have hv0 : decide ((v : Int) < 0) = false := by rw [decide_eq_false_iff_not]; omega
      have hv1 : decide ((n : Int) ≤ (v : Int)) = false := by rw [decide_eq_false_iff_not]; omega
      have hv2 : decide (n ≤ v) = false := by rw [decide_eq_false_iff_not]; omega
      have hov : one v ≤ 16 := by have : one v ≤ one 4 := Nat.pow_le_pow_right (by omega) (by omega); simpa [one] using this
      clear h1 h2 hc hlen
      go_enter Try.func19, Try.ntmps19
      go_wp2_with fail
      refine hck.mono ?_
      rintro e w1 ⟨rfl, hb1⟩
      have HB := Lib.hid (hb0.trans (hb1.mono hb0.size))
      clear hck hb1 hb0
      go_wp2
      try rw [hv0]
      try rw [hv1]
      try rw [hv2]
      clear hv0 hv1 hv2
      go_loopw [27] (fun sv wr => ∃ s : Nat, sv = .int .i64 s ∧ s ≤ f.length ∧ toldP (atB f) v s = true ∧ w1 = wr) (fun sv _ => f.length - (intOf sv).toNat)
      case atStart => exact ⟨0, rfl, Nat.zero_le _, rfl, rfl⟩
      case round =>
        obtain ⟨s, rfl, hs, hp, rfl⟩ := hrel
        have HP := Lib.hid hp
        clear hp
        by_cases hlt : s < f.length
        · have HS := Lib.hid (told_succ (atB f) v s)
          rw [HP.out] at HS
          obtain ⟨g, off, rfl, d1⟩ := atB_cell (hr.below HB.out) hlt
          have hor := i64_or_nat s (one v) (by omega) (by omega)
          have HO := Lib.hid (or_one (s := s) (v := v) (by omega) (by omega))
          cases hbit : s.testBit v with
          | true =>
            rw [hbit] at HS HO
            rw [HO.out, if_pos rfl] at hor
            clear hbit
            go_wp2
            go_roundw
            case rel => exact ⟨s + 1, by go_num, by omega, by rw [HS.out]; simp, trivial⟩
            case measure => simp [intOf]; omega
          | false =>
            have hlt2 : s + one v < f.length := by
              have := HO.out
              rw [hbit, if_neg (by simp)] at this
              rw [← this, HL.out]
              exact or_fit (by rw [← HL.out]; exact hlt) hv
            obtain ⟨g', off', eg, d2⟩ := atB_cell (hr.below HB.out) hlt2
            simp only [Option.some.injEq, Addr.mk.injEq, and_true] at eg
            obtain ⟨rfl, rfl⟩ := eg
            have HN := Lib.hid (fun h1 h2 => told_no (F := atB f) hlt hbit h1 h2)
            rw [hbit] at HS HO
            rw [HO.out, if_neg (by simp)] at hor
            have hne : (((s + one v : Nat) : Int) != (s : Int)) = true := by have := one_pos v; simp; omega
            generalize atB f (s + one v) = y at *
            generalize atB f s = x at *
            obtain ⟨p, hp⟩ : ∃ p, s + one v = p := ⟨_, rfl⟩
            rw [hp] at hor hlt2 d2 hne
            clear hbit hp
            cases x
            · go_wp2
              go_roundw
              case rel => exact ⟨s + 1, by go_num, by omega, by rw [HS.out]; simp, trivial⟩
              case measure => simp [intOf]; omega
            · cases y
              · go_wp2
                go_roundw
                case rel => exact ⟨s + 1, by go_num, by omega, by rw [HS.out]; simp, trivial⟩
                case measure => simp [intOf]; omega
              · go_wp2
                go_ret2
                exact ⟨by rw [HN.out (by first | exact trivial | rfl) (by first | exact trivial | rfl)]; rfl, HB.out⟩
        · obtain rfl : s = f.length := by omega
          go_wp2
          go_ret2
          exact ⟨by rw [HP.out]; rfl, HB.out⟩
  · have hc : codeV n f.length v = codeT n f.length := by unfold codeV; rw [if_pos h1]
    have hne : (codeT n f.length != 0) = true := by simpa using h1
    have heq : (codeT n f.length == 0) = false := by simpa using h1
    rw [hc, heq]
    clear h1 hc heq
    generalize codeT n f.length = q at *
    go_enter Try.func19, Try.ntmps19
    go_wp2_with fail
    refine hck.mono ?_
    rintro e w1 ⟨rfl, hb1⟩
    have HB := Lib.hid (hb0.trans (hb1.mono hb0.size))
    clear hck hb1 hb0
    go_wp2
    go_ret2
    exact ⟨by simp, HB.out⟩

end Go.Proofs.Ytcebbhfpnkhlmaa
