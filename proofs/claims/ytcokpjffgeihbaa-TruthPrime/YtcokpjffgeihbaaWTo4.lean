/- math/bits.OnesCount of sets of four variables, truth.isAffine, truth.class. -/
import Derived.Test.YtcokpjffgeihbaaWTo3
namespace Go.Proofs.Ytcokpjffgeihbaa
open Go.RowKit

set_option maxHeartbeats 4000000 in
theorem OnesCount64_few (x : Nat) (hx : x < 16) (w : World) :
    Calls Try.prog 58 #[.int .u64 x] w fun e w' => e = .returned (.int .i64 (pop x)) ∧ w = w' := by
  obtain ⟨p, hp⟩ : ∃ p, p = pop x := ⟨_, rfl⟩
  have HP := Lib.hid hp
  rw [← hp]
  clear hp
  have h : x = 0 ∨ x = 1 ∨ x = 2 ∨ x = 3 ∨ x = 4 ∨ x = 5 ∨ x = 6 ∨ x = 7 ∨ x = 8 ∨ x = 9 ∨ x = 10 ∨ x = 11 ∨ x = 12 ∨ x = 13 ∨ x = 14 ∨ x = 15 := by omega
  rcases h with rfl | rfl | rfl | rfl | rfl | rfl | rfl | rfl | rfl | rfl | rfl | rfl | rfl | rfl | rfl | rfl
  all_goals (go_enter Try.func58, Try.ntmps58; go_wp2; go_ret; exact ⟨ret_int (by rw [HP.out]; decide +kernel), rfl⟩)

set_option maxHeartbeats 1000000 in
theorem OnesCount_few (x : Nat) (hx : x < 16) (w : World) :
    Calls Try.prog 46 #[.int .u64 x] w fun e w' => e = .returned (.int .i64 (pop x)) ∧ w = w' := by
  go_enter Try.func46, Try.ntmps46
  go_wp2_with fail
  refine (OnesCount64_few x hx _).mono ?_
  rintro e w' ⟨rfl, rfl⟩
  go_wp2
  go_ret
  exact ⟨rfl, rfl⟩

theorem straP_bad {M : Nat → Bool} {k s : Nat} (hs : s < k) (h1 : 1 < pop s) (h2 : M s = true) : straP M k = false := by
  cases e : straP M k with
  | false => rfl
  | true =>
    unfold straP at e
    rw [List.all_eq_true] at e
    have := e s (List.mem_range.2 hs)
    simp [h1, h2] at this

set_option maxHeartbeats 2000000 in
theorem tAffine_any (n : Nat) (hn : n ≤ 4) (f : List Bool) (A : Option Addr) (c : Nat) (w : World) (hf : f.length = one n) (hr : Row w A (boolsC f)) :
    Calls Try.prog 42 #[.slice A f.length c] w fun e w' => e = .returned (.bool (straP (atB f) (one n))) ∧ w = w' := by
  have h16 := one_le_16 hn
  have h1p := one_pos n
  have HF := Lib.hid hf
  rw [hf]
  clear hf
  go_enter Try.func42, Try.ntmps42
  go_wp2
  go_loopw [7] (fun v wr => ∃ s : Nat, v = .int .i64 s ∧ s ≤ one n ∧ straP (atB f) s = true ∧ w = wr) (fun v _ => one n - (intOf v).toNat)
  case atStart => exact ⟨0, rfl, Nat.zero_le _, rfl, rfl⟩
  case round =>
    obtain ⟨s, rfl, hs, hal, rfl⟩ := hrel
    have HA := Lib.hid hal
    clear hal
    by_cases hlt : s < one n
    · obtain ⟨b, off, rfl, c1⟩ := atB_cell hr (k := s) (by rw [HF.out]; exact hlt)
      obtain ⟨x, hx⟩ : ∃ x, x = atB f s := ⟨_, rfl⟩
      rw [← hx] at c1
      have HX := Lib.hid hx
      clear hx
      cases x with
      | false =>
        have HN := Lib.hid (show straP (atB f) (s + 1) = true by rw [straP_succ, HA.out, ← HX.out]; simp)
        go_wp2
        go_roundw
        case rel => exact ⟨s + 1, by go_num, by omega, HN.out, by first | exact trivial | rfl⟩
        case measure => simp [intOf]; omega
      | true =>
        have hpl := pop_le s
        obtain ⟨p, hp⟩ : ∃ p, p = pop s := ⟨_, rfl⟩
        have hoc := OnesCount_few s (by omega)
        rw [← hp] at hoc hpl
        have HP := Lib.hid hp
        clear hp
        by_cases h1 : 1 < p
        · have HN := Lib.hid (straP_bad hlt (by rw [← HP.out]; exact h1) HX.out.symm)
          go_wp2_with fail
          refine (hoc _).mono ?_
          rintro e w' ⟨rfl, rfl⟩
          go_wp2
          go_ret
          exact ⟨ret_bool HN.out.symm, rfl⟩
        · have HN := Lib.hid (show straP (atB f) (s + 1) = true by rw [straP_succ, HA.out, ← HP.out]; simp [h1])
          go_wp2_with fail
          refine (hoc _).mono ?_
          rintro e w' ⟨rfl, rfl⟩
          go_wp2
          go_roundw
          case rel => exact ⟨s + 1, by go_num, by omega, HN.out, by first | exact trivial | rfl⟩
          case measure => simp [intOf]; omega
    · obtain rfl : s = one n := by omega
      go_wp2
      go_ret
      exact ⟨ret_bool HA.out.symm, rfl⟩

theorem straP_congr {M N : Nat → Bool} {k : Nat} (h : ∀ s, s < k → M s = N s) : straP M k = straP N k := by
  unfold straP
  rw [Bool.eq_iff_iff, List.all_eq_true, List.all_eq_true]
  constructor
  · intro h1 s hs
    rw [← h s (List.mem_range.1 hs)]
    exact h1 s hs
  · intro h1 s hs
    rw [h s (List.mem_range.1 hs)]
    exact h1 s hs

set_option maxRecDepth 100000 in
set_option maxHeartbeats 4000000 in
theorem tClass_any (n : Nat) (hn : n ≤ 4) (f : List Bool) (A : Option Addr) (c : Nat) (w : World) (hf : f.length = one n) (hr : Row w A (boolsC f)) :
    Calls Try.prog 30 #[.int .i64 n, .slice A f.length c] w fun e w' => e = .returned (.int .u32 (classF n (atB f))) ∧ Below w.heap.size w w' := by
  have h16 := one_le_16 hn
  have h1p := one_pos n
  have HF := Lib.hid hf
  obtain ⟨b, off, rfl, c0⟩ := atB_cell hr (k := 0) (by omega)
  obtain ⟨b', off', he, c1⟩ := atB_cell hr (k := full n) (by rw [hf]; exact full_lt n)
  simp only [Option.some.injEq, Addr.mk.injEq, and_true] at he
  obtain ⟨rfl, rfl⟩ := he
  have hfl := full_lt n
  have hfu : (one n : Int) - 1 = (full n : Nat) := by unfold full; omega
  rw [Nat.add_zero] at c0
  have hdual := tDual_any n hn f (some ⟨b, off, none⟩) c w hf hr
  rw [hf] at hdual ⊢
  generalize hx0 : atB f 0 = x0 at c0
  generalize hx1 : atB f (full n) = x1 at c1
  have HX0 := Lib.hid hx0
  have HX1 := Lib.hid hx1
  clear hx0 hx1 hf
  go_enter Try.func30, Try.ntmps30
  go_upto_if 9 with fail
  go_cut [5] (fun v wx => v = .int .u32 ((!x0).toNat : Nat) ∧ w = wx)
  case first =>
    cases x0
    all_goals (go_wp2_with fail; go_meet; exact ⟨rfl, rfl⟩)
  case rest =>
  obtain ⟨rfl, rfl⟩ := hcut
  go_upto_if 17 with fail
  go_cut [5] (fun v wx => v = .int .u32 (((!x0).toNat + 2 * x1.toNat : Nat) : Int) ∧ w = wx)
  case first =>
    cases x1 <;> cases x0
    all_goals (go_wp2_with fail; go_meet; exact ⟨by first | rfl | go_num, rfl⟩)
  case rest =>
  obtain ⟨rfl, rfl⟩ := hcut
  clear c0 c1
  go_wp2_with fail
  refine hdual.mono ?_
  rintro e w1 ⟨rfl, hown, hb1⟩
  have hrow1 := hr.below hb1
  have hbools := tEqual_any f (tabB (one n) (dualF n (atB f))) (some ⟨b, off, none⟩) (some ⟨w.heap.size, 0, none⟩) c (one n) w1 hrow1 hown.row (by rw [HF.out]; omega) (by simp; omega)
  rw [self_dec HF.out, tabB_length, HF.out] at hbools
  generalize hx2 : selfB n (atB f) = x2 at hbools
  have HX2 := Lib.hid hx2
  clear hx2 hown hdual
  go_wp2_with fail
  refine hbools.mono ?_
  rintro e w2 ⟨rfl, dd, hw2⟩
  have hb2 : Below w.heap.size w w2 := by rw [hw2]; exact below_drewN hb1 _
  have hrow2 := hr.below hb2
  clear hw2 hbools hrow1 hb1
  go_upto_if 23 with fail
  go_cut [5] (fun v wx => (∃ q : Nat, q = cls (!x0) x1 x2 false false ∧ v = .int .u32 q) ∧ w2 = wx)
  case first =>
    cases x2 <;> cases x1 <;> cases x0
    all_goals (go_wp2_with fail; go_meet; exact ⟨⟨_, rfl, by first | rfl | go_num⟩, rfl⟩)
  case rest =>
  obtain ⟨⟨q, hq, rfl⟩, rfl⟩ := hcut
  have HQ := Lib.hid hq
  clear hq
  have hmono := tMono_any n hn f (some ⟨b, off, none⟩) c w2 HF.out hrow2
  rw [HF.out] at hmono
  generalize hx3 : riseP n (atB f) (one n) = x3 at hmono
  have HX3 := Lib.hid hx3
  clear hx3
  go_wp2_with fail
  refine hmono.mono ?_
  rintro e w3 ⟨rfl, rfl⟩
  clear hmono
  go_upto_if 28 with fail
  go_cut [5] (fun v wx => (∃ q : Nat, q = cls (!x0) x1 x2 x3 false ∧ v = .int .u32 q) ∧ w2 = wx)
  case first =>
    have hq := HQ.out
    clear HQ
    subst hq
    cases x3 <;> cases x2 <;> cases x1 <;> cases x0
    all_goals (go_wp2_with fail; go_meet; exact ⟨⟨_, rfl, by first | rfl | go_num⟩, rfl⟩)
  case rest =>
  clear HQ
  clear q
  obtain ⟨⟨q, hq, rfl⟩, rfl⟩ := hcut
  have HQ := Lib.hid hq
  clear hq
  have hsum := tSums_any n hn f (some ⟨b, off, none⟩) c w2 HF.out hrow2
  rw [HF.out] at hsum
  go_wp2_with fail
  refine hsum.mono ?_
  rintro e w4 ⟨g, cap, rfl, hown, hb4⟩
  clear hsum
  have haff := tAffine_any n hn (tabB (one n) (mob n (atB f))) (some ⟨g, 0, none⟩) cap w4 (by simp) hown.row
  rw [tabB_length, straP_congr (fun s hs => atB_tabB (mob n (atB f)) hs)] at haff
  generalize hx4 : straP (mob n (atB f)) (one n) = x4 at haff
  have HX4 := Lib.hid hx4
  have HB4 := Lib.hid (show Below w.heap.size w w4 from hb2.trans (hb4.mono hb2.size))
  clear hx4 hown hb4
  go_wp2_with fail
  refine haff.mono ?_
  rintro e w5 ⟨rfl, rfl⟩
  clear haff
  go_upto_if 34 with fail
  go_cut [5] (fun v wx => (∃ q : Nat, q = cls (!x0) x1 x2 x3 x4 ∧ v = .int .u32 q) ∧ w4 = wx)
  case first =>
    have hq := HQ.out
    clear HQ
    subst hq
    cases x4 <;> cases x3 <;> cases x2 <;> cases x1 <;> cases x0
    all_goals (go_wp2_with fail; go_meet; exact ⟨⟨_, rfl, by first | rfl | go_num⟩, rfl⟩)
  case rest =>
  clear HQ
  clear q
  obtain ⟨⟨q, hq, rfl⟩, rfl⟩ := hcut
  have HQ := Lib.hid (show q = classF n (atB f) by rw [hq]; unfold classF; rw [HX0.out, HX1.out, HX2.out, HX3.out, HX4.out])
  clear hq
  go_wp2
  go_ret
  exact ⟨ret_int (by rw [HQ.out]), HB4.out⟩

end Go.Proofs.Ytcokpjffgeihbaa
