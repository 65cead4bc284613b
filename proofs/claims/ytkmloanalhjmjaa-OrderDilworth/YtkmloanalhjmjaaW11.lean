/- order.isApart and order.Apart, and the walk of the law on Apart by the document's answer. -/
import Derived.Test.YtkmloanalhjmjaaW10
namespace Go.Proofs.Ytkmloanalhjmjaa
open Go.RowKit

/-- The first a rows let a set be apart. -/
def ApTo (n : Nat) (ps : List (Int × Int)) (s a : Nat) : Prop := ∀ x, x < a → s.testBit x = true → upT n ps x &&& s = one x
theorem ApTo.step {n : Nat} {ps : List (Int × Int)} {s a : Nat} (h : ApTo n ps s a) (hn : s.testBit a = true → upT n ps a &&& s = one a) : ApTo n ps s (a + 1) := by
  intro x hx
  by_cases e : x = a
  · subst e; exact hn
  · exact h x (by omega)
theorem ApTo.all {n : Nat} {ps : List (Int × Int)} {s : Nat} (h : ApTo n ps s n) : freeB n ps s = true := by
  refine freeB_iff.2 fun a b hab hne h1 h2 => ?_
  obtain ⟨ha, hb⟩ : a < n ∧ b < n := by omega
  have e := congrArg (fun w => w.testBit b) (h a ha h1)
  simp only [Nat.testBit_and, upT_testBit, one_testBit, hb, h2, decide_true, Bool.true_and, Bool.and_true, hne, decide_false] at e
  exact e
theorem ap_no {n : Nat} {ps : List (Int × Int)} {s a : Nat} (ha : a < n) (h1 : s.testBit a = true) (h2 : upT n ps a &&& s ≠ one a) : freeB n ps s = false := by
  cases h : freeB n ps s with
  | false => rfl
  | true =>
    exfalso
    apply h2
    refine word_ext (n := n) (and_lt_one (upT_lt _ _ _)) (one_lt_one ha) fun i hi => ?_
    rw [Nat.testBit_and, upT_testBit, one_testBit]
    by_cases e : a = i
    · subst e; simp [h1, hi, under_iff.2 (Reach.refl ps a)]
    · cases hb : s.testBit i with
      | false => simp [e]
      | true => simp [e, freeB_iff.1 h a i (.inl ⟨ha, hi⟩) e h1 hb]

set_option maxHeartbeats 1000000 in
theorem isApart_any (n s : Nat) (ps : List (Int × Int)) (A : Option Addr) (c : Nat) (w : World) (hr : Tab w A n (upT n ps)) (hn1 : 1 ≤ n) (hn6 : n ≤ 6) (hs : s < one n) :
    Calls Try.prog 44 #[.slice A n c, .int .u32 s] w fun e w' => e = .returned (.bool (freeB n ps s)) ∧ ∃ d, w' = w.drewN d := by
  have h64 := one_le_64 hn6
  have hs32 : s < 4294967296 := by omega
  go_enter Try.func44, Try.ntmps44
  go_wp2
  go_loopw [8] (fun v wr => ∃ a : Nat, v = .int .i64 a ∧ a ≤ n ∧ ApTo n ps s a ∧ ∃ d, wr = w.drewN d) (fun v _ => n - (intOf v).toNat)
  case atStart => exact ⟨0, rfl, Nat.zero_le _, by intro x hx; omega, 0, rfl⟩
  case round =>
    obtain ⟨a, rfl, ha, hap, d, rfl⟩ := hrel
    have HA := Lib.hid hap
    clear hap
    by_cases hlt : a < n
    · obtain ⟨g, off, rfl, hcell⟩ := hr.cell (by omega)
      have hca : (w.drewN d).cell? ⟨g, off + a, none⟩ = some (.int .u32 (upT n ps a : Nat)) := hcell a hlt
      generalize hw3 : w.drewN d = w3 at *
      have HW := Lib.hid hw3
      clear hcell hw3
      cases hb : s.testBit a with
      | false =>
        have HB := Lib.hid hb
        clear hb
        go_wp2
        go_quiet ((go_at_call 48; exact Calls.quiet_of_same (has_still s a HB.out (by omega) hs32 _)))
        go_wp2
        go_roundw
        case rel => exact ⟨a + 1, by go_num, by omega, HA.out.step (fun h => by rw [HB.out] at h; cases h), d + nq, by rw [← HW.out, World.drewN_drewN]⟩
        case measure => simp [intOf]; omega
      | true =>
        have HB := Lib.hid hb
        clear hb
        have HD := Lib.hid (u32_neq (c := one a) (upT_u32 hn6 ps a) hs32)
        by_cases he : upT n ps a &&& s = one a
        · have hd2 : (bits .and .u32 (upT n ps a : Int) (s : Int) != (one a : Int)) = false := by rw [HD.out]; simp [he]
          have HE := Lib.hid he
          clear he
          go_wp2
          go_quiet (first | (go_at_call 48; exact Calls.quiet_of_same (has_still s a HB.out (by omega) hs32 _)) | (go_at_call 39; exact only_quiet a (by omega) _ _))
          go_wp2
          go_roundw
          case rel => exact ⟨a + 1, by go_num, by omega, HA.out.step (fun _ => HE.out), d + nq, by rw [← HW.out, World.drewN_drewN]⟩
          case measure => simp [intOf]; omega
        · have hd2 : (bits .and .u32 (upT n ps a : Int) (s : Int) != (one a : Int)) = true := by rw [HD.out]; simpa using he
          have HV := Lib.hid (ap_no hlt HB.out he)
          clear he
          go_wp2
          go_quiet (first | (go_at_call 48; exact Calls.quiet_of_same (has_still s a HB.out (by omega) hs32 _)) | (go_at_call 39; exact only_quiet a (by omega) _ _))
          go_wp2
          go_ret
          exact ⟨ret_bool HV.out.symm, d + nq, by rw [← HW.out, World.drewN_drewN]⟩
    · obtain rfl : a = n := by omega
      have HV := Lib.hid HA.out.all
      go_wp2
      go_ret
      exact ⟨ret_bool HV.out.symm, d, rfl⟩

theorem Apart_err (n : Int) (ps : List (Int × Int)) (A : Option Addr) (c : Nat) (w : World) (hm : ps.length ≤ maxLen) (hr : Row w A (pairsC ps)) (hc : code n ps ≠ 0) :
    Calls Try.prog 26 #[.int .i64 n, .slice A ps.length c] w fun e w' => e = .returned (.tuple #[.int .u32 0, .int .i64 (code n ps)]) ∧ Below w.heap.size w w' := by
  go_enter Try.func26, Try.ntmps26
  go_wp2_with fail
  refine (Table_err n ps A c _ hm hr hc).mono ?_
  rintro e w1 ⟨rfl, hb1⟩
  have hk : (code n ps != 0) = true := by simpa using hc
  clear hc
  go_wp2
  go_ret2
  exact ⟨rfl, hb1⟩

set_option maxHeartbeats 1000000 in
theorem Apart_ok (n : Nat) (ps : List (Int × Int)) (A : Option Addr) (c : Nat) (w : World) (hm : ps.length ≤ maxLen) (hr : Row w A (pairsC ps)) (hc : code n ps = 0) :
    Calls Try.prog 26 #[.int .i64 n, .slice A ps.length c] w fun e w' => e = .returned (.tuple #[.int .u32 (widest n ps), .int .i64 0]) ∧ Below w.heap.size w w' := by
  obtain ⟨h2, h3, h4⟩ := code_zero hc
  obtain ⟨hn1, hn6, hl⟩ : 1 ≤ n ∧ n ≤ 6 ∧ ps.length ≤ 20 := by unfold Large at h2; omega
  have h64 := one_le_64 hn6
  have HC := Lib.hid hc
  clear h2 h3 h4 hc
  go_enter Try.func26, Try.ntmps26
  go_wp2_with fail
  refine (Table_ok n ps A c _ hm hr HC.out).mono ?_
  rintro e w1 ⟨g, rfl, hown, hb1⟩
  have HT := Lib.hid hown.tab
  clear hown
  go_wp2_with fail
  refine (only_any n (by omega) _).mono ?_
  rintro e w' ⟨rfl, rfl⟩
  go_wp2
  go_loopw [8, 21] (fun b v wr => ∃ k : Nat, v = .int .u32 k ∧ k ≤ one n ∧ b = .int .u32 (widestTo n ps k) ∧ ∃ d, wr = w1.drewN d) (fun _ v _ => one n - (intOf v).toNat)
  case atStart => exact ⟨0, rfl, Nat.zero_le _, rfl, 0, rfl⟩
  case round =>
    obtain ⟨k, rfl, hk, rfl, d, rfl⟩ := hrel
    have hle := widestTo_le n ps k
    by_cases hlt : k < one n
    · generalize hw3 : w1.drewN d = w3 at *
      have HW := Lib.hid hw3
      clear hw3
      go_wp2_with fail
      refine (OnesCount32_any k (by omega) _).mono ?_
      rintro e w' ⟨rfl, rfl⟩
      go_wp2_with fail
      refine (OnesCount32_any (widestTo n ps k) (by omega) _).mono ?_
      rintro e w' ⟨rfl, rfl⟩
      have HT3 : Hid (Tab w3.drew.drew (some ⟨g, 0, none⟩) n (upT n ps)) := by
        have h1 : Tab (w1.drewN d) (some ⟨g, 0, none⟩) n (upT n ps) := HT.out
        rw [HW.out] at h1
        exact h1
      by_cases hp : pop (widestTo n ps k) < pop k
      · have hd : decide (pop (widestTo n ps k) < pop k) = true := by simpa using hp
        go_wp2_with fail
        refine (isApart_any n k ps _ n _ HT3.out hn1 hn6 hlt).mono ?_
        rintro e w2 ⟨rfl, d2, rfl⟩
        cases hf : freeB n ps k with
        | true =>
          have HV := Lib.hid (widestTo_yes hp hf)
          clear hf
          go_wp2
          go_roundw
          case rel => exact ⟨k + 1, by go_num, by omega, by rw [HV.out], d + (1 + (1 + d2)), by rw [← HW.out, World.drewN_drewN]⟩
          case measure => simp [intOf]; omega
        | false =>
          have HV := Lib.hid (widestTo_no (n := n) (ps := ps) (k := k) (by rw [hf]; simp))
          clear hf
          go_wp2
          go_roundw
          case rel => exact ⟨k + 1, by go_num, by omega, by rw [HV.out], d + (1 + (1 + d2)), by rw [← HW.out, World.drewN_drewN]⟩
          case measure => simp [intOf]; omega
      · have hd : decide (pop (widestTo n ps k) < pop k) = false := by simpa using hp
        have HV := Lib.hid (widestTo_no (n := n) (ps := ps) (k := k) (fun h => hp h.1))
        go_wp2
        go_roundw
        case rel => exact ⟨k + 1, by go_num, by omega, by rw [HV.out], d + (2 + 0), by rw [← HW.out]; exact drew_two w1 d 0⟩
        case measure => simp [intOf]; omega
    · obtain rfl : k = one n := by omega
      go_wp2
      go_ret2
      exact ⟨rfl, below_drewN hb1 d⟩

set_option maxHeartbeats 1000000 in
theorem OrderAparts_walk (n : Int) (ps : List (Int × Int)) (A : Option Addr) (c : Nat) (w : World) (hm : ps.length ≤ maxLen) (hr : Row w A (pairsC ps)) :
    Calls Try.prog 7 #[.int .i64 n, .slice A ps.length c] w fun e w' => e = .returned (.bool true) ∧ Below w.heap.size w w' := by
  by_cases hc : code n ps = 0
  · obtain ⟨h2, h3, h4⟩ := code_zero hc
    obtain ⟨n, rfl⟩ := Int.eq_ofNat_of_zero_le (show 0 ≤ n by unfold Large at h2; omega)
    obtain ⟨hn1, hn6, hl⟩ : 1 ≤ n ∧ n ≤ 6 ∧ ps.length ≤ 20 := by unfold Large at h2; omega
    have HC := Lib.hid hc
    clear h2 h3 h4 hc
    go_enter Try.func7, Try.ntmps7
    go_wp2_with fail
    refine (Apart_ok n ps A c _ hm hr HC.out).mono ?_
    rintro e w1 ⟨rfl, hb1⟩
    go_wp2_with fail
    refine (OrderCheck_any n ps A c _ hm (hr.below hb1)).mono ?_
    rintro e w2 ⟨rfl, hb2⟩
    rw [HC.out]
    have hb02 := hb1.trans (hb2.mono hb1.size)
    go_wp2_with fail
    refine (Widest_any n ps A c _ (hr.below hb02) hn6 hl).mono ?_
    rintro e w3 ⟨rfl, hb3⟩
    have hb03 := hb02.trans (hb3.mono hb02.size)
    go_wp2
    go_ret
    exact ⟨rfl, hb03⟩
  · go_enter Try.func7, Try.ntmps7
    go_wp2_with fail
    refine (Apart_err n ps A c _ hm hr hc).mono ?_
    rintro e w1 ⟨rfl, hb1⟩
    go_wp2_with fail
    refine (OrderCheck_any n ps A c _ hm (hr.below hb1)).mono ?_
    rintro e w2 ⟨rfl, hb2⟩
    have HB2 := Lib.hid (hb1.trans (hb2.mono hb1.size))
    generalize code n ps = k at *
    have hk : (k != 0) = true := by simpa using hc
    clear hc
    go_wp2
    go_ret
    exact ⟨rfl, HB2.out⟩

end Go.Proofs.Ytkmloanalhjmjaa
