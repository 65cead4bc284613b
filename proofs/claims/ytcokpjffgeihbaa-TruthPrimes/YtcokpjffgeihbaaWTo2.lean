/- truth.sums. -/
import Derived.Test.YtcokpjffgeihbaaWTo1
import Derived.Test.YtcokpjffgeihbaaSetW
namespace Go.Proofs.Ytcokpjffgeihbaa
open Go.RowKit

/-! ## Sums, one variable after the other -/
theorem wo_bit {a b i : Nat} (hb : b < 4294967296) (ha : a < 4294967296) : (wo a b).testBit i = (a.testBit i && !b.testBit i) := and_not_bit hb ha
theorem i64_wo16 : ∀ a b : Fin 32, bits .andNot .i64 ((a.val : Nat) : Int) ((b.val : Nat) : Int) = ((wo a.val b.val : Nat) : Int) := by decide +kernel
theorem i64_wo {a b : Nat} (ha : a < 32) (hb : b < 32) : bits .andNot .i64 (a : Int) (b : Int) = (wo a b : Nat) := i64_wo16 ⟨a, ha⟩ ⟨b, hb⟩
/-- The sums over the first v variables. -/
def mobP (F : Nat → Bool) : Nat → Nat → Bool
  | 0, s => F s
  | v + 1, s => if s.testBit v then mobP F v s ^^ mobP F v (wo s (one v)) else mobP F v s
theorem mobP_yes {F : Nat → Bool} {v s : Nat} (h : s.testBit v = true) : mobP F (v + 1) s = (mobP F v s ^^ mobP F v (wo s (one v))) := by rw [mobP, if_pos h]
theorem mobP_no {F : Nat → Bool} {v s : Nat} (h : s.testBit v = false) : mobP F (v + 1) s = mobP F v s := by rw [mobP, if_neg (by rw [h]; decide)]
theorem wo_hi {n v s : Nat} (hv : v < n) (hs : s < one n) (hn : n < 31) : wo (one n + s) (one v) = one n + wo s (one v) := by
  have h1 : one n < 2147483648 := by
    have : 2 ^ n < 2 ^ 31 := Nat.pow_lt_pow_right (by decide) hn
    exact this
  have h2 : one v < one n := Nat.pow_lt_pow_right (by decide) hv
  apply Nat.eq_of_testBit_eq
  intro i
  rw [wo_bit (by omega) (by omega), hi_bit hs, hi_bit (Nat.lt_of_le_of_lt (wo_le _ _) hs), wo_bit (by omega) (by omega), one_testBit]
  by_cases e : n = i
  · subst e
    have : ¬ v = n := by omega
    simp [this]
  · simp [e]
theorem mobP_hi {n : Nat} (F : Nat → Bool) (hn : n < 31) : ∀ (v s : Nat), v ≤ n → s < one n → mobP F v (one n + s) = mobP (fun t => F (one n + t)) v s
  | 0, s, _, _ => rfl
  | v + 1, s, hv, hs => by
    have hb : (one n + s).testBit v = s.testBit v := by
      have : ¬ n = v := by omega
      rw [hi_bit hs]; simp [this]
    have h1 := mobP_hi F hn v s (by omega) hs
    cases e : s.testBit v with
    | true =>
      rw [mobP_yes (hb.trans e), mobP_yes e, h1, wo_hi (by omega) hs hn, mobP_hi F hn v _ (by omega) (Nat.lt_of_le_of_lt (wo_le _ _) hs)]
    | false => rw [mobP_no (hb.trans e), mobP_no e, h1]
theorem mobP_all : ∀ (n : Nat) (F : Nat → Bool) (s : Nat), n < 31 → s < one n → mobP F n s = mob n F s
  | 0, F, s, _, hs => by
    obtain rfl : s = 0 := by have : one 0 = 1 := rfl; omega
    simp [mobP, mob, one, par, sub]
  | n + 1, F, s, hn, hs => by
    rw [one_succ] at hs
    rcases Nat.lt_or_ge s (one n) with h | h
    · rw [mobP_no (lt_one_testBit h (Nat.le_refl _)), mobP_all n F s (by omega) h, mob_lo h]
    · obtain ⟨s', rfl⟩ : ∃ s', s = one n + s' := ⟨s - one n, by omega⟩
      have h' : s' < one n := by omega
      have hbit : (one n + s').testBit n = true := by rw [hi_bit h']; simp
      have hwo : wo (one n + s') (one n) = s' := by
        have h1 : one n < 2147483648 := by
          have : 2 ^ n < 2 ^ 31 := Nat.pow_lt_pow_right (by decide) (show n < 31 by omega)
          exact this
        apply Nat.eq_of_testBit_eq
        intro i
        rw [wo_bit (by omega) (by omega), hi_bit h', one_testBit]
        by_cases e : n = i
        · subst e; rw [lt_one_testBit h' (Nat.le_refl _)]; simp
        · simp [e]
      rw [mobP_yes hbit, hwo, mobP_hi F (by omega) n s' (Nat.le_refl _) h', mobP_all n _ s' (by omega) h', mobP_all n F s' (by omega) h', mob_hi h', Bool.xor_comm]
/-- The first s elements have variable v too. -/
def mixF (F : Nat → Bool) (v s : Nat) : Nat → Bool := fun i => if i < s then mobP F (v + 1) i else mobP F v i
theorem mixF_zero (F : Nat → Bool) (v i : Nat) : mobP F v i = mixF F v 0 i := by simp [mixF]
theorem mixF_at (F : Nat → Bool) (v s : Nat) : mixF F v s s = mobP F v s := by simp [mixF]
theorem mixF_lo {F : Nat → Bool} {v s i : Nat} (h : i < s) (hb : i.testBit v = false) : mixF F v s i = mobP F v i := by simp [mixF, h, mobP_no hb]
theorem mixF_no {F : Nat → Bool} {v s : Nat} (h : s.testBit v = false) (i : Nat) : mixF F v s i = mixF F v (s + 1) i := by
  unfold mixF
  by_cases h1 : i < s
  · rw [if_pos h1, if_pos (by omega)]
  · rw [if_neg h1]
    by_cases h2 : i = s
    · subst h2; rw [if_pos (by omega), mobP_no h]
    · rw [if_neg (by omega)]
theorem mixF_yes {F : Nat → Bool} {v s : Nat} (i : Nat) : updB (mixF F v s) s (mobP F (v + 1) s) i = mixF F v (s + 1) i := by
  unfold updB mixF
  by_cases h2 : i = s
  · subst h2; rw [if_pos rfl, if_pos (by omega)]
  · rw [if_neg h2]
    by_cases h1 : i < s
    · rw [if_pos h1, if_pos (by omega)]
    · rw [if_neg h1, if_neg (by omega)]
theorem mixF_all {F : Nat → Bool} {v n i : Nat} (h : i < n) : mixF F v n i = mobP F (v + 1) i := by simp [mixF, h]

set_option maxHeartbeats 2000000 in
theorem tSums_any (n : Nat) (hn : n ≤ 4) (f : List Bool) (A : Option Addr) (c : Nat) (w : World) (hf : f.length = one n) (hr : Row w A (boolsC f)) :
    Calls Try.prog 29 #[.int .i64 n, .slice A f.length c] w fun e w' => ∃ g cap, e = .returned (.slice (some ⟨g, 0, none⟩) (one n) cap) ∧ OwnD w' w.heap.size g (one n) cap (mob n (atB f)) ∧ Below w.heap.size w w' := by
  have h16 := one_le_16 hn
  have h1p := one_pos n
  have hcl := tClone_any n hn f A c w hf hr
  rw [hf] at hcl ⊢
  clear hf
  go_enter Try.func29, Try.ntmps29
  go_wp2_with fail
  refine hcl.mono ?_
  rintro e w1 ⟨g, cap, rfl, hown, hbel⟩
  have HO := Lib.hid hown
  have HB := Lib.hid hbel
  clear hown hbel hcl
  go_wp2
  go_loopw [12] (fun v wr => ∃ k : Nat, v = .int .i64 k ∧ k ≤ n ∧ OwnD wr w.heap.size g (one n) cap (mobP (atB f) k) ∧ Below w.heap.size w wr) (fun v _ => n - (intOf v).toNat)
  case atStart => exact ⟨0, rfl, Nat.zero_le _, HO.out, HB.out⟩
  case round =>
    clear HO HB
    obtain ⟨k, rfl, hk, hown, hbel⟩ := hrel
    have HO := Lib.hid hown
    have HB := Lib.hid hbel
    clear hown hbel
    by_cases hkn : k < n
    · have h1k := one_i64 k
      have h1k16 : one k < 16 := Nat.lt_of_lt_of_le (Nat.pow_lt_pow_right (by decide) hkn) h16
      go_wp2
      go_loopw [17] (fun v wi => ∃ s : Nat, v = .int .i64 s ∧ s ≤ one n ∧ OwnD wi w.heap.size g (one n) cap (mixF (atB f) k s) ∧ Below w.heap.size w wi) (fun v _ => one n - (intOf v).toNat)
      case atStart => exact ⟨0, rfl, Nat.zero_le _, HO.out.congr (fun i _ => mixF_zero _ _ i), HB.out⟩
      case round =>
        clear HO HB
        rename World => wi
        obtain ⟨s, rfl, hs, hown, hbel⟩ := hrel
        have HO := Lib.hid hown
        have HB := Lib.hid hbel
        clear hown hbel
        by_cases hlt : s < one n
        · have hwo := i64_wo (a := s) (b := one k) (by omega) (by omega)
          cases hb : s.testBit k with
          | false =>
            have hws : wo s (one k) = s := by
              apply Nat.eq_of_testBit_eq
              intro i
              rw [wo_bit (by omega) (by omega), one_testBit]
              by_cases e : k = i
              · subst e; simp [hb]
              · simp [e]
            rw [hws] at hwo
            have HN := Lib.hid (HO.out.congr (fun i _ => mixF_no hb i))
            clear hws hb
            go_wp2
            go_roundw
            case rel => exact ⟨s + 1, by go_num, by omega, HN.out, HB.out⟩
            case measure => simp [intOf]; omega
          | true =>
            obtain ⟨o, ho⟩ : ∃ o, o = wo s (one k) := ⟨_, rfl⟩
            rw [← ho] at hwo
            have hob : o.testBit k = false := by rw [ho, wo_bit (by omega) (by omega), one_testBit]; simp
            have hos : o < s := by
              have h1 : o ≤ s := by rw [ho]; exact wo_le _ _
              have h2 : o ≠ s := by intro e; rw [e, hb] at hob; cases hob
              omega
            have hne : ((o : Int) != (s : Int)) = true := by simp; omega
            have c1 := HO.out.cell hlt
            rw [mixF_at] at c1
            have c2 := HO.out.cell (show o < one n by omega)
            rw [mixF_lo hos hob] at c2
            have f2 := HO.out.free s
            have HV := Lib.hid (show (mobP (atB f) k s != mobP (atB f) k o) = mobP (atB f) (k + 1) s by rw [mobP_yes hb, ho])
            have HO2 := Lib.hid (show OwnD _ _ _ _ _ (mixF (atB f) k (s + 1)) from (HO.out.stored s (mobP (atB f) k s != mobP (atB f) k o)).congr (fun i _ => by rw [HV.out]; exact mixF_yes i))
            have hgB := HO.out.base
            have hon : o < one n := by omega
            clear hb ho hob
            go_wp2
            refine wp_region_still_tail 12 (by kernel_rfl) (by kernel_rfl) ?_
            simp only [List.take_succ_cons, List.take_zero, List.drop_succ_cons, List.drop_zero]
            iterate 12 still_step
            refine wpStill_nil ?_
            go_wp2
            go_roundw
            case rel => exact ⟨s + 1, by go_num, by omega, HO2.out, (HB.out.setCell hgB _).drew⟩
            case measure => simp [intOf]; omega
        · obtain rfl : s = one n := by omega
          have HN := Lib.hid (HO.out.congr (fun i hi => mixF_all hi))
          go_wp2
          go_roundw
          case rel => exact ⟨k + 1, by go_num, by omega, HN.out, HB.out⟩
          case measure => simp [intOf]; omega
    · obtain rfl : k = n := by omega
      have HN := Lib.hid (HO.out.congr (fun i hi => mobP_all k (atB f) i (by omega) hi))
      go_wp2
      go_ret
      exact ⟨g, cap, rfl, HN.out, HB.out⟩

end Go.Proofs.Ytcokpjffgeihbaa
