/- follow.all, follow.only, follow.fit, follow.check. -/
import Derived.Test.YtdiofkkdhdhkaaaFSpec
namespace Go.Proofs.Ytdiofkkdhdhkaaa
open Go.RowKit

theorem and_not_bit {a b i : Nat} (hb : b < 4294967296) (ha : a < 4294967296) : (a &&& (4294967295 - b)).testBit i = (a.testBit i && !b.testBit i) := by
  rw [Nat.testBit_and]
  by_cases hi : i < 32
  · have h := Nat.testBit_two_pow_sub_succ (x := b) (n := 32) hb i
    rw [show (4294967295 - b) = 2 ^ 32 - (b + 1) from by omega, h]
    simp [hi]
  · have : a.testBit i = false := by
      apply Nat.testBit_lt_two_pow
      exact Nat.lt_of_lt_of_le ha (Nat.le_trans (by decide : 4294967296 ≤ 2 ^ 32) (Nat.pow_le_pow_right (by decide) (by omega)))
    simp [this]
/-- a without b. -/
def wo (a b : Nat) : Nat := a &&& (4294967295 - b)
theorem wo_le (a b : Nat) : wo a b ≤ a := Nat.and_le_left
theorem u32_wo {a b : Nat} (ha : a < 4294967296) (hb : b < 4294967296) : bits .andNot .u32 (a : Int) (b : Int) = (wo a b : Nat) := u32_andNot_nat a b ha hb
theorem wo_zero {a b : Nat} (ha : a < 4294967296) (hb : b < 4294967296) : wo a b = 0 ↔ sub a b = true := by
  rw [sub_iff]
  constructor
  · intro h i hi
    have := and_not_bit (i := i) hb ha
    unfold wo at h
    rw [h, hi] at this
    simpa using this
  · intro h
    apply Nat.eq_of_testBit_eq
    intro i
    unfold wo
    rw [and_not_bit hb ha]
    cases e : a.testBit i with
    | false => simp
    | true => simp [h i e]
theorem u32_subB {a b : Nat} (ha : a < 4294967296) (hb : b < 4294967296) : (bits .andNot .u32 (a : Int) (b : Int) == 0) = sub a b := by
  rw [u32_wo ha hb, Bool.eq_iff_iff, ← wo_zero ha hb, beq_iff_eq]
  omega
theorem full_u32 {n : Nat} (hn : n ≤ 6) : full n < 4294967296 := by
  have := one_le_64 hn
  have := full_lt n
  omega
theorem sub_full_iff {n a : Nat} : sub a (full n) = true ↔ a < one n := ⟨fun h => lt_of_sub h (full_lt n), sub_full⟩

set_option maxHeartbeats 400000 in
theorem fwAll_any (n : Nat) (hn : n ≤ 6) (w : World) :
    Calls Try.prog 29 #[.int .i64 n] w fun e w' => e = .returned (.int .u32 (full n)) ∧ w = w' := by
  have h1n := one_int n (by omega)
  have h64 := one_le_64 hn
  have hfull : ((one n : Int) - 1) % 4294967296 = (full n : Nat) := by have := one_pos n; unfold full; omega
  go_enter Try.func29, Try.ntmps29
  go_wp2
  go_ret
  exact ⟨ret_int (by first | exact hfull | (rw [h1n]; exact hfull)), rfl⟩

set_option maxHeartbeats 400000 in
theorem fwOnly_any (k : Nat) (hk : k < 32) (w : World) :
    Calls Try.prog 35 #[.int .i64 k] w fun e w' => e = .returned (.int .u32 (one k)) ∧ w = w' := by
  go_enter Try.func35, Try.ntmps35
  go_wp2
  go_ret
  exact ⟨ret_int (one_int k hk), rfl⟩

/-- All are sets of n things. -/
def fitB (n : Nat) (l : List Nat) : Bool := l.all fun s => sub s (full n)
theorem fit_take {n k s : Nat} {l : List Nat} (h : fitB n (l.take k) = true) (hs : l[k]? = some s) (h2 : sub s (full n) = true) : fitB n (l.take (k + 1)) = true := by
  rw [List.take_add_one, hs]
  unfold fitB at *
  simp only [Option.toList, List.all_append, h, List.all_cons, h2, List.all_nil, Bool.and_true]
theorem fit_no {n k s : Nat} {l : List Nat} (hs : l[k]? = some s) (h2 : sub s (full n) = false) : fitB n l = false := by
  cases e : fitB n l with
  | false => rfl
  | true =>
    rw [fitB, List.all_eq_true] at e
    rw [e s (List.mem_of_getElem? hs)] at h2
    cases h2

set_option maxHeartbeats 1000000 in
theorem fwFit_any (n : Nat) (hn : n ≤ 6) (l : List Nat) (A : Option Addr) (c : Nat) (w : World) (hr : Row w A (words l)) (h32 : ∀ x ∈ l, x < 4294967296) (hl : l.length ≤ maxLen) :
    Calls Try.prog 33 #[.int .i64 n, .slice A l.length c] w fun e w' => e = .returned (.bool (fitB n l)) ∧ w = w' := by
  have hf := full_u32 hn
  go_enter Try.func33, Try.ntmps33
  go_wp2
  go_loopw [9] (fun iv wr => ∃ k : Nat, iv = .int .i64 k ∧ k ≤ l.length ∧ fitB n (l.take k) = true ∧ w = wr) (fun iv _ => l.length - (intOf iv).toNat)
  case atStart => exact ⟨0, rfl, Nat.zero_le _, rfl, rfl⟩
  case round =>
    obtain ⟨k, rfl, hk, hcl, rfl⟩ := hrel
    have HC := Lib.hid hcl
    clear hcl
    by_cases hlt : k < l.length
    · obtain ⟨s, hs⟩ := get_some hlt
      obtain ⟨b, off, rfl, hc⟩ := hr.at (k := k) (by simpa using hlt)
      have c1 := hc k _ (words_at hs)
      have h1 := h32 _ (List.mem_of_getElem? hs)
      have HS := Lib.hid hs
      clear hs hc
      have hl' : l.length < 9223372036854775808 := by unfold maxLen at hl; omega
      have hz := u32_subB h1 hf
      cases h2 : sub s (full n) with
      | true =>
        rw [h2, beq_iff_eq] at hz
        have HT := Lib.hid (fit_take HC.out HS.out h2)
        clear h2
        go_wp2_with fail
        refine (fwAll_any n hn _).mono ?_
        rintro e w1 ⟨rfl, rfl⟩
        go_wp2
        go_roundw
        case rel => exact ⟨k + 1, by go_num, by omega, HT.out, by first | exact trivial | rfl⟩
        case measure => simp [intOf]; omega
      | false =>
        rw [h2, beq_eq_false_iff_ne] at hz
        have HT := Lib.hid (fit_no HS.out h2)
        clear h2
        go_wp2_with fail
        refine (fwAll_any n hn _).mono ?_
        rintro e w1 ⟨rfl, rfl⟩
        go_wp2
        go_ret
        exact ⟨ret_bool HT.out.symm, rfl⟩
    · have HS := Lib.hid (show fitB n l = true by have := HC.out; rw [List.take_of_length_le (by omega)] at this; exact this)
      go_wp2
      go_ret
      exact ⟨ret_bool HS.out.symm, rfl⟩

/-- What the sets have together. -/
def orL (l : List Nat) : Nat := l.foldr (· ||| ·) 0
theorem orL_fit {n : Nat} {l : List Nat} : fitB n l = true ↔ orL l < one n := by
  induction l with
  | nil => simp [fitB, orL, one_pos]
  | cons x xs ih =>
    rw [show orL (x :: xs) = x ||| orL xs from rfl, or_lt_iff, ← ih, ← sub_full_iff]
    simp [fitB]
theorem row_new (w : World) (g : Nat) (hg : g = w.heap.size) (cs : List Value) (t : TypeId) : Row (w.alloc (.cells cs.toArray t)) (some ⟨g, 0, none⟩) cs := by
  refine .inr ⟨g, 0, rfl, fun j v hv => ?_⟩
  rw [World.cell?_alloc_at _ _ _ _ hg]
  simpa using hv
theorem fit_take2 {n k : Nat} {rs : List (Nat × Nat)} {r : Nat × Nat} (h : FitR n (rs.take k)) (hr : rs[k]? = some r) (h2 : fitB n [r.1, r.2] = true) : FitR n (rs.take (k + 1)) := by
  intro x hx
  rw [List.take_add_one, hr] at hx
  simp only [Option.toList, List.mem_append, List.mem_singleton] at hx
  rcases hx with hx | rfl
  · exact h x hx
  · rw [orL_fit] at h2
    have e : orL [x.1, x.2] = x.1 ||| x.2 := by simp [orL]
    rw [e] at h2
    exact or_lt_iff.1 h2
theorem fit_no2 {n k : Nat} {rs : List (Nat × Nat)} {r : Nat × Nat} (hr : rs[k]? = some r) (h2 : fitB n [r.1, r.2] = false) : ¬ FitR n rs := by
  intro h
  have := h r (List.mem_of_getElem? hr)
  have e : fitB n [r.1, r.2] = true := by
    rw [orL_fit]
    have e : orL [r.1, r.2] = r.1 ||| r.2 := by simp [orL]
    rw [e]
    exact or_lt_iff.2 this
  rw [e] at h2
  cases h2

set_option maxHeartbeats 1000000 in
theorem fwCheck_any (n : Int) (rs : List (Nat × Nat)) (A : Option Addr) (c : Nat) (l : List Nat) (A2 : Option Addr) (c2 : Nat) (w : World) (hr : Row w A (rulesC rs)) (h32 : W32 rs) (hl : rs.length ≤ maxLen)
    (hr2 : Row w A2 (words l)) (h32' : ∀ x ∈ l, x < 4294967296) (hl2 : l.length ≤ 2) :
    Calls Try.prog 26 #[.int .i64 n, .slice A rs.length c, .slice A2 l.length c2] w fun e w' => e = .returned (.int .i64 (codeR n rs (orL l))) ∧ Below w.heap.size w w' := by
  by_cases hL : LargeR n rs
  · have HL := Lib.hid (codeR_large (s := orL l) hL)
    have HX := Lib.hid hL
    clear hL
    have hll : rs.length < 9223372036854775808 := by unfold maxLen at hl; omega
    go_enter Try.func26, Try.ntmps26
    go_wp2
    all_goals first
      | (go_ret; exact ⟨ret_int HL.out.symm, Below.refl _ _⟩)
      | (have := HX.out; unfold LargeR at this; omega)
  · obtain ⟨n, rfl⟩ := Int.eq_ofNat_of_zero_le (show 0 ≤ n by unfold LargeR at hL; omega)
    have hn : n ≤ 6 := by unfold LargeR at hL; omega
    have hn1 : 1 ≤ n := by unfold LargeR at hL; omega
    have hl10 : rs.length ≤ 10 := by unfold LargeR at hL; omega
    have HL := Lib.hid hL
    clear hL
    go_enter Try.func26, Try.ntmps26
    go_wp2
    go_loopw [22] (fun iv wr => ∃ k : Nat, iv = .int .i64 k ∧ k ≤ rs.length ∧ FitR n (rs.take k) ∧ Below w.heap.size w wr) (fun iv _ => rs.length - (intOf iv).toNat)
    case atStart => exact ⟨0, rfl, Nat.zero_le _, by intro r hr; simp at hr, Below.refl _ _⟩
    case round =>
      obtain ⟨k, rfl, hk, hcl, hbel⟩ := hrel
      have HC := Lib.hid hcl
      clear hcl
      by_cases hlt : k < rs.length
      · obtain ⟨r, hrk⟩ := get_some hlt
        obtain ⟨r1, r2⟩ := r
        obtain ⟨b, off, rfl, c1, c2⟩ := RowR.at (hr.below hbel) hrk
        obtain ⟨b1, b2⟩ := h32 _ (List.mem_of_getElem? hrk)
        have HR := Lib.hid hrk
        clear hrk
        have hb2 := hbel.alloc hbel.size (.cells #[.int .u32 (r1 : Int), .int .u32 (r2 : Int)] 31)
        have hb3 := hb2.alloc hb2.size (.cells #[.int .u32 (r1 : Int), .int .u32 (r2 : Int)] 23)
        have HW := Lib.hid (row_new (wr.alloc (.cells #[.int .u32 (r1 : Int), .int .u32 (r2 : Int)] 31)) (wr.heap.size + 1) (by simp) (words [r1, r2]) 23)
        cases h2 : fitB n [r1, r2] with
        | true =>
          have HT := Lib.hid (fit_take2 HC.out HR.out h2)
          go_wp2_with fail
          refine (fwFit_any n hn [r1, r2] _ 2 _ HW.out (by simp; omega) (by simp [maxLen])).mono ?_
          rintro e w1 ⟨rfl, rfl⟩
          rw [h2]
          clear h2
          go_wp2
          go_roundw
          case rel => exact ⟨k + 1, by go_num, by omega, HT.out, hb3⟩
          case measure => simp [intOf]; omega
        | false =>
          have HT := Lib.hid (codeR_bad (s := orL l) HL.out fun h => fit_no2 HR.out h2 h.1)
          go_wp2_with fail
          refine (fwFit_any n hn [r1, r2] _ 2 _ HW.out (by simp; omega) (by simp [maxLen])).mono ?_
          rintro e w1 ⟨rfl, rfl⟩
          rw [h2]
          clear h2
          go_wp2
          go_ret
          exact ⟨ret_int HT.out.symm, hb3⟩
      · have HS := Lib.hid (show FitR n rs by have := HC.out; rw [List.take_of_length_le (by omega)] at this; exact this)
        cases h2 : fitB n l with
        | true =>
          have HT := Lib.hid (codeR_ok (s := orL l) HL.out HS.out (orL_fit.1 h2))
          go_wp2_with fail
          refine (fwFit_any n hn l A2 _ _ (hr2.below hbel) h32' (by unfold maxLen; omega)).mono ?_
          rintro e w1 ⟨rfl, rfl⟩
          rw [h2]
          clear h2
          go_wp2
          go_ret
          exact ⟨ret_int HT.out.symm, hbel⟩
        | false =>
          have HT := Lib.hid (codeR_bad (s := orL l) HL.out fun h => by have := orL_fit.2 h.2; rw [h2] at this; cases this)
          go_wp2_with fail
          refine (fwFit_any n hn l A2 _ _ (hr2.below hbel) h32' (by unfold maxLen; omega)).mono ?_
          rintro e w1 ⟨rfl, rfl⟩
          rw [h2]
          clear h2
          go_wp2
          go_ret
          exact ⟨ret_int HT.out.symm, hbel⟩

end Go.Proofs.Ytdiofkkdhdhkaaa
