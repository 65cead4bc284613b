/- clause.check, clause.hold, clause.Solve, clause.Horn. -/
import Derived.Test.YtekeeodnjlebcaaDoorISpec
namespace Go.Proofs.YtekeeodnjlebcaaDoor
open Go.RowKit

theorem shr_fit {x n : Nat} : ((x : Int) / 2 ^ n != 0) = !decide (x < one n) := by
  have e : (x : Int) / 2 ^ n = ((x / 2 ^ n : Nat) : Int) := by simp
  rw [e, Bool.eq_iff_iff]
  have h : x / 2 ^ n = 0 ↔ x < 2 ^ n := by rw [Nat.div_eq_zero_iff]; have := Nat.two_pow_pos n; omega
  unfold one
  simp only [bne_iff_ne, ne_eq, Bool.not_eq_true', decide_eq_false_iff_not]
  rw [← h]
  omega

set_option maxHeartbeats 1000000 in
theorem iCheck_any (n : Int) (rs : List Cla) (A : Option Addr) (c : Nat) (w : World) (hr : Row w A (rulesC rs)) (h32 : W32 rs) :
    Calls Tryd.prog 22 #[.int .i64 n, .slice A rs.length c] w fun e w' => e = .returned (.int .i64 (codeC n rs)) ∧ Below w.heap.size w w' := by
  by_cases hL : LargeC n rs
  · have HC := Lib.hid (codeC_large hL)
    rw [HC.out]
    unfold LargeC at hL
    by_cases h1 : n < 1
    · clear hL; go_enter Tryd.func22, Tryd.ntmps22; go_wp2; go_ret; exact ⟨rfl, Below.refl _ _⟩
    · by_cases h2 : 6 < n
      · clear hL; go_enter Tryd.func22, Tryd.ntmps22; go_wp2; go_ret; exact ⟨rfl, Below.refl _ _⟩
      · have h3 : (16 : Int) < (rs.length : Int) := by omega
        clear hL; go_enter Tryd.func22, Tryd.ntmps22; go_wp2; go_ret; exact ⟨rfl, Below.refl _ _⟩
  · obtain ⟨n, rfl⟩ := Int.eq_ofNat_of_zero_le (show 0 ≤ n by unfold LargeC at hL; omega)
    obtain ⟨hn1, hn6, hl10⟩ : 1 ≤ n ∧ n ≤ 6 ∧ rs.length ≤ 16 := by unfold LargeC at hL; omega
    have HL := Lib.hid hL
    clear hL
    go_enter Tryd.func22, Tryd.ntmps22
    go_wp2
    go_loopw [20] (fun iv wr => ∃ k : Nat, iv = .int .i64 k ∧ k ≤ rs.length ∧ FitR n (rs.take k) ∧ Below w.heap.size w wr) (fun iv _ => rs.length - (intOf iv).toNat)
    case atStart => exact ⟨0, rfl, Nat.zero_le _, by intro r hr; simp at hr, Below.refl _ _⟩
    case round =>
      obtain ⟨k, rfl, hk, hft, hbel⟩ := hrel
      have HF := Lib.hid hft
      clear hft
      by_cases hlt : k < rs.length
      · obtain ⟨r, hrk⟩ := get_some hlt
        obtain ⟨r1, r2⟩ := r
        obtain ⟨b, off, rfl, c1, c2⟩ := RowC.at (hr.below hbel) hrk
        obtain ⟨b1, b2⟩ := h32 _ (List.mem_of_getElem? hrk)
        have HR := Lib.hid hrk
        clear hrk
        have hb2 := hbel.alloc hbel.size (.cells #[.int .u32 (r1 : Int), .int .u32 (r2 : Int)] 37)
        have hor := u32_or_nat r1 r2 b1 b2
        have hz := shr_fit (x := r1 ||| r2) (n := n)
        by_cases h1 : r1 ||| r2 < one n
        · have HS := Lib.hid (show FitR n (rs.take (k + 1)) by
            intro x hx
            rw [List.take_add_one, HR.out] at hx
            simp only [Option.toList, List.mem_append, List.mem_singleton] at hx
            rcases hx with hx | rfl
            · exact HF.out x hx
            · exact or_lt_iff.1 h1)
          rw [decide_eq_true h1] at hz
          clear h1
          generalize r1 ||| r2 = x at *
          go_wp2
          go_roundw
          case rel => exact ⟨k + 1, by go_num, by omega, HS.out, hb2⟩
          case measure => simp [intOf]; omega
        · have HC := Lib.hid (codeC_bad HL.out (fun h => h1 (or_lt_iff.2 (h _ (List.mem_of_getElem? HR.out)))))
          rw [decide_eq_false h1] at hz
          clear h1
          generalize r1 ||| r2 = x at *
          go_wp2
          go_ret
          exact ⟨ret_int HC.out.symm, hb2⟩
      · have HC := Lib.hid (codeC_ok HL.out (show FitR n rs by have := HF.out; rw [List.take_of_length_le (by omega)] at this; exact this))
        clear HF
        go_wp2
        go_ret
        exact ⟨ret_int HC.out.symm, hbel⟩

set_option maxHeartbeats 1000000 in
theorem iHold_any (rs : List Cla) (A : Option Addr) (c s : Nat) (w : World) (hr : Row w A (rulesC rs)) (h32 : W32 rs) (hs : s < 4294967296) (hl : rs.length ≤ maxLen) :
    Calls Tryd.prog 23 #[.slice A rs.length c, .int .u32 s] w fun e w' => e = .returned (.bool (trueB rs s)) ∧ Below w.heap.size w w' := by
  have hl63 : rs.length < 9223372036854775808 := by unfold maxLen at hl; omega
  go_enter Tryd.func23, Tryd.ntmps23
  go_wp2
  go_loopw [9] (fun iv wr => ∃ k : Nat, iv = .int .i64 k ∧ k ≤ rs.length ∧ trueB (rs.take k) s = true ∧ Below w.heap.size w wr) (fun iv _ => rs.length - (intOf iv).toNat)
  case atStart => exact ⟨0, rfl, Nat.zero_le _, by simp [trueB], Below.refl _ _⟩
  case round =>
    obtain ⟨k, rfl, hk, hcl, hbel⟩ := hrel
    have HC := Lib.hid hcl
    clear hcl
    by_cases hlt : k < rs.length
    · obtain ⟨r, hrk⟩ := get_some hlt
      obtain ⟨r1, r2⟩ := r
      obtain ⟨b, off, rfl, c1, c2⟩ := RowC.at (hr.below hbel) hrk
      obtain ⟨b1, b2⟩ := h32 _ (List.mem_of_getElem? hrk)
      have HR := Lib.hid hrk
      clear hrk
      have hb2 := hbel.alloc hbel.size (.cells #[.int .u32 (r1 : Int), .int .u32 (r2 : Int)] 37)
      simp only at b1 b2 c1 c2
      have hz := u32_and_zeroB b1 hs
      have hz2 := u32_subB b2 hs
      have HY := Lib.hid (fun h => true_take (c := (r1, r2)) HC.out HR.out h)
      have HN := Lib.hid (fun h => true_no (c := (r1, r2)) (s := s) HR.out h)
      unfold holdB at HY HN
      simp only at HY HN
      cases h1 : (r1 &&& s == 0) with
      | false =>
        rw [h1, beq_eq_false_iff_ne] at hz
        have HS := Lib.hid (HY.out (by rw [h1]; rfl))
        clear h1 HY HN hz2
        go_wp2
        go_roundw
        case rel => exact ⟨k + 1, by go_num, by omega, HS.out, hb2⟩
        case measure => simp [intOf]; omega
      | true =>
        rw [h1, beq_iff_eq] at hz
        rw [h1] at HY HN
        clear h1
        cases h2 : sub r2 s with
        | true =>
          have HS := Lib.hid (HN.out (by rw [h2]; rfl))
          rw [h2, beq_iff_eq] at hz2
          clear HY HN h2
          go_wp2
          go_ret
          exact ⟨ret_bool HS.out.symm, hb2⟩
        | false =>
          have HS := Lib.hid (HY.out (by rw [h2]; rfl))
          rw [h2] at hz2
          clear HY HN h2
          go_wp2
          go_roundw
          case rel => exact ⟨k + 1, by go_num, by omega, HS.out, hb2⟩
          case measure => simp [intOf]; omega
    · have HS := Lib.hid (show trueB rs s = true by have := HC.out; rw [List.take_of_length_le (by omega)] at this; exact this)
      go_wp2
      go_ret
      exact ⟨ret_bool HS.out.symm, hbel⟩

set_option maxHeartbeats 1000000 in
theorem ISolve_ok : ISolveOk 13 := by
  intro n rs A c w h32 hl hr _
  have hck := iCheck_any n rs A c w hr h32
  by_cases hc : codeC n rs = 0
  · obtain ⟨n, rfl, hn1, hn6, hl16, hft⟩ := codeC_zero hc
    rw [hc] at hck
    have HC := Lib.hid hc
    have h1n := one_int n (by omega)
    have h64 := one_le_64 hn6
    have h64' := one_pos n
    clear hc hft
    go_enter Tryd.func13, Tryd.ntmps13
    go_wp2_with fail
    refine hck.mono ?_
    rintro e w0 ⟨rfl, hb0⟩
    go_wp2
    rw [h1n]
    clear h1n
    go_loopw [16] (fun sv wr => ∃ s : Nat, sv = .int .u32 s ∧ s ≤ one n ∧ (∀ t, t < s → trueB rs t = false) ∧ Below w.heap.size w wr) (fun sv _ => one n - (intOf sv).toNat)
    case atStart => exact ⟨0, rfl, Nat.zero_le _, fun t ht => absurd ht (Nat.not_lt_zero _), hb0⟩
    case round =>
      clear hb0 hck
      obtain ⟨s, rfl, hs, hno, hbel⟩ := hrel
      have HN := Lib.hid hno
      clear hno
      by_cases hlt : s < one n
      · have key := iHold_any rs A c s _ (hr.below hbel) h32 (by omega) hl
        cases h1 : trueB rs s with
        | true =>
          rw [h1] at key
          have HS := Lib.hid (first_some.2 ⟨hlt, h1, HN.out⟩)
          clear h1
          go_wp2_with fail
          refine key.mono ?_
          rintro e w1 ⟨rfl, hb1⟩
          have hb2 := hbel.trans (hb1.mono hbel.size)
          clear key hb1
          go_wp2
          go_ret2
          exact ⟨by rw [codeS_some HC.out HS.out, solS_some HC.out HS.out]; rfl, hb2⟩
        | false =>
          rw [h1] at key
          have HS := Lib.hid (show ∀ t, t < s + 1 → trueB rs t = false from fun t ht => by
            by_cases e : t = s
            · subst e; exact h1
            · exact HN.out t (by omega))
          clear h1
          go_wp2_with fail
          refine key.mono ?_
          rintro e w1 ⟨rfl, hb1⟩
          have hb2 := hbel.trans (hb1.mono hbel.size)
          clear key hb1
          go_wp2
          go_roundw
          case rel => exact ⟨s + 1, by go_num, by omega, HS.out, hb2⟩
          case measure => simp [intOf]; omega
      · have HS := Lib.hid (first_none (n := n) (l := rs) |>.2 fun t ht => HN.out t (by omega))
        go_wp2
        go_ret2
        exact ⟨by rw [codeS_none HC.out HS.out, solS_none HC.out HS.out]; rfl, hbel⟩
  · have H1 := Lib.hid (codeS_err hc)
    have H2 := Lib.hid (solS_err hc)
    have hne : (codeC n rs != 0) = true := by simpa using hc
    rw [H1.out, H2.out]
    clear hc
    generalize codeC n rs = q at *
    go_enter Tryd.func13, Tryd.ntmps13
    go_wp2_with fail
    refine hck.mono ?_
    rintro e w0 ⟨rfl, hb0⟩
    go_wp2
    go_ret2
    exact ⟨rfl, hb0⟩

theorem horn_least {n : Nat} {l : List Cla} {s : Nat} (h : hornB l = true) (h32 : W32 l) (hs : firstS n l = some s) : IsLeastM n l s := by
  obtain ⟨h1, h2, h3⟩ := first_some.1 hs
  refine ⟨h1, h2, fun t ht k => ?_⟩
  have h4 := horn_and h h32 h2 k
  have h5 : s &&& t = s := by
    rcases Nat.lt_or_ge (s &&& t) s with h6 | h6
    · rw [h3 _ h6] at h4; cases h4
    · have : s &&& t ≤ s := Nat.and_le_left
      omega
  exact sub_iff.2 fun i hi => by
    rw [← h5, Nat.testBit_and, Bool.and_eq_true] at hi
    exact hi.2

theorem horn_take {l : List Cla} {k : Nat} {c : Cla} (h : hornB (l.take k) = true) (hc : l[k]? = some c) (h2 : pop c.1 ≤ 1) : hornB (l.take (k + 1)) = true := by
  rw [List.take_add_one, hc]
  unfold hornB at *
  simp only [Option.toList, List.all_append, h, List.all_cons, decide_eq_true h2, List.all_nil, Bool.and_true]
theorem horn_no {l : List Cla} {k : Nat} {c : Cla} (hc : l[k]? = some c) (h2 : ¬ pop c.1 ≤ 1) : hornB l = false := by
  cases e : hornB l with
  | false => rfl
  | true => exact absurd (horn_iff.1 e c (List.mem_of_getElem? hc)) h2

end Go.Proofs.YtekeeodnjlebcaaDoor
