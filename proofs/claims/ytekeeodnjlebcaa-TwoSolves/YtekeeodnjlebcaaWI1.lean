/- syllogistref.SatCheck, True, First; keep.sat. -/
import Derived.Test.YtekeeodnjlebcaaCl
import Derived.Test.YtekeeodnjlebcaaW1
import Derived.Test.YtekeeodnjlebcaaExt
namespace Go.Proofs.Ytekeeodnjlebcaa
open Go.RowKit

theorem RowC.at {w : World} {A : Option Addr} {rs : List Cla} {k : Nat} {r : Cla} (h : Row w A (rulesC rs)) (hr : rs[k]? = some r) :
    ∃ b off, A = some ⟨b, off, none⟩ ∧ w.cell? ⟨b, off + k * 2, none⟩ = some (.int .u32 (r.1 : Int)) ∧ w.cell? ⟨b, off + k * 2 + 1, none⟩ = some (.int .u32 (r.2 : Int)) := by
  have hk : k < rs.length := (List.getElem?_eq_some_iff.1 hr).1
  obtain ⟨b, off, e, hc⟩ := h.at (k := k) (by rw [rulesC_length]; omega)
  exact ⟨b, off, e, hc _ _ (rulesC_at0 hr), by rw [Nat.add_assoc]; exact hc _ _ (rulesC_at1 hr)⟩

set_option maxHeartbeats 1000000 in
theorem SatCheck_any (n : Int) (rs : List Cla) (A : Option Addr) (c : Nat) (w : World) (hr : Row w A (rulesC rs)) :
    Calls Try.prog 9 #[.int .i64 n, .slice A rs.length c] w fun e w' => e = .returned (.int .i64 (codeC n rs)) ∧ Below w.heap.size w w' := by
  by_cases hL : LargeC n rs
  · have HC := Lib.hid (codeC_large hL)
    rw [HC.out]
    unfold LargeC at hL
    by_cases h1 : n < 1
    · clear hL; go_enter Try.func9, Try.ntmps9; go_wp2; go_ret; exact ⟨rfl, Below.refl _ _⟩
    · by_cases h2 : 6 < n
      · clear hL; go_enter Try.func9, Try.ntmps9; go_wp2; go_ret; exact ⟨rfl, Below.refl _ _⟩
      · have h3 : (16 : Int) < (rs.length : Int) := by omega
        clear hL; go_enter Try.func9, Try.ntmps9; go_wp2; go_ret; exact ⟨rfl, Below.refl _ _⟩
  · obtain ⟨n, rfl⟩ := Int.eq_ofNat_of_zero_le (show 0 ≤ n by unfold LargeC at hL; omega)
    obtain ⟨hn1, hn6, hl10⟩ : 1 ≤ n ∧ n ≤ 6 ∧ rs.length ≤ 16 := by unfold LargeC at hL; omega
    have HL := Lib.hid hL
    clear hL
    go_enter Try.func9, Try.ntmps9
    go_wp2
    go_loopw [20] (fun iv wr => ∃ k : Nat, iv = .int .i64 k ∧ k ≤ rs.length ∧ FitR n (rs.take k) ∧ Below w.heap.size w wr) (fun iv _ => rs.length - (intOf iv).toNat)
    case atStart => exact ⟨0, rfl, Nat.zero_le _, by intro r hr; simp at hr, Below.refl _ _⟩
    case round =>
      obtain ⟨k, rfl, hk, hft, hbel⟩ := hrel
      have HF := Lib.hid hft
      clear hft
      by_cases hlt : k < rs.length
      · obtain ⟨r, hrk⟩ := get_some hlt
        obtain ⟨r1, r2⟩ := r
        obtain ⟨b, off, rfl, c1, c2⟩ := RowC.at (hr.below hbel) hrk
        have HR := Lib.hid hrk
        clear hrk
        have hb2 := hbel.alloc hbel.size (.cells #[.int .u32 (r1 : Int), .int .u32 (r2 : Int)] 32)
        by_cases h1 : r1 < one n
        · by_cases h2 : r2 < one n
          · have HS := Lib.hid (show FitR n (rs.take (k + 1)) by
              intro x hx
              rw [List.take_add_one, HR.out] at hx
              simp only [Option.toList, List.mem_append, List.mem_singleton] at hx
              rcases hx with hx | rfl
              · exact HF.out x hx
              · exact ⟨h1, h2⟩)
            go_wp2_with fail
            refine (Fits_any n r1 (by omega) _).mono ?_
            rintro e w1 ⟨rfl, rfl⟩
            rw [decide_eq_true h1]
            go_wp2_with fail
            refine (Fits_any n r2 (by omega) _).mono ?_
            rintro e w1 ⟨rfl, rfl⟩
            rw [decide_eq_true h2]
            clear h1 h2
            go_wp2
            go_roundw
            case rel => exact ⟨k + 1, by go_num, by omega, HS.out, hb2⟩
            case measure => simp [intOf]; omega
          · have HC := Lib.hid (codeC_bad HL.out (fun h => h2 (h _ (List.mem_of_getElem? HR.out)).2))
            go_wp2_with fail
            refine (Fits_any n r1 (by omega) _).mono ?_
            rintro e w1 ⟨rfl, rfl⟩
            rw [decide_eq_true h1]
            go_wp2_with fail
            refine (Fits_any n r2 (by omega) _).mono ?_
            rintro e w1 ⟨rfl, rfl⟩
            rw [decide_eq_false h2]
            clear h1 h2
            go_wp2
            go_ret
            exact ⟨ret_int HC.out.symm, hb2⟩
        · have HC := Lib.hid (codeC_bad HL.out (fun h => h1 (h _ (List.mem_of_getElem? HR.out)).1))
          go_wp2_with fail
          refine (Fits_any n r1 (by omega) _).mono ?_
          rintro e w1 ⟨rfl, rfl⟩
          rw [decide_eq_false h1]
          clear h1
          go_wp2
          go_ret
          exact ⟨ret_int HC.out.symm, hb2⟩
      · have HC := Lib.hid (codeC_ok HL.out (show FitR n rs by have := HF.out; rw [List.take_of_length_le (by omega)] at this; exact this))
        clear HF
        go_wp2
        go_ret
        exact ⟨ret_int HC.out.symm, hbel⟩

theorem u32_and_zeroB {a b : Nat} (ha : a < 4294967296) (hb : b < 4294967296) : (bits .and .u32 (a : Int) (b : Int) == 0) = (a &&& b == 0) := by
  rw [u32_and_nat a b ha hb, Bool.eq_iff_iff, beq_iff_eq, beq_iff_eq]
  omega

set_option maxHeartbeats 1000000 in
theorem True_any (rs : List Cla) (A : Option Addr) (c s : Nat) (w : World) (hr : Row w A (rulesC rs)) (h32 : W32 rs) (hs : s < 4294967296) (hl : rs.length ≤ maxLen) :
    Calls Try.prog 11 #[.slice A rs.length c, .int .u32 s] w fun e w' => e = .returned (.bool (trueB rs s)) ∧ Below w.heap.size w w' := by
  have hl63 : rs.length < 9223372036854775808 := by unfold maxLen at hl; omega
  go_enter Try.func11, Try.ntmps11
  go_wp2
  go_loopw [9] (fun iv wr => ∃ k : Nat, iv = .int .i64 k ∧ k ≤ rs.length ∧ trueB (rs.take k) s = true ∧ Below w.heap.size w wr) (fun iv _ => rs.length - (intOf iv).toNat)
  case atStart => exact ⟨0, rfl, Nat.zero_le _, by simp [trueB], Below.refl _ _⟩
  case round =>
    obtain ⟨k, rfl, hk, hcl, hbel⟩ := hrel
    have HC := Lib.hid hcl
    clear hcl
    by_cases hlt : k < rs.length
    · obtain ⟨r, hrk⟩ := get_some hlt
      obtain ⟨r1, r2⟩ := r
      obtain ⟨b, off, rfl, c1, c2⟩ := RowC.at (hr.below hbel) hrk
      obtain ⟨b1, b2⟩ := h32 _ (List.mem_of_getElem? hrk)
      have HR := Lib.hid hrk
      clear hrk
      have hb2 := hbel.alloc hbel.size (.cells #[.int .u32 (r1 : Int), .int .u32 (r2 : Int)] 32)
      have hz := u32_and_zeroB b1 hs
      have HY := Lib.hid (fun h => true_take (c := (r1, r2)) HC.out HR.out h)
      have HN := Lib.hid (fun h => true_no (c := (r1, r2)) (s := s) HR.out h)
      unfold holdB at HY HN
      simp only at HY HN
      cases h1 : (r1 &&& s == 0) with
      | false =>
        rw [h1, beq_eq_false_iff_ne] at hz
        have HS := Lib.hid (HY.out (by rw [h1]; rfl))
        clear h1 HY HN
        go_wp2
        go_roundw
        case rel => exact ⟨k + 1, by go_num, by omega, HS.out, hb2⟩
        case measure => simp [intOf]; omega
      | true =>
        rw [h1, beq_iff_eq] at hz
        rw [h1] at HY HN
        clear h1
        cases h2 : sub r2 s with
        | true =>
          have HS := Lib.hid (HN.out (by rw [h2]; rfl))
          clear HY HN
          go_wp2_with fail
          refine (In_any r2 s b2 hs _).mono ?_
          rintro e w1 ⟨rfl, rfl⟩
          rw [show (r2 ||| s == s) = true from h2]
          clear h2
          go_wp2
          go_ret
          exact ⟨ret_bool HS.out.symm, hb2⟩
        | false =>
          have HS := Lib.hid (HY.out (by rw [h2]; rfl))
          clear HY HN
          go_wp2_with fail
          refine (In_any r2 s b2 hs _).mono ?_
          rintro e w1 ⟨rfl, rfl⟩
          rw [show (r2 ||| s == s) = false from h2]
          clear h2
          go_wp2
          go_roundw
          case rel => exact ⟨k + 1, by go_num, by omega, HS.out, hb2⟩
          case measure => simp [intOf]; omega
    · have HS := Lib.hid (show trueB rs s = true by have := HC.out; rw [List.take_of_length_le (by omega)] at this; exact this)
      go_wp2
      go_ret
      exact ⟨ret_bool HS.out.symm, hbel⟩

set_option maxHeartbeats 1000000 in
theorem First_any (n : Nat) (rs : List Cla) (A : Option Addr) (c : Nat) (w : World) (hn6 : n ≤ 6) (hr : Row w A (rulesC rs)) (h32 : W32 rs) (hl : rs.length ≤ maxLen) :
    Calls Try.prog 6 #[.int .i64 n, .slice A rs.length c] w fun e w' => e = .returned (.tuple #[.int .u32 ((firstS n rs).getD 0 : Nat), .bool (firstS n rs).isSome]) ∧ Below w.heap.size w w' := by
  have h1n := one_int n (by omega)
  have h64 := one_le_64 hn6
  have h64' := one_pos n
  go_enter Try.func6, Try.ntmps6
  go_wp2
  go_loopw [6] (fun sv wr => ∃ s : Nat, sv = .int .u32 s ∧ s ≤ one n ∧ (∀ t, t < s → trueB rs t = false) ∧ Below w.heap.size w wr) (fun sv _ => one n - (intOf sv).toNat)
  case atStart => exact ⟨0, rfl, Nat.zero_le _, fun t ht => absurd ht (Nat.not_lt_zero _), Below.refl _ _⟩
  case round =>
    obtain ⟨s, rfl, hs, hno, hbel⟩ := hrel
    have HN := Lib.hid hno
    clear hno
    by_cases hlt : s < one n
    · have key := True_any rs A c s _ (hr.below hbel) h32 (by omega) hl
      cases h1 : trueB rs s with
      | true =>
        rw [h1] at key
        have HS := Lib.hid (first_some.2 ⟨hlt, h1, HN.out⟩)
        clear h1
        go_wp2_with fail
        refine key.mono ?_
        rintro e w1 ⟨rfl, hb1⟩
        have hb2 := hbel.trans (hb1.mono hbel.size)
        clear key hb1
        go_wp2
        go_ret2
        exact ⟨by rw [HS.out]; rfl, hb2⟩
      | false =>
        rw [h1] at key
        have HS := Lib.hid (show ∀ t, t < s + 1 → trueB rs t = false from fun t ht => by
          by_cases e : t = s
          · subst e; exact h1
          · exact HN.out t (by omega))
        clear h1
        go_wp2_with fail
        refine key.mono ?_
        rintro e w1 ⟨rfl, hb1⟩
        have hb2 := hbel.trans (hb1.mono hbel.size)
        clear key hb1
        go_wp2
        go_roundw
        case rel => exact ⟨s + 1, by go_num, by omega, HS.out, hb2⟩
        case measure => simp [intOf]; omega
    · have HS := Lib.hid (first_none (n := n) (l := rs) |>.2 fun t ht => HN.out t (by omega))
      go_wp2
      go_ret2
      exact ⟨by rw [HS.out]; rfl, hbel⟩

end Go.Proofs.Ytekeeodnjlebcaa
