/- syllogistref.Closed, syllogistref.Close, syllogistref.RulesCheck. -/
import Derived.Test.YtdiofkkdhdhkaaaRl
import Derived.Test.YtdiofkkdhdhkaaaW1
namespace Go.Proofs.Ytdiofkkdhdhkaaa
open Go.RowKit

theorem RowR.at {w : World} {A : Option Addr} {rs : List (Nat × Nat)} {k : Nat} {r : Nat × Nat} (h : Row w A (rulesC rs)) (hr : rs[k]? = some r) :
    ∃ b off, A = some ⟨b, off, none⟩ ∧ w.cell? ⟨b, off + k * 2, none⟩ = some (.int .u32 (r.1 : Int)) ∧ w.cell? ⟨b, off + k * 2 + 1, none⟩ = some (.int .u32 (r.2 : Int)) := by
  have hk : k < rs.length := (List.getElem?_eq_some_iff.1 hr).1
  obtain ⟨b, off, e, hc⟩ := h.at (k := k) (by rw [rulesC_length]; omega)
  exact ⟨b, off, e, hc _ _ (rulesC_at0 hr), by rw [Nat.add_assoc]; exact hc _ _ (rulesC_at1 hr)⟩
theorem closed_take {rs : List (Nat × Nat)} {k s : Nat} {r : Nat × Nat} (h : closedB (rs.take k) s = true) (hr : rs[k]? = some r) (h2 : sub r.1 s = true → sub r.2 s = true) : closedB (rs.take (k + 1)) s = true := by
  rw [closed_iff] at h ⊢
  intro x hx h1
  rw [List.take_add_one, hr] at hx
  simp only [Option.toList, List.mem_append, List.mem_singleton] at hx
  rcases hx with hx | rfl
  · exact h x hx h1
  · exact h2 h1

set_option maxHeartbeats 1000000 in
theorem Closed_any (rs : List (Nat × Nat)) (A : Option Addr) (c s : Nat) (w : World) (hr : Row w A (rulesC rs)) (h32 : W32 rs) (hs : s < 4294967296) (hl : rs.length ≤ 1000000) :
    Calls Try.prog 18 #[.slice A rs.length c, .int .u32 s] w fun e w' => e = .returned (.bool (closedB rs s)) ∧ Below w.heap.size w w' := by
  go_enter Try.func18, Try.ntmps18
  go_wp2
  go_loopw [9] (fun iv wr => ∃ k : Nat, iv = .int .i64 k ∧ k ≤ rs.length ∧ closedB (rs.take k) s = true ∧ Below w.heap.size w wr) (fun iv _ => rs.length - (intOf iv).toNat)
  case atStart => exact ⟨0, rfl, Nat.zero_le _, by simp [closedB], Below.refl _ _⟩
  case round =>
    obtain ⟨k, rfl, hk, hcl, hbel⟩ := hrel
    have HC := Lib.hid hcl
    clear hcl
    by_cases hlt : k < rs.length
    · obtain ⟨r, hrk⟩ := get_some hlt
      obtain ⟨r1, r2⟩ := r
      obtain ⟨b, off, rfl, c1, c2⟩ := RowR.at (hr.below hbel) hrk
      obtain ⟨b1, b2⟩ := h32 _ (List.mem_of_getElem? hrk)
      have HR := Lib.hid hrk
      clear hrk
      have hb2 := hbel.alloc hbel.size (.cells #[.int .u32 (r1 : Int), .int .u32 (r2 : Int)] 31)
      cases h1 : sub r1 s with
      | true =>
        cases h2 : sub r2 s with
        | true =>
          have HS := Lib.hid (closed_take HC.out HR.out (fun _ => h2))
          go_wp2_with fail
          refine (In_any r1 s b1 hs _).mono ?_
          rintro e w1 ⟨rfl, rfl⟩
          rw [show (r1 ||| s == s) = true from h1]
          go_wp2_with fail
          refine (In_any r2 s b2 hs _).mono ?_
          rintro e w1 ⟨rfl, rfl⟩
          rw [show (r2 ||| s == s) = true from h2]
          clear h1 h2
          go_wp2
          go_roundw
          case rel => exact ⟨k + 1, by go_num, by omega, HS.out, hb2⟩
          case measure => simp [intOf]; omega
        | false =>
          have HS := Lib.hid (show closedB rs s = false by
            cases e : closedB rs s with
            | false => rfl
            | true => rw [closed_iff.1 e _ (List.mem_of_getElem? HR.out) h1] at h2; cases h2)
          go_wp2_with fail
          refine (In_any r1 s b1 hs _).mono ?_
          rintro e w1 ⟨rfl, rfl⟩
          rw [show (r1 ||| s == s) = true from h1]
          go_wp2_with fail
          refine (In_any r2 s b2 hs _).mono ?_
          rintro e w1 ⟨rfl, rfl⟩
          rw [show (r2 ||| s == s) = false from h2]
          clear h1 h2
          go_wp2
          go_ret
          exact ⟨ret_bool HS.out.symm, hb2⟩
      | false =>
        have HS := Lib.hid (closed_take HC.out HR.out (fun h => by rw [h] at h1; cases h1))
        go_wp2_with fail
        refine (In_any r1 s b1 hs _).mono ?_
        rintro e w1 ⟨rfl, rfl⟩
        rw [show (r1 ||| s == s) = false from h1]
        clear h1
        go_wp2
        go_roundw
        case rel => exact ⟨k + 1, by go_num, by omega, HS.out, hb2⟩
        case measure => simp [intOf]; omega
    · have HS := Lib.hid (show closedB rs s = true by have := HC.out; rw [List.take_of_length_le (by omega)] at this; exact this)
      go_wp2
      go_ret
      exact ⟨ret_bool HS.out.symm, hbel⟩

set_option maxHeartbeats 1000000 in
theorem Close_any (n : Nat) (rs : List (Nat × Nat)) (A : Option Addr) (c s : Nat) (w : World) (hn6 : n ≤ 6) (hr : Row w A (rulesC rs)) (h32 : W32 rs) (hs : s < 4294967296) (hl : rs.length ≤ 1000000) :
    Calls Try.prog 14 #[.int .i64 n, .slice A rs.length c, .int .u32 s] w fun e w' => e = .returned (.int .u32 (closeW n rs s)) ∧ Below w.heap.size w w' := by
  have h1n := one_int n (by omega)
  have h64 := one_le_64 hn6
  have hfull : ((one n : Int) - 1) % 4294967296 = (full n : Nat) := by have := one_pos n; unfold full; omega
  go_enter Try.func14, Try.ntmps14
  go_wp2
  rw [hfull, h1n]
  go_loopw [7, 8] (fun ov cv wr => ∃ k : Nat, cv = .int .u32 k ∧ k ≤ one n ∧ (∃ o : Nat, o = closeP n rs s k ∧ ov = .int .u32 o) ∧ Below w.heap.size w wr) (fun _ cv _ => one n - (intOf cv).toNat)
  case atStart => exact ⟨0, rfl, Nat.zero_le _, ⟨_, rfl, rfl⟩, Below.refl _ _⟩
  case round =>
    obtain ⟨k, rfl, hk, ⟨o, ho, rfl⟩, hbel⟩ := hrel
    have ho32 : o < 4294967296 := by rw [ho]; have := closeP_lt n rs s k; omega
    have HO := Lib.hid ho
    clear ho
    by_cases hlt : k < one n
    · cases h1 : sub s k with
      | true =>
        cases h2 : closedB rs k with
        | true =>
          have HS := Lib.hid (closeP_yes (n := n) h1 h2)
          go_wp2_with fail
          refine (In_any s k hs (by omega) _).mono ?_
          rintro e w1 ⟨rfl, rfl⟩
          rw [show (s ||| k == k) = true from h1]
          go_wp2_with fail
          refine (Closed_any rs A c k _ (hr.below hbel) h32 (by omega) hl).mono ?_
          rintro e w1 ⟨rfl, hb1⟩
          rw [h2]
          have hbel1 := hbel.trans (hb1.mono hbel.size)
          clear h1 h2 hb1
          go_wp2
          go_roundw
          case rel => exact ⟨k + 1, by go_num, by omega, ⟨o &&& k, by rw [HS.out, HO.out], by rw [u32_and_nat _ _ ho32 (by omega)]⟩, hbel1⟩
          case measure => simp [intOf]; omega
        | false =>
          have HS := Lib.hid (closeP_no (n := n) (rs := rs) (s := s) (k := k) (fun h => by rw [h2] at h; cases h.2))
          go_wp2_with fail
          refine (In_any s k hs (by omega) _).mono ?_
          rintro e w1 ⟨rfl, rfl⟩
          rw [show (s ||| k == k) = true from h1]
          go_wp2_with fail
          refine (Closed_any rs A c k _ (hr.below hbel) h32 (by omega) hl).mono ?_
          rintro e w1 ⟨rfl, hb1⟩
          rw [h2]
          have hbel1 := hbel.trans (hb1.mono hbel.size)
          clear h1 h2 hb1
          go_wp2
          go_roundw
          case rel => exact ⟨k + 1, by go_num, by omega, ⟨o, by rw [HS.out, HO.out], rfl⟩, hbel1⟩
          case measure => simp [intOf]; omega
      | false =>
        have HS := Lib.hid (closeP_no (n := n) (rs := rs) (s := s) (k := k) (fun h => by rw [h1] at h; cases h.1))
        go_wp2_with fail
        refine (In_any s k hs (by omega) _).mono ?_
        rintro e w1 ⟨rfl, rfl⟩
        rw [show (s ||| k == k) = false from h1]
        clear h1
        go_wp2
        go_roundw
        case rel => exact ⟨k + 1, by go_num, by omega, ⟨o, by rw [HS.out, HO.out], rfl⟩, hbel⟩
        case measure => simp [intOf]; omega
    · have hke : k = one n := by omega
      subst hke
      go_wp2
      go_ret
      exact ⟨ret_int (by rw [HO.out]; rfl), hbel⟩

set_option maxHeartbeats 1000000 in
theorem RulesCheck_any (n : Int) (rs : List (Nat × Nat)) (A : Option Addr) (c s : Nat) (w : World) (hr : Row w A (rulesC rs)) :
    Calls Try.prog 13 #[.int .i64 n, .slice A rs.length c, .int .u32 s] w fun e w' => e = .returned (.int .i64 (codeR n rs s)) ∧ Below w.heap.size w w' := by
  by_cases hL : LargeR n rs
  · have HC := Lib.hid (codeR_large (s := s) hL)
    rw [HC.out]
    unfold LargeR at hL
    by_cases h1 : n < 1
    · clear hL; go_enter Try.func13, Try.ntmps13; go_wp2; go_ret; exact ⟨rfl, Below.refl _ _⟩
    · by_cases h2 : 6 < n
      · clear hL; go_enter Try.func13, Try.ntmps13; go_wp2; go_ret; exact ⟨rfl, Below.refl _ _⟩
      · have h3 : (10 : Int) < (rs.length : Int) := by omega
        clear hL; go_enter Try.func13, Try.ntmps13; go_wp2; go_ret; exact ⟨rfl, Below.refl _ _⟩
  · obtain ⟨n, rfl⟩ := Int.eq_ofNat_of_zero_le (show 0 ≤ n by unfold LargeR at hL; omega)
    obtain ⟨hn1, hn6, hl10⟩ : 1 ≤ n ∧ n ≤ 6 ∧ rs.length ≤ 10 := by unfold LargeR at hL; omega
    have HL := Lib.hid hL
    clear hL
    go_enter Try.func13, Try.ntmps13
    go_wp2
    go_loopw [22] (fun iv wr => ∃ k : Nat, iv = .int .i64 k ∧ k ≤ rs.length ∧ FitR n (rs.take k) ∧ Below w.heap.size w wr) (fun iv _ => rs.length - (intOf iv).toNat)
    case atStart => exact ⟨0, rfl, Nat.zero_le _, by intro r hr; simp at hr, Below.refl _ _⟩
    case round =>
      obtain ⟨k, rfl, hk, hft, hbel⟩ := hrel
      have HF := Lib.hid hft
      clear hft
      by_cases hlt : k < rs.length
      · obtain ⟨r, hrk⟩ := get_some hlt
        obtain ⟨r1, r2⟩ := r
        obtain ⟨b, off, rfl, c1, c2⟩ := RowR.at (hr.below hbel) hrk
        have HR := Lib.hid hrk
        clear hrk
        have hb2 := hbel.alloc hbel.size (.cells #[.int .u32 (r1 : Int), .int .u32 (r2 : Int)] 31)
        by_cases h1 : r1 < one n
        · by_cases h2 : r2 < one n
          · have HS := Lib.hid (show FitR n (rs.take (k + 1)) by
              intro x hx
              rw [List.take_add_one, HR.out] at hx
              simp only [Option.toList, List.mem_append, List.mem_singleton] at hx
              rcases hx with hx | rfl
              · exact HF.out x hx
              · exact ⟨h1, h2⟩)
            go_wp2_with fail
            refine (Fits_any n r1 (by omega) _).mono ?_
            rintro e w1 ⟨rfl, rfl⟩
            rw [decide_eq_true h1]
            go_wp2_with fail
            refine (Fits_any n r2 (by omega) _).mono ?_
            rintro e w1 ⟨rfl, rfl⟩
            rw [decide_eq_true h2]
            clear h1 h2
            go_wp2
            go_roundw
            case rel => exact ⟨k + 1, by go_num, by omega, HS.out, hb2⟩
            case measure => simp [intOf]; omega
          · have HC := Lib.hid (codeR_bad (s := s) HL.out (fun h => h2 (h.1 _ (List.mem_of_getElem? HR.out)).2))
            go_wp2_with fail
            refine (Fits_any n r1 (by omega) _).mono ?_
            rintro e w1 ⟨rfl, rfl⟩
            rw [decide_eq_true h1]
            go_wp2_with fail
            refine (Fits_any n r2 (by omega) _).mono ?_
            rintro e w1 ⟨rfl, rfl⟩
            rw [decide_eq_false h2]
            clear h1 h2
            go_wp2
            go_ret
            exact ⟨ret_int HC.out.symm, hb2⟩
        · have HC := Lib.hid (codeR_bad (s := s) HL.out (fun h => h1 (h.1 _ (List.mem_of_getElem? HR.out)).1))
          go_wp2_with fail
          refine (Fits_any n r1 (by omega) _).mono ?_
          rintro e w1 ⟨rfl, rfl⟩
          rw [decide_eq_false h1]
          clear h1
          go_wp2
          go_ret
          exact ⟨ret_int HC.out.symm, hb2⟩
      · have HF2 := Lib.hid (show FitR n rs by have := HF.out; rw [List.take_of_length_le (by omega)] at this; exact this)
        clear HF
        by_cases h1 : s < one n
        · have HC := Lib.hid (codeR_ok HL.out HF2.out h1)
          go_wp2_with fail
          refine (Fits_any n s (by omega) _).mono ?_
          rintro e w1 ⟨rfl, rfl⟩
          rw [decide_eq_true h1]
          clear h1
          go_wp2
          go_ret
          exact ⟨ret_int HC.out.symm, hbel⟩
        · have HC := Lib.hid (codeR_bad (s := s) HL.out (fun h => h1 h.2))
          go_wp2_with fail
          refine (Fits_any n s (by omega) _).mono ?_
          rintro e w1 ⟨rfl, rfl⟩
          rw [decide_eq_false h1]
          clear h1
          go_wp2
          go_ret
          exact ⟨ret_int HC.out.symm, hbel⟩

theorem ruled_any (n : Int) (rs : List (Nat × Nat)) (A : Option Addr) (c s : Nat) (w : World) (hr : Row w A (rulesC rs)) :
    Calls Try.prog 25 #[.int .i64 n, .slice A rs.length c, .int .u32 s] w fun e w' => e = .returned (.bool (codeR n rs s == 0)) ∧ Below w.heap.size w w' := by
  go_enter Try.func25, Try.ntmps25
  go_wp2_with fail
  refine (RulesCheck_any n rs A c s _ hr).mono ?_
  rintro e w1 ⟨rfl, hb⟩
  go_wp2
  go_ret
  exact ⟨rfl, hb⟩
end Go.Proofs.Ytdiofkkdhdhkaaa
