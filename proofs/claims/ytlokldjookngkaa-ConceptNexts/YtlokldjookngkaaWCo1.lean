/- concept.all, concept.only, concept.fit, concept.check, concept.up, concept.down, concept.grow. -/
import Derived.Test.YtlokldjookngkaaCSpec
import Derived.Test.YtlokldjookngkaaSetW
namespace Go.Proofs.Ytlokldjookngkaa
open Go.RowKit

theorem one_le_256' {k : Nat} (h : k ≤ 8) : one k ≤ 256 := by
  have : one k ≤ one 8 := Nat.pow_le_pow_right (by omega) h
  simpa [one] using this
theorem full_u32' {n : Nat} (hn : n ≤ 8) : full n < 4294967296 := by
  have := one_le_256' hn
  have := full_lt n
  omega

set_option maxHeartbeats 400000 in
theorem cnAll_any (n : Nat) (hn : n ≤ 8) (w : World) :
    Calls Try.prog 26 #[.int .i64 n] w fun e w' => e = .returned (.int .u32 (full n)) ∧ w = w' := by
  have h1n := one_int n (by omega)
  have h64 := one_le_256' hn
  have hfull : ((one n : Int) - 1) % 4294967296 = (full n : Nat) := by have := one_pos n; unfold full; omega
  go_enter Try.func26, Try.ntmps26
  go_wp2
  go_ret
  exact ⟨ret_int (by first | exact hfull | (rw [h1n]; exact hfull)), rfl⟩

set_option maxHeartbeats 400000 in
theorem cnOnly_any (k : Nat) (hk : k < 32) (w : World) :
    Calls Try.prog 37 #[.int .i64 k] w fun e w' => e = .returned (.int .u32 (one k)) ∧ w = w' := by
  go_enter Try.func37, Try.ntmps37
  go_wp2
  go_ret
  exact ⟨ret_int (one_int k hk), rfl⟩

set_option maxHeartbeats 1000000 in
theorem cnFit_any (n : Nat) (hn : n ≤ 6) (l : List Nat) (A : Option Addr) (c : Nat) (w : World) (hr : Row w A (words l)) (h32 : ∀ x ∈ l, x < 4294967296) (hl : l.length ≤ maxLen) :
    Calls Try.prog 36 #[.int .i64 n, .slice A l.length c] w fun e w' => e = .returned (.bool (fitB n l)) ∧ w = w' := by
  have hf := full_u32 hn
  go_enter Try.func36, Try.ntmps36
  go_wp2
  go_loopw [9] (fun iv wr => ∃ k : Nat, iv = .int .i64 k ∧ k ≤ l.length ∧ fitB n (l.take k) = true ∧ w = wr) (fun iv _ => l.length - (intOf iv).toNat)
  case atStart => exact ⟨0, rfl, Nat.zero_le _, rfl, rfl⟩
  case round =>
    obtain ⟨k, rfl, hk, hcl, rfl⟩ := hrel
    have HC := Lib.hid hcl
    clear hcl
    by_cases hlt : k < l.length
    · obtain ⟨s, hs⟩ := get_some hlt
      obtain ⟨b, off, rfl, hc⟩ := hr.at (k := k) (by simpa using hlt)
      have c1 := hc k _ (words_at hs)
      have h1 := h32 _ (List.mem_of_getElem? hs)
      have HS := Lib.hid hs
      clear hs hc
      have hl' : l.length < 9223372036854775808 := by unfold maxLen at hl; omega
      have hz := u32_subB h1 hf
      cases h2 : sub s (full n) with
      | true =>
        rw [h2, beq_iff_eq] at hz
        have HT := Lib.hid (fit_take HC.out HS.out h2)
        clear h2
        go_wp2_with fail
        refine (cnAll_any n (by omega) _).mono ?_
        rintro e w1 ⟨rfl, rfl⟩
        go_wp2
        go_roundw
        case rel => exact ⟨k + 1, by go_num, by omega, HT.out, by first | exact trivial | rfl⟩
        case measure => simp [intOf]; omega
      | false =>
        rw [h2, beq_eq_false_iff_ne] at hz
        have HT := Lib.hid (fit_no HS.out h2)
        clear h2
        go_wp2_with fail
        refine (cnAll_any n (by omega) _).mono ?_
        rintro e w1 ⟨rfl, rfl⟩
        go_wp2
        go_ret
        exact ⟨ret_bool HT.out.symm, rfl⟩
    · have HS := Lib.hid (show fitB n l = true by have := HC.out; rw [List.take_of_length_le (by omega)] at this; exact this)
      go_wp2
      go_ret
      exact ⟨ret_bool HS.out.symm, rfl⟩

theorem fitT_iff {n : Nat} {l : List Nat} : fitB n l = true ↔ FitT n l := by
  unfold fitB FitT
  rw [List.all_eq_true]
  exact forall_congr' fun r => forall_congr' fun _ => sub_full_iff

set_option maxHeartbeats 1000000 in
theorem cnCheck_any (n : Int) (rows : List Nat) (A : Option Addr) (c : Nat) (l : List Nat) (A2 : Option Addr) (c2 : Nat) (w : World) (hr : Row w A (words rows)) (h32 : U32 rows) (hl : rows.length ≤ maxLen)
    (hr2 : Row w A2 (words l)) (h32' : ∀ x ∈ l, x < 4294967296) (hl2 : l.length ≤ 2) :
    Calls Try.prog 25 #[.int .i64 n, .slice A rows.length c, .slice A2 l.length c2] w fun e w' => e = .returned (.int .i64 (codeT n rows 0 (orL l))) ∧ w = w' := by
  by_cases hL : LargeT n rows
  · have HL := Lib.hid (codeT_large (o := 0) (m := orL l) hL)
    have HX := Lib.hid hL
    clear hL
    have hll : rows.length < 9223372036854775808 := by unfold maxLen at hl; omega
    go_enter Try.func25, Try.ntmps25
    go_wp2_with fail
    all_goals first
      | (go_ret; exact ⟨ret_int HL.out.symm, rfl⟩)
      | (have := HX.out; unfold LargeT at this; omega)
  · obtain ⟨n, rfl⟩ := Int.eq_ofNat_of_zero_le (show 0 ≤ n by unfold LargeT at hL; omega)
    have hn : n ≤ 6 := by unfold LargeT at hL; omega
    have hn1 : 1 ≤ n := by unfold LargeT at hL; omega
    have hl8 : rows.length ≤ 8 := by unfold LargeT at hL; omega
    have HL := Lib.hid hL
    clear hL
    have c1 := cnFit_any n hn rows A c w hr h32 hl
    have c2 := cnFit_any n hn l A2 c2 w hr2 h32' (by unfold maxLen; omega)
    cases h1 : fitB n rows with
    | false =>
      have HT := Lib.hid (codeT_bad (o := 0) (m := orL l) HL.out fun h => by rw [fitT_iff.2 h.1] at h1; cases h1)
      rw [h1] at c1
      go_enter Try.func25, Try.ntmps25
      go_wp2_with fail
      refine c1.mono ?_
      rintro e w1 ⟨rfl, rfl⟩
      go_wp2
      go_ret
      exact ⟨ret_int HT.out.symm, rfl⟩
    | true =>
      rw [h1] at c1
      cases h2 : fitB n l with
      | false =>
        have HT := Lib.hid (codeT_bad (o := 0) (m := orL l) HL.out fun h => by rw [orL_fit.2 h.2.1] at h2; cases h2)
        rw [h2] at c2
        go_enter Try.func25, Try.ntmps25
        go_wp2_with fail
        refine c1.mono ?_
        rintro e w1 ⟨rfl, rfl⟩
        go_wp2_with fail
        refine c2.mono ?_
        rintro e w1 ⟨rfl, rfl⟩
        go_wp2
        go_ret
        exact ⟨ret_int HT.out.symm, rfl⟩
      | true =>
        have HT := Lib.hid (codeT_ok (o := 0) (m := orL l) HL.out (fitT_iff.1 h1) (orL_fit.1 h2) (one_pos _))
        rw [h2] at c2
        go_enter Try.func25, Try.ntmps25
        go_wp2_with fail
        refine c1.mono ?_
        rintro e w1 ⟨rfl, rfl⟩
        go_wp2_with fail
        refine c2.mono ?_
        rintro e w1 ⟨rfl, rfl⟩
        go_wp2
        go_ret
        exact ⟨ret_int HT.out.symm, rfl⟩

theorem up_start (n : Nat) (rows : List Nat) (o : Nat) : full n = wordOf n fun m => upP rows o m 0 :=
  wordOf_of (full_lt n) fun i hi => by rw [full_bit]; simp [upP, hi]
theorem up_yes {n : Nat} {rows : List Nat} {o k r : Nat} (ho : o.testBit k = true) (hr : rows.getD k 0 = r) : (wordOf n fun m => upP rows o m k) &&& r = wordOf n fun m => upP rows o m (k + 1) := by
  apply Nat.eq_of_testBit_eq
  intro i
  rw [Nat.testBit_and, testBit_wordOf, testBit_wordOf, upP_succ, ho, hr, Bool.and_assoc]
  rfl
theorem up_no {n : Nat} {rows : List Nat} {o k : Nat} (ho : o.testBit k = false) : (wordOf n fun m => upP rows o m k) = wordOf n fun m => upP rows o m (k + 1) :=
  wordOf_congr fun i _ => by rw [upP_succ, ho]; simp

set_option maxHeartbeats 1000000 in
theorem cnUp_any (n : Nat) (rows : List Nat) (A : Option Addr) (c o : Nat) (w : World) (hn6 : n ≤ 6) (hr : Row w A (words rows)) (h32 : U32 rows) (ho : o < 4294967296) (hl : rows.length ≤ 8) :
    Calls Try.prog 27 #[.int .i64 n, .slice A rows.length c, .int .u32 o] w fun e w' => e = .returned (.int .u32 (upW n rows o)) ∧ w = w' := by
  have h64 := one_le_64 hn6
  go_enter Try.func27, Try.ntmps27
  go_wp2_with fail
  refine (cnAll_any n (by omega) _).mono ?_
  rintro e w1 ⟨rfl, rfl⟩
  go_wp2
  go_loopw [7, 14] (fun ov iv wr => ∃ k : Nat, iv = .int .i64 k ∧ k ≤ rows.length ∧ (∃ q : Nat, q = wordOf n (fun m => upP rows o m k) ∧ ov = .int .u32 q) ∧ w = wr) (fun _ iv _ => rows.length - (intOf iv).toNat)
  case atStart => exact ⟨0, rfl, Nat.zero_le _, ⟨_, up_start n rows o, rfl⟩, rfl⟩
  case round =>
    obtain ⟨k, rfl, hk, ⟨q, hq, rfl⟩, rfl⟩ := hrel
    have hq32 : q < one n := by rw [hq]; exact wordOf_lt _ _
    have HQ := Lib.hid hq
    clear hq
    by_cases hlt : k < rows.length
    · obtain ⟨b, off, rfl, hcell⟩ := hr.at (k := k) (by rw [words_length]; exact hlt)
      obtain ⟨r, hrk⟩ : ∃ r, rows.getD k 0 = r := ⟨_, rfl⟩
      have c1 := hcell _ _ (words_at (rows_at hlt))
      have hr32 := h32 _ (rows_mem hlt)
      rw [hrk] at c1 hr32
      have HRk := Lib.hid hrk
      clear hcell hrk
      have hh := u32_has o k ho (by omega)
      have ha := u32_and_nat q r (by omega) hr32
      cases hs : o.testBit k with
      | true =>
        rw [hs, bne_iff_ne] at hh
        have HS := Lib.hid (up_yes (n := n) hs HRk.out)
        clear hs
        go_wp2_with fail
        refine (cnOnly_any k (by omega) _).mono ?_
        rintro e w1 ⟨rfl, rfl⟩
        go_wp2
        go_roundw
        case rel => exact ⟨k + 1, by go_num, by omega, ⟨q &&& r, by rw [← HS.out, HQ.out], by first | rfl | rw [ha]⟩, trivial⟩
        case measure => simp [intOf]; omega
      | false =>
        have hh2 : bits .and .u32 (o : Int) (one k : Int) = 0 := by rw [hs] at hh; simpa using hh
        have HS := Lib.hid (up_no (n := n) (rows := rows) hs)
        clear hs hh
        go_wp2_with fail
        refine (cnOnly_any k (by omega) _).mono ?_
        rintro e w1 ⟨rfl, rfl⟩
        go_wp2
        go_roundw
        case rel => exact ⟨k + 1, by go_num, by omega, ⟨q, by rw [← HS.out, HQ.out], rfl⟩, trivial⟩
        case measure => simp [intOf]; omega
    · have hke : k = rows.length := by omega
      subst hke
      go_wp2
      go_ret
      exact ⟨ret_int (by rw [HQ.out]; rfl), rfl⟩

set_option maxHeartbeats 1000000 in
theorem cnDown_any (rows : List Nat) (A : Option Addr) (c m : Nat) (w : World) (hr : Row w A (words rows)) (h32 : U32 rows) (hm : m < 4294967296) (hl : rows.length ≤ 8) :
    Calls Try.prog 30 #[.slice A rows.length c, .int .u32 m] w fun e w' => e = .returned (.int .u32 (ownW rows m)) ∧ w = w' := by
  go_enter Try.func30, Try.ntmps30
  go_wp2
  go_loopw [5, 10] (fun ov iv wr => ∃ k : Nat, iv = .int .i64 k ∧ k ≤ rows.length ∧ (∃ q : Nat, q = wordOf k (fun i => sub m (rows.getD i 0)) ∧ ov = .int .u32 q) ∧ w = wr) (fun _ iv _ => rows.length - (intOf iv).toNat)
  case atStart => exact ⟨0, rfl, Nat.zero_le _, ⟨_, rfl, rfl⟩, rfl⟩
  case round =>
    obtain ⟨k, rfl, hk, ⟨q, hq, rfl⟩, rfl⟩ := hrel
    have hq32 : q < one k := by rw [hq]; exact wordOf_lt _ _
    have HQ := Lib.hid hq
    clear hq
    by_cases hlt : k < rows.length
    · have h1kk : one k ≤ 256 := one_le_256' (by omega)
      obtain ⟨b, off, rfl, hcell⟩ := hr.at (k := k) (by rw [words_length]; exact hlt)
      obtain ⟨r, hrk⟩ : ∃ r, rows.getD k 0 = r := ⟨_, rfl⟩
      have c1 := hcell _ _ (words_at (rows_at hlt))
      have hr32 := h32 _ (rows_mem hlt)
      rw [hrk] at c1 hr32
      have HRk := Lib.hid hrk
      clear hcell hrk
      have hz := u32_subB hm hr32
      have ha := u32_or_nat q (one k) (by omega) (by omega)
      cases hs : sub m r with
      | true =>
        rw [hs, beq_iff_eq] at hz
        have HS := Lib.hid (show wordOf (k + 1) (fun i => sub m (rows.getD i 0)) = wordOf k (fun i => sub m (rows.getD i 0)) ||| one k by rw [wordOf, if_pos]; rw [HRk.out]; exact hs)
        clear hs
        go_wp2_with fail
        refine (cnOnly_any k (by omega) _).mono ?_
        rintro e w1 ⟨rfl, rfl⟩
        go_wp2
        go_roundw
        case rel => exact ⟨k + 1, by go_num, by omega, ⟨q ||| one k, by rw [HS.out, HQ.out], by first | rfl | rw [ha]⟩, trivial⟩
        case measure => simp [intOf]; omega
      | false =>
        rw [hs, beq_eq_false_iff_ne] at hz
        have HS := Lib.hid (wordOf_no (k := k) (p := fun i => sub m (rows.getD i 0)) (show sub m (rows.getD k 0) = false by rw [HRk.out]; exact hs))
        clear hs
        go_wp2
        go_roundw
        case rel => exact ⟨k + 1, by go_num, by omega, ⟨q, by rw [HS.out, HQ.out], rfl⟩, trivial⟩
        case measure => simp [intOf]; omega
    · have hke : k = rows.length := by omega
      subst hke
      go_wp2
      go_ret
      exact ⟨ret_int (by rw [HQ.out]; rfl), rfl⟩

theorem cnGrow_any (n : Nat) (rows : List Nat) (A : Option Addr) (c m : Nat) (w : World) (hn6 : n ≤ 6) (hr : Row w A (words rows)) (h32 : U32 rows) (hm : m < 4294967296) (hl : rows.length ≤ 8) :
    Calls Try.prog 31 #[.int .i64 n, .slice A rows.length c, .int .u32 m] w fun e w' => e = .returned (.int .u32 (clM n rows m)) ∧ w = w' := by
  have h1 := ownW_lt rows m
  have h2 := one_le_256' hl
  go_enter Try.func31, Try.ntmps31
  go_wp2_with fail
  refine (cnDown_any rows A c m _ hr h32 hm hl).mono ?_
  rintro e w1 ⟨rfl, rfl⟩
  go_wp2_with fail
  refine (cnUp_any n rows A c (ownW rows m) _ hn6 hr h32 (by omega) hl).mono ?_
  rintro e w1 ⟨rfl, rfl⟩
  go_wp2
  go_ret
  exact ⟨rfl, rfl⟩

end Go.Proofs.Ytlokldjookngkaa
