/- syllogistref.SatCheck, True, First; keep.sat. -/
import Derived.Test.YtekeeodnjlebcaaDoorCl
import Derived.Test.YtekeeodnjlebcaaDoorW1
import Derived.Test.YtekeeodnjlebcaaDoorExt
namespace Go.Proofs.YtekeeodnjlebcaaDoor
open Go.RowKit

theorem RowC.at {w : World} {A : Option Addr} {rs : List Cla} {k : Nat} {r : Cla} (h : Row w A (rulesC rs)) (hr : rs[k]? = some r) :
    ∃ b off, A = some ⟨b, off, none⟩ ∧ w.cell? ⟨b, off + k * 2, none⟩ = some (.int .u32 (r.1 : Int)) ∧ w.cell? ⟨b, off + k * 2 + 1, none⟩ = some (.int .u32 (r.2 : Int)) := by
  have hk : k < rs.length := (List.getElem?_eq_some_iff.1 hr).1
  obtain ⟨b, off, e, hc⟩ := h.at (k := k) (by rw [rulesC_length]; omega)
  exact ⟨b, off, e, hc _ _ (rulesC_at0 hr), by rw [Nat.add_assoc]; exact hc _ _ (rulesC_at1 hr)⟩

set_option maxHeartbeats 1000000 in
theorem SatCheck_any (n : Int) (rs : List Cla) (A : Option Addr) (c : Nat) (w : World) (hr : Row w A (rulesC rs)) :
    Calls Tryd.prog 17 #[.int .i64 n, .slice A rs.length c] w fun e w' => e = .returned (.int .i64 (codeC n rs)) ∧ Below w.heap.size w w' := by
  by_cases hL : LargeC n rs
  · have HC := Lib.hid (codeC_large hL)
    rw [HC.out]
    unfold LargeC at hL
    by_cases h1 : n < 1
    · clear hL; go_enter Tryd.func17, Tryd.ntmps17; go_wp2; go_ret; exact ⟨rfl, Below.refl _ _⟩
    · by_cases h2 : 6 < n
      · clear hL; go_enter Tryd.func17, Tryd.ntmps17; go_wp2; go_ret; exact ⟨rfl, Below.refl _ _⟩
      · have h3 : (16 : Int) < (rs.length : Int) := by omega
        clear hL; go_enter Tryd.func17, Tryd.ntmps17; go_wp2; go_ret; exact ⟨rfl, Below.refl _ _⟩
  · obtain ⟨n, rfl⟩ := Int.eq_ofNat_of_zero_le (show 0 ≤ n by unfold LargeC at hL; omega)
    obtain ⟨hn1, hn6, hl10⟩ : 1 ≤ n ∧ n ≤ 6 ∧ rs.length ≤ 16 := by unfold LargeC at hL; omega
    have HL := Lib.hid hL
    clear hL
    go_enter Tryd.func17, Tryd.ntmps17
    go_wp2
    go_loopw [20] (fun iv wr => ∃ k : Nat, iv = .int .i64 k ∧ k ≤ rs.length ∧ FitR n (rs.take k) ∧ Below w.heap.size w wr) (fun iv _ => rs.length - (intOf iv).toNat)
    case atStart => exact ⟨0, rfl, Nat.zero_le _, by intro r hr; simp at hr, Below.refl _ _⟩
    case round =>
      obtain ⟨k, rfl, hk, hft, hbel⟩ := hrel
      have HF := Lib.hid hft
      clear hft
      by_cases hlt : k < rs.length
      · obtain ⟨r, hrk⟩ := get_some hlt
        obtain ⟨r1, r2⟩ := r
        obtain ⟨b, off, rfl, c1, c2⟩ := RowC.at (hr.below hbel) hrk
        have HR := Lib.hid hrk
        clear hrk
        have hb2 := hbel.alloc hbel.size (.cells #[.int .u32 (r1 : Int), .int .u32 (r2 : Int)] 37)
        by_cases h1 : r1 < one n
        · by_cases h2 : r2 < one n
          · have HS := Lib.hid (show FitR n (rs.take (k + 1)) by
              intro x hx
              rw [List.take_add_one, HR.out] at hx
              simp only [Option.toList, List.mem_append, List.mem_singleton] at hx
              rcases hx with hx | rfl
              · exact HF.out x hx
              · exact ⟨h1, h2⟩)
            go_wp2_with fail
            refine (Fits_any n r1 (by omega) _).mono ?_
            rintro e w1 ⟨rfl, rfl⟩
            rw [decide_eq_true h1]
            go_wp2_with fail
            refine (Fits_any n r2 (by omega) _).mono ?_
            rintro e w1 ⟨rfl, rfl⟩
            rw [decide_eq_true h2]
            clear h1 h2
            go_wp2
            go_roundw
            case rel => exact ⟨k + 1, by go_num, by omega, HS.out, hb2⟩
            case measure => simp [intOf]; omega
          · have HC := Lib.hid (codeC_bad HL.out (fun h => h2 (h _ (List.mem_of_getElem? HR.out)).2))
            go_wp2_with fail
            refine (Fits_any n r1 (by omega) _).mono ?_
            rintro e w1 ⟨rfl, rfl⟩
            rw [decide_eq_true h1]
            go_wp2_with fail
            refine (Fits_any n r2 (by omega) _).mono ?_
            rintro e w1 ⟨rfl, rfl⟩
            rw [decide_eq_false h2]
            clear h1 h2
            go_wp2
            go_ret
            exact ⟨ret_int HC.out.symm, hb2⟩
        · have HC := Lib.hid (codeC_bad HL.out (fun h => h1 (h _ (List.mem_of_getElem? HR.out)).1))
          go_wp2_with fail
          refine (Fits_any n r1 (by omega) _).mono ?_
          rintro e w1 ⟨rfl, rfl⟩
          rw [decide_eq_false h1]
          clear h1
          go_wp2
          go_ret
          exact ⟨ret_int HC.out.symm, hb2⟩
      · have HC := Lib.hid (codeC_ok HL.out (show FitR n rs by have := HF.out; rw [List.take_of_length_le (by omega)] at this; exact this))
        clear HF
        go_wp2
        go_ret
        exact ⟨ret_int HC.out.symm, hbel⟩

theorem u32_and_zeroB {a b : Nat} (ha : a < 4294967296) (hb : b < 4294967296) : (bits .and .u32 (a : Int) (b : Int) == 0) = (a &&& b == 0) := by
  rw [u32_and_nat a b ha hb, Bool.eq_iff_iff, beq_iff_eq, beq_iff_eq]
  omega

end Go.Proofs.YtekeeodnjlebcaaDoor
