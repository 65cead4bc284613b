/- The laws TwoSolves, TwoSolve, TwoReaches, TwoStucks. -/
import Derived.Test.YtekeeodnjlebcaaJSpec
import Derived.Test.YtekeeodnjlebcaaTwR
namespace Go.Proofs.Ytekeeodnjlebcaa
open Go.RowKit

set_option maxHeartbeats 1000000 in
theorem TwoSolves_with (hF : JSolveOk 4) (n : Int) (rs : List Cla) (A : Option Addr) (c : Nat) (w : World) (h32 : W32 rs) (hm : rs.length ≤ maxLen) (hr : Row w A (rulesC rs)) (hX : Laid w) :
    Calls Try.prog 3 #[.int .i64 n, .slice A rs.length c] w fun e w' => e = .returned (.bool true) ∧ Below w.heap.size w w' := by
  have key := hF n rs A c w h32 hm hr hX
  by_cases hc : codeD n rs = 0
  · rw [codeE_ok hc, solD_ok hc] at key
    obtain ⟨n, rfl, hn1, hn6, hl, hg, hcc⟩ := codeD_zero hc
    have HC := Lib.hid hc
    cases hfs : firstS n rs with
    | none =>
      rw [codeS_none hcc hfs, solS_none hcc hfs] at key
      have HF := Lib.hid hfs
      clear hc hfs hcc
      go_enter Try.func3, Try.ntmps3
      go_wp2_with fail
      refine key.mono ?_
      rintro e w1 ⟨rfl, hb1⟩
      clear key
      go_wp2_with fail
      refine (TwoCheck_any n rs A c _ (hr.below hb1) h32 hm).mono ?_
      rintro e w2 ⟨rfl, hb2⟩
      have hb12 := hb1.trans (hb2.mono hb1.size)
      rw [HC.out]
      clear hb2
      go_wp2_with fail
      refine (First_any n rs A c _ hn6 (hr.below hb12) h32 hm).mono ?_
      rintro e w3 ⟨rfl, hb3⟩
      rw [HF.out]
      have HB := Lib.hid (hb12.trans (hb3.mono hb12.size))
      clear hb3 hb1 hb12
      go_wp2
      go_ret
      exact ⟨rfl, HB.out⟩
    | some s =>
      rw [codeS_some hcc hfs, solS_some hcc hfs] at key
      have HF := Lib.hid hfs
      clear hc hfs hcc
      go_enter Try.func3, Try.ntmps3
      go_wp2_with fail
      refine key.mono ?_
      rintro e w1 ⟨rfl, hb1⟩
      clear key
      go_wp2_with fail
      refine (TwoCheck_any n rs A c _ (hr.below hb1) h32 hm).mono ?_
      rintro e w2 ⟨rfl, hb2⟩
      have hb12 := hb1.trans (hb2.mono hb1.size)
      rw [HC.out]
      clear hb2
      go_wp2_with fail
      refine (First_any n rs A c _ hn6 (hr.below hb12) h32 hm).mono ?_
      rintro e w3 ⟨rfl, hb3⟩
      rw [HF.out]
      have HB := Lib.hid (hb12.trans (hb3.mono hb12.size))
      clear hb3 hb1 hb12
      go_wp2
      go_ret
      exact ⟨ret_bool (by simp), HB.out⟩
  · rw [codeE_err hc, solD_err hc] at key
    go_enter Try.func3, Try.ntmps3
    go_wp2_with fail
    refine key.mono ?_
    rintro e w1 ⟨rfl, hb1⟩
    clear key
    go_wp2_with fail
    refine (TwoCheck_any n rs A c _ (hr.below hb1) h32 hm).mono ?_
    rintro e w2 ⟨rfl, hb2⟩
    have hb12 := hb1.trans (hb2.mono hb1.size)
    clear hb2 hb1
    generalize codeD n rs = k at *
    have hk2 : (k != 0) = true := by simpa using hc
    clear hc
    go_wp2
    go_ret
    exact ⟨ret_bool (by simp), hb12⟩

theorem or_add {q v : Nat} (h : q < one v) : q ||| one v = q + one v := by
  have := Nat.two_pow_add_eq_or_of_lt (i := v) h 1
  unfold one at *
  rw [Nat.mul_one] at this
  rw [Nat.or_comm, ← this, Nat.add_comm]

end Go.Proofs.Ytekeeodnjlebcaa
