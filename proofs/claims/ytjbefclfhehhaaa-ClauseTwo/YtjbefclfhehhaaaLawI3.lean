/- The law ClauseTwo. -/
import Derived.Test.YtjbefclfhehhaaaLawI1
namespace Go.Proofs.Ytjbefclfhehhaaa
open Go.RowKit

set_option maxHeartbeats 2000000 in
theorem ClauseTwo_with (hF : ISolveOk 9) (hG : IRefuteOk 15) (n : Int) (rs : List Cla) (A : Option Addr) (c : Nat) (w : World) (h32 : W32 rs) (hm : rs.length ≤ maxLen) (hr : Row w A (rulesC rs)) (hX : Laid w) :
    Calls Try.prog 6 #[.int .i64 n, .slice A rs.length c] w fun e w' => e = .returned (.bool true) ∧ Below w.heap.size w w' := by
  have key := hF n rs A c w h32 hm hr hX
  have key2 := fun W (hb : Below w.heap.size w W) => hG n rs A c W h32 hm (hr.below hb) (hX.below hb)
  by_cases hc : codeC n rs = 0
  · obtain ⟨n, rfl, hn1, hn6, hl, hf⟩ := codeC_zero hc
    have HC := Lib.hid hc
    have h1n := one_int n (by omega)
    have h64 := one_le_64 hn6
    cases hfs : firstS n rs with
    | none =>
      rw [codeS_none hc hfs, solS_none hc hfs] at key
      rw [codeU_none hc hfs] at key2
      clear hc hfs
      go_enter Try.func6, Try.ntmps6
      go_wp2_with fail
      refine key.mono ?_
      rintro e w1 ⟨rfl, hb1⟩
      have K2 := key2 w1 hb1
      clear key key2
      go_wp2_with fail
      refine K2.mono ?_
      rintro e w2 ⟨A2, c2, ps, rfl, hyes, _, hpl, hrow, hb2⟩
      have HY := Lib.hid (hyes (by first | exact trivial | rfl))
      have hb12 := hb1.trans (hb2.mono hb1.size)
      clear hyes hb2 hb1 K2
      go_wp2_with fail
      refine (sat_any n rs A c _ (hr.below hb12)).mono ?_
      rintro e w3 ⟨rfl, hb3⟩
      have hb13 := hb12.trans (hb3.mono hb12.size)
      have hrow3 := hrow.below hb3
      rw [HC.out]
      clear hb3 hb12
      go_wp2_with fail
      refine (Refutes_any rs A c ps A2 c2 _ (hr.below hb13) h32 (by omega) hrow3 hpl).mono ?_
      rintro e w4 ⟨rfl, hb4⟩
      rw [HY.out]
      have HB := Lib.hid (hb13.trans (hb4.mono hb13.size))
      clear hb4
      go_wp2
      go_ret
      exact ⟨rfl, HB.out⟩
    | some s =>
      rw [codeS_some hc hfs, solS_some hc hfs] at key
      rw [codeU_some hc hfs] at key2
      obtain ⟨hs1, hs2, _⟩ := first_some.1 hfs
      have HT := Lib.hid hs2
      clear hc hfs hs2
      go_enter Try.func6, Try.ntmps6
      go_wp2_with fail
      refine key.mono ?_
      rintro e w1 ⟨rfl, hb1⟩
      have K2 := key2 w1 hb1
      clear key key2
      go_wp2_with fail
      refine K2.mono ?_
      rintro e w2 ⟨A2, c2, ps, rfl, _, hno, hpl, hrow, hb2⟩
      obtain rfl := hno (by decide)
      have hb12 := hb1.trans (hb2.mono hb1.size)
      clear hb2 hb1 K2
      go_wp2_with fail
      refine (sat_any n rs A c _ (hr.below hb12)).mono ?_
      rintro e w3 ⟨rfl, hb3⟩
      have hb13 := hb12.trans (hb3.mono hb12.size)
      rw [HC.out]
      clear hb3 hb12
      go_wp2_with fail
      refine (True_any rs A c s _ (hr.below hb13) h32 (by omega) hm).mono ?_
      rintro e w4 ⟨rfl, hb4⟩
      rw [HT.out]
      have HB := Lib.hid (hb13.trans (hb4.mono hb13.size))
      clear hb4
      go_wp2
      go_ret
      exact ⟨rfl, HB.out⟩
  · rw [codeS_err hc, solS_err hc] at key
    rw [codeU_err hc] at key2
    go_enter Try.func6, Try.ntmps6
    go_wp2_with fail
    refine key.mono ?_
    rintro e w1 ⟨rfl, hb1⟩
    have K2 := key2 w1 hb1
    clear key key2
    go_wp2_with fail
    refine K2.mono ?_
    rintro e w2 ⟨A2, c2, ps, rfl, _, hno, hpl, hrow, hb2⟩
    have hb12 := hb1.trans (hb2.mono hb1.size)
    clear hb2 hb1 K2 hno
    go_wp2_with fail
    refine (sat_any n rs A c _ (hr.below hb12)).mono ?_
    rintro e w3 ⟨rfl, hb3⟩
    have hb13 := hb12.trans (hb3.mono hb12.size)
    clear hb3 hb12
    generalize codeC n rs = k at *
    have hk1 : (k == 0) = false := by simpa using hc
    have hk2 : (k != 0) = true := by simpa using hc
    clear hc
    go_wp2
    go_ret
    exact ⟨rfl, hb13⟩

end Go.Proofs.Ytjbefclfhehhaaa
