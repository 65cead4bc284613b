/- The law WallFewest. -/
import Derived.Test.YtdiaglaokgehbaaWW1
namespace Go.Proofs.Ytdiaglaokgehbaa
open Go.RowKit

set_option maxHeartbeats 1000000 in
theorem WallFewest_with (hF : WFewestOk 29) (fi : List Int) (A : Option Addr) (c : Nat) (cl : List Int) (A2 : Option Addr) (c2 : Nat) (w : World) (hm : fi.length ≤ maxLen) (hcap : fi.length ≤ c) (hr : Row w A (ints fi)) (hm2 : cl.length ≤ maxLen) (hcap2 : cl.length ≤ c2) (h64 : ∀ x ∈ cl, (Lit.int .i64 x).wf = true) (hr2 : Row w A2 (ints cl)) (hX : Laid w) :
    Calls Try.prog 10 #[.slice A fi.length c, .slice A2 cl.length c2] w fun e w' => e = .returned (.bool true) ∧ Below w.heap.size w w' := by
  have key := hF fi A c cl A2 c2 w hm hcap hr hm2 hcap2 h64 hr2 hX
  have kc := fun W h => FirmsCheck_any fi cl A A2 c c2 W h
  by_cases hc : codeF fi cl = 0
  · obtain ⟨g1, g2, _⟩ := codeF_zero hc
    have kf := fun W h h2 => refFewest_any fi cl A A2 c c2 W h h2 g1 g2
    rw [hc, if_pos rfl] at key
    rw [hc] at kc
    clear hc
    generalize mostW fi cl cl.length = m at *
    go_enter Try.func10, Try.ntmps10
    go_wp2_with fail
    refine key.mono ?_
    rintro e w1 ⟨rfl, hb1⟩
    have HB := Lib.hid hb1
    clear key hb1
    go_wp2_with fail
    refine (kc _ (hr.below HB.out)).mono ?_
    rintro e w2 ⟨rfl, rfl⟩
    go_wp2_with fail
    refine (kf _ (hr.below HB.out) (hr2.below HB.out)).mono ?_
    rintro e w3 ⟨rfl, hb3⟩
    have HB3 := Lib.hid (HB.out.trans (hb3.mono HB.out.size))
    clear hb3
    go_wp2
    go_ret
    exact ⟨by first | rfl | simp, HB3.out⟩
  · have hne : (codeF fi cl != 0) = true := by simpa using hc
    rw [if_neg hc] at key
    generalize codeF fi cl = q at *
    clear hc
    go_enter Try.func10, Try.ntmps10
    go_wp2_with fail
    refine key.mono ?_
    rintro e w1 ⟨rfl, hb1⟩
    have HB := Lib.hid hb1
    clear key hb1
    go_wp2_with fail
    refine (kc _ (hr.below HB.out)).mono ?_
    rintro e w2 ⟨rfl, rfl⟩
    go_wp2
    go_ret
    exact ⟨by first | rfl | simp, HB.out⟩

end Go.Proofs.Ytdiaglaokgehbaa
