/- The laws on Build and Read by what the document asks, and Bryant's first; from contracts. -/
import Derived.Test.YtnoehmokaeegeaaHSpec
namespace Go.Proofs.Ytnoehmokaeegeaa
open Go.RowKit

set_option maxRecDepth 100000 in
set_option maxHeartbeats 2000000 in
theorem ChoiceBuilds_with (hF : HBuildOk 8) (n : Int) (f : List Bool) (A : Option Addr) (c : Nat) (w : World) (hm : f.length ≤ maxLen) (hr : Row w A (boolsC f)) (hX : Laid w) :
    Calls Try.prog 3 #[.int .i64 n, .slice A f.length c] w fun e w' => e = .returned (.bool true) ∧ Below w.heap.size w w' := by
  have key := hF n f A c w hm hr hX
  by_cases hc : codeT n f.length = 0
  · obtain ⟨k, rfl, hk, hl⟩ := codeT_zero hc
    have h16 := one_le_16 hk
    rw [hc, if_pos rfl, Int.toNat_natCast] at key
    have HC := Lib.hid hc
    have HLn := Lib.hid hl
    clear hc hl
    go_enter Try.func3, Try.ntmps3
    go_wp2_with fail
    refine key.mono ?_
    rintro e w1 ⟨A2, c2, l, r, rfl, hlr, hr2, hb1, hk1⟩
    have HLR := Lib.hid hlr
    have hll : l.length ≤ 15 := by have := (small_code hk (atB f)).2; rw [← hlr] at this; exact this
    clear hlr key
    go_wp2_with fail
    refine (TruthCheck_any k f A c _ hm).mono ?_
    rintro e w2 ⟨rfl, rfl⟩
    rw [HC.out]
    go_wp2_with fail
    refine (Grow_any k hk f A c _ HLn.out (hr.below hb1)).mono ?_
    rintro e w2 ⟨A3, c3, l3, r3, rfl, hlr3, hr3, hb2⟩
    obtain ⟨e1, e2⟩ : l = l3 ∧ r = r3 := by
      have := HLR.out.trans (show small k (atB f) = (l3, r3) from hlr3.symm)
      simpa using this
    subst e1 e2
    have hbo := Branches_any l l A2 A3 c2 c3 w2 (hr2.below hb2) hr3 (by unfold maxLen; omega) (by unfold maxLen; omega)
    rw [decide_eq_true rfl] at hbo
    have hb12 := hb1.trans (hb2.mono hb1.size)
    clear hb2 hlr3
    go_wp2_with fail
    refine hbo.mono ?_
    rintro e w3 ⟨rfl, d, rfl⟩
    go_wp2
    go_ret
    exact ⟨rfl, below_drewN hb12 _⟩
  · have HC := Lib.hid hc
    rw [if_neg hc] at key
    generalize hq : codeT n f.length = q at *
    have HQ := Lib.hid hq
    have hq0 : q ≠ 0 := HC.out
    clear hc hq
    go_enter Try.func3, Try.ntmps3
    go_wp2_with fail
    refine key.mono ?_
    rintro e w1 ⟨A2, c2, l, r, rfl, hlr, hr2, hb1, hk1⟩
    obtain ⟨rfl, rfl⟩ : l = [] ∧ r = 0 := by simpa using hlr
    go_wp2_with fail
    refine (TruthCheck_any n f A c _ hm).mono ?_
    rintro e w2 ⟨rfl, rfl⟩
    rw [HQ.out]
    go_wp2
    go_ret
    exact ⟨rfl, hb1⟩

set_option maxRecDepth 100000 in
set_option maxHeartbeats 2000000 in
theorem ChoiceReads_with (hF : HReadOk 12) (n : Int) (l : List Nd) (A : Option Addr) (c : Nat) (root : Int) (w : World) (hm : l.length ≤ maxLen) (hcp : l.length ≤ c) (hr : Row w A (nodesC l)) (hX : Laid w) :
    Calls Try.prog 4 #[.int .i64 n, .slice A l.length c, .int .i64 root] w fun e w' => e = .returned (.bool true) ∧ Below w.heap.size w w' := by
  have key := hF n l A c root w hm hcp hr hX
  by_cases hc : codeD n l root = 0
  · obtain ⟨k, rfl, hk, hl, hg, h0, h1⟩ := codeD_zero hc
    have h16 := one_le_16 hk
    rw [hc, if_pos rfl, Int.toNat_natCast] at key
    have HC := Lib.hid hc
    clear hc
    go_enter Try.func4, Try.ntmps4
    go_wp2_with fail
    refine key.mono ?_
    rintro e w1 ⟨A2, c2, f, rfl, hf, hr2, hb1⟩
    have HFf := Lib.hid hf
    have hfl : f.length ≤ 16 := by rw [hf]; simp; omega
    clear hf key
    go_wp2_with fail
    refine (treeCode_any k l A c root _ hm (hr.below hb1)).mono ?_
    rintro e w2 ⟨rfl, hb2⟩
    rw [HC.out]
    have hb12 := hb1.trans (hb2.mono hb1.size)
    go_wp2_with fail
    refine (refRead_any k hk l A c root _ hl (hr.below hb12) hg h0 h1).mono ?_
    rintro e w3 ⟨v, rfl, hown, hb3⟩
    obtain ⟨A3, c3, rfl, hr3, _⟩ := hown.row
    have hbo := Bools_any f (tabB (one k) (tell l root)) A2 A3 c2 c3 w3 ((hr2.below hb2).below hb3) hr3 (by omega) (by simp; omega)
    rw [tabB_length, decide_eq_true HFf.out] at hbo
    have hb13 := hb12.trans (hb3.mono hb12.size)
    clear hown hb3 hb2
    go_wp2_with fail
    refine hbo.mono ?_
    rintro e w4 ⟨rfl, d, rfl⟩
    go_wp2
    go_ret
    exact ⟨rfl, below_drewN hb13 _⟩
  · have HC := Lib.hid hc
    rw [if_neg hc] at key
    generalize hq : codeD n l root = q at *
    have HQ := Lib.hid hq
    have hq0 : q ≠ 0 := HC.out
    clear hc hq
    go_enter Try.func4, Try.ntmps4
    go_wp2_with fail
    refine key.mono ?_
    rintro e w1 ⟨A2, c2, f, rfl, rfl, hr2, hb1⟩
    go_wp2_with fail
    refine (treeCode_any n l A c root _ hm (hr.below hb1)).mono ?_
    rintro e w2 ⟨rfl, hb2⟩
    rw [HQ.out]
    have hb12 := hb1.trans (hb2.mono hb1.size)
    clear hb2
    go_wp2
    go_ret
    exact ⟨rfl, hb12⟩

set_option maxRecDepth 100000 in
set_option maxHeartbeats 4000000 in
theorem ChoiceOne_with (hF : HBuildOk 8) (hR : HReadOk 12) (n : Int) (f : List Bool) (A : Option Addr) (c : Nat) (g : List Bool) (B : Option Addr) (d : Nat) (w : World) (hm : f.length ≤ maxLen) (hr : Row w A (boolsC f)) (hm2 : g.length ≤ maxLen) (hr2 : Row w B (boolsC g)) (hX : Laid w) :
    Calls Try.prog 6 #[.int .i64 n, .slice A f.length c, .slice B g.length d] w fun e w' => e = .returned (.bool true) ∧ Below w.heap.size w w' := by
  have key := hF n f A c w hm hr hX
  have key2 := fun w1 hb => hF n g B d w1 hm2 (hr2.below hb) (hX.below hb)
  by_cases hcf : codeT n f.length = 0
  · by_cases hcg : codeT n g.length = 0
    · obtain ⟨k, rfl, hk, hl⟩ := codeT_zero hcf
      have HLg := Lib.hid (show g.length = one k by obtain ⟨k', e', _, h'⟩ := codeT_zero hcg; obtain rfl : k = k' := (by omega); exact h')
      have h16 := one_le_16 hk
      have hf16 : f.length ≤ 16 := by omega
      have hg16 : g.length ≤ 16 := by rw [HLg.out]; exact h16
      rw [hcf, if_pos rfl, Int.toNat_natCast] at key
      rw [hcg, if_pos rfl, Int.toNat_natCast] at key2
      have HCf := Lib.hid hcf
      have HCg := Lib.hid hcg
      have HLf := Lib.hid hl
      clear hcf hcg hl
      go_enter Try.func6, Try.ntmps6
      go_wp2_with fail
      refine key.mono ?_
      rintro e w1 ⟨A1, c1, a, x, rfl, hax, hr1, hb1, hk1⟩
      have HA := Lib.hid hax
      clear hax key
      go_wp2_with fail
      refine (key2 w1 hb1).mono ?_
      rintro e w2 ⟨A3, c3, b, y, rfl, hby, hr3, hb2, hk2⟩
      have HB := Lib.hid hby
      have hb12 := hb1.trans (hb2.mono hb1.size)
      clear hby key2
      go_wp2_with fail
      refine (stated_any k f A c _ hm).mono ?_
      rintro e w2' ⟨rfl, rfl⟩
      rw [HCf.out, show ((0 : Int) == 0) = true from rfl]
      go_wp2_with fail
      refine (stated_any k g B d _ hm2).mono ?_
      rintro e w2' ⟨rfl, rfl⟩
      rw [HCg.out, show ((0 : Int) == 0) = true from rfl]
      have hal : a.length ≤ 15 := by have := (small_code hk (atB f)).2; rw [← HA.out] at this; exact this
      have hbl : b.length ≤ 15 := by have := (small_code hk (atB g)).2; rw [← HB.out] at this; exact this
      have hcd : codeD k a x = 0 := by have := small_codeD hk (atB f); rw [← HA.out] at this; exact this
      have key3 := hR k a A1 c1 x w2 (by unfold maxLen; omega) hk1 (hr1.below hb2) (hX.below hb12)
      rw [hcd, if_pos rfl, Int.toNat_natCast] at key3
      have htab : tabB (one k) (tell a x) = f := by
        have h1 := tabB_self f
        rw [HLf.out] at h1
        rw [← h1]
        refine tabB_congr fun s hs => ?_
        have := small_tell (F := atB f) hs
        rw [← HA.out] at this
        exact this
      rw [htab] at key3
      have HSame := Lib.hid (show (x = y ∧ a = b) ↔ f = g from ⟨fun h => small_inj HLf.out HLg.out (by rw [← HA.out, ← HB.out, h.1, h.2]), fun h => by
        have := HA.out
        rw [h, ← HB.out] at this
        simp at this
        exact ⟨this.2, this.1⟩⟩)
      have hr1' := hr1.below hb2
      clear htab hcd hr1 hb2 hb1
      go_wp2_with fail
      refine key3.mono ?_
      rintro e w3 ⟨A4, c4, t, rfl, rfl, hr4, hb3⟩
      have hb13 := hb12.trans (hb3.mono hb12.size)
      have hra := hr1'.below hb3
      have hrb := hr3.below hb3
      have hrf := hr.below hb13
      have hrg := hr2.below hb13
      have hbr := Branches_any a b A1 A3 c1 c3 w3 hra hrb (by unfold maxLen; omega) (by unfold maxLen; omega)
      clear hb3 key3 hr1' hr3
      by_cases hxy : x = y
      · have hxx : (x == y) = true := by simp [hxy]
        go_wp2_with fail
        refine hbr.mono ?_
        rintro e w4 ⟨rfl, d4, rfl⟩
        have hbo1 := Bools_any t t A4 A c4 c (w3.drewN d4) hr4 hrf (by omega) (by omega)
        rw [decide_eq_true rfl] at hbo1
        go_wp2_with fail
        refine hbo1.mono ?_
        rintro e w5 ⟨rfl, d5, rfl⟩
        have hbo2 := fun q => Bools_any t g A B c d (w3.drewN q) hrf hrg (by omega) (by omega)
        have HD := Lib.hid (show decide (t = g) = decide (a = b) by
          rw [decide_eq_decide]
          exact ⟨fun h => (HSame.out.2 h).2, fun h => HSame.out.1 ⟨hxy, h⟩⟩)
        go_wp2_with fail
        refine (hbo2 _).mono ?_
        rintro e w6 ⟨rfl, d6, rfl⟩
        rw [HD.out]
        go_wp2
        go_ret
        exact ⟨ret_bool (by simp), by first | exact below_drewN hb13 _ | exact below_drewN (below_drewN hb13 _) _⟩
      · have hxx : (x == y) = false := by simpa using hxy
        have hbo1 := Bools_any t t A4 A c4 c w3 hr4 hrf (by omega) (by omega)
        rw [decide_eq_true rfl] at hbo1
        go_wp2_with fail
        refine hbo1.mono ?_
        rintro e w5 ⟨rfl, d5, rfl⟩
        have hbo2 := fun q => Bools_any t g A B c d (w3.drewN q) hrf hrg (by omega) (by omega)
        have HD := Lib.hid (show decide (t = g) = false by
          rw [decide_eq_false_iff_not]
          exact fun h => hxy (HSame.out.2 h).1)
        go_wp2_with fail
        refine (hbo2 _).mono ?_
        rintro e w6 ⟨rfl, d6, rfl⟩
        rw [HD.out]
        go_wp2
        go_ret
        exact ⟨by rfl, by first | exact below_drewN hb13 _ | exact below_drewN (below_drewN hb13 _) _⟩
    · rw [hcf] at key
      have HCf := Lib.hid hcf
      have HG := Lib.hid (show (codeT n g.length == 0) = false by simpa using hcg)
      generalize hq : codeT n g.length = q at key2
      have hq0 : q ≠ 0 := by rw [← hq]; exact hcg
      have HQ := Lib.hid hq
      clear hcf hcg hq
      go_enter Try.func6, Try.ntmps6
      go_wp2_with fail
      refine key.mono ?_
      rintro e w1 ⟨A1, c1, a, x, rfl, hax, hr1, hb1, hk1⟩
      clear hax key
      go_wp2_with fail
      refine (key2 w1 hb1).mono ?_
      rintro e w2 ⟨A3, c3, b, y, rfl, hby, hr3, hb2, hk2⟩
      have hb12 := hb1.trans (hb2.mono hb1.size)
      clear hby key2 hb2
      go_wp2_with fail
      refine (stated_any n f A c _ hm).mono ?_
      rintro e w2' ⟨rfl, rfl⟩
      rw [HCf.out, show ((0 : Int) == 0) = true from rfl]
      go_wp2_with fail
      refine (stated_any n g B d _ hm2).mono ?_
      rintro e w2' ⟨rfl, rfl⟩
      rw [HG.out]
      go_wp2
      go_ret
      exact ⟨ret_bool (by simpa using hq0), hb12⟩
  · have HG := Lib.hid (show (codeT n f.length == 0) = false by simpa using hcf)
    generalize hq : codeT n f.length = q at key
    have hq0 : q ≠ 0 := by rw [← hq]; exact hcf
    have HQ := Lib.hid hq
    clear hcf hq
    go_enter Try.func6, Try.ntmps6
    go_wp2_with fail
    refine key.mono ?_
    rintro e w1 ⟨A1, c1, a, x, rfl, hax, hr1, hb1, hk1⟩
    clear hax key
    go_wp2_with fail
    refine (key2 w1 hb1).mono ?_
    rintro e w2 ⟨A3, c3, b, y, rfl, hby, hr3, hb2, hk2⟩
    have hb12 := hb1.trans (hb2.mono hb1.size)
    clear hby key2 hb2
    go_wp2_with fail
    refine (stated_any n f A c _ hm).mono ?_
    rintro e w2' ⟨rfl, rfl⟩
    rw [HG.out]
    go_wp2
    go_ret
    exact ⟨rfl, hb12⟩

end Go.Proofs.Ytnoehmokaeegeaa
