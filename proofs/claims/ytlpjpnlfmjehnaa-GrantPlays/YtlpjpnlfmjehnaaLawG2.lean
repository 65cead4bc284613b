/- The law GrantPlays, walked from the contract of Play. -/
import Derived.Test.YtlpjpnlfmjehnaaGSpec
import Derived.Test.YtlpjpnlfmjehnaaWG3
import Derived.Test.YtlpjpnlfmjehnaaWM1
import Derived.Test.YtlpjpnlfmjehnaaGr3
namespace Go.Proofs.Ytlpjpnlfmjehnaa
open Go.RowKit

set_option maxHeartbeats 2000000 in
theorem GrantPlays_with {fn : Nat} (hfn : fn = 8) (hP : GPlayOk fn) (n : Int) (es : List Ed) (A : Option Addr) (c : Nat) (ds : List Dd) (A3 : Option Addr) (c3 : Nat) (w : World) (hm : es.length ≤ maxLen) (hcap : es.length ≤ c) (h32 : E32 es) (hr : Row w A (edgesC es)) (hm3 : ds.length ≤ maxLen) (hcap3 : ds.length ≤ c3) (hp32 : ∀ d ∈ ds, d.parts < 4294967296) (hr3 : Row w A3 (deedsC ds)) (hX : Laid w) :
    Calls Try.prog 3 #[.int .i64 n, .slice A es.length c, .slice A3 ds.length c3] w fun e w' => e = .returned (.bool true) ∧ Below w.heap.size w w' := by
  subst hfn
  have HK := Lib.hid (hP n es A c ds A3 c3 w hm hcap h32 hr hm3 hcap3 hp32 hr3 hX)
  have HKE := Lib.hid (fun W (hb : Below w.heap.size w W) => EdgesCheck_any n es A c W (hr.below hb))
  clear hX hcap hcap3
  by_cases hc : codeGP n es ds.length = 0
  · obtain ⟨g1, g2⟩ := codeGP_zero hc
    obtain ⟨o1, o2, o3, o4⟩ := codeE_zero g2
    obtain ⟨n, rfl⟩ := Int.eq_ofNat_of_zero_le (show 0 ≤ n by omega)
    have HKG := Lib.hid (fun W (hb : Below w.heap.size w W) => refGrant_any n es ds A A3 c c3 W g2 h32 hp32 (by omega) (hr.below hb) (hr3.below hb))
    have hF := fineG_run (l := ds) g2 h32 hp32
    have HLe := Lib.hid (edgesG_len hF.2.1)
    have HLc := Lib.hid (runG_length n es ds)
    have HR := Lib.hid (fun codes N ge (h : GRes n es ds codes N ge) => show codes = (runG n es ds).1 ∧ N = (runG n es ds).2.n ∧ ge = edgesG (runG n es ds).2 by
      unfold GRes at h
      rw [if_pos hc] at h
      simpa only [Int.toNat_natCast] using h)
    rw [hc] at HK
    rw [g2] at HKE
    unfold GrPost at HKG
    have hnd : decide (30 < (ds.length : Int)) = false := by rw [decide_eq_false_iff_not]; omega
    generalize (runG n es ds).1 = xc at *
    generalize (runG n es ds).2.n = xn at *
    generalize edgesG (runG n es ds).2 = xe at *
    clear hF hc g2 o1 o2 o3 o4 h32 hp32 hr hr3 hm hm3
    go_enter Try.func3, Try.ntmps3
    go_wp2_with fail
    refine HK.out.mono ?_
    rintro e w1 ⟨B1, k1, codes, N, B2, k2, ge, rfl, hres, r1, r2, hb1⟩
    obtain ⟨hq1, hq2, hq3⟩ := HR.out _ _ _ hres
    subst hq1 hq2 hq3
    clear hres
    have HM1 := Lib.hid (((RowsM.nil w).grow hb1).newAlloc (cs := #[.slice B1 codes.length k1, .int .i64 (xn : Int), .slice B2 ge.length k2]) (t := 26) 3 1 (by decide) rfl)
    have HW1 := Lib.hid ((Below.refl w1.heap.size w1).alloc (Nat.le_refl _) (.cells #[.slice B1 codes.length k1, .int .i64 (xn : Int), .slice B2 ge.length k2] 26))
    have HRw := Lib.hid (And.intro r1 r2)
    clear r1 r2 hb1
    go_wp2_with fail
    refine (HKE.out _ HM1.out.below).mono ?_
    rintro e w2 ⟨rfl, hb2⟩
    have HM2 := Lib.hid ((HM1.out.grow hb2).newAlloc (cs := #[.slice none 0 0, .int .i64 0, .slice none 0 0]) (t := 26) 3 1 (by decide) rfl)
    have HW2 := Lib.hid ((HW1.out.trans (hb2.mono HW1.out.size)).alloc (HW1.out.trans (hb2.mono HW1.out.size)).size (.cells #[.slice none 0 0, .int .i64 0, .slice none 0 0] 26))
    have HG := Lib.hid (show w1.heap.size ≤ w2.heap.size from (HW1.out.trans (hb2.mono HW1.out.size)).size)
    have z0 := HM2.out.cell (k := 1) rfl (j := 0) rfl
    clear hb2 HM1 HW1
    go_wp2_with fail
    refine (HKG.out _ HM2.out.below).mono ?_
    rintro e w3 ⟨Bc, cc, Be, ce, rfl, q1, q2, hb3⟩
    have HM3 := Lib.hid (HM2.out.grow hb3)
    have HW3 := Lib.hid (HW2.out.trans (hb3.mono HW2.out.size))
    generalize hs2 : w2.heap.size = s2 at *
    have n1 : (Value.slice Bc codes.length cc).ownBlock ≠ some s2 := fun e => by
      have := (World.ownsRow.lt q1 s2 e).1
      simp at this
      omega
    have n2 : (Value.slice Be ge.length ce).ownBlock ≠ some s2 := fun e => by
      have := (World.ownsRow.lt q2 s2 e).1
      simp at this
      omega
    have f0 := HM3.out.free (k := 1) rfl 0
    have f1 := HM3.out.free (k := 1) rfl 1
    have f2 := HM3.out.free (k := 1) rfl 2
    have x0 := HM3.out.cell (k := 1) rfl (j := 0) rfl
    have x1 := HM3.out.cell (k := 1) rfl (j := 1) rfl
    have x2 := HM3.out.cell (k := 1) rfl (j := 2) rfl
    have hn := ((HM3.out.store (k := 1) rfl 0 (.slice Bc codes.length cc)).store (k := 1) rfl 1 (.int .i64 (xn : Int))).store (k := 1) rfl 2 (.slice Be ge.length ce)
    have hwn := ((HW3.out.setCell (p := ⟨s2, 0, none⟩) HG.out (.slice Bc codes.length cc)).setCell (p := ⟨s2, 1, none⟩) HG.out (.int .i64 (xn : Int))).setCell (p := ⟨s2, 2, none⟩) HG.out (.slice Be ge.length ce)
    have hq1 := own_far (own_far (own_far q1 (a := ⟨s2, 0, none⟩) (.slice Bc codes.length cc) n1) (a := ⟨s2, 1, none⟩) (.int .i64 (xn : Int)) n1) (a := ⟨s2, 2, none⟩) (.slice Be ge.length ce) n1
    have hq2 := own_far (own_far (own_far q2 (a := ⟨s2, 0, none⟩) (.slice Bc codes.length cc) n2) (a := ⟨s2, 1, none⟩) (.int .i64 (xn : Int)) n2) (a := ⟨s2, 2, none⟩) (.slice Be ge.length ce) n2
    clear q1 q2 n1 n2 hb3
    generalize hw4 : ((w3.setCell ⟨s2, 0, none⟩ (.slice Bc codes.length cc)).setCell ⟨s2, 1, none⟩ (.int .i64 (xn : Int))).setCell ⟨s2, 2, none⟩ (.slice Be ge.length ce) = w4 at hn hwn hq1 hq2
    have a0 := hn.cell (k := 0) rfl (j := 0) rfl
    have a1 := hn.cell (k := 0) rfl (j := 1) rfl
    have a2 := hn.cell (k := 0) rfl (j := 2) rfl
    have b0 := hn.cell (k := 1) rfl (j := 0) rfl
    have b1 := hn.cell (k := 1) rfl (j := 1) rfl
    have b2 := hn.cell (k := 1) rfl (j := 2) rfl
    obtain ⟨_, _, e1, _, p1⟩ := own_row hq1
    obtain ⟨_, _, e2, _, p2⟩ := own_row hq2
    simp only [Value.slice.injEq, true_and] at e1 e2
    obtain ⟨rfl, rfl⟩ := e1
    obtain ⟨rfl, rfl⟩ := e2
    have kk1 := Codes_any codes codes B1 Bc k1 cc w4 (HRw.out.1.below hwn) p1 (by rw [HLc.out]; omega) (by rw [HLc.out]; omega)
    have kk2 := fun d => Edges_any ge ge B2 Be k2 ce (w4.drewN d) ((HRw.out.2.below hwn).drewN d) (p2.drewN d) (by have := HLe.out; omega) (by have := HLe.out; omega)
    rw [decide_eq_true (rfl : codes = codes)] at kk1
    rw [decide_eq_true (rfl : ge = ge)] at kk2
    have HB4 := Lib.hid hn.below
    clear hn hwn hq1 hq2 p1 p2
    go_wp2_with fail
    refine kk1.mono ?_
    rintro e w5 ⟨rfl, d5, rfl⟩
    go_wp2_with fail
    refine (kk2 _).mono ?_
    rintro e w6 ⟨rfl, d6, rfl⟩
    go_wp2
    go_ret
    exact ⟨rfl, by first | exact below_drewN (below_drewN HB4.out _) _ | exact below_drewN HB4.out _⟩
  · have HR := Lib.hid (fun codes N ge (h : GRes n es ds codes N ge) => show codes = [] ∧ N = 0 ∧ ge = [] by
      unfold GRes at h
      rw [if_neg hc] at h
      exact h)
    by_cases hl : 30 < ds.length
    · rw [show codeGP n es ds.length = 1 from if_pos hl] at HK
      have hnd : decide (30 < (ds.length : Int)) = true := by rw [decide_eq_true_iff]; omega
      generalize codeE n es = q0 at *
      clear hc h32 hp32 hr hr3 hm hm3
      go_enter Try.func3, Try.ntmps3
      go_wp2_with fail
      refine HK.out.mono ?_
      rintro e w1 ⟨B1, k1, codes, N, B2, k2, ge, rfl, hres, r1, r2, hb1⟩
      obtain ⟨rfl, rfl, rfl⟩ := HR.out _ _ _ hres
      clear hres r1 r2
      simp only [List.length_nil]
      have HM1 := Lib.hid (((RowsM.nil w).grow hb1).newAlloc (cs := #[.slice B1 0 k1, .int .i64 0, .slice B2 0 k2]) (t := 26) 3 1 (by decide) rfl)
      clear hb1
      go_wp2_with fail
      refine (HKE.out _ HM1.out.below).mono ?_
      rintro e w2 ⟨rfl, hb2⟩
      have HM2 := Lib.hid ((HM1.out.grow hb2).newAlloc (cs := #[.slice none 0 0, .int .i64 0, .slice none 0 0]) (t := 26) 3 1 (by decide) rfl)
      clear hb2 HM1
      have a0 := HM2.out.cell (k := 0) rfl (j := 0) rfl
      have a1 := HM2.out.cell (k := 0) rfl (j := 1) rfl
      have a2 := HM2.out.cell (k := 0) rfl (j := 2) rfl
      have b0 := HM2.out.cell (k := 1) rfl (j := 0) rfl
      have b1 := HM2.out.cell (k := 1) rfl (j := 1) rfl
      have b2 := HM2.out.cell (k := 1) rfl (j := 2) rfl
      have kk1 := fun W => Codes_any [] [] B1 none k1 0 W (.inl rfl) (.inl rfl) (by simp) (by simp)
      have kk2 := fun W => Edges_any [] [] B2 none k2 0 W (.inl rfl) (.inl rfl) (by simp) (by simp)
      simp only [decide_true, List.length_nil] at kk1 kk2
      go_wp2_with fail
      refine (kk1 _).mono ?_
      rintro e w5 ⟨rfl, d5, rfl⟩
      go_wp2_with fail
      refine (kk2 _).mono ?_
      rintro e w6 ⟨rfl, d6, rfl⟩
      go_wp2
      go_ret
      exact ⟨rfl, by first | exact below_drewN (below_drewN HM2.out.below _) _ | exact below_drewN HM2.out.below _⟩
    · rw [show codeGP n es ds.length = codeE n es from if_neg hl] at HK hc
      have hnd : decide (30 < (ds.length : Int)) = false := by rw [decide_eq_false_iff_not]; omega
      generalize codeE n es = q0 at *
      have hq0 : (q0 == 0) = false := by rw [beq_eq_false_iff_ne]; exact hc
      clear hc h32 hp32 hr hr3 hm hm3
      go_enter Try.func3, Try.ntmps3
      go_wp2_with fail
      refine HK.out.mono ?_
      rintro e w1 ⟨B1, k1, codes, N, B2, k2, ge, rfl, hres, r1, r2, hb1⟩
      obtain ⟨rfl, rfl, rfl⟩ := HR.out _ _ _ hres
      clear hres r1 r2
      simp only [List.length_nil]
      have HM1 := Lib.hid (((RowsM.nil w).grow hb1).newAlloc (cs := #[.slice B1 0 k1, .int .i64 0, .slice B2 0 k2]) (t := 26) 3 1 (by decide) rfl)
      clear hb1
      go_wp2_with fail
      refine (HKE.out _ HM1.out.below).mono ?_
      rintro e w2 ⟨rfl, hb2⟩
      have HM2 := Lib.hid ((HM1.out.grow hb2).newAlloc (cs := #[.slice none 0 0, .int .i64 0, .slice none 0 0]) (t := 26) 3 1 (by decide) rfl)
      clear hb2 HM1
      have a0 := HM2.out.cell (k := 0) rfl (j := 0) rfl
      have a1 := HM2.out.cell (k := 0) rfl (j := 1) rfl
      have a2 := HM2.out.cell (k := 0) rfl (j := 2) rfl
      have b0 := HM2.out.cell (k := 1) rfl (j := 0) rfl
      have b1 := HM2.out.cell (k := 1) rfl (j := 1) rfl
      have b2 := HM2.out.cell (k := 1) rfl (j := 2) rfl
      have kk1 := fun W => Codes_any [] [] B1 none k1 0 W (.inl rfl) (.inl rfl) (by simp) (by simp)
      have kk2 := fun W => Edges_any [] [] B2 none k2 0 W (.inl rfl) (.inl rfl) (by simp) (by simp)
      simp only [decide_true, List.length_nil] at kk1 kk2
      go_wp2_with fail
      refine (kk1 _).mono ?_
      rintro e w5 ⟨rfl, d5, rfl⟩
      go_wp2_with fail
      refine (kk2 _).mono ?_
      rintro e w6 ⟨rfl, d6, rfl⟩
      go_wp2
      go_ret
      exact ⟨rfl, by first | exact below_drewN (below_drewN HM2.out.below _) _ | exact below_drewN HM2.out.below _⟩

end Go.Proofs.Ytlpjpnlfmjehnaa
