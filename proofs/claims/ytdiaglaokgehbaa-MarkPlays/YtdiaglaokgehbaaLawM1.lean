/- The law MarkPlays (this text is written by wip/mkM1.py). -/
import Derived.Test.YtdiaglaokgehbaaMSpec
import Derived.Test.YtdiaglaokgehbaaWM2u
import Derived.Test.YtdiaglaokgehbaaMRow
namespace Go.Proofs.Ytdiaglaokgehbaa
open Go.RowKit

set_option maxHeartbeats 2000000 in
theorem MarkPlays_with (hF : MPlayOk 13 true) (cs : List Lab) (A : Option Addr) (c : Nat) (ts : List Lab) (A2 : Option Addr) (c2 : Nat) (ds : List Dd) (A3 : Option Addr) (c3 : Nat) (w : World)
    (hm : cs.length ≤ maxLen) (hcap : cs.length ≤ c) (h32 : L32 cs) (hr : Row w A (labsC cs)) (hm2 : ts.length ≤ maxLen) (hcap2 : ts.length ≤ c2) (h322 : L32 ts) (hr2 : Row w A2 (labsC ts)) (hm3 : ds.length ≤ maxLen) (hcap3 : ds.length ≤ c3) (hr3 : Row w A3 (deedsC ds)) (hX : Laid w) :
    Calls Try.prog 3 #[.slice A cs.length c, .slice A2 ts.length c2, .slice A3 ds.length c3] w fun e w' => e = .returned (.bool true) ∧ Below w.heap.size w w' := by
  have key := hF cs A c ts A2 c2 ds A3 c3 w hm hcap h32 hr hm2 hcap2 h322 hr2 hm3 hcap3 hr3 hX
  have kc := fun W h1 h2 => MarkCheck_any cs ts A A2 c c2 ds.length W h1 h2
  clear hX h32 h322 hcap hcap2 hcap3
  by_cases hc : codeM cs ts ds.length = 0
  · have km := fun W h1 h2 h3 => Mark_up cs ts ds A A2 A3 c c2 c3 W hc h1 h2 h3
    obtain ⟨g1, g2, g3, g4, _, _⟩ := codeM_zero hc
    have HR := Lib.hid (fun codes marks fr (h : MRes true cs ts ds codes marks fr) => show codes = _ ∧ marks = _ ∧ fr = _ by unfold MRes at h; rw [if_pos hc] at h; exact h)
    have HLen := Lib.hid (show (runM true (atL cs) (atL ts) cs.length ts.length ds).1.length = ds.length from run_length ds)
    rw [hc] at key kc
    clear hc
    generalize (runM true (atL cs) (atL ts) cs.length ts.length ds).1 = xc at *
    generalize hxm : tabA cs.length (runM true (atL cs) (atL ts) cs.length ts.length ds).2.mar = xm at *
    generalize hxf : tabA ts.length (runM true (atL cs) (atL ts) cs.length ts.length ds).2.fr = xf at *
    have HLm := Lib.hid (show xm.length = cs.length by rw [← hxm, tabA_length])
    have HLf := Lib.hid (show xf.length = ts.length by rw [← hxf, tabA_length])
    clear hxm hxf
    have HK := Lib.hid key
    have HKC := Lib.hid kc
    have HKM := Lib.hid km
    clear key kc km
    go_enter Try.func3, Try.ntmps3
    go_wp2_with fail
    refine HK.out.mono ?_
    rintro e w1 ⟨B1, k1, codes, B2, k2, marks, B3, k3, fr, rfl, hres, _, r1, r2, r3, hb1⟩
    obtain ⟨hq1, hq2, hq3⟩ := HR.out _ _ _ hres
    subst hq1
    subst hq2
    subst hq3
    clear hres
    have hba := hb1.alloc hb1.size (.cells #[.slice B1 codes.length k1, .slice B2 marks.length k2, .slice B3 fr.length k3] 27)
    have HM0 := Lib.hid (heap_alloc_new w1 (.cells #[.slice B1 codes.length k1, .slice B2 marks.length k2, .slice B3 fr.length k3] 27))
    have HBA := Lib.hid hba
    have HB1 := Lib.hid hb1
    have HR1 := Lib.hid (And.intro r1 (And.intro r2 r3))
    clear hba r1 r2 r3 hb1
    go_wp2_with fail
    refine (HKC.out _ (hr.below HBA.out) (hr2.below HBA.out)).mono ?_
    rintro e w2 ⟨rfl, hb2⟩
    have HB2 := Lib.hid (HBA.out.trans (hb2.mono HBA.out.size))
    have HM2 := Lib.hid (lblk_keep hb2 HM0.out)
    have HW2 := Lib.hid (((Below.refl w1.heap.size w1).alloc (Nat.le_refl _) (.cells #[.slice B1 codes.length k1, .slice B2 marks.length k2, .slice B3 fr.length k3] 27)).trans (hb2.mono (Below.size ((Below.refl w1.heap.size w1).alloc (Nat.le_refl _) (.cells #[.slice B1 codes.length k1, .slice B2 marks.length k2, .slice B3 fr.length k3] 27)))))
    have HZ2 := Lib.hid (heap_alloc_new w2 (.cells #[.slice none 0 0, .slice none 0 0, .slice none 0 0] 27))
    have HBZ := Lib.hid (HB2.out.alloc HB2.out.size (.cells #[.slice none 0 0, .slice none 0 0, .slice none 0 0] 27))
    have HMZ := Lib.hid (lblk_alloc HM2.out (.cells #[.slice none 0 0, .slice none 0 0, .slice none 0 0] 27))
    have HWZ := Lib.hid (HW2.out.alloc HW2.out.size (.cells #[.slice none 0 0, .slice none 0 0, .slice none 0 0] 27))
    clear hb2
    go_wp2_with fail
    refine (HKM.out _ (hr.below HBZ.out) (hr2.below HBZ.out) (hr3.below HBZ.out)).mono ?_
    rintro e w3 ⟨Ac, cc, Am, cm, Af, cf, rfl, _, q1, q2, q3, hb3⟩
    have hz3 := lblk_keep hb3 HZ2.out
    have hm3' := lblk_keep hb3 HMZ.out
    have HB3 := Lib.hid (HBZ.out.trans (hb3.mono HBZ.out.size))
    have HW3 := Lib.hid (HWZ.out.trans (hb3.mono HWZ.out.size))
    have hlt1 : w1.heap.size < w2.heap.size := lt_of_block HM2.out
    obtain ⟨z0, z1, z2⟩ : w3.cell? ⟨w2.heap.size, 0, none⟩ = some (.slice none 0 0) ∧ w3.cell? ⟨w2.heap.size, 1, none⟩ = some (.slice none 0 0) ∧ w3.cell? ⟨w2.heap.size, 2, none⟩ = some (.slice none 0 0) :=
      ⟨cell_of_row w3 _ 0 _ _ _ hz3, cell_of_row w3 _ 1 _ _ _ hz3, cell_of_row w3 _ 2 _ _ _ hz3⟩
    have y0 : w3.frozen? ⟨w2.heap.size, 0, none⟩ = false := by simp [World.frozen?, hz3]
    have y1 : w3.frozen? ⟨w2.heap.size, 1, none⟩ = false := by simp [World.frozen?, hz3]
    have y2 : w3.frozen? ⟨w2.heap.size, 2, none⟩ = false := by simp [World.frozen?, hz3]
    have hz4 := (set_blk (u := .slice Af ts.length cf) (set_blk (u := .slice Am cs.length cm) (set_blk (u := .slice Ac codes.length cc) hz3).1).2.1).2.2
    have hm4 := lother (v := .slice Af ts.length cf) (o := 2) (lother (v := .slice Am cs.length cm) (o := 1) (lother (v := .slice Ac codes.length cc) (o := 0) hm3' (show w1.heap.size ≠ w2.heap.size by omega)) (show w1.heap.size ≠ w2.heap.size by omega)) (show w1.heap.size ≠ w2.heap.size by omega)
    have hq1 := ((q1.farC hz3 (ints_int _) 0 (.slice Ac codes.length cc)).farC (set_blk (u := .slice Ac codes.length cc) hz3).1 (ints_int _) 1 (.slice Am cs.length cm)).farC (set_blk (u := .slice Am cs.length cm) (set_blk (u := .slice Ac codes.length cc) hz3).1).2.1 (ints_int _) 2 (.slice Af ts.length cf)
    have hq2 := ((q2.farC hz3 (labsC_int _) 0 (.slice Ac codes.length cc)).farC (set_blk (u := .slice Ac codes.length cc) hz3).1 (labsC_int _) 1 (.slice Am cs.length cm)).farC (set_blk (u := .slice Am cs.length cm) (set_blk (u := .slice Ac codes.length cc) hz3).1).2.1 (labsC_int _) 2 (.slice Af ts.length cf)
    have hq3 := ((q3.farC hz3 (words_int _) 0 (.slice Ac codes.length cc)).farC (set_blk (u := .slice Ac codes.length cc) hz3).1 (words_int _) 1 (.slice Am cs.length cm)).farC (set_blk (u := .slice Am cs.length cm) (set_blk (u := .slice Ac codes.length cc) hz3).1).2.1 (words_int _) 2 (.slice Af ts.length cf)
    have hB4 := ((HB3.out.setCell (p := ⟨w2.heap.size, 0, none⟩) HB2.out.size (.slice Ac codes.length cc)).setCell (p := ⟨w2.heap.size, 1, none⟩) HB2.out.size (.slice Am cs.length cm)).setCell (p := ⟨w2.heap.size, 2, none⟩) HB2.out.size (.slice Af ts.length cf)
    have hW4 := ((HW3.out.setCell (p := ⟨w2.heap.size, 0, none⟩) HW2.out.size (.slice Ac codes.length cc)).setCell (p := ⟨w2.heap.size, 1, none⟩) HW2.out.size (.slice Am cs.length cm)).setCell (p := ⟨w2.heap.size, 2, none⟩) HW2.out.size (.slice Af ts.length cf)
    clear hb3 q1 q2 q3 hm3' hlt1
    generalize hw4 : ((w3.setCell ⟨w2.heap.size, 0, none⟩ (.slice Ac codes.length cc)).setCell ⟨w2.heap.size, 1, none⟩ (.slice Am cs.length cm)).setCell ⟨w2.heap.size, 2, none⟩ (.slice Af ts.length cf) = w4 at hz4 hm4 hq1 hq2 hq3 hB4 hW4
    clear hz3
    obtain ⟨a0, a1, a2⟩ : w4.cell? ⟨w2.heap.size, 0, none⟩ = some (.slice Ac codes.length cc) ∧ w4.cell? ⟨w2.heap.size, 1, none⟩ = some (.slice Am cs.length cm) ∧ w4.cell? ⟨w2.heap.size, 2, none⟩ = some (.slice Af ts.length cf) :=
      ⟨cell_of_row w4 _ 0 _ _ _ hz4, cell_of_row w4 _ 1 _ _ _ hz4, cell_of_row w4 _ 2 _ _ _ hz4⟩
    obtain ⟨b0, b1, b2⟩ : w4.cell? ⟨w1.heap.size, 0, none⟩ = some (.slice B1 codes.length k1) ∧ w4.cell? ⟨w1.heap.size, 1, none⟩ = some (.slice B2 marks.length k2) ∧ w4.cell? ⟨w1.heap.size, 2, none⟩ = some (.slice B3 fr.length k3) :=
      ⟨cell_of_row w4 _ 0 _ _ _ hm4, cell_of_row w4 _ 1 _ _ _ hm4, cell_of_row w4 _ 2 _ _ _ hm4⟩
    have kk1 := Codes_any codes codes B1 Ac k1 cc w4 (HR1.out.1.below hW4) hq1 (by rw [HLen.out]; omega) (by rw [HLen.out]; omega)
    have kk2 := fun d => Labels_any marks marks B2 Am k2 cm (w4.drewN d) ((HR1.out.2.1.below hW4).drewN d) (hq2.drewN d) (by rw [HLm.out]; exact hm) (by rw [HLm.out]; exact hm)
    have kk3 := fun d => Words_any fr fr B3 Af k3 cf (w4.drewN d) ((HR1.out.2.2.below hW4).drewN d) (hq3.drewN d) (by rw [HLf.out]; omega) (by rw [HLf.out]; omega)
    rw [decide_eq_true (rfl : codes = codes)] at kk1
    rw [decide_eq_true (rfl : marks = marks), HLm.out] at kk2
    rw [decide_eq_true (rfl : fr = fr), HLf.out] at kk3
    rw [HLm.out] at b1
    rw [HLf.out] at b2
    have HB4 := Lib.hid hB4
    clear hz4 hm4 hq1 hq2 hq3 hB4 hW4
    go_wp2_with fail
    refine kk1.mono ?_
    rintro e w5 ⟨rfl, d5, rfl⟩
    go_wp2_with fail
    refine (kk2 _).mono ?_
    rintro e w6 ⟨rfl, d6, rfl⟩
    go_wp2_with fail
    refine (kk3 _).mono ?_
    rintro e w7 ⟨rfl, d7, rfl⟩
    go_wp2
    go_ret
    exact ⟨rfl, by first | exact below_drewN (below_drewN (below_drewN HB4.out _) _) _ | exact below_drewN (below_drewN HB4.out _) _ | exact below_drewN HB4.out _⟩
  · have HR := Lib.hid (fun codes marks fr (h : MRes true cs ts ds codes marks fr) => show codes = [] ∧ marks = [] ∧ fr = [] by unfold MRes at h; rw [if_neg hc] at h; exact h)
    have hne : (codeM cs ts ds.length == 0) = false := by simpa using hc
    generalize codeM cs ts ds.length = q at *
    clear hc
    have HK := Lib.hid key
    have HKC := Lib.hid kc
    clear key kc
    go_enter Try.func3, Try.ntmps3
    go_wp2_with fail
    refine HK.out.mono ?_
    rintro e w1 ⟨B1, k1, codes, B2, k2, marks, B3, k3, fr, rfl, hres, _, r1, r2, r3, hb1⟩
    obtain ⟨rfl, rfl, rfl⟩ := HR.out _ _ _ hres
    clear hres r1 r2 r3
    simp only [List.length_nil]
    have hba := hb1.alloc hb1.size (.cells #[.slice B1 0 k1, .slice B2 0 k2, .slice B3 0 k3] 27)
    have HM0 := Lib.hid (heap_alloc_new w1 (.cells #[.slice B1 0 k1, .slice B2 0 k2, .slice B3 0 k3] 27))
    have HBA := Lib.hid hba
    clear hba hb1
    go_wp2_with fail
    refine (HKC.out _ (hr.below HBA.out) (hr2.below HBA.out)).mono ?_
    rintro e w2 ⟨rfl, hb2⟩
    have hb3 := HBA.out.trans (hb2.mono HBA.out.size)
    have HB3 := Lib.hid (hb3.alloc hb3.size (.cells #[.slice none 0 0, .slice none 0 0, .slice none 0 0] 27))
    have hm := lblk_alloc (lblk_keep hb2 HM0.out) (.cells #[.slice none 0 0, .slice none 0 0, .slice none 0 0] 27)
    have hz := heap_alloc_new w2 (.cells #[.slice none 0 0, .slice none 0 0, .slice none 0 0] 27)
    clear hb2 hb3
    obtain ⟨a0, a1, a2⟩ : (w2.alloc (.cells #[.slice none 0 0, .slice none 0 0, .slice none 0 0] 27)).cell? ⟨w2.heap.size, 0, none⟩ = some (.slice none 0 0) ∧ (w2.alloc (.cells #[.slice none 0 0, .slice none 0 0, .slice none 0 0] 27)).cell? ⟨w2.heap.size, 1, none⟩ = some (.slice none 0 0) ∧ (w2.alloc (.cells #[.slice none 0 0, .slice none 0 0, .slice none 0 0] 27)).cell? ⟨w2.heap.size, 2, none⟩ = some (.slice none 0 0) :=
      ⟨cell_of_row _ _ 0 _ _ _ hz, cell_of_row _ _ 1 _ _ _ hz, cell_of_row _ _ 2 _ _ _ hz⟩
    obtain ⟨b0, b1, b2⟩ : (w2.alloc (.cells #[.slice none 0 0, .slice none 0 0, .slice none 0 0] 27)).cell? ⟨w1.heap.size, 0, none⟩ = some (.slice B1 0 k1) ∧ (w2.alloc (.cells #[.slice none 0 0, .slice none 0 0, .slice none 0 0] 27)).cell? ⟨w1.heap.size, 1, none⟩ = some (.slice B2 0 k2) ∧ (w2.alloc (.cells #[.slice none 0 0, .slice none 0 0, .slice none 0 0] 27)).cell? ⟨w1.heap.size, 2, none⟩ = some (.slice B3 0 k3) :=
      ⟨cell_of_row _ _ 0 _ _ _ hm, cell_of_row _ _ 1 _ _ _ hm, cell_of_row _ _ 2 _ _ _ hm⟩
    have kk1 := Codes_any [] [] B1 none k1 0 (w2.alloc (.cells #[.slice none 0 0, .slice none 0 0, .slice none 0 0] 27)) (.inl rfl) (.inl rfl) (by simp) (by simp)
    have kk2 := fun d => Labels_any [] [] B2 none k2 0 ((w2.alloc (.cells #[.slice none 0 0, .slice none 0 0, .slice none 0 0] 27)).drewN d) (.inl rfl) (.inl rfl) (by simp [maxLen]) (by simp [maxLen])
    have kk3 := fun d => Words_any [] [] B3 none k3 0 ((w2.alloc (.cells #[.slice none 0 0, .slice none 0 0, .slice none 0 0] 27)).drewN d) (.inl rfl) (.inl rfl) (by simp) (by simp)
    simp only [decide_true, List.length_nil] at kk1 kk2 kk3
    clear hm hz
    go_wp2_with fail
    refine kk1.mono ?_
    rintro e w5 ⟨rfl, d5, rfl⟩
    go_wp2_with fail
    refine (kk2 _).mono ?_
    rintro e w6 ⟨rfl, d6, rfl⟩
    go_wp2_with fail
    refine (kk3 _).mono ?_
    rintro e w7 ⟨rfl, d7, rfl⟩
    go_wp2
    go_ret
    exact ⟨rfl, by first | exact below_drewN (below_drewN (below_drewN HB3.out _) _) _ | exact below_drewN (below_drewN HB3.out _) _ | exact below_drewN HB3.out _⟩

end Go.Proofs.Ytdiaglaokgehbaa
