/- The law WallPlays (this text is written by wip/mkW3.py). -/
import Derived.Test.YtdiaglaokgehbaaWW2
import Derived.Test.YtdiaglaokgehbaaMRow
import Derived.Test.YtdiaglaokgehbaaWM1
namespace Go.Proofs.Ytdiaglaokgehbaa
open Go.RowKit

/-- The contract of the reference's Wall. -/
def WallRefOk (fn : Nat) : Prop :=
  ∀ (nc : Nat) (fi cl : List Int) (ds : List Dd) (A A2 A3 : Option Addr) (c c2 c3 : Nat) (w : World), 1 ≤ nc → nc ≤ 5 → ds.length ≤ 30 → codeF fi cl = 0 → Row w A (ints fi) → Row w A2 (ints cl) → Row w A3 (deedsC ds) →
    Calls Try.prog fn #[.int .i64 (nc : Int), .slice A fi.length c, .slice A2 cl.length c2, .slice A3 ds.length c3] w fun e w' => ∃ B1 k1 B2 k2 B3 k3,
      e = .returned (.agg #[.slice B1 (runW fi cl nc fi.length ds).1.length k1, .slice B2 nc k2, .slice B3 fi.length k3]) ∧
      Row w' B1 (ints (runW fi cl nc fi.length ds).1) ∧ Row w' B2 (words (tabA nc (runW fi cl nc fi.length ds).2.rd)) ∧ Row w' B3 (words (tabA fi.length (runW fi cl nc fi.length ds).2.fr)) ∧ Below w.heap.size w w'

set_option maxHeartbeats 4000000 in
theorem WallPlays_with (hF : WPlayOk 26) (hW : WallRefOk 28) (who : Int) (fi : List Int) (A : Option Addr) (c : Nat) (cl : List Int) (A2 : Option Addr) (c2 : Nat) (ds : List Dd) (A3 : Option Addr) (c3 : Nat) (w : World)
    (hm : fi.length ≤ maxLen) (hcap : fi.length ≤ c) (hr : Row w A (ints fi)) (hm2 : cl.length ≤ maxLen) (hcap2 : cl.length ≤ c2) (hr2 : Row w A2 (ints cl)) (hm3 : ds.length ≤ maxLen) (hcap3 : ds.length ≤ c3) (hr3 : Row w A3 (deedsC ds)) (hX : Laid w) :
    Calls Try.prog 9 #[.int .i64 who, .slice A fi.length c, .slice A2 cl.length c2, .slice A3 ds.length c3] w fun e w' => e = .returned (.bool true) ∧ Below w.heap.size w w' := by
  have key := hF who fi A c cl A2 c2 ds A3 c3 w hm hcap hr hm2 hcap2 hr2 hm3 hcap3 hr3 hX
  have kc := fun W h => FirmsCheck_any fi cl A A2 c c2 W h
  clear hX hcap hcap2 hcap3
  by_cases hc : codeP who fi cl ds.length = 0
  · obtain ⟨nc, rfl, g1, g2, g3, hcf⟩ := codeP_zero hc
    obtain ⟨g4, g5, g6⟩ := codeF_zero hcf
    have km := fun W h1 h2 h3 => hW nc fi cl ds A A2 A3 c c2 c3 W g1 g2 g3 hcf h1 h2 h3
    have HR := Lib.hid (fun codes rd fr (h : WRes nc fi cl ds codes rd fr) => show codes = (runW fi cl nc fi.length ds).1 ∧ rd = tabA nc (runW fi cl nc fi.length ds).2.rd ∧ fr = tabA fi.length (runW fi cl nc fi.length ds).2.fr by unfold WRes at h; rw [if_pos hc] at h; simpa only [Int.toNat_natCast] using h)
    have HLen := Lib.hid (show (runW fi cl nc fi.length ds).1.length = ds.length from runW_length ds)
    rw [hc] at key
    rw [hcf] at kc
    clear hc hcf g6
    generalize (runW fi cl nc fi.length ds).1 = xc at *
    generalize hxm : tabA nc (runW fi cl nc fi.length ds).2.rd = xm at *
    generalize hxf : tabA fi.length (runW fi cl nc fi.length ds).2.fr = xf at *
    have HLm := Lib.hid (show xm.length = nc by rw [← hxm, tabA_length])
    have HLf := Lib.hid (show xf.length = fi.length by rw [← hxf, tabA_length])
    clear hxm hxf
    have HK := Lib.hid key
    have HKC := Lib.hid kc
    have HKM := Lib.hid km
    clear key kc km
    go_enter Try.func9, Try.ntmps9
    go_wp2_with fail
    refine HK.out.mono ?_
    rintro e w1 ⟨B1, k1, codes, B2, k2, rd, B3, k3, fr, rfl, hres, r1, r2, r3, hb1⟩
    obtain ⟨hq1, hq2, hq3⟩ := HR.out _ _ _ hres
    subst hq1
    subst hq2
    subst hq3
    clear hres
    have hba := hb1.alloc hb1.size (.cells #[.slice B1 codes.length k1, .slice B2 rd.length k2, .slice B3 fr.length k3] 49)
    have HM0 := Lib.hid (heap_alloc_new w1 (.cells #[.slice B1 codes.length k1, .slice B2 rd.length k2, .slice B3 fr.length k3] 49))
    have hba2 := (Below.refl w1.heap.size w1).alloc (Nat.le_refl _) (.cells #[.slice B1 codes.length k1, .slice B2 rd.length k2, .slice B3 fr.length k3] 49)
    have HBA := Lib.hid hba
    have HR1 := Lib.hid (And.intro (r1.below hba2) (And.intro (r2.below hba2) (r3.below hba2)))
    clear hba r1 r2 r3 hb1 hba2
    go_wp2_with fail
    refine (HKC.out _ (hr.below HBA.out)).mono ?_
    rintro e w2 ⟨rfl, rfl⟩
    generalize w1.heap.size = s1 at *
    generalize w1.alloc _ = w2 at *
    have HZ2 := Lib.hid (heap_alloc_new w2 (.cells #[.slice none 0 0, .slice none 0 0, .slice none 0 0] 49))
    have HBZ := Lib.hid (HBA.out.alloc HBA.out.size (.cells #[.slice none 0 0, .slice none 0 0, .slice none 0 0] 49))
    have HMZ := Lib.hid (lblk_alloc HM0.out (.cells #[.slice none 0 0, .slice none 0 0, .slice none 0 0] 49))
    have HWZ := Lib.hid ((Below.refl w2.heap.size w2).alloc (Nat.le_refl _) (.cells #[.slice none 0 0, .slice none 0 0, .slice none 0 0] 49))
    go_wp2_with fail
    refine (HKM.out _ (hr.below HBZ.out) (hr2.below HBZ.out) (hr3.below HBZ.out)).mono ?_
    rintro e w3 ⟨Ac, cc, Ar, cr, Af, cf, rfl, q1, q2, q3, hb3⟩
    have hz3 := lblk_keep hb3 HZ2.out
    have hm3' := lblk_keep hb3 HMZ.out
    have HB3 := Lib.hid (HBZ.out.trans (hb3.mono HBZ.out.size))
    have HW3 := Lib.hid (HWZ.out.trans (hb3.mono HWZ.out.size))
    have hlt1 : s1 < w2.heap.size := lt_of_block HM0.out
    obtain ⟨z0, z1, z2⟩ : w3.cell? ⟨w2.heap.size, 0, none⟩ = some (.slice none 0 0) ∧ w3.cell? ⟨w2.heap.size, 1, none⟩ = some (.slice none 0 0) ∧ w3.cell? ⟨w2.heap.size, 2, none⟩ = some (.slice none 0 0) :=
      ⟨cell_of_row w3 _ 0 _ _ _ hz3, cell_of_row w3 _ 1 _ _ _ hz3, cell_of_row w3 _ 2 _ _ _ hz3⟩
    have y0 : w3.frozen? ⟨w2.heap.size, 0, none⟩ = false := by simp [World.frozen?, hz3]
    have y1 : w3.frozen? ⟨w2.heap.size, 1, none⟩ = false := by simp [World.frozen?, hz3]
    have y2 : w3.frozen? ⟨w2.heap.size, 2, none⟩ = false := by simp [World.frozen?, hz3]
    have hz4 := (set_blk (u := (.slice Af fi.length cf)) (set_blk (u := (.slice Ar nc cr)) (set_blk (u := (.slice Ac codes.length cc)) hz3).1).2.1).2.2
    have hm4 := lother (v := (.slice Af fi.length cf)) (o := 2) (lother (v := (.slice Ar nc cr)) (o := 1) (lother (v := (.slice Ac codes.length cc)) (o := 0) hm3' (show s1 ≠ w2.heap.size by omega)) (show s1 ≠ w2.heap.size by omega)) (show s1 ≠ w2.heap.size by omega)
    have hq1 := (((q1.farC hz3 (ints_int _) 0 (.slice Ac codes.length cc)).farC (set_blk (u := (.slice Ac codes.length cc)) hz3).1 (ints_int _) 1 (.slice Ar nc cr)).farC (set_blk (u := (.slice Ar nc cr)) (set_blk (u := (.slice Ac codes.length cc)) hz3).1).2.1 (ints_int _) 2 (.slice Af fi.length cf))
    have hq2 := (((q2.farC hz3 (words_int _) 0 (.slice Ac codes.length cc)).farC (set_blk (u := (.slice Ac codes.length cc)) hz3).1 (words_int _) 1 (.slice Ar nc cr)).farC (set_blk (u := (.slice Ar nc cr)) (set_blk (u := (.slice Ac codes.length cc)) hz3).1).2.1 (words_int _) 2 (.slice Af fi.length cf))
    have hq3 := (((q3.farC hz3 (words_int _) 0 (.slice Ac codes.length cc)).farC (set_blk (u := (.slice Ac codes.length cc)) hz3).1 (words_int _) 1 (.slice Ar nc cr)).farC (set_blk (u := (.slice Ar nc cr)) (set_blk (u := (.slice Ac codes.length cc)) hz3).1).2.1 (words_int _) 2 (.slice Af fi.length cf))
    have hB4 := ((HB3.out.setCell (p := ⟨w2.heap.size, 0, none⟩) HBA.out.size (.slice Ac codes.length cc)).setCell (p := ⟨w2.heap.size, 1, none⟩) HBA.out.size (.slice Ar nc cr)).setCell (p := ⟨w2.heap.size, 2, none⟩) HBA.out.size (.slice Af fi.length cf)
    have hW4 := ((HW3.out.setCell (p := ⟨w2.heap.size, 0, none⟩) (Nat.le_refl _) (.slice Ac codes.length cc)).setCell (p := ⟨w2.heap.size, 1, none⟩) (Nat.le_refl _) (.slice Ar nc cr)).setCell (p := ⟨w2.heap.size, 2, none⟩) (Nat.le_refl _) (.slice Af fi.length cf)
    clear hb3 q1 q2 q3 hm3' hlt1
    generalize hw4 : ((w3.setCell ⟨w2.heap.size, 0, none⟩ (.slice Ac codes.length cc)).setCell ⟨w2.heap.size, 1, none⟩ (.slice Ar nc cr)).setCell ⟨w2.heap.size, 2, none⟩ (.slice Af fi.length cf) = w4 at hz4 hm4 hq1 hq2 hq3 hB4 hW4
    clear hz3
    obtain ⟨a0, a1, a2⟩ : w4.cell? ⟨w2.heap.size, 0, none⟩ = some (.slice Ac codes.length cc) ∧ w4.cell? ⟨w2.heap.size, 1, none⟩ = some (.slice Ar nc cr) ∧ w4.cell? ⟨w2.heap.size, 2, none⟩ = some (.slice Af fi.length cf) :=
      ⟨cell_of_row w4 _ 0 _ _ _ hz4, cell_of_row w4 _ 1 _ _ _ hz4, cell_of_row w4 _ 2 _ _ _ hz4⟩
    obtain ⟨b0, b1, b2⟩ : w4.cell? ⟨s1, 0, none⟩ = some (.slice B1 codes.length k1) ∧ w4.cell? ⟨s1, 1, none⟩ = some (.slice B2 rd.length k2) ∧ w4.cell? ⟨s1, 2, none⟩ = some (.slice B3 fr.length k3) :=
      ⟨cell_of_row w4 _ 0 _ _ _ hm4, cell_of_row w4 _ 1 _ _ _ hm4, cell_of_row w4 _ 2 _ _ _ hm4⟩
    have kk1 := Codes_any codes codes B1 Ac k1 cc w4 (HR1.out.1.below hW4) hq1 (by rw [HLen.out]; omega) (by rw [HLen.out]; omega)
    have kk2 := fun d => Words_any rd rd B2 Ar k2 cr (w4.drewN d) ((HR1.out.2.1.below hW4).drewN d) (hq2.drewN d) (by rw [HLm.out]; omega) (by rw [HLm.out]; omega)
    have kk3 := fun d => Words_any fr fr B3 Af k3 cf (w4.drewN d) ((HR1.out.2.2.below hW4).drewN d) (hq3.drewN d) (by rw [HLf.out]; omega) (by rw [HLf.out]; omega)
    rw [decide_eq_true (rfl : codes = codes)] at kk1
    rw [decide_eq_true (rfl : rd = rd), HLm.out] at kk2
    rw [decide_eq_true (rfl : fr = fr), HLf.out] at kk3
    rw [HLm.out] at b1
    rw [HLf.out] at b2
    have HB4 := Lib.hid hB4
    clear hz4 hm4 hq1 hq2 hq3 hB4 hW4
    go_wp2_with fail
    refine kk1.mono ?_
    rintro e w5 ⟨rfl, d5, rfl⟩
    go_wp2_with fail
    refine (kk2 _).mono ?_
    rintro e w6 ⟨rfl, d6, rfl⟩
    go_wp2_with fail
    refine (kk3 _).mono ?_
    rintro e w7 ⟨rfl, d7, rfl⟩
    go_wp2
    go_ret
    exact ⟨rfl, by first | exact below_drewN (below_drewN (below_drewN HB4.out _) _) _ | exact below_drewN (below_drewN HB4.out _) _ | exact below_drewN HB4.out _⟩
  · have HR := Lib.hid (fun codes rd fr (h : WRes who fi cl ds codes rd fr) => show codes = [] ∧ rd = [] ∧ fr = [] by unfold WRes at h; rw [if_neg hc] at h; exact h)
    by_cases h1 : who < 1
    · have e : codeP who fi cl ds.length = 1 := by unfold codeP; rw [if_pos (by omega)]
      rw [e] at key
      generalize codeF fi cl = q at *
      clear e hc
      have HK := Lib.hid key
      have HKC := Lib.hid kc
      clear key kc
      go_enter Try.func9, Try.ntmps9
      go_wp2_with fail
      refine HK.out.mono ?_
      rintro e w1 ⟨B1, k1, codes, B2, k2, rd, B3, k3, fr, rfl, hres, r1, r2, r3, hb1⟩
      obtain ⟨rfl, rfl, rfl⟩ := HR.out _ _ _ hres
      clear hres r1 r2 r3
      simp only [List.length_nil]
      have hba := hb1.alloc hb1.size (.cells #[.slice B1 0 k1, .slice B2 0 k2, .slice B3 0 k3] 49)
      have HM0 := Lib.hid (heap_alloc_new w1 (.cells #[.slice B1 0 k1, .slice B2 0 k2, .slice B3 0 k3] 49))
      have HBA := Lib.hid hba
      clear hba hb1
      go_wp2_with fail
      refine (HKC.out _ (hr.below HBA.out)).mono ?_
      rintro e w2 ⟨rfl, rfl⟩
      generalize w1.heap.size = s1 at *
      generalize w1.alloc (.cells #[.slice B1 0 k1, .slice B2 0 k2, .slice B3 0 k3] 49) = w2 at *
      have HB3 := Lib.hid (HBA.out.alloc HBA.out.size (.cells #[.slice none 0 0, .slice none 0 0, .slice none 0 0] 49))
      have hm := lblk_alloc HM0.out (.cells #[.slice none 0 0, .slice none 0 0, .slice none 0 0] 49)
      have hz := heap_alloc_new w2 (.cells #[.slice none 0 0, .slice none 0 0, .slice none 0 0] 49)
      obtain ⟨a0, a1, a2⟩ : (w2.alloc (.cells #[.slice none 0 0, .slice none 0 0, .slice none 0 0] 49)).cell? ⟨w2.heap.size, 0, none⟩ = some (.slice none 0 0) ∧ (w2.alloc (.cells #[.slice none 0 0, .slice none 0 0, .slice none 0 0] 49)).cell? ⟨w2.heap.size, 1, none⟩ = some (.slice none 0 0) ∧ (w2.alloc (.cells #[.slice none 0 0, .slice none 0 0, .slice none 0 0] 49)).cell? ⟨w2.heap.size, 2, none⟩ = some (.slice none 0 0) :=
        ⟨cell_of_row _ _ 0 _ _ _ hz, cell_of_row _ _ 1 _ _ _ hz, cell_of_row _ _ 2 _ _ _ hz⟩
      obtain ⟨b0, b1, b2⟩ : (w2.alloc (.cells #[.slice none 0 0, .slice none 0 0, .slice none 0 0] 49)).cell? ⟨s1, 0, none⟩ = some (.slice B1 0 k1) ∧ (w2.alloc (.cells #[.slice none 0 0, .slice none 0 0, .slice none 0 0] 49)).cell? ⟨s1, 1, none⟩ = some (.slice B2 0 k2) ∧ (w2.alloc (.cells #[.slice none 0 0, .slice none 0 0, .slice none 0 0] 49)).cell? ⟨s1, 2, none⟩ = some (.slice B3 0 k3) :=
        ⟨cell_of_row _ _ 0 _ _ _ hm, cell_of_row _ _ 1 _ _ _ hm, cell_of_row _ _ 2 _ _ _ hm⟩
      have kk1 := Codes_any [] [] B1 none k1 0 (w2.alloc (.cells #[.slice none 0 0, .slice none 0 0, .slice none 0 0] 49)) (.inl rfl) (.inl rfl) (by simp) (by simp)
      have kk2 := fun d => Words_any [] [] B2 none k2 0 ((w2.alloc (.cells #[.slice none 0 0, .slice none 0 0, .slice none 0 0] 49)).drewN d) (.inl rfl) (.inl rfl) (by simp) (by simp)
      have kk3 := fun d => Words_any [] [] B3 none k3 0 ((w2.alloc (.cells #[.slice none 0 0, .slice none 0 0, .slice none 0 0] 49)).drewN d) (.inl rfl) (.inl rfl) (by simp) (by simp)
      simp only [decide_true, List.length_nil] at kk1 kk2 kk3
      clear hm hz
      go_wp2_with fail
      refine kk1.mono ?_
      rintro e w5 ⟨rfl, d5, rfl⟩
      go_wp2_with fail
      refine (kk2 _).mono ?_
      rintro e w6 ⟨rfl, d6, rfl⟩
      go_wp2_with fail
      refine (kk3 _).mono ?_
      rintro e w7 ⟨rfl, d7, rfl⟩
      go_wp2
      go_ret
      exact ⟨rfl, by first | exact below_drewN (below_drewN (below_drewN HB3.out _) _) _ | exact below_drewN (below_drewN HB3.out _) _ | exact below_drewN HB3.out _⟩
    · by_cases h2 : 5 < who
      · have e : codeP who fi cl ds.length = 1 := by unfold codeP; rw [if_pos (by omega)]
        rw [e] at key
        generalize codeF fi cl = q at *
        clear e hc
        have HK := Lib.hid key
        have HKC := Lib.hid kc
        clear key kc
        go_enter Try.func9, Try.ntmps9
        go_wp2_with fail
        refine HK.out.mono ?_
        rintro e w1 ⟨B1, k1, codes, B2, k2, rd, B3, k3, fr, rfl, hres, r1, r2, r3, hb1⟩
        obtain ⟨rfl, rfl, rfl⟩ := HR.out _ _ _ hres
        clear hres r1 r2 r3
        simp only [List.length_nil]
        have hba := hb1.alloc hb1.size (.cells #[.slice B1 0 k1, .slice B2 0 k2, .slice B3 0 k3] 49)
        have HM0 := Lib.hid (heap_alloc_new w1 (.cells #[.slice B1 0 k1, .slice B2 0 k2, .slice B3 0 k3] 49))
        have HBA := Lib.hid hba
        clear hba hb1
        go_wp2_with fail
        refine (HKC.out _ (hr.below HBA.out)).mono ?_
        rintro e w2 ⟨rfl, rfl⟩
        generalize w1.heap.size = s1 at *
        generalize w1.alloc (.cells #[.slice B1 0 k1, .slice B2 0 k2, .slice B3 0 k3] 49) = w2 at *
        have HB3 := Lib.hid (HBA.out.alloc HBA.out.size (.cells #[.slice none 0 0, .slice none 0 0, .slice none 0 0] 49))
        have hm := lblk_alloc HM0.out (.cells #[.slice none 0 0, .slice none 0 0, .slice none 0 0] 49)
        have hz := heap_alloc_new w2 (.cells #[.slice none 0 0, .slice none 0 0, .slice none 0 0] 49)
        obtain ⟨a0, a1, a2⟩ : (w2.alloc (.cells #[.slice none 0 0, .slice none 0 0, .slice none 0 0] 49)).cell? ⟨w2.heap.size, 0, none⟩ = some (.slice none 0 0) ∧ (w2.alloc (.cells #[.slice none 0 0, .slice none 0 0, .slice none 0 0] 49)).cell? ⟨w2.heap.size, 1, none⟩ = some (.slice none 0 0) ∧ (w2.alloc (.cells #[.slice none 0 0, .slice none 0 0, .slice none 0 0] 49)).cell? ⟨w2.heap.size, 2, none⟩ = some (.slice none 0 0) :=
          ⟨cell_of_row _ _ 0 _ _ _ hz, cell_of_row _ _ 1 _ _ _ hz, cell_of_row _ _ 2 _ _ _ hz⟩
        obtain ⟨b0, b1, b2⟩ : (w2.alloc (.cells #[.slice none 0 0, .slice none 0 0, .slice none 0 0] 49)).cell? ⟨s1, 0, none⟩ = some (.slice B1 0 k1) ∧ (w2.alloc (.cells #[.slice none 0 0, .slice none 0 0, .slice none 0 0] 49)).cell? ⟨s1, 1, none⟩ = some (.slice B2 0 k2) ∧ (w2.alloc (.cells #[.slice none 0 0, .slice none 0 0, .slice none 0 0] 49)).cell? ⟨s1, 2, none⟩ = some (.slice B3 0 k3) :=
          ⟨cell_of_row _ _ 0 _ _ _ hm, cell_of_row _ _ 1 _ _ _ hm, cell_of_row _ _ 2 _ _ _ hm⟩
        have kk1 := Codes_any [] [] B1 none k1 0 (w2.alloc (.cells #[.slice none 0 0, .slice none 0 0, .slice none 0 0] 49)) (.inl rfl) (.inl rfl) (by simp) (by simp)
        have kk2 := fun d => Words_any [] [] B2 none k2 0 ((w2.alloc (.cells #[.slice none 0 0, .slice none 0 0, .slice none 0 0] 49)).drewN d) (.inl rfl) (.inl rfl) (by simp) (by simp)
        have kk3 := fun d => Words_any [] [] B3 none k3 0 ((w2.alloc (.cells #[.slice none 0 0, .slice none 0 0, .slice none 0 0] 49)).drewN d) (.inl rfl) (.inl rfl) (by simp) (by simp)
        simp only [decide_true, List.length_nil] at kk1 kk2 kk3
        clear hm hz
        go_wp2_with fail
        refine kk1.mono ?_
        rintro e w5 ⟨rfl, d5, rfl⟩
        go_wp2_with fail
        refine (kk2 _).mono ?_
        rintro e w6 ⟨rfl, d6, rfl⟩
        go_wp2_with fail
        refine (kk3 _).mono ?_
        rintro e w7 ⟨rfl, d7, rfl⟩
        go_wp2
        go_ret
        exact ⟨rfl, by first | exact below_drewN (below_drewN (below_drewN HB3.out _) _) _ | exact below_drewN (below_drewN HB3.out _) _ | exact below_drewN HB3.out _⟩
      · by_cases h3 : 30 < ds.length
        · have e : codeP who fi cl ds.length = 1 := by unfold codeP; rw [if_pos (by omega)]
          rw [e] at key
          generalize codeF fi cl = q at *
          clear e hc
          have HK := Lib.hid key
          have HKC := Lib.hid kc
          clear key kc
          go_enter Try.func9, Try.ntmps9
          go_wp2_with fail
          refine HK.out.mono ?_
          rintro e w1 ⟨B1, k1, codes, B2, k2, rd, B3, k3, fr, rfl, hres, r1, r2, r3, hb1⟩
          obtain ⟨rfl, rfl, rfl⟩ := HR.out _ _ _ hres
          clear hres r1 r2 r3
          simp only [List.length_nil]
          have hba := hb1.alloc hb1.size (.cells #[.slice B1 0 k1, .slice B2 0 k2, .slice B3 0 k3] 49)
          have HM0 := Lib.hid (heap_alloc_new w1 (.cells #[.slice B1 0 k1, .slice B2 0 k2, .slice B3 0 k3] 49))
          have HBA := Lib.hid hba
          clear hba hb1
          go_wp2_with fail
          refine (HKC.out _ (hr.below HBA.out)).mono ?_
          rintro e w2 ⟨rfl, rfl⟩
          generalize w1.heap.size = s1 at *
          generalize w1.alloc (.cells #[.slice B1 0 k1, .slice B2 0 k2, .slice B3 0 k3] 49) = w2 at *
          have HB3 := Lib.hid (HBA.out.alloc HBA.out.size (.cells #[.slice none 0 0, .slice none 0 0, .slice none 0 0] 49))
          have hm := lblk_alloc HM0.out (.cells #[.slice none 0 0, .slice none 0 0, .slice none 0 0] 49)
          have hz := heap_alloc_new w2 (.cells #[.slice none 0 0, .slice none 0 0, .slice none 0 0] 49)
          obtain ⟨a0, a1, a2⟩ : (w2.alloc (.cells #[.slice none 0 0, .slice none 0 0, .slice none 0 0] 49)).cell? ⟨w2.heap.size, 0, none⟩ = some (.slice none 0 0) ∧ (w2.alloc (.cells #[.slice none 0 0, .slice none 0 0, .slice none 0 0] 49)).cell? ⟨w2.heap.size, 1, none⟩ = some (.slice none 0 0) ∧ (w2.alloc (.cells #[.slice none 0 0, .slice none 0 0, .slice none 0 0] 49)).cell? ⟨w2.heap.size, 2, none⟩ = some (.slice none 0 0) :=
            ⟨cell_of_row _ _ 0 _ _ _ hz, cell_of_row _ _ 1 _ _ _ hz, cell_of_row _ _ 2 _ _ _ hz⟩
          obtain ⟨b0, b1, b2⟩ : (w2.alloc (.cells #[.slice none 0 0, .slice none 0 0, .slice none 0 0] 49)).cell? ⟨s1, 0, none⟩ = some (.slice B1 0 k1) ∧ (w2.alloc (.cells #[.slice none 0 0, .slice none 0 0, .slice none 0 0] 49)).cell? ⟨s1, 1, none⟩ = some (.slice B2 0 k2) ∧ (w2.alloc (.cells #[.slice none 0 0, .slice none 0 0, .slice none 0 0] 49)).cell? ⟨s1, 2, none⟩ = some (.slice B3 0 k3) :=
            ⟨cell_of_row _ _ 0 _ _ _ hm, cell_of_row _ _ 1 _ _ _ hm, cell_of_row _ _ 2 _ _ _ hm⟩
          have kk1 := Codes_any [] [] B1 none k1 0 (w2.alloc (.cells #[.slice none 0 0, .slice none 0 0, .slice none 0 0] 49)) (.inl rfl) (.inl rfl) (by simp) (by simp)
          have kk2 := fun d => Words_any [] [] B2 none k2 0 ((w2.alloc (.cells #[.slice none 0 0, .slice none 0 0, .slice none 0 0] 49)).drewN d) (.inl rfl) (.inl rfl) (by simp) (by simp)
          have kk3 := fun d => Words_any [] [] B3 none k3 0 ((w2.alloc (.cells #[.slice none 0 0, .slice none 0 0, .slice none 0 0] 49)).drewN d) (.inl rfl) (.inl rfl) (by simp) (by simp)
          simp only [decide_true, List.length_nil] at kk1 kk2 kk3
          clear hm hz
          go_wp2_with fail
          refine kk1.mono ?_
          rintro e w5 ⟨rfl, d5, rfl⟩
          go_wp2_with fail
          refine (kk2 _).mono ?_
          rintro e w6 ⟨rfl, d6, rfl⟩
          go_wp2_with fail
          refine (kk3 _).mono ?_
          rintro e w7 ⟨rfl, d7, rfl⟩
          go_wp2
          go_ret
          exact ⟨rfl, by first | exact below_drewN (below_drewN (below_drewN HB3.out _) _) _ | exact below_drewN (below_drewN HB3.out _) _ | exact below_drewN HB3.out _⟩
        · have e : codeP who fi cl ds.length = codeF fi cl := by unfold codeP; rw [if_neg (by omega)]
          rw [e] at key hc
          clear HR
          have HR := Lib.hid (fun codes rd fr (h : WRes who fi cl ds codes rd fr) => show codes = [] ∧ rd = [] ∧ fr = [] by unfold WRes at h; rw [if_neg (by rw [e]; exact hc)] at h; exact h)
          generalize codeF fi cl = q at *
          have hq : (q == 0) = false := by simpa using hc
          clear e hc
          have HK := Lib.hid key
          have HKC := Lib.hid kc
          clear key kc
          go_enter Try.func9, Try.ntmps9
          go_wp2_with fail
          refine HK.out.mono ?_
          rintro e w1 ⟨B1, k1, codes, B2, k2, rd, B3, k3, fr, rfl, hres, r1, r2, r3, hb1⟩
          obtain ⟨rfl, rfl, rfl⟩ := HR.out _ _ _ hres
          clear hres r1 r2 r3
          simp only [List.length_nil]
          have hba := hb1.alloc hb1.size (.cells #[.slice B1 0 k1, .slice B2 0 k2, .slice B3 0 k3] 49)
          have HM0 := Lib.hid (heap_alloc_new w1 (.cells #[.slice B1 0 k1, .slice B2 0 k2, .slice B3 0 k3] 49))
          have HBA := Lib.hid hba
          clear hba hb1
          go_wp2_with fail
          refine (HKC.out _ (hr.below HBA.out)).mono ?_
          rintro e w2 ⟨rfl, rfl⟩
          generalize w1.heap.size = s1 at *
          generalize w1.alloc (.cells #[.slice B1 0 k1, .slice B2 0 k2, .slice B3 0 k3] 49) = w2 at *
          have HB3 := Lib.hid (HBA.out.alloc HBA.out.size (.cells #[.slice none 0 0, .slice none 0 0, .slice none 0 0] 49))
          have hm := lblk_alloc HM0.out (.cells #[.slice none 0 0, .slice none 0 0, .slice none 0 0] 49)
          have hz := heap_alloc_new w2 (.cells #[.slice none 0 0, .slice none 0 0, .slice none 0 0] 49)
          obtain ⟨a0, a1, a2⟩ : (w2.alloc (.cells #[.slice none 0 0, .slice none 0 0, .slice none 0 0] 49)).cell? ⟨w2.heap.size, 0, none⟩ = some (.slice none 0 0) ∧ (w2.alloc (.cells #[.slice none 0 0, .slice none 0 0, .slice none 0 0] 49)).cell? ⟨w2.heap.size, 1, none⟩ = some (.slice none 0 0) ∧ (w2.alloc (.cells #[.slice none 0 0, .slice none 0 0, .slice none 0 0] 49)).cell? ⟨w2.heap.size, 2, none⟩ = some (.slice none 0 0) :=
            ⟨cell_of_row _ _ 0 _ _ _ hz, cell_of_row _ _ 1 _ _ _ hz, cell_of_row _ _ 2 _ _ _ hz⟩
          obtain ⟨b0, b1, b2⟩ : (w2.alloc (.cells #[.slice none 0 0, .slice none 0 0, .slice none 0 0] 49)).cell? ⟨s1, 0, none⟩ = some (.slice B1 0 k1) ∧ (w2.alloc (.cells #[.slice none 0 0, .slice none 0 0, .slice none 0 0] 49)).cell? ⟨s1, 1, none⟩ = some (.slice B2 0 k2) ∧ (w2.alloc (.cells #[.slice none 0 0, .slice none 0 0, .slice none 0 0] 49)).cell? ⟨s1, 2, none⟩ = some (.slice B3 0 k3) :=
            ⟨cell_of_row _ _ 0 _ _ _ hm, cell_of_row _ _ 1 _ _ _ hm, cell_of_row _ _ 2 _ _ _ hm⟩
          have kk1 := Codes_any [] [] B1 none k1 0 (w2.alloc (.cells #[.slice none 0 0, .slice none 0 0, .slice none 0 0] 49)) (.inl rfl) (.inl rfl) (by simp) (by simp)
          have kk2 := fun d => Words_any [] [] B2 none k2 0 ((w2.alloc (.cells #[.slice none 0 0, .slice none 0 0, .slice none 0 0] 49)).drewN d) (.inl rfl) (.inl rfl) (by simp) (by simp)
          have kk3 := fun d => Words_any [] [] B3 none k3 0 ((w2.alloc (.cells #[.slice none 0 0, .slice none 0 0, .slice none 0 0] 49)).drewN d) (.inl rfl) (.inl rfl) (by simp) (by simp)
          simp only [decide_true, List.length_nil] at kk1 kk2 kk3
          clear hm hz
          go_wp2_with fail
          refine kk1.mono ?_
          rintro e w5 ⟨rfl, d5, rfl⟩
          go_wp2_with fail
          refine (kk2 _).mono ?_
          rintro e w6 ⟨rfl, d6, rfl⟩
          go_wp2_with fail
          refine (kk3 _).mono ?_
          rintro e w7 ⟨rfl, d7, rfl⟩
          go_wp2
          go_ret
          exact ⟨rfl, by first | exact below_drewN (below_drewN (below_drewN HB3.out _) _) _ | exact below_drewN (below_drewN HB3.out _) _ | exact below_drewN HB3.out _⟩

end Go.Proofs.Ytdiaglaokgehbaa
