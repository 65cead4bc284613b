/- The law MarkFlow (this text is written by wip/mkM2.py). -/
import Derived.Test.YtdiaglaokgehbaaMSpec
import Derived.Test.YtdiaglaokgehbaaWM2
import Derived.Test.YtdiaglaokgehbaaMRow
namespace Go.Proofs.Ytdiaglaokgehbaa
open Go.RowKit

set_option maxHeartbeats 2000000 in
theorem MarkFlow_with (hF : MPlayOk 13 true) (cs : List Lab) (A : Option Addr) (c : Nat) (ts : List Lab) (A2 : Option Addr) (c2 : Nat) (ds : List Dd) (A3 : Option Addr) (c3 : Nat) (w : World)
    (hm : cs.length ≤ maxLen) (hcap : cs.length ≤ c) (h32 : L32 cs) (hr : Row w A (labsC cs)) (hm2 : ts.length ≤ maxLen) (hcap2 : ts.length ≤ c2) (h322 : L32 ts) (hr2 : Row w A2 (labsC ts)) (hm3 : ds.length ≤ maxLen) (hcap3 : ds.length ≤ c3) (hr3 : Row w A3 (deedsC ds)) (hX : Laid w) :
    Calls Try.prog 4 #[.slice A cs.length c, .slice A2 ts.length c2, .slice A3 ds.length c3] w fun e w' => e = .returned (.bool true) ∧ Below w.heap.size w w' := by
  have key := hF cs A c ts A2 c2 ds A3 c3 w hm hcap h32 hr hm2 hcap2 h322 hr2 hm3 hcap3 hr3 hX
  have kc := fun W h1 h2 => marked_any cs ts A A2 c c2 ds.length W h1 h2
  clear hX h32 h322 hcap hcap2 hcap3
  by_cases hc : codeM cs ts ds.length = 0
  · obtain ⟨g1, g2, g3, g4, ok1, ok2⟩ := codeM_zero hc
    have HR := Lib.hid (fun codes marks fr (h : MRes true cs ts ds codes marks fr) => show codes = _ ∧ marks = _ ∧ fr = _ by unfold MRes at h; rw [if_pos hc] at h; exact h)
    have HLen := Lib.hid (show (runM true (atL cs) (atL ts) cs.length ts.length ds).1.length = ds.length from run_length ds)
    have HC := Lib.hid (fun b (hb : b < cs.length) => show LabOk (atL cs b) from ok1 _ (List.mem_of_getElem? (atL_get hb)))
    have HT := Lib.hid (fun b (hb : b < ts.length) => show LabOk (atL ts b) from ok2 _ (List.mem_of_getElem? (atL_get hb)))
    have HFine := Lib.hid (fine_run (up := true) HC.out HT.out ds)
    have HFl := Lib.hid (flow_run (th := atL ts) (nt := ts.length) HC.out ds)
    rw [hc] at key kc
    rw [show ((0 : Int) == 0) = true from rfl] at kc
    clear hc ok1 ok2
    generalize hst : runM true (atL cs) (atL ts) cs.length ts.length ds = st at *
    clear hst
    obtain ⟨xc, s⟩ := st
    simp only at HR HLen HFine HFl
    have HK := Lib.hid key
    have HKC := Lib.hid kc
    clear key kc
    go_enter Try.func4, Try.ntmps4
    go_wp2_with fail
    refine HK.out.mono ?_
    rintro e w1 ⟨B1, k1, codes, B2, k2, marks, B3, k3, fr, rfl, hres, _, r1, r2, r3, hb1⟩
    obtain ⟨hq1, hq2, hq3⟩ := HR.out _ _ _ hres
    subst hq1
    subst hq2
    subst hq3
    clear hres r1
    rw [tabA_length, tabA_length, HLen.out]
    have hba := hb1.alloc hb1.size (.cells #[.slice B1 ds.length k1, .slice B2 cs.length k2, .slice B3 ts.length k3] 27)
    have hba2 := (Below.refl w1.heap.size w1).alloc (Nat.le_refl _) (.cells #[.slice B1 ds.length k1, .slice B2 cs.length k2, .slice B3 ts.length k3] 27)
    have HM0 := Lib.hid (heap_alloc_new w1 (.cells #[.slice B1 ds.length k1, .slice B2 cs.length k2, .slice B3 ts.length k3] 27))
    have HR1 := Lib.hid (And.intro (r2.below hba2) (r3.below hba2))
    have HBA := Lib.hid hba
    clear hba hba2 r2 r3 hb1
    go_wp2_with fail
    refine (HKC.out _ (hr.below HBA.out) (hr2.below HBA.out)).mono ?_
    rintro e w2 ⟨rfl, hb2⟩
    have HB2 := Lib.hid (HBA.out.trans (hb2.mono HBA.out.size))
    have hm2' := lblk_keep hb2 HM0.out
    obtain ⟨a0, a1, a2⟩ : w2.cell? ⟨w1.heap.size, 0, none⟩ = some (.slice B1 ds.length k1) ∧ w2.cell? ⟨w1.heap.size, 1, none⟩ = some (.slice B2 cs.length k2) ∧ w2.cell? ⟨w1.heap.size, 2, none⟩ = some (.slice B3 ts.length k3) :=
      ⟨cell_of_row w2 _ 0 _ _ _ hm2', cell_of_row w2 _ 1 _ _ _ hm2', cell_of_row w2 _ 2 _ _ _ hm2'⟩
    have HR2 := Lib.hid (And.intro (HR1.out.1.below hb2) (HR1.out.2.below hb2))
    have HM2 := Lib.hid hm2'
    clear hb2 hm2' HR1 HM0 HBA HKC HK
    generalize w1.heap.size = mz at *
    go_wp2
    go_loopw [58] (fun v wr => ∃ k : Nat, v = .int .i64 k ∧ k ≤ cs.length ∧ Below w2.heap.size w2 wr) (fun v _ => cs.length - (intOf v).toNat)
    case atStart => exact ⟨0, rfl, Nat.zero_le _, Below.refl _ _⟩
    case round =>
      clear a0 a1 a2
      obtain ⟨k, rfl, hk, hb⟩ := hrel
      have HB := Lib.hid hb
      have hmw := lblk_keep hb HM2.out
      by_cases hlt : k < cs.length
      · have rowC := hr.below (HB2.out.trans (hb.mono HB2.out.size))
        obtain ⟨b, off, rfl, d1, d2⟩ := RowL.cells rowC (atL_get hlt)
        obtain ⟨b', off', rfl, e1, e2⟩ := RowL.cells (HR2.out.1.below hb) (tabA_get s.mar hlt)
        have hbx := (Below.refl wr.heap.size wr).alloc (Nat.le_refl _) (.cells #[.int .i64 (atL cs k).1, .int .u32 ((atL cs k).2 : Int)] 40)
        obtain ⟨q1, q2⟩ := ltwo_cells (heap_alloc_new wr (.cells #[.int .i64 (atL cs k).1, .int .u32 ((atL cs k).2 : Int)] 40))
        obtain ⟨n1, n2⟩ := RowL.cells (HR2.out.1.below hb) (tabA_get s.mar hlt) |> fun _ => And.intro (cellKeep hbx e1) (cellKeep hbx e2)
        have n3 := cellKeep hbx (cell_of_row wr mz 1 _ _ _ hmw)
        have kB := fun W => refBelow_any (s.mar k).1 (atL cs k).1 (s.mar k).2 (atL cs k).2 W (by have := (HFine.out.1 k hlt).2.2; omega) (by have := (HC.out k hlt).2.2; omega)
        rw [show underL ((s.mar k).1, (s.mar k).2) ((atL cs k).1, (atL cs k).2) = true from HFl.out.1 k hlt] at kB
        have HNB := Lib.hid (fun (W : World) (h : Below (wr.alloc (.cells #[.int .i64 (atL cs k).1, .int .u32 ((atL cs k).2 : Int)] 40)).drew.heap.size (wr.alloc (.cells #[.int .i64 (atL cs k).1, .int .u32 ((atL cs k).2 : Int)] 40)).drew W) => HB.out.trans ((hbx.drew.trans (h.mono hbx.drew.size)).mono HB.out.size))
        clear hmw hb e1 e2 hbx rowC
        go_wp2
        generalize wr.heap.size = bx at *
        generalize wr.alloc (.cells #[.int .i64 (atL cs k).1, .int .u32 ((atL cs k).2 : Int)] 40) = wx at *
        refine wp_region_still_tail 6 (by kernel_rfl) (by kernel_rfl) ?_
        simp only [List.take_succ_cons, List.take_zero, List.drop_succ_cons, List.drop_zero]
        iterate 6 still_step
        refine wpStill_nil ?_
        go_wp2_with fail
        refine (kB _).mono ?_
        rintro e w4 ⟨rfl, hb4⟩
        have HN := Lib.hid (HNB.out _ hb4)
        clear hb4 q1 q2 n1 n2 n3 d1 d2 kB
        go_wp2
        go_roundw
        case rel => exact ⟨k + 1, by go_num, by omega, HN.out⟩
        case measure => simp [intOf]; omega
      · obtain rfl : k = cs.length := by omega
        clear hb hmw
        go_wp2
        go_loopw [74] (fun v wr => ∃ i : Nat, v = .int .i64 i ∧ i ≤ ts.length ∧ Below w2.heap.size w2 wr) (fun v _ => ts.length - (intOf v).toNat)
        case atStart => exact ⟨0, rfl, Nat.zero_le _, HB.out⟩
        case round =>
          clear HB
          obtain ⟨i, rfl, hi, hb⟩ := hrel
          have HB := Lib.hid hb
          by_cases hlt : i < ts.length
          · have hmw := lblk_keep hb HM2.out
            obtain ⟨b2, o2, rfl, d1, d2⟩ := RowL.cells (hr2.below (HB2.out.trans (hb.mono HB2.out.size))) (atL_get hlt)
            obtain ⟨b3, o3, rfl, ef⟩ := RowW.cells (HR2.out.2.below hb) (tabA_get s.fr hlt)
            have hfr : s.fr i < 4294967296 := by have h1 := HFine.out.2.1 i hlt; have h8 : one ts.length ≤ one 8 := Nat.pow_le_pow_right (by omega) g3; simp [one] at h8 h1; omega
            have hbx := (Below.refl wr.heap.size wr).alloc (Nat.le_refl _) (.cells #[.int .i64 (atL ts i).1, .int .u32 ((atL ts i).2 : Int)] 40)
            have HBox := Lib.hid (heap_alloc_new wr (.cells #[.int .i64 (atL ts i).1, .int .u32 ((atL ts i).2 : Int)] 40))
            have n2 := cellKeep hbx (cell_of_row wr mz 2 _ _ _ hmw)
            have n3 := cellKeep hbx ef
            have HBb := Lib.hid (hb.alloc hb.size (.cells #[.int .i64 (atL ts i).1, .int .u32 ((atL ts i).2 : Int)] 40))
            have k1 := fun W => Bit_any (s.fr i) i (by omega) hfr W
            rw [show (s.fr i).testBit i = true from (HFl.out.2.2 i hlt).1] at k1
            have k2 := fun W => Fits_any ts.length (s.fr i) (by omega) W
            rw [decide_eq_true (HFine.out.2.1 i hlt)] at k2
            go_wp2_with fail
            refine (k1 _).mono ?_
            rintro e w6 ⟨rfl, rfl⟩
            go_wp2_with fail
            refine (k2 _).mono ?_
            rintro e w6 ⟨rfl, rfl⟩
            clear k1 k2
            go_wp2
            clear n2 n3 hmw ef hb hbx
            generalize wr.heap.size = bz at *
            generalize wr.alloc (.cells #[.int .i64 (atL ts i).1, .int .u32 ((atL ts i).2 : Int)] 40) = wb at *
            go_loopw [100] (fun v wr => ∃ j : Nat, v = .int .i64 j ∧ j ≤ ts.length ∧ Below wb.heap.size wb wr) (fun v _ => ts.length - (intOf v).toNat)
            case atStart => exact ⟨0, rfl, Nat.zero_le _, Below.refl _ _⟩
            case round =>
              obtain ⟨j, rfl, hj, hb⟩ := hrel
              have hbw := HBb.out.trans (hb.mono HBb.out.size)
              have HBw := Lib.hid hbw
              have HBi := Lib.hid hb
              by_cases hlt2 : j < ts.length
              · have hmw := lblk_keep hbw HM2.out
                obtain ⟨t1, t2⟩ := row_two (hr2.below (HB2.out.trans (hbw.mono HB2.out.size))) (atL_get hlt2)
                obtain ⟨b4, o4, eb4, ef⟩ := RowW.cells (HR2.out.2.below hbw) (tabA_get s.fr hlt)
                simp only [Option.some.injEq, Addr.mk.injEq, and_true] at eb4
                obtain ⟨rfl, rfl⟩ := eb4
                have hbx := (Below.refl wr.heap.size wr).alloc (Nat.le_refl _) (.cells #[.int .i64 (atL ts j).1, .int .u32 ((atL ts j).2 : Int)] 40)
                obtain ⟨p1, p2⟩ := ltwo_cells (heap_alloc_new wr (.cells #[.int .i64 (atL ts j).1, .int .u32 ((atL ts j).2 : Int)] 40))
                have n2 := cellKeep hbx (cell_of_row wr mz 2 _ _ _ hmw)
                have n3 := cellKeep hbx ef
                obtain ⟨u1, u2⟩ := ltwo_cells (lblk_keep hbx (lblk_keep hb HBox.out))
                have kB := fun W => Bit_any (s.fr i) j (by omega) hfr W
                have HBX := Lib.hid (hb.alloc hb.size (.cells #[.int .i64 (atL ts j).1, .int .u32 ((atL ts j).2 : Int)] 40))
                cases hv : (s.fr i).testBit j with
                | false =>
                  rw [hv] at kB
                  clear hv hmw hbw hb hbx ef
                  go_wp2_with fail
                  refine (kB _).mono ?_
                  rintro e w6 ⟨rfl, rfl⟩
                  go_wp2
                  go_roundw
                  case rel => exact ⟨j + 1, by go_num, by omega, HBX.out⟩
                  case measure => simp [intOf]; omega
                | true =>
                  have kU := fun W => refBelow_any (atL ts j).1 (atL ts i).1 (atL ts j).2 (atL ts i).2 W (by have := (HT.out j hlt2).2.2; omega) (by have := (HT.out i hlt).2.2; omega)
                  rw [show underL ((atL ts j).1, (atL ts j).2) ((atL ts i).1, (atL ts i).2) = true from (HFl.out.2.2 i hlt).2 j hv] at kU
                  rw [hv] at kB
                  clear hv hmw hbw hb hbx ef
                  go_wp2_with fail
                  refine (kB _).mono ?_
                  rintro e w6 ⟨rfl, rfl⟩
                  go_wp2_with fail
                  refine (kU _).mono ?_
                  rintro e w7 ⟨rfl, hb7⟩
                  have HN := Lib.hid (HBX.out.trans (hb7.mono HBX.out.size))
                  clear hb7
                  go_wp2
                  go_roundw
                  case rel => exact ⟨j + 1, by go_num, by omega, HN.out⟩
                  case measure => simp [intOf]; omega
              · obtain rfl : j = ts.length := by omega
                clear hb hbw
                go_wp2
                go_roundw
                case rel => exact ⟨i + 1, by go_num, by omega, HBw.out⟩
                case measure => simp [intOf]; omega
          · obtain rfl : i = ts.length := by omega
            have HE := Lib.hid (HB2.out.trans (hb.mono HB2.out.size))
            clear hb
            go_wp2
            go_ret
            exact ⟨rfl, HE.out⟩
  · have hne : (codeM cs ts ds.length == 0) = false := by simpa using hc
    have hne2 : (codeM cs ts ds.length != 0) = true := by simpa using hc
    rw [hne] at kc
    generalize codeM cs ts ds.length = q at *
    clear hc hne
    have HK := Lib.hid key
    have HKC := Lib.hid kc
    clear key kc
    go_enter Try.func4, Try.ntmps4
    go_wp2_with fail
    refine HK.out.mono ?_
    rintro e w1 ⟨B1, k1, codes, B2, k2, marks, B3, k3, fr, rfl, hres, _, r1, r2, r3, hb1⟩
    have HBA := Lib.hid (hb1.alloc hb1.size (.cells #[.slice B1 codes.length k1, .slice B2 marks.length k2, .slice B3 fr.length k3] 27))
    clear hres r1 r2 r3 hb1
    go_wp2_with fail
    refine (HKC.out _ (hr.below HBA.out) (hr2.below HBA.out)).mono ?_
    rintro e w2 ⟨rfl, hb2⟩
    have HB2 := Lib.hid (HBA.out.trans (hb2.mono HBA.out.size))
    clear hb2
    go_wp2
    go_ret
    exact ⟨by first | rfl | rw [hne2], HB2.out⟩

end Go.Proofs.Ytdiaglaokgehbaa
