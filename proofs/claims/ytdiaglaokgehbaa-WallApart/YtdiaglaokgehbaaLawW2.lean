/- The law WallApart. -/
import Derived.Test.YtdiaglaokgehbaaWW2
import Derived.Test.YtdiaglaokgehbaaMRow
namespace Go.Proofs.Ytdiaglaokgehbaa
open Go.RowKit

set_option maxRecDepth 100000 in
set_option maxHeartbeats 8000000 in
theorem WallApart_with (hF : WPlayOk 26) (who : Int) (fi : List Int) (A : Option Addr) (c : Nat) (cl : List Int) (A2 : Option Addr) (c2 : Nat) (ds : List Dd) (A3 : Option Addr) (c3 : Nat) (w : World)
    (hm : fi.length ≤ maxLen) (hcap : fi.length ≤ c) (hr : Row w A (ints fi)) (hm2 : cl.length ≤ maxLen) (hcap2 : cl.length ≤ c2) (hr2 : Row w A2 (ints cl)) (hm3 : ds.length ≤ maxLen) (hcap3 : ds.length ≤ c3) (hr3 : Row w A3 (deedsC ds)) (hX : Laid w) :
    Calls Try.prog 11 #[.int .i64 who, .slice A fi.length c, .slice A2 cl.length c2, .slice A3 ds.length c3] w fun e w' => e = .returned (.bool true) ∧ Below w.heap.size w w' := by
  have key := hF who fi A c cl A2 c2 ds A3 c3 w hm hcap hr hm2 hcap2 hr2 hm3 hcap3 hr3 hX
  have kc := fun W h => walled_any who fi cl A A2 c c2 ds.length W h
  clear hX hcap hcap2 hcap3
  by_cases hc : codeP who fi cl ds.length = 0
  · obtain ⟨nc, rfl, g1, g2, g3, hcf⟩ := codeP_zero hc
    obtain ⟨g4, g5, g6⟩ := codeF_zero hcf
    have HR := Lib.hid (fun codes rd fr (h : WRes nc fi cl ds codes rd fr) => show codes = _ ∧ rd = _ ∧ fr = _ by unfold WRes at h; rw [if_pos hc] at h; exact h)
    have HLen := Lib.hid (show (runW fi cl (nc : Int).toNat fi.length ds).1.length = ds.length from runW_length ds)
    have HFine := Lib.hid (fineW_run (fi := fi) (cl := cl) (nc := (nc : Int).toNat) (nt := fi.length) ds)
    have HAp := Lib.hid (apart_run (fi := fi) (cl := cl) (nc := (nc : Int).toNat) (nt := fi.length) ds)
    rw [hc] at key kc
    rw [show ((0 : Int) == 0) = true from rfl] at kc
    simp only [Int.toNat_natCast] at HR HLen HFine HAp
    clear hc hcf
    generalize hst : runW fi cl nc fi.length ds = st at *
    clear hst
    obtain ⟨xc, s⟩ := st
    simp only at HR HLen HFine HAp
    have HK := Lib.hid key
    have HKC := Lib.hid kc
    clear key kc
    go_enter Try.func11, Try.ntmps11
    go_wp2_with fail
    refine HK.out.mono ?_
    rintro e w1 ⟨B1, k1, codes, B2, k2, rd, B3, k3, fr, rfl, hres, r1, r2, r3, hb1⟩
    obtain ⟨hq1, hq2, hq3⟩ := HR.out _ _ _ hres
    subst hq1
    subst hq2
    subst hq3
    clear hres r1
    rw [tabA_length, tabA_length, HLen.out]
    have hba2 := (Below.refl w1.heap.size w1).alloc (Nat.le_refl _) (.cells #[.slice B1 ds.length k1, .slice B2 nc k2, .slice B3 fi.length k3] 49)
    have HBA := Lib.hid (hb1.trans (hba2.mono hb1.size))
    have hM := heap_alloc_new w1 (.cells #[.slice B1 ds.length k1, .slice B2 nc k2, .slice B3 fi.length k3] 49)
    have HR1 := Lib.hid (And.intro (r2.below hba2) (r3.below hba2))
    clear hba2 r2 r3 hb1
    go_wp2_with fail
    refine (HKC.out _ (hr.below HBA.out)).mono ?_
    rintro e w2 ⟨rfl, rfl⟩
    generalize w1.heap.size = mz at *
    generalize w1.alloc _ = w2 at *
    obtain ⟨a0, a1, a2⟩ : w2.cell? ⟨mz, 0, none⟩ = some (.slice B1 ds.length k1) ∧ w2.cell? ⟨mz, 1, none⟩ = some (.slice B2 nc k2) ∧ w2.cell? ⟨mz, 2, none⟩ = some (.slice B3 fi.length k3) :=
      ⟨cell_of_row w2 _ 0 _ _ _ hM, cell_of_row w2 _ 1 _ _ _ hM, cell_of_row w2 _ 2 _ _ _ hM⟩
    have hrf := hr.below HBA.out
    have hrc := hr2.below HBA.out
    have HFi := Lib.hid (fun i (h : i < fi.length) => show atI fi i < (cl.length : Int) from (g6 _ (List.mem_of_getElem? (atI_get h))).2)
    clear hM HK HKC g6
    go_wp2
    go_loopw [66] (fun v wr => ∃ b d : Nat, v = .int .i64 b ∧ b ≤ nc ∧ wr = w2.drewN d) (fun v _ => nc - (intOf v).toNat)
    case atStart => exact ⟨0, 0, rfl, Nat.zero_le _, rfl⟩
    case round =>
      obtain ⟨b, d, rfl, hb, rfl⟩ := hrel
      by_cases hlt : b < nc
      · obtain ⟨gr, orr, rfl, hrd⟩ := RowW.cells (HR1.out.1.drewN d) (tabA_get s.rd hlt)
        have hr32 : s.rd b < 4294967296 := by have h1 := HFine.out.1 b hlt; have h8 : one fi.length ≤ one 8 := Nat.pow_le_pow_right (by omega) g4; simp [one] at h8 h1; omega
        go_wp2
        clear hrd
        go_loopw [72] (fun v wr => ∃ i d : Nat, v = .int .i64 i ∧ i ≤ fi.length ∧ wr = w2.drewN d) (fun v _ => fi.length - (intOf v).toNat)
        case atStart => exact ⟨0, d, rfl, Nat.zero_le _, rfl⟩
        case round =>
          obtain ⟨i, d1, rfl, hi, rfl⟩ := hrel
          by_cases hlt1 : i < fi.length
          · obtain ⟨gf, off, rfl, hfi⟩ := RowI.cells (hrf.drewN d1) (atI_get hlt1)
            have hxl := HFi.out i hlt1
            have HNi := Lib.hid (fun j hj b1 b2 => HAp.out.1 b hlt i j hlt1 hj b1 b2)
            unfold Clash at HNi
            generalize atI fi i = x at *
            go_wp2
            clear hfi
            go_loopw [79] (fun v wr => ∃ j d : Nat, v = .int .i64 j ∧ j ≤ fi.length ∧ wr = w2.drewN d) (fun v _ => fi.length - (intOf v).toNat)
            case atStart => exact ⟨0, d1, rfl, Nat.zero_le _, rfl⟩
            case round =>
              obtain ⟨j, d2, rfl, hj, rfl⟩ := hrel
              by_cases hlt2 : j < fi.length
              · obtain ⟨gf', off', eg, hfj⟩ := RowI.cells (hrf.drewN d2) (atI_get hlt2)
                simp only [Option.some.injEq, Addr.mk.injEq, and_true] at eg
                obtain ⟨rfl, rfl⟩ := eg
                have hyl := HFi.out j hlt2
                have HNo := Lib.hid (HNi.out j hlt2)
                generalize atI fi j = y at *
                have k1 := bit_quiet (s.rd b) i (by omega) hr32 (w2.drewN d2)
                have k2 := bit_quiet (s.rd b) j (by omega) hr32 (w2.drewN d2)
                have hrc5 := hrc.drewN d2
                generalize hw5 : w2.drewN d2 = w5 at *
                have HW5 := Lib.hid hw5
                clear hw5
                cases hv1 : (s.rd b).testBit i with
                | false =>
                  rw [hv1] at k1
                  clear hv1 k2
                  go_wp2
                  go_quiet (first | with_reducible exact k1 _)
                  go_wp2
                  go_roundw
                  case rel => exact ⟨j + 1, d2 + nq, by go_num, by omega, by rw [← HW5.out, World.drewN_drewN]⟩
                  case measure => simp [intOf]; omega
                | true =>
                  rw [hv1] at k1 HNo
                  clear hv1
                  cases hv2 : (s.rd b).testBit j with
                  | false =>
                    rw [hv2] at k2
                    clear hv2
                    go_wp2
                    go_quiet (first | with_reducible exact k1 _ | with_reducible exact k2 _)
                    go_wp2
                    go_roundw
                    case rel => exact ⟨j + 1, d2 + nq, by go_num, by omega, by rw [← HW5.out, World.drewN_drewN]⟩
                    case measure => simp [intOf]; omega
                  | true =>
                    rw [hv2] at k2 HNo
                    clear hv2
                    by_cases hx0 : 0 ≤ x
                    · have hd1 : decide (0 ≤ x) = true := decide_eq_true hx0
                      by_cases hy0 : 0 ≤ y
                      · have hd2 : decide (0 ≤ y) = true := decide_eq_true hy0
                        by_cases hxy : x = y
                        · have hd3 : (x != y) = false := by simpa using hxy
                          clear hxy
                          go_wp2
                          go_quiet (first | with_reducible exact k1 _ | with_reducible exact k2 _)
                          go_wp2
                          go_roundw
                          case rel => exact ⟨j + 1, d2 + nq, by go_num, by omega, by rw [← HW5.out, World.drewN_drewN]⟩
                          case measure => simp [intOf]; omega
                        · have hd3 : (x != y) = true := by simpa using hxy
                          have hcl : ¬ atI cl x.toNat = atI cl y.toNat := fun e => HNo.out rfl rfl ⟨hx0, hy0, hxy, e⟩
                          obtain ⟨nx, rfl⟩ := Int.eq_ofNat_of_zero_le hx0
                          obtain ⟨ny, rfl⟩ := Int.eq_ofNat_of_zero_le hy0
                          simp only [Int.toNat_natCast] at hcl
                          obtain ⟨gc, oc, rfl, e1⟩ := RowI.cells hrc5 (atI_get (show nx < cl.length by omega))
                          obtain ⟨gc', oc', eg, e2⟩ := RowI.cells hrc5 (atI_get (show ny < cl.length by omega))
                          simp only [Option.some.injEq, Addr.mk.injEq, and_true] at eg
                          obtain ⟨rfl, rfl⟩ := eg
                          have hd4 : (atI cl nx == atI cl ny) = false := by simpa using hcl
                          clear hcl hxy HNo
                          go_wp2
                          go_quiet (first | with_reducible exact k1 _ | with_reducible exact k2 _)
                          go_wp2
                          go_roundw
                          case rel => exact ⟨j + 1, d2 + nq, by go_num, by omega, by rw [← HW5.out, World.drewN_drewN]⟩
                          case measure => simp [intOf]; omega
                      · have hd2 : decide (0 ≤ y) = false := decide_eq_false hy0
                        go_wp2
                        go_quiet (first | with_reducible exact k1 _ | with_reducible exact k2 _)
                        go_wp2
                        go_roundw
                        case rel => exact ⟨j + 1, d2 + nq, by go_num, by omega, by rw [← HW5.out, World.drewN_drewN]⟩
                        case measure => simp [intOf]; omega
                    · have hd1 : decide (0 ≤ x) = false := decide_eq_false hx0
                      go_wp2
                      go_quiet (first | with_reducible exact k1 _ | with_reducible exact k2 _)
                      go_wp2
                      go_roundw
                      case rel => exact ⟨j + 1, d2 + nq, by go_num, by omega, by rw [← HW5.out, World.drewN_drewN]⟩
                      case measure => simp [intOf]; omega
              · obtain rfl : j = fi.length := by omega
                go_wp2
                go_roundw
                case rel => exact ⟨i + 1, d2, by go_num, by omega, rfl⟩
                case measure => simp [intOf]; omega
          · obtain rfl : i = fi.length := by omega
            go_wp2
            go_roundw
            case rel => exact ⟨b + 1, d1, by go_num, by omega, rfl⟩
            case measure => simp [intOf]; omega
      · obtain rfl : b = nc := by omega
        go_wp2
        go_loopw [121] (fun v wr => ∃ t d : Nat, v = .int .i64 t ∧ t ≤ fi.length ∧ wr = w2.drewN d) (fun v _ => fi.length - (intOf v).toNat)
        case atStart => exact ⟨0, d, rfl, Nat.zero_le _, rfl⟩
        case round =>
          obtain ⟨t, d1, rfl, ht, rfl⟩ := hrel
          by_cases hlt : t < fi.length
          · obtain ⟨gf, off, rfl, hfi⟩ := RowI.cells (hrf.drewN d1) (atI_get hlt)
            obtain ⟨gw, ow, rfl, hfr⟩ := RowW.cells (HR1.out.2.drewN d1) (tabA_get s.fr hlt)
            have n2 : (w2.drewN d1).cell? ⟨mz, 2, none⟩ = some (.slice (some ⟨gw, ow, none⟩) fi.length k3) := a2
            have hw32 : s.fr t < 4294967296 := by have h1 := HFine.out.2.1 t hlt; have h8 : one fi.length ≤ one 8 := Nat.pow_le_pow_right (by omega) g4; simp [one] at h8 h1; omega
            have k1 := fun W => Bit_any (s.fr t) t (by omega) hw32 W
            rw [show (s.fr t).testBit t = true from (HAp.out.2.2 t hlt).1] at k1
            have HNi := Lib.hid (fun j hj h0 => (HAp.out.2.2 t hlt).2 j hj h0)
            generalize atI fi t = x at *
            go_wp2_with fail
            refine (k1 _).mono ?_
            rintro e w6 ⟨rfl, rfl⟩
            clear k1 n2
            go_wp2
            clear hfi hfr
            go_loopw [136] (fun v wr => ∃ j d : Nat, v = .int .i64 j ∧ j ≤ fi.length ∧ wr = w2.drewN d) (fun v _ => fi.length - (intOf v).toNat)
            case atStart => exact ⟨0, d1, rfl, Nat.zero_le _, rfl⟩
            case round =>
              obtain ⟨j, d2, rfl, hj, rfl⟩ := hrel
              by_cases hlt2 : j < fi.length
              · obtain ⟨gf', off', eg, hfj⟩ := RowI.cells (hrf.drewN d2) (atI_get hlt2)
                simp only [Option.some.injEq, Addr.mk.injEq, and_true] at eg
                obtain ⟨rfl, rfl⟩ := eg
                obtain ⟨gw', ow', eg, hfw⟩ := RowW.cells (HR1.out.2.drewN d2) (tabA_get s.fr hlt)
                simp only [Option.some.injEq, Addr.mk.injEq, and_true] at eg
                obtain ⟨rfl, rfl⟩ := eg
                have n2 : (w2.drewN d2).cell? ⟨mz, 2, none⟩ = some (.slice (some ⟨gw, ow, none⟩) fi.length k3) := a2
                have k1 := fun W => Bit_any (s.fr t) j (by omega) hw32 W
                have HNo := Lib.hid (HNi.out j)
                generalize atI fi j = y at *
                cases hv : (s.fr t).testBit j with
                | false =>
                  rw [hv] at k1
                  clear hv
                  go_wp2_with fail
                  refine (k1 _).mono ?_
                  rintro e w6 ⟨rfl, rfl⟩
                  go_wp2
                  go_roundw
                  case rel => exact ⟨j + 1, d2, by go_num, by omega, rfl⟩
                  case measure => simp [intOf]; omega
                | true =>
                  rw [hv] at k1
                  by_cases hy0 : 0 ≤ y
                  · have hxy : y = x := HNo.out hv hy0
                    clear hv
                    have hd : (y != x) = false := by simpa using hxy
                    clear hxy
                    go_wp2_with fail
                    refine (k1 _).mono ?_
                    rintro e w6 ⟨rfl, rfl⟩
                    go_wp2
                    go_roundw
                    case rel => exact ⟨j + 1, d2, by go_num, by omega, rfl⟩
                    case measure => simp [intOf]; omega
                  · clear hv
                    go_wp2_with fail
                    refine (k1 _).mono ?_
                    rintro e w6 ⟨rfl, rfl⟩
                    go_wp2
                    go_roundw
                    case rel => exact ⟨j + 1, d2, by go_num, by omega, rfl⟩
                    case measure => simp [intOf]; omega
              · obtain rfl : j = fi.length := by omega
                go_wp2
                go_roundw
                case rel => exact ⟨t + 1, d2, by go_num, by omega, rfl⟩
                case measure => simp [intOf]; omega
          · obtain rfl : t = fi.length := by omega
            go_wp2
            go_ret
            exact ⟨rfl, below_drewN HBA.out _⟩
  · have hne : (codeP who fi cl ds.length == 0) = false := by simpa using hc
    have hne2 : (codeP who fi cl ds.length != 0) = true := by simpa using hc
    rw [hne] at kc
    generalize codeP who fi cl ds.length = q at *
    clear hc hne
    have HK := Lib.hid key
    have HKC := Lib.hid kc
    clear key kc
    go_enter Try.func11, Try.ntmps11
    go_wp2_with fail
    refine HK.out.mono ?_
    rintro e w1 ⟨B1, k1, codes, B2, k2, rd, B3, k3, fr, rfl, hres, r1, r2, r3, hb1⟩
    have HBA := Lib.hid (hb1.alloc hb1.size (.cells #[.slice B1 codes.length k1, .slice B2 rd.length k2, .slice B3 fr.length k3] 49))
    clear hres r1 r2 r3 hb1
    go_wp2_with fail
    refine (HKC.out _ (hr.below HBA.out)).mono ?_
    rintro e w2 ⟨rfl, rfl⟩
    go_wp2
    go_ret
    exact ⟨by first | rfl | rw [hne2], HBA.out⟩

end Go.Proofs.Ytdiaglaokgehbaa
