/- The law MarkFront. -/
import Derived.Test.YtdiaglaokgehbaaMSpec
import Derived.Test.YtdiaglaokgehbaaMRow
import Derived.Test.YtdiaglaokgehbaaWM2
namespace Go.Proofs.Ytdiaglaokgehbaa
open Go.RowKit

theorem Row.front {w : World} {A : Option Addr} {cs ds : List Value} (h : Row w A (cs ++ ds)) : Row w A cs := by
  rcases h with h | ⟨b, off, rfl, hc⟩
  · exact .inl (List.append_eq_nil_iff.1 h).1
  · exact .inr ⟨b, off, rfl, fun j v hv => hc j v (by rw [List.getElem?_append_left (List.getElem?_eq_some_iff.1 hv).1]; exact hv)⟩
theorem deedsC_take {w : World} {A : Option Addr} {l : List Dd} (h : Row w A (deedsC l)) (i : Nat) : Row w A (deedsC (l.take i)) := by
  rw [← List.take_append_drop i l] at h
  unfold deedsC at h ⊢
  rw [List.flatMap_append] at h
  exact h.front
theorem ints_take {w : World} {A : Option Addr} {l : List Int} (h : Row w A (ints l)) (i : Nat) : Row w A (ints (l.take i)) := by
  rw [← List.take_append_drop i l, ints] at h
  rw [List.map_append] at h
  exact h.front
theorem codeM_front {cs ts : List Lab} {n i : Nat} (h : codeM cs ts n = 0) (hi : i ≤ n) : codeM cs ts i = 0 := by
  obtain ⟨g1, g2, g3, g4, g5, g6⟩ := codeM_zero h
  exact codeM_ok (by unfold LargeM; omega) g5 g6

set_option maxHeartbeats 2000000 in
theorem MarkFront_with (hF : MPlayOk 13 true) (cs : List Lab) (A : Option Addr) (c : Nat) (ts : List Lab) (A2 : Option Addr) (c2 : Nat) (ds : List Dd) (A3 : Option Addr) (c3 : Nat) (k : Nat) (w : World) (hk : k < 256)
    (hm : cs.length ≤ maxLen) (hcap : cs.length ≤ c) (h32 : L32 cs) (hr : Row w A (labsC cs)) (hm2 : ts.length ≤ maxLen) (hcap2 : ts.length ≤ c2) (h322 : L32 ts) (hr2 : Row w A2 (labsC ts)) (hm3 : ds.length ≤ maxLen) (hcap3 : ds.length ≤ c3) (hr3 : Row w A3 (deedsC ds)) (hX : Laid w) :
    Calls Try.prog 5 #[.slice A cs.length c, .slice A2 ts.length c2, .slice A3 ds.length c3, .int .u8 k] w fun e w' => e = .returned (.bool true) ∧ Below w.heap.size w w' := by
  have key := hF cs A c ts A2 c2 ds A3 c3 w hm hcap h32 hr hm2 hcap2 h322 hr2 hm3 hcap3 hr3 hX
  obtain ⟨i, hi⟩ : ∃ i, i = k % (ds.length + 1) := ⟨_, rfl⟩
  have hile : i ≤ ds.length := by have := Nat.mod_lt k (show 0 < ds.length + 1 by omega); omega
  obtain ⟨z, hz, hz2, hn0, hrem⟩ : ∃ z : Int, IntKind.i64.wrap ((ds.length : Int) + 1) = z ∧ wrap64 ((ds.length : Int) + 1) = z ∧ ¬ z = 0 ∧ Int.tmod (k : Int) z = (i : Int) := by
    have e : ∀ x : Int, IntKind.i64.wrap x = wrap64 x := fun x => by rw [IntKind.wrap_i64]; unfold wrap64; rfl
    by_cases hb : ds.length < 9223372036854775807
    · refine ⟨(ds.length : Int) + 1, IntWalk.i64_in _ ⟨by omega, by omega⟩, by rw [← e]; exact IntWalk.i64_in _ ⟨by omega, by omega⟩, by omega, ?_⟩
      rw [hi, Int.tmod_eq_emod_of_nonneg (by omega)]
      norm_cast
    · have hd : ds.length = 9223372036854775807 := by unfold maxLen at hm3; omega
      have hw : IntKind.i64.wrap ((ds.length : Int) + 1) = -9223372036854775808 := by rw [hd]; decide
      refine ⟨_, hw, by rw [← e]; exact hw, by omega, ?_⟩
      rw [hi, Nat.mod_eq_of_lt (by omega), Int.tmod_neg, Int.tmod_eq_emod_of_nonneg (by omega)]
      omega
  have htl : (ds.take i).length = i := by rw [List.length_take]; omega
  have key2 := fun W hb => hF cs A c ts A2 c2 (ds.take i) A3 c3 W hm hcap h32 (hr.below hb) hm2 hcap2 h322 (hr2.below hb) (by rw [htl]; omega) (by rw [htl]; omega) (deedsC_take (hr3.below hb) i) (hX.below hb)
  rw [htl] at key2
  have kc := fun W h1 h2 => marked_any cs ts A A2 c c2 ds.length W h1 h2
  have HTL := Lib.hid htl
  clear hX h32 h322 hcap hcap2 hi htl
  by_cases hc : codeM cs ts ds.length = 0
  · obtain ⟨g1, g2, g3, g4, ok1, ok2⟩ := codeM_zero hc
    have HC := Lib.hid (fun b (hb : b < cs.length) => show LabOk (atL cs b) from ok1 _ (List.mem_of_getElem? (atL_get hb)))
    have HT := Lib.hid (fun b (hb : b < ts.length) => show LabOk (atL ts b) from ok2 _ (List.mem_of_getElem? (atL_get hb)))
    have HF1 := Lib.hid (fine_run (up := true) HC.out HT.out ds)
    have HF2 := Lib.hid (fine_run (up := true) HC.out HT.out (ds.take i))
    have hc2 := codeM_front hc hile
    have HR := Lib.hid (fun codes marks fr (h : MRes true cs ts ds codes marks fr) => show codes = _ ∧ marks = _ ∧ fr = _ by unfold MRes at h; rw [if_pos hc] at h; exact h)
    have HR' := Lib.hid (fun codes marks fr (h : MRes true cs ts (ds.take i) codes marks fr) => show codes = _ ∧ marks = _ ∧ fr = _ by unfold MRes at h; rw [HTL.out, if_pos hc2] at h; exact h)
    have HLen := Lib.hid (show (runM true (atL cs) (atL ts) cs.length ts.length ds).1.length = ds.length from run_length ds)
    have HLen' := Lib.hid (show (runM true (atL cs) (atL ts) cs.length ts.length (ds.take i)).1.length = i by rw [run_length, HTL.out])
    have HFr := Lib.hid (run_front (up := true) (cl := atL cs) (th := atL ts) (nc := cs.length) (nt := ts.length) ds i)
    rw [hc] at key
    rw [hc2] at key2
    clear hc hc2 kc ok1 ok2
    generalize runM true (atL cs) (atL ts) cs.length ts.length ds = st at *
    generalize runM true (atL cs) (atL ts) cs.length ts.length (ds.take i) = st2 at *
    obtain ⟨xc, s⟩ := st
    obtain ⟨xc2, s2⟩ := st2
    simp only at HR HR' HLen HLen' HFr HF1 HF2
    have HK := Lib.hid key
    have HK2 := Lib.hid key2
    clear key key2
    go_enter Try.func5, Try.ntmps5
    go_wp2_with fail
    refine HK.out.mono ?_
    rintro e w1 ⟨B1, k1, codes, B2, k2, marks, B3, k3, fr, rfl, hres, hcap1, r1, r2, r3, hb1⟩
    obtain ⟨hq1, hq2, hq3⟩ := HR.out _ _ _ hres
    subst hq1
    subst hq2
    subst hq3
    rw [HLen.out] at hcap1
    rw [tabA_length, tabA_length, HLen.out]
    have hba := hb1.alloc hb1.size (.cells #[.slice B1 ds.length k1, .slice B2 cs.length k2, .slice B3 ts.length k3] 27)
    have hba2 := (Below.refl w1.heap.size w1).alloc (Nat.le_refl _) (.cells #[.slice B1 ds.length k1, .slice B2 cs.length k2, .slice B3 ts.length k3] 27)
    have HM0 := Lib.hid (heap_alloc_new w1 (.cells #[.slice B1 ds.length k1, .slice B2 cs.length k2, .slice B3 ts.length k3] 27))
    have HR1 := Lib.hid (And.intro (r1.below hba2) (r3.below hba2))
    have HBA := Lib.hid hba
    clear hba hba2 r1 r2 r3 hb1 hres
    go_wp2_with fail
    refine (HK2.out _ HBA.out).mono ?_
    rintro e w2 ⟨C1, l1, codes2, C2, l2, marks2, C3, l3, fr2, rfl, hres, _, r1, r2, r3, hb2⟩
    obtain ⟨hq1, hq2, hq3⟩ := HR'.out _ _ _ hres
    subst hq1
    subst hq2
    subst hq3
    rw [tabA_length, tabA_length, HLen'.out]
    have hb3 := HBA.out.trans (hb2.mono HBA.out.size)
    have hba2 := (Below.refl w2.heap.size w2).alloc (Nat.le_refl _) (.cells #[.slice C1 i l1, .slice C2 cs.length l2, .slice C3 ts.length l3] 27)
    have HM2 := Lib.hid (heap_alloc_new w2 (.cells #[.slice C1 i l1, .slice C2 cs.length l2, .slice C3 ts.length l3] 27))
    have HM1 := Lib.hid (lblk_keep hba2 (lblk_keep hb2 HM0.out))
    have HR2 := Lib.hid (And.intro (And.intro ((HR1.out.1.below hb2).below hba2) ((HR1.out.2.below hb2).below hba2)) (And.intro (r1.below hba2) (r3.below hba2)))
    have HB3 := Lib.hid (hb3.alloc hb3.size (.cells #[.slice C1 i l1, .slice C2 cs.length l2, .slice C3 ts.length l3] 27))
    clear hba2 r1 r2 r3 hb2 hb3 hres HR1 HM0 HBA HK HK2 HR HR'
    go_upto_region 6 with fail
    generalize w1.heap.size = z1 at *
    generalize w2.heap.size = z2 at *
    generalize w2.alloc _ = w3 at *
    obtain ⟨a0, a2⟩ : w3.cell? ⟨z1, 0, none⟩ = some (.slice B1 ds.length k1) ∧ w3.cell? ⟨z1, 2, none⟩ = some (.slice B3 ts.length k3) := ⟨cell_of_row w3 _ 0 _ _ _ HM1.out, cell_of_row w3 _ 2 _ _ _ HM1.out⟩
    obtain ⟨b0, b2⟩ : w3.cell? ⟨z2, 0, none⟩ = some (.slice C1 i l1) ∧ w3.cell? ⟨z2, 2, none⟩ = some (.slice C3 ts.length l3) := ⟨cell_of_row w3 _ 0 _ _ _ HM2.out, cell_of_row w3 _ 2 _ _ _ HM2.out⟩
    have htk : codes.take i = codes2 := by
      obtain ⟨r, e, _⟩ := HFr.out
      rw [e, List.take_append_of_le_length (by rw [HLen'.out]; exact Nat.le_refl _), List.take_of_length_le (by rw [HLen'.out]; exact Nat.le_refl _)]
    have kq : ∀ n, Calls Try.prog 16 #[.slice B1 i k1, .slice C1 i l1] (w3.drewN n) fun e w' => e = .returned (.bool true) ∧ ∃ m, w' = w3.drewN m := fun n => by
      have h := Codes_any codes2 codes2 B1 C1 k1 l1 (w3.drewN n) (by rw [← htk]; exact (ints_take HR2.out.1.1 i).drewN n) (HR2.out.2.1.drewN n) (by rw [HLen'.out]; omega) (by rw [HLen'.out]; omega)
      rw [HLen'.out, decide_eq_true (rfl : codes2 = codes2)] at h
      exact h.mono fun e w' ⟨he, d, hw⟩ => ⟨he, n + d, by rw [hw, World.drewN_drewN]⟩
    have h1 : ((ds.length : Int) != (ds.length : Int)) = false := by simp
    have h2 : ((ts.length : Int) != (ts.length : Int)) = false := by simp
    clear htk
    go_quiet (first | with_reducible exact kq _)
    have HB4 := Lib.hid (below_drewN HB3.out nq)
    have hr4 : Row (w3.drewN nq) B3 (words (tabA ts.length s.fr)) := HR2.out.1.2
    have hr4' : Row (w3.drewN nq) C3 (words (tabA ts.length s2.fr)) := HR2.out.2.2
    have a2' : (w3.drewN nq).cell? ⟨z1, 2, none⟩ = some (.slice B3 ts.length k3) := a2
    have b2' : (w3.drewN nq).cell? ⟨z2, 2, none⟩ = some (.slice C3 ts.length l3) := b2
    clear a0 a2 b0 b2 kq h1 h2 HR2 HM1 HM2 HB3
    generalize w3.drewN nq = w4 at *
    go_wp2
    go_loopw [83] (fun v wr => ∃ t d : Nat, v = .int .i64 t ∧ t ≤ ts.length ∧ wr = w4.drewN d) (fun v _ => ts.length - (intOf v).toNat)
    case atStart => exact ⟨0, 0, rfl, Nat.zero_le _, rfl⟩
    case round =>
      obtain ⟨t, d, rfl, ht, rfl⟩ := hrel
      have HB5 := Lib.hid (below_drewN HB4.out d)
      by_cases hlt : t < ts.length
      · obtain ⟨b, off, rfl, d1⟩ := RowW.cells (hr4.drewN d) (tabA_get s.fr hlt)
        obtain ⟨b', off', rfl, d2⟩ := RowW.cells (hr4'.drewN d) (tabA_get s2.fr hlt)
        have n1 : (w4.drewN d).cell? ⟨z1, 2, none⟩ = some (.slice (some ⟨b, off, none⟩) ts.length k3) := a2'
        have n2 : (w4.drewN d).cell? ⟨z2, 2, none⟩ = some (.slice (some ⟨b', off', none⟩) ts.length l3) := b2'
        have hfr : s.fr t < 4294967296 := by have h1 := HF1.out.2.1 t hlt; have h8 : one ts.length ≤ one 8 := Nat.pow_le_pow_right (by omega) g3; simp [one] at h8 h1; omega
        have hfr2 : s2.fr t < 4294967296 := by have h1 := HF2.out.2.1 t hlt; have h8 : one ts.length ≤ one 8 := Nat.pow_le_pow_right (by omega) g3; simp [one] at h8 h1; omega
        have kI := fun W => In_any (s2.fr t) (s.fr t) hfr2 hfr W
        rw [show (s2.fr t ||| s.fr t == s.fr t) = true from (by obtain ⟨_, _, h⟩ := HFr.out; exact h t)] at kI
        clear a2' b2' hr4 hr4'
        generalize hw5 : w4.drewN d = w5 at *
        have HW5 := Lib.hid hw5
        clear hw5
        go_wp2
        refine wp_region_still_tail 10 (by kernel_rfl) (by kernel_rfl) ?_
        simp only [List.take_succ_cons, List.take_zero, List.drop_succ_cons, List.drop_zero]
        iterate 10 still_step
        refine wpStill_nil ?_
        go_wp2_with fail
        refine (kI _).mono ?_
        rintro e w6 ⟨rfl, rfl⟩
        go_wp2
        go_roundw
        case rel => exact ⟨t + 1, d + 1, by go_num, by omega, by rw [← HW5.out]; first | rfl | exact World.drewN_drewN _ _ _⟩
        case measure => simp [intOf]; omega
      · obtain rfl : t = ts.length := by omega
        go_wp2
        go_ret
        exact ⟨rfl, HB5.out⟩
  · have hne : (codeM cs ts ds.length == 0) = false := by simpa using hc
    have hne2 : (codeM cs ts ds.length != 0) = true := by simpa using hc
    rw [hne] at kc
    generalize codeM cs ts ds.length = q at *
    clear hc hne
    have HK := Lib.hid key
    have HK2 := Lib.hid key2
    have HKC := Lib.hid kc
    clear key key2 kc
    go_enter Try.func5, Try.ntmps5
    go_wp2_with fail
    refine HK.out.mono ?_
    rintro e w1 ⟨B1, k1, codes, B2, k2, marks, B3, k3, fr, rfl, hres, _, r1, r2, r3, hb1⟩
    have HBA := Lib.hid (hb1.alloc hb1.size (.cells #[.slice B1 codes.length k1, .slice B2 marks.length k2, .slice B3 fr.length k3] 27))
    clear hres r1 r2 r3 hb1
    go_wp2_with fail
    refine (HK2.out _ HBA.out).mono ?_
    rintro e w2 ⟨C1, l1, codes2, C2, l2, marks2, C3, l3, fr2, rfl, hres, _, r1, r2, r3, hb2⟩
    have hb3 := HBA.out.trans (hb2.mono HBA.out.size)
    have HB3 := Lib.hid (hb3.alloc hb3.size (.cells #[.slice C1 codes2.length l1, .slice C2 marks2.length l2, .slice C3 fr2.length l3] 27))
    clear hres r1 r2 r3 hb2 hb3
    go_wp2_with fail
    refine (HKC.out _ (hr.below HB3.out) (hr2.below HB3.out)).mono ?_
    rintro e w4 ⟨rfl, hb4⟩
    have HB4 := Lib.hid (HB3.out.trans (hb4.mono HB3.out.size))
    clear hb4
    go_wp2
    go_ret
    exact ⟨rfl, HB4.out⟩

end Go.Proofs.Ytdiaglaokgehbaa
