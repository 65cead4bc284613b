/- The law LowTurn. -/
import Derived.Test.YtdiaglaokgehbaaMSpec
import Derived.Test.YtdiaglaokgehbaaMRow
import Derived.Test.YtdiaglaokgehbaaWM3
import Derived.Deep.RegionHeld3
namespace Go.Proofs.Ytdiaglaokgehbaa
open Go.RowKit

theorem tops_at {n : Nat} {b : Nat} (h : b < n) : atL (tabA n fun _ => topL) b = topL := atL_tab _ h
theorem tops_32 (n : Nat) : L32 (tabA n fun _ => topL) := by
  intro a ha
  simp only [tabA, List.mem_map] at ha
  obtain ⟨_, _, rfl⟩ := ha
  decide
theorem turn_32 {n : Nat} (l : List Lab) (h : ∀ b, b < n → LabOk (atL l b)) : L32 (tabA n fun b => turnL (atL l b)) := by
  intro a ha
  simp only [tabA, List.mem_map, List.mem_range] at ha
  obtain ⟨b, hb, rfl⟩ := ha
  have := (turn_ok (h b hb)).2.2
  omega

/-- The lists of two results. -/
def SixR (z1 z2 : Nat) (a b c d e f : Value) (w : World) : Prop :=
  w.cell? ⟨z1, 0, none⟩ = some a ∧ w.cell? ⟨z1, 1, none⟩ = some b ∧ w.cell? ⟨z1, 2, none⟩ = some c ∧ w.cell? ⟨z2, 0, none⟩ = some d ∧ w.cell? ⟨z2, 1, none⟩ = some e ∧ w.cell? ⟨z2, 2, none⟩ = some f
theorem SixR.below {z1 z2 : Nat} {a b c d e f : Value} {w w' : World} (h : SixR z1 z2 a b c d e f w) (hb : Below w.heap.size w w') : SixR z1 z2 a b c d e f w' :=
  ⟨cellKeep hb h.1, cellKeep hb h.2.1, cellKeep hb h.2.2.1, cellKeep hb h.2.2.2.1, cellKeep hb h.2.2.2.2.1, cellKeep hb h.2.2.2.2.2⟩

set_option maxHeartbeats 8000000 in
theorem LowTurn_with (hL : MPlayOk 24 false) (hM : MPlayOk 13 true) (cs : List Lab) (A : Option Addr) (c : Nat) (ts : List Lab) (A2 : Option Addr) (c2 : Nat) (ds : List Dd) (A3 : Option Addr) (c3 : Nat) (w : World)
    (hsz : cs.length * 16 ≤ 140737488355328) (hm2 : ts.length ≤ maxLen) (hcap2 : ts.length ≤ c2) (h322 : L32 ts) (hr2 : Row w A2 (labsC ts)) (hm3 : ds.length ≤ maxLen) (hcap3 : ds.length ≤ c3) (hr3 : Row w A3 (deedsC ds)) (hX : Laid w) :
    Calls Try.prog 7 #[.slice A cs.length c, .slice A2 ts.length c2, .slice A3 ds.length c3] w fun e w' => e = .returned (.bool true) ∧ Below w.heap.size w w' := by
  obtain ⟨i0, hi0, hz0, hz1, hz2⟩ := info_parts infoLb
  have HI := Lib.hid (And.intro hi0 (And.intro hz0 (And.intro hz1 hz2)))
  clear hi0 hz0 hz1 hz2
  have hcm : cs.length ≤ maxLen := by unfold maxLen; omega
  have keyL := fun (W : World) (hb : Below w.heap.size w W) (T : Option Addr) (kt : Nat) (hk : cs.length ≤ kt) (hrow : Row W T (labsC (tabA cs.length fun _ => topL))) =>
    hL (tabA cs.length fun _ => topL) T kt ts A2 c2 ds A3 c3 W (by rw [tabA_length]; exact hcm) (by rw [tabA_length]; exact hk) (tops_32 _) hrow hm2 hcap2 h322 (hr2.below hb) hm3 hcap3 (hr3.below hb) (hX.below hb)
  have keyM := fun (W : World) (hb : Below w.heap.size w W) (T : Option Addr) (kt : Nat) (hk : cs.length ≤ kt) (hrow : Row W T (labsC (tabA cs.length fun _ => topL))) (us : List Lab) (U : Option Addr) (ku : Nat) (hul : us.length ≤ maxLen) (huk : us.length ≤ ku) (hu32 : L32 us) (hurow : Row W U (labsC us)) =>
    hM (tabA cs.length fun _ => topL) T kt us U ku ds A3 c3 W (by rw [tabA_length]; exact hcm) (by rw [tabA_length]; exact hk) (tops_32 _) hrow hul huk hu32 hurow hm3 hcap3 (hr3.below hb) (hX.below hb)
  have kc := fun W (T : Option Addr) (kt : Nat) h1 h2 => marked_any (tabA cs.length fun _ => topL) ts T A2 kt c2 ds.length W h1 h2
  simp only [tabA_length] at keyL keyM kc
  have HKL := Lib.hid keyL
  have HKM := Lib.hid keyM
  have HKC := Lib.hid kc
  clear keyL keyM kc hX h322 hcap2 hcap3 hm3
  go_enter Try.func7, Try.ntmps7
  go_wp2
  go_loopw [7, 14] (fun ov v wr => ∃ k : Nat, v = .int .i64 k ∧ k ≤ cs.length ∧ wr.ownsRow w.heap.size 40 2 ov k (labsC (tabA k fun _ => topL)) ∧ Below w.heap.size w wr) (fun _ v _ => cs.length - (intOf v).toNat)
  case atStart => exact ⟨0, rfl, Nat.zero_le _, World.ownsRow_nil _ _ _ _, Below.refl _ _⟩
  case round =>
    obtain ⟨k, rfl, hk, hown, hb⟩ := hrel
    have HB := Lib.hid hb
    by_cases hlt : k < cs.length
    · have HN := Lib.hid (tabA_succ k fun _ => topL)
      have hbx := hb.alloc hb.size (.cells #[.int .i64 3, .int .u32 31] 40)
      have HO2 := Lib.hid (hown.alloc (.cells #[.int .i64 3, .int .u32 31] 40))
      have HB2 := Lib.hid hbx
      clear hown hb hbx
      go_wp2_with (at_builtin; refine wpList_append_grow rfl (.tmp 16) (.tmp 18) 22 rfl w.heap.size 40 i0 (.agg #[.int .i64 0, .int .u32 0]) 2 16 Try.underlying22 HI.out.1 HI.out.2.1 HI.out.2.2.1 HI.out.2.2.2 rfl (by decide) _ k (labsC (tabA k fun _ => topL)) rfl ?qown ⟨wr.heap.size, 0, none⟩ 1 1 [.int .i64 3, .int .u32 31] rfl rfl ?qnews ?qone ?q63 ?qby ?qbase ?qnext)
      case qown => exact HO2.out
      case qnews => exact row_news (row_new wr wr.heap.size rfl [.int .i64 3, .int .u32 31] 40)
      case qone => intro u hu; simp only [List.mem_cons, List.not_mem_nil, or_false] at hu; rcases hu with rfl | rfl <;> rfl
      case q63 => unfold maxLen; omega
      case qby => omega
      case qbase => exact HB2.out.size
      case qnext =>
        intro v' w3 hown hgr
        have HB3 := Lib.hid (HB2.out.grown hgr HB2.out.size (fun k hk => (World.ownsRow.lt HO2.out k hk).1))
        have HO3 := Lib.hid (show w3.ownsRow w.heap.size 40 2 v' (k + 1) (labsC (tabA (k + 1) fun _ => topL)) by rw [HN.out, labsC_append]; exact hown)
        clear hown hgr
        go_wp2
        go_roundw
        case rel => exact ⟨k + 1, by go_num, by omega, HO3.out, HB3.out⟩
        case measure => simp [intOf]; omega
    · obtain rfl : k = cs.length := by omega
      obtain ⟨T, kt, rfl, hkt, hrow⟩ := own_row hown
      clear hown
      have HRow := Lib.hid hrow
      have hL1 := HKL.out wr hb T kt hkt hrow
      clear hrow
      by_cases hc : codeM (tabA cs.length fun _ => topL) ts ds.length = 0
      · have hc' := hc
        obtain ⟨g1, g2, g3, g4, _, ok2⟩ := codeM_zero hc
        rw [tabA_length] at g1 g2
        have HT := Lib.hid (fun b (hb : b < ts.length) => show LabOk (atL ts b) from ok2 _ (List.mem_of_getElem? (atL_get hb)))
        obtain ⟨us, hus⟩ : ∃ us, us = tabA ts.length fun b => turnL (atL ts b) := ⟨_, rfl⟩
        have hul : us.length = ts.length := by rw [hus, tabA_length]
        have hcu : codeM (tabA cs.length fun _ => topL) us ds.length = 0 := by
          refine codeM_ok (by unfold LargeM; rw [tabA_length, hul]; omega) ?_ ?_
          · intro a ha; simp only [tabA, List.mem_map] at ha; obtain ⟨_, _, rfl⟩ := ha; exact top_ok
          · intro a ha; rw [hus] at ha; simp only [tabA, List.mem_map, List.mem_range] at ha; obtain ⟨b, hb, rfl⟩ := ha; exact turn_ok (HT.out b hb)
        have hmir := mirror_run (cl := atL (tabA cs.length fun _ => topL)) (cl' := atL (tabA cs.length fun _ => topL)) (th := atL ts) (th' := atL us) (nc := cs.length) (nt := ts.length) (fun b hb => tops_at hb) (fun b hb => tops_at hb) (fun t ht => by rw [hus, atL_tab _ ht]) HT.out ds
        have HRL := Lib.hid (fun codes marks fr (h : MRes false (tabA cs.length fun _ => topL) ts ds codes marks fr) => show codes = _ ∧ marks = _ ∧ fr = _ by unfold MRes at h; rw [if_pos hc, tabA_length] at h; exact h)
        have HRM := Lib.hid (fun codes marks fr (h : MRes true (tabA cs.length fun _ => topL) us ds codes marks fr) => show codes = _ ∧ marks = _ ∧ fr = _ by unfold MRes at h; rw [if_pos hcu, tabA_length, hul] at h; exact h)
        have HLen := Lib.hid (show (runM true (atL (tabA cs.length fun _ => topL)) (atL us) cs.length ts.length ds).1.length = ds.length from run_length ds)
        have hL2 := hL1
        rw [hc] at hL2
        have kc := fun W h1 h2 => HKC.out W T kt h1 h2
        rw [hc, show ((0 : Int) == 0) = true from rfl] at kc
        have kM := fun W (hb : Below w.heap.size w W) hrow (U : Option Addr) (ku : Nat) (huk : us.length ≤ ku) (hurow : Row W U (labsC us)) => HKM.out W hb T kt hkt hrow us U ku (by rw [hul]; exact hm2) huk (by rw [hus]; exact turn_32 _ HT.out) hurow
        rw [hcu, hul] at kM
        have kT := fun W h => turned_any ts A2 c2 W h g3 HT.out
        rw [← hus] at kT
        generalize runM false (atL (tabA cs.length fun _ => topL)) (atL ts) cs.length ts.length ds = st at *
        generalize runM true (atL (tabA cs.length fun _ => topL)) (atL us) cs.length ts.length ds = st2 at *
        obtain ⟨xc, s⟩ := st
        obtain ⟨xc2, s2⟩ := st2
        simp only at HRL HRM HLen hmir
        obtain ⟨hx, hfr, hkn, hmar⟩ := hmir
        subst hx
        have hfr2 : tabA ts.length s.fr = tabA ts.length s2.fr := by rw [hfr]
        have hmk2 : tabA cs.length s.mar = tabA cs.length fun b => turnL (atL (tabA cs.length s2.mar) b) := tabA_congr fun b hb => by rw [atL_tab _ hb]; exact (hmar b hb).1
        have HMok := Lib.hid (fun b (hb : b < cs.length) => show LabOk (atL (tabA cs.length s2.mar) b) by rw [atL_tab _ hb]; exact (hmar b hb).2)
        rw [hfr2, hmk2] at HRL
        have HUs := Lib.hid hul
        clear hc hc' hcu hL1 ok2 hus hul hfr hkn hmar hfr2 hmk2
        have HKC2 := Lib.hid kc
        have HKM2 := Lib.hid kM
        have HKT := Lib.hid kT
        have HL2 := Lib.hid hL2
        clear kc kM kT hL2 HKL HKM HKC hb
        go_wp2_with fail
        refine HL2.out.mono ?_
        rintro e w1 ⟨B1, k1, codes, B2, k2, marks, B3, k3, fr, rfl, hres, _, r1, r2, r3, hb1⟩
        obtain ⟨hq1, hq2, hq3⟩ := HRL.out _ _ _ hres
        subst hq1
        subst hq2
        subst hq3
        rw [tabA_length, tabA_length, HLen.out]
        have hba2 := (Below.refl w1.heap.size w1).alloc (Nat.le_refl _) (.cells #[.slice B1 ds.length k1, .slice B2 cs.length k2, .slice B3 ts.length k3] 27)
        have hbw := HB.out.trans ((hb1.trans (hba2.mono hb1.size)).mono HB.out.size)
        have HRow2 := Lib.hid ((HRow.out.below hb1).below hba2)
        have HM0 := Lib.hid (heap_alloc_new w1 (.cells #[.slice B1 ds.length k1, .slice B2 cs.length k2, .slice B3 ts.length k3] 27))
        have HR1 := Lib.hid (And.intro (r1.below hba2) (And.intro (r2.below hba2) (r3.below hba2)))
        have HBA := Lib.hid hbw
        clear hres r1 r2 r3 hb1 hba2 hbw
        go_wp2_with fail
        refine (HKC2.out _ HRow2.out (hr2.below HBA.out)).mono ?_
        rintro e w2 ⟨rfl, hb2⟩
        have HB2 := Lib.hid (HBA.out.trans (hb2.mono HBA.out.size))
        have HRow3 := Lib.hid (HRow2.out.below hb2)
        have HM2 := Lib.hid (lblk_keep hb2 HM0.out)
        have HR2 := Lib.hid (And.intro (HR1.out.1.below hb2) (And.intro (HR1.out.2.1.below hb2) (HR1.out.2.2.below hb2)))
        clear hb2
        go_wp2_with fail
        refine (HKT.out _ (hr2.below HB2.out)).mono ?_
        rintro e w3 ⟨U, ku, rfl, hku, hurow, hb3⟩
        have HB3 := Lib.hid (HB2.out.trans (hb3.mono HB2.out.size))
        have HRow4 := Lib.hid (HRow3.out.below hb3)
        have HM3 := Lib.hid (lblk_keep hb3 HM2.out)
        have HR3 := Lib.hid (And.intro (HR2.out.1.below hb3) (And.intro (HR2.out.2.1.below hb3) (HR2.out.2.2.below hb3)))
        have HKU := Lib.hid (And.intro hku hurow)
        clear hb3 hku hurow
        go_wp2_with fail
        refine (HKM2.out _ HB3.out HRow4.out U ku HKU.out.1 HKU.out.2).mono ?_
        rintro e w4 ⟨C1, l1, codes2, C2, l2, marks2, C3, l3, fr2, rfl, hres, _, r1, r2, r3, hb4⟩
        obtain ⟨hq1, hq2, hq3⟩ := HRM.out _ _ _ hres
        subst hq1
        subst hq2
        subst hq3
        rw [tabA_length, tabA_length, HLen.out]
        have hba := (Below.refl w4.heap.size w4).alloc (Nat.le_refl _) (.cells #[.slice C1 ds.length l1, .slice C2 cs.length l2, .slice C3 ts.length l3] 27)
        have hb45 := hb4.trans (hba.mono hb4.size)
        have HB5 := Lib.hid (HB3.out.trans (hb45.mono HB3.out.size))
        have HO5 := Lib.hid (heap_alloc_new w4 (.cells #[.slice C1 ds.length l1, .slice C2 cs.length l2, .slice C3 ts.length l3] 27))
        have HM5 := Lib.hid (lblk_keep hb45 HM3.out)
        have HR5 := Lib.hid (And.intro (HR3.out.1.below hb45) (And.intro (HR3.out.2.1.below hb45) (HR3.out.2.2.below hb45)))
        have HS5 := Lib.hid (And.intro (r1.below hba) (And.intro (r2.below hba) (r3.below hba)))
        clear hba hb45 r1 r2 r3 hb4 hres HR1 HR2 HR3 HM0 HM2 HM3 HKC2 HKM2 HKT HL2 HRL HRM
        go_upto_region 10 with fail
        generalize w1.heap.size = z1 at *
        generalize w4.heap.size = z2 at *
        generalize w4.alloc _ = w5 at *
        have hS : SixR z1 z2 (.slice B1 ds.length k1) (.slice B2 cs.length k2) (.slice B3 ts.length k3) (.slice C1 ds.length l1) (.slice C2 cs.length l2) (.slice C3 ts.length l3) w5 :=
          ⟨cell_of_row w5 _ 0 _ _ _ HM5.out, cell_of_row w5 _ 1 _ _ _ HM5.out, cell_of_row w5 _ 2 _ _ _ HM5.out, cell_of_row w5 _ 0 _ _ _ HO5.out, cell_of_row w5 _ 1 _ _ _ HO5.out, cell_of_row w5 _ 2 _ _ _ HO5.out⟩
        have HBd := Lib.hid (show Below w5.heap.size w5 w5.drew from (Below.refl _ _).drew)
        have HSd := Lib.hid (hS.below HBd.out)
        have kC := Lib.hid (fun W (hb : Below w5.heap.size w5 W) => show Calls Try.prog 16 #[.slice B1 ds.length k1, .slice C1 ds.length l1] W fun e w' => e = .returned (.bool true) ∧ Below W.heap.size W w' from by
          have h := Codes_any codes2 codes2 B1 C1 k1 l1 W (HR5.out.1.below hb) (HS5.out.1.below hb) (by rw [HLen.out]; omega) (by rw [HLen.out]; omega)
          rw [HLen.out, decide_eq_true rfl] at h
          exact h.mono fun e w' ⟨he, d, hw⟩ => ⟨he, by rw [hw]; exact below_drewN (Below.refl _ _) _⟩)
        have kW := Lib.hid (fun W (hb : Below w5.heap.size w5 W) => show Calls Try.prog 18 #[.slice B3 ts.length k3, .slice C3 ts.length l3] W fun e w' => e = .returned (.bool true) ∧ Below W.heap.size W w' from by
          have h := Words_any (tabA ts.length s2.fr) (tabA ts.length s2.fr) B3 C3 k3 l3 W (HR5.out.2.2.below hb) (HS5.out.2.2.below hb) (by rw [tabA_length]; omega) (by rw [tabA_length]; omega)
          rw [tabA_length, decide_eq_true (rfl : tabA ts.length s2.fr = tabA ts.length s2.fr)] at h
          exact h.mono fun e w' ⟨he, d, hw⟩ => ⟨he, by rw [hw]; exact below_drewN (Below.refl _ _) _⟩)
        have kU := Lib.hid (fun W (hb : Below w5.heap.size w5 W) => by
          have h := turned_any (tabA cs.length s2.mar) C2 l2 W (HS5.out.2.1.below hb) (by rw [tabA_length]; omega) (fun b hb => HMok.out b (by rw [tabA_length] at hb; exact hb))
          rw [tabA_length] at h
          exact h)
        have kL := Lib.hid (fun W (hb : Below w5.heap.size w5 W) (V : Option Addr) (kv : Nat) (hv : Row W V (labsC (tabA cs.length fun b => turnL (atL (tabA cs.length s2.mar) b)))) => show Calls Try.prog 17 #[.slice B2 cs.length k2, .slice V cs.length kv] W fun e w' => e = .returned (.bool true) ∧ Below W.heap.size W w' from by
          have h := Labels_any (tabA cs.length fun b => turnL (atL (tabA cs.length s2.mar) b)) (tabA cs.length fun b => turnL (atL (tabA cs.length s2.mar) b)) B2 V k2 kv W (HR5.out.2.1.below hb) hv (by rw [tabA_length]; unfold maxLen; omega) (by rw [tabA_length]; unfold maxLen; omega)
          rw [tabA_length, decide_eq_true rfl] at h
          exact h.mono fun e w' ⟨he, d, hw⟩ => ⟨he, by rw [hw]; exact below_drewN (Below.refl _ _) _⟩)
        go_region_held3 (fun w' => w'.cell? ⟨z1, 0, none⟩ = some (.slice B1 ds.length k1) ∧ w'.cell? ⟨z1, 1, none⟩ = some (.slice B2 cs.length k2) ∧ w'.cell? ⟨z1, 2, none⟩ = some (.slice B3 ts.length k3) ∧ w'.cell? ⟨z2, 0, none⟩ = some (.slice C1 ds.length l1) ∧ w'.cell? ⟨z2, 1, none⟩ = some (.slice C2 cs.length l2) ∧ w'.cell? ⟨z2, 2, none⟩ = some (.slice C3 ts.length l3))
          (first | exact hS | exact HSd.out | exact HSa.out | exact HSb.out | exact HSc.out | exact HSe.out | go_keep)
          (first
          | (go_at_call 16
             refine (kC.out _ HBd.out).mono ?_
             rintro e w6 ⟨rfl, hb6⟩
             have HBa := Lib.hid (HBd.out.trans (hb6.mono HBd.out.size))
             have HSa := Lib.hid (HSd.out.below hb6)
             clear hb6)
          | (go_at_call 18
             refine (kW.out _ HBa.out).mono ?_
             rintro e w7 ⟨rfl, hb7⟩
             have HBb := Lib.hid (HBa.out.trans (hb7.mono HBa.out.size))
             have HSb := Lib.hid (HSa.out.below hb7)
             clear hb7)
          | (go_at_call 25
             refine (kU.out _ HBb.out).mono ?_
             rintro e w8 ⟨V, kv, rfl, _, hv, hb8⟩
             have HBc := Lib.hid (HBb.out.trans (hb8.mono HBb.out.size))
             have HSc := Lib.hid (HSb.out.below hb8)
             have HV := Lib.hid hv
             clear hb8 hv)
          | (go_at_call 17
             refine (kL.out _ HBc.out V kv HV.out).mono ?_
             rintro e w9 ⟨rfl, hb9⟩
             have HBe := Lib.hid (HBc.out.trans (hb9.mono HBc.out.size))
             have HSe := Lib.hid (HSc.out.below hb9)
             clear hb9))
        all_goals
          go_wp2
          go_ret
          exact ⟨rfl, HB5.out.trans (HBe.out.mono HB5.out.size)⟩
      · have hne : (codeM (tabA cs.length fun _ => topL) ts ds.length == 0) = false := by simpa using hc
        have hne2 : (codeM (tabA cs.length fun _ => topL) ts ds.length != 0) = true := by simpa using hc
        have kc := fun W h1 h2 => HKC.out W T kt h1 h2
        rw [hne] at kc
        generalize codeM (tabA cs.length fun _ => topL) ts ds.length = q at *
        clear hc hne
        have HKC2 := Lib.hid kc
        clear kc HKL HKM HKC hb
        go_wp2_with fail
        refine hL1.mono ?_
        rintro e w1 ⟨B1, k1, codes, B2, k2, marks, B3, k3, fr, rfl, hres, _, r1, r2, r3, hb1⟩
        have hba2 := (Below.refl w1.heap.size w1).alloc (Nat.le_refl _) (.cells #[.slice B1 codes.length k1, .slice B2 marks.length k2, .slice B3 fr.length k3] 27)
        have hbw := HB.out.trans ((hb1.trans (hba2.mono hb1.size)).mono HB.out.size)
        have HRow2 := Lib.hid ((HRow.out.below hb1).below hba2)
        have HBA := Lib.hid hbw
        clear hres r1 r2 r3 hb1 hba2 hbw hL1
        go_wp2_with fail
        refine (HKC2.out _ HRow2.out (hr2.below HBA.out)).mono ?_
        rintro e w2 ⟨rfl, hb2⟩
        have HB2 := Lib.hid (HBA.out.trans (hb2.mono HBA.out.size))
        clear hb2
        go_wp2
        go_ret
        exact ⟨by first | rfl | rw [hne2], HB2.out⟩

end Go.Proofs.Ytdiaglaokgehbaa
