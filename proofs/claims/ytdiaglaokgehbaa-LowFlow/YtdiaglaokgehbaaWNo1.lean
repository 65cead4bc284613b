/- low.meet, under, slices.Clone of labels, low.Play's execute. -/
import Derived.Test.YtdiaglaokgehbaaWMo3
namespace Go.Proofs.Ytdiaglaokgehbaa
open Go.RowKit

set_option maxHeartbeats 1000000 in
theorem nMeet_any (l1 l2 : Int) (p1 p2 : Nat) (w : World) (ha : LabOk (l1, p1)) (hb : LabOk (l2, p2)) :
    Calls Try.prog 44 #[.agg #[.int .i64 l1, .int .u32 p1], .agg #[.int .i64 l2, .int .u32 p2]] w fun e w' => e = .returned (labV (meetL (l1, p1) (l2, p2))) ∧ Below w.heap.size w w' := by
  have hT := twoBox (l1, p1) (l2, p2) w
  have hT3 := hT.three
  simp only at hT3
  obtain ⟨a0, b0, z0, hbel⟩ := hT3
  have h1 := ha.2.2
  have h2 := hb.2.2
  simp only at h1 h2
  obtain ⟨lj, pj, hj⟩ : ∃ lj pj, meetL (l1, p1) (l2, p2) = (lj, pj) := ⟨_, _, rfl⟩
  have kA := fun W => lMeet_any l1 l2 p1 p2 W (by omega) (by omega)
  rw [codeLL_ok ha hb, if_pos rfl, hj] at kA
  rw [hj]
  simp only [labV] at kA ⊢
  generalize hw3 : (((w.alloc (.cells #[.int .i64 l1, .int .u32 (p1 : Int)] 40)).alloc (.cells #[.int .i64 l2, .int .u32 (p2 : Int)] 40)).alloc (.cells #[.int .i64 0, .int .u32 0] 40)) = w3 at *
  have HZ := Lib.hid z0
  obtain ⟨ca0, ca1⟩ := ltwo_cells a0
  obtain ⟨cb0, cb1⟩ := ltwo_cells b0
  clear hT a0 b0 z0 hj ha hb
  go_enter Try.func44, Try.ntmps44
  go_wp2_with fail
  refine (kA _).mono ?_
  rintro e w4 ⟨rfl, hb4⟩
  have z4 := lblk_alloc (lblk_keep hb4 HZ.out) (.cells #[.int .i64 lj, .int .u32 (pj : Int)] 40)
  have f0 : (w4.alloc (.cells #[.int .i64 lj, .int .u32 (pj : Int)] 40)).frozen? ⟨w.heap.size + 1 + 1, 0, none⟩ = false := by unfold World.frozen?; rw [z4]; simp
  have f1 : (w4.alloc (.cells #[.int .i64 lj, .int .u32 (pj : Int)] 40)).frozen? ⟨w.heap.size + 1 + 1, 1, none⟩ = false := by unfold World.frozen?; rw [z4]; simp
  obtain ⟨dz0, dz1⟩ := ltwo_cells z4
  obtain ⟨n0, n1⟩ := ltwo_cells (heap_alloc_new w4 (.cells #[.int .i64 lj, .int .u32 (pj : Int)] 40))
  have HF := Lib.hid (ltwo_cells (ltwo_set1 (u := .int .u32 (pj : Int)) (ltwo_set0 (u := .int .i64 lj) z4)))
  have hbq := (hbel.trans (hb4.mono hbel.size))
  have hb5 := Lib.hid (((hbq.alloc hbq.size (.cells #[.int .i64 lj, .int .u32 (pj : Int)] 40)).setCell (p := ⟨w.heap.size + 1 + 1, 0, none⟩) (by simp; omega) (.int .i64 lj)).setCell (p := ⟨w.heap.size + 1 + 1, 1, none⟩) (by simp; omega) (.int .u32 (pj : Int)))
  clear hb4 hbel hbq z4
  go_wp2
  refine bodyPost_ret (v := .agg #[.int .i64 lj, .int .u32 (pj : Int)]) (by simp [results, Try.results44, go_sem, HF.out.1, HF.out.2]) rfl ?_
  exact ⟨rfl, hb5.out⟩

set_option maxHeartbeats 1000000 in
theorem nUnder_any (l1 l2 : Int) (p1 p2 : Nat) (w : World) (ha : LabOk (l1, p1)) (hb : LabOk (l2, p2)) :
    Calls Try.prog 45 #[.agg #[.int .i64 l1, .int .u32 p1], .agg #[.int .i64 l2, .int .u32 p2]] w fun e w' => e = .returned (.bool (underL (l1, p1) (l2, p2))) ∧ Below w.heap.size w w' := by
  have hT := twoBox (l1, p1) (l2, p2) w
  obtain ⟨a0, a1⟩ := hT.atA
  obtain ⟨b0, b1⟩ := hT.atB
  have hbel := hT.bel
  have h1 := ha.2.2
  have h2 := hb.2.2
  simp only at h1 h2 a0 a1 b0 b1 hbel
  have kA := fun W => lUnder_any l1 l2 p1 p2 W (by omega) (by omega)
  rw [codeLL_ok ha hb, show (((0 : Int) == 0) && underL (l1, p1) (l2, p2)) = underL (l1, p1) (l2, p2) from rfl] at kA
  generalize underL (l1, p1) (l2, p2) = u at *
  clear hT ha hb
  go_enter Try.func45, Try.ntmps45
  go_wp2_with fail
  refine (kA _).mono ?_
  rintro e w4 ⟨rfl, hb4⟩
  have hb5 := Lib.hid (hbel.trans (hb4.mono hbel.size))
  clear hb4 hbel
  go_wp2
  go_ret
  exact ⟨rfl, hb5.out⟩


set_option maxHeartbeats 1000000 in
theorem lbClone_any (l : List Lab) (A : Option Addr) (c : Nat) (w : World) (h0 : 0 < l.length) (hl : l.length ≤ 1000) (hr : Row w A (labsC l)) :
    Calls Try.prog 42 #[.slice A l.length c] w fun e w' => ∃ g cap, e = .returned (.slice (some ⟨g, 0, none⟩) l.length cap) ∧ RowsM w [⟨40, 2, .slice (some ⟨g, 0, none⟩) l.length cap, l.length, labsC l⟩] w' := by
  obtain ⟨i0, hi, hz0, hz1, hz2⟩ := info_parts infoLb
  have HI := Lib.hid (And.intro hi (And.intro hz0 (And.intro hz1 hz2)))
  obtain ⟨b, off, rfl, _⟩ := hr.at (k := 0) (by rw [labsC_length]; omega)
  have HNews := Lib.hid (row_news (hr.below ((Below.refl _ _).alloc (Nat.le_refl _) (.cells #[] 40))))
  have HLen := Lib.hid (show (labsC l).length = l.length * 2 by rw [labsC_length]; omega)
  have HM := Lib.hid ((RowsM.nil w).newAlloc (cs := #[]) (t := 40) 2 0 (by decide) rfl)
  have hnil : ∀ W, (binOp .eql 22 (.slice (some ⟨b, off, none⟩) l.length c) (.slice none 0 0)).run Try.prog W = .ok (.bool false) W := fun W => Lib.run_eql_slice_nil W _ _ _ _ _ _ _ Try.underlying22
  clear hi hz0 hz1 hz2 hr
  go_enter Try.func42, Try.ntmps42
  go_wp2_with (at_builtin; refine wpList_append_rm rfl _ _ 22 rfl 0 40 2 0 _ [] HM.out rfl i0 (.agg #[.int .i64 0, .int .u32 0]) 16 Try.underlying22 HI.out.1 HI.out.2.1 HI.out.2.2.1 HI.out.2.2.2 rfl (by decide) rfl ⟨b, off, none⟩ l.length c (labsC l) rfl HLen.out HNews.out (labsC_oneCell l) ?q63 ?qby ?qnext)
  case q63 => unfold maxLen; omega
  case qby => omega
  case qnext =>
    intro A9 c9 w9 hn9
    have hn : RowsM w [⟨40, 2, .slice A9 l.length c9, l.length, labsC l⟩] w9 := by
      exact hn9
    obtain ⟨g, cg, hgv, _⟩ := hn.solid (k := 0) rfl h0
    simp only [Value.slice.injEq, true_and] at hgv
    obtain ⟨rfl, rfl⟩ := hgv
    have HN := Lib.hid hn
    clear hn hn9 HM
    go_wp2
    go_ret
    exact ⟨_, _, rfl, HN.out⟩

set_option maxRecDepth 100000 in
set_option maxHeartbeats 4000000 in
theorem nExec_any {w0 : World} (cs ts : List Lab) (gC gT gM bm cm : Nat) (A A2 : Option Addr) (c c2 : Nat) (s : Ms) (ex : List Rw) (mb nk m : Nat) (f : Nat → Nat) (kind who tgt lev : Int) (parts : Nat) (val : Int) (w : World)
    (hM : RowsK w0 (rowsX gC gT gM bm A A2 cs.length ts.length c c2 cm (tabA cs.length s.mar) ex) mb nk m f w) (hr : Row w0 A (labsC cs)) (hr2 : Row w0 A2 (labsC ts))
    (hcs : ∀ a ∈ cs, LabOk a) (hts : ∀ a ∈ ts, LabOk a) (hF : ∀ b, b < cs.length → LabOk (s.mar b)) (hk : ¬ (kind < 1 ∨ 3 < kind)) (hA : ¬ ArgBad cs.length ts.length ⟨kind, who, tgt, lev, parts, val⟩) :
    Calls Try.prog 43 #[.agg #[.int .i64 kind, .int .i64 who, .int .i64 tgt, .int .i64 lev, .int .u32 parts, .int .i64 val], .pointer (some ⟨gM, 0, none⟩), .pointer (some ⟨gT, 0, none⟩), .pointer (some ⟨gC, 0, none⟩)] w fun e w' =>
      e = .returned (.int .i64 (stepM false (atL cs) (atL ts) cs.length ts.length s ⟨kind, who, tgt, lev, parts, val⟩).1) ∧
      RowsK w0 (rowsX gC gT gM bm A A2 cs.length ts.length c c2 cm (tabA cs.length (stepM false (atL cs) (atL ts) cs.length ts.length s ⟨kind, who, tgt, lev, parts, val⟩).2.mar) ex) mb nk m f w' := by
  obtain ⟨q, s', hq⟩ : ∃ q s', stepM false (atL cs) (atL ts) cs.length ts.length s ⟨kind, who, tgt, lev, parts, val⟩ = (q, s') := ⟨_, _, rfl⟩
  rw [hq]
  unfold ArgBad at hA
  simp only at hA ⊢
  obtain ⟨b, rfl⟩ := Int.eq_ofNat_of_zero_le (show 0 ≤ who by omega)
  have hb : b < cs.length := by omega
  have HQ := Lib.hid (show stepM false (atL cs) (atL ts) cs.length ts.length s ⟨kind, (b : Int), tgt, lev, parts, val⟩ = if kind = 3 then (0, dropM false (atL cs) s b) else if kind = 1 then (0, readM false (atL ts) s b tgt.toNat) else if underL (atL ts tgt.toNat) (s.mar b) = true then (0, writeM s b tgt.toNat) else (7, s) by
    unfold stepM
    rw [if_neg (by simpa using hk), if_neg (by unfold ArgBad; simp only; omega)]
    simp [okW])
  rw [hq] at HQ
  clear hq
  have HM1 := Lib.hid (hM.box (cs := #[.int .i64 kind, .int .i64 b, .int .i64 tgt, .int .i64 lev, .int .u32 (parts : Int), .int .i64 val]) (t := 62) 6 rfl)
  have hsz : w0.heap.size ≤ w.heap.size := hM.rows.below.size
  go_enter Try.func43, Try.ntmps43
  clear hM
  go_upto_region 1 with fail
  generalize w.alloc _ = w1 at *
  generalize w.heap.size = sz at *
  have e0 := HM1.out.cell (k := 0) rfl (i := 0) rfl
  have e1 := HM1.out.cell (k := 0) rfl (i := 1) rfl
  have e2 := HM1.out.cell (k := 0) rfl (i := 2) rfl
  have eC := HM1.out.cell (k := 1) rfl (i := 0) rfl
  have eT := HM1.out.cell (k := 2) rfl (i := 0) rfl
  have eM := HM1.out.cell (k := 3) rfl (i := 0) rfl
  have m0 := HM1.out.cell (k := 4) rfl (i := b * 2) (labsC_at0 (tabA_get s.mar hb))
  have m1 := HM1.out.cell (k := 4) rfl (i := b * 2 + 1) (labsC_at1 (tabA_get s.mar hb))
  obtain ⟨bc, oc, rfl, c0, c1⟩ := lab_at (hr.below HM1.out.rows.below) hb
  have hok1 := hF b hb
  have hok2 := hcs _ (List.mem_of_getElem? (atL_get hb))
  by_cases hk3 : kind = 3
  · subst hk3
    rw [if_pos rfl] at HQ
    obtain ⟨rfl, rfl⟩ : q = 0 ∧ s' = dropM false (atL cs) s b := by simpa using HQ.out
    have f0 := HM1.out.free (k := 4) rfl (b * 2)
    have f1 := HM1.out.free (k := 4) rfl (b * 2 + 1)
    have hn1 := ((HM1.out.drew.store (k := 4) rfl (b * 2) (.int .i64 (atL cs b).1)).store (k := 4) rfl (b * 2 + 1) (.int .u32 ((atL cs b).2 : Int)))
    rw [List.set_set, rowsX_mar b (atL cs b), tabA_set] at hn1
    have HN := Lib.hid hn1.tail
    clear hk hA hn1 eT hok1 hok2 HM1 hr hr2 hcs hts hF
    go_upto_region 8 with fail
    refine wp_region_still_tail 8 (by kernel_rfl) (by kernel_rfl) ?_
    simp only [List.take_succ_cons, List.take_zero, List.drop_succ_cons, List.drop_zero]
    iterate 8 still_step
    refine wpStill_nil ?_
    go_wp2
    go_ret
    exact ⟨rfl, HN.out⟩
  · obtain ⟨t, rfl⟩ := Int.eq_ofNat_of_zero_le (show 0 ≤ tgt by omega)
    have ht : t < ts.length := by omega
    obtain ⟨bt, ot, rfl, t0, t1⟩ := lab_at (hr2.below HM1.out.rows.below) ht
    have hok3 := hts _ (List.mem_of_getElem? (atL_get ht))
    rw [if_neg hk3] at HQ
    simp only [Int.toNat_natCast] at HQ
    by_cases hk1 : kind = 1
    · subst hk1
      rw [if_pos rfl] at HQ
      obtain ⟨rfl, rfl⟩ : q = 0 ∧ s' = readM false (atL ts) s b t := by simpa using HQ.out
      clear hA hk hr hF hcs hts hk3 c0 c1 eC
      obtain ⟨lj, pj, hj⟩ : ∃ lj pj, meetL (s.mar b) (atL ts t) = (lj, pj) := ⟨_, _, rfl⟩
      have kJ := fun W => nMeet_any (s.mar b).1 (atL ts t).1 (s.mar b).2 (atL ts t).2 W hok1 hok3
      rw [show meetL ((s.mar b).1, (s.mar b).2) ((atL ts t).1, (atL ts t).2) = (lj, pj) from hj] at kJ
      simp only [labV] at kJ
      have HJ := Lib.hid (show (readM false (atL ts) s b t).mar = updA s.mar b (lj, pj) by rw [← hj]; rfl)
      clear hj
      have HS := Lib.hid (fun W (hb : Below w1.heap.size w1 W) => show (fun W => W.cell? ⟨gM, 0, none⟩ = some (.slice (some ⟨bm, 0, none⟩) cs.length cm) ∧ W.cell? ⟨sz, 1, none⟩ = some (.int .i64 b) ∧ W.cell? ⟨sz, 2, none⟩ = some (.int .i64 t) ∧ W.cell? ⟨gT, 0, none⟩ = some (.slice (some ⟨bt, ot, none⟩) ts.length c2) ∧ W.cell? ⟨bt, ot + t * 2, none⟩ = some (.int .i64 (atL ts t).1) ∧ W.cell? ⟨bt, ot + t * 2 + 1, none⟩ = some (.int .u32 ((atL ts t).2 : Int))) W from
        ⟨keepC hb eM, keepC hb e1, keepC hb e2, keepC hb eT, keepC hb t0, keepC hb t1⟩)
      go_upto_region 3 with fail
      refine wp_region_held_drew (S := fun W => W.cell? ⟨gM, 0, none⟩ = some (.slice (some ⟨bm, 0, none⟩) cs.length cm) ∧ W.cell? ⟨sz, 1, none⟩ = some (.int .i64 b) ∧ W.cell? ⟨sz, 2, none⟩ = some (.int .i64 t) ∧ W.cell? ⟨gT, 0, none⟩ = some (.slice (some ⟨bt, ot, none⟩) ts.length c2) ∧ W.cell? ⟨bt, ot + t * 2, none⟩ = some (.int .i64 (atL ts t).1) ∧ W.cell? ⟨bt, ot + t * 2 + 1, none⟩ = some (.int .u32 ((atL ts t).2 : Int))) (by kernel_rfl) (HS.out _ (Below.refl _ _).drew) (fun hHeld => ?_)
      refine' wpAnyH_take (i := 0) (oi := ⟨some 10, _, _, _, _, none⟩) (v := _) rfl (by kernel_rfl) (by kernel_rfl) (by kernel_rfl) (fun _ _ _ h => h) (Or.inl ⟨by rfl, ?hya0⟩) hHeld ?resta0
      case hya0 => (intro W hSw; obtain ⟨s1, s2, s3, s4, s5, s6⟩ := hSw; go_simp; try with_reducible rfl)
      simp only [Act.put, List.setIfInBounds_toArray, List.set_cons_zero, List.set_cons_succ]
      refine' wpAnyH_take (i := 1) (oi := ⟨some 11, _, _, _, _, none⟩) (v := _) rfl (by kernel_rfl) (by kernel_rfl) (by kernel_rfl) (fun _ _ _ h => h) (Or.inl ⟨by rfl, ?hya1⟩) hHeld ?resta1
      case hya1 => (intro W hSw; obtain ⟨s1, s2, s3, s4, s5, s6⟩ := hSw; go_simp; try with_reducible rfl)
      simp only [Act.put, List.setIfInBounds_toArray, List.set_cons_zero, List.set_cons_succ]
      refine' wpAnyH_take (i := 2) (oi := ⟨some 12, _, _, _, _, none⟩) (v := _) rfl (by kernel_rfl) (by kernel_rfl) (by kernel_rfl) (fun _ _ _ h => h) (Or.inl ⟨by rfl, ?hya2⟩) hHeld ?resta2
      case hya2 => (intro W hSw; obtain ⟨s1, s2, s3, s4, s5, s6⟩ := hSw; go_simp; try with_reducible rfl)
      simp only [Act.put, List.setIfInBounds_toArray, List.set_cons_zero, List.set_cons_succ]
      refine' wpAnyH_take (i := 3) (oi := ⟨some 13, _, _, _, _, none⟩) (v := _) rfl (by kernel_rfl) (by kernel_rfl) (by kernel_rfl) (fun _ _ _ h => h) (Or.inl ⟨by rfl, ?hya3⟩) hHeld ?resta3
      case hya3 => (intro W hSw; obtain ⟨s1, s2, s3, s4, s5, s6⟩ := hSw; go_simp; try with_reducible rfl)
      simp only [Act.put, List.setIfInBounds_toArray, List.set_cons_zero, List.set_cons_succ]
      refine' wpAnyH_take (i := 4) (oi := ⟨some 14, _, _, _, _, none⟩) (v := _) rfl (by kernel_rfl) (by kernel_rfl) (by kernel_rfl) (fun _ _ _ h => h) (Or.inl ⟨by rfl, ?hya4⟩) hHeld ?resta4
      case hya4 => (intro W hSw; obtain ⟨s1, s2, s3, s4, s5, s6⟩ := hSw; go_simp; try with_reducible rfl)
      simp only [Act.put, List.setIfInBounds_toArray, List.set_cons_zero, List.set_cons_succ]
      refine' wpAnyH_take (i := 5) (oi := ⟨some 15, _, _, _, _, none⟩) (v := _) rfl (by kernel_rfl) (by kernel_rfl) (by kernel_rfl) (fun _ _ _ h => h) (Or.inl ⟨by rfl, ?hya5⟩) hHeld ?resta5
      case hya5 => (intro W hSw; obtain ⟨s1, s2, s3, s4, s5, s6⟩ := hSw; go_simp; try with_reducible rfl)
      simp only [Act.put, List.setIfInBounds_toArray, List.set_cons_zero, List.set_cons_succ]
      refine' wpAnyH_take (i := 6) (oi := ⟨some 16, _, _, _, _, none⟩) (v := _) rfl (by kernel_rfl) (by kernel_rfl) (by kernel_rfl) (fun _ _ _ h => h) (Or.inl ⟨by rfl, ?hya6⟩) hHeld ?resta6
      case hya6 => (intro W hSw; obtain ⟨s1, s2, s3, s4, s5, s6⟩ := hSw; go_simp; try with_reducible rfl)
      simp only [Act.put, List.setIfInBounds_toArray, List.set_cons_zero, List.set_cons_succ]
      refine' wpAnyH_take (i := 8) (oi := ⟨some 18, _, _, _, _, none⟩) (v := _) rfl (by kernel_rfl) (by kernel_rfl) (by kernel_rfl) (fun _ _ _ h => h) (Or.inl ⟨by rfl, ?hya8⟩) hHeld ?resta8
      case hya8 => (intro W hSw; obtain ⟨s1, s2, s3, s4, s5, s6⟩ := hSw; go_simp; try with_reducible rfl)
      simp only [Act.put, List.setIfInBounds_toArray, List.set_cons_zero, List.set_cons_succ]
      refine' wpAnyH_take (i := 9) (oi := ⟨some 19, _, _, _, _, none⟩) (v := _) rfl (by kernel_rfl) (by kernel_rfl) (by kernel_rfl) (fun _ _ _ h => h) (Or.inl ⟨by rfl, ?hya9⟩) hHeld ?resta9
      case hya9 => (intro W hSw; obtain ⟨s1, s2, s3, s4, s5, s6⟩ := hSw; go_simp; try with_reducible rfl)
      simp only [Act.put, List.setIfInBounds_toArray, List.set_cons_zero, List.set_cons_succ]
      refine' wpAnyH_take (i := 10) (oi := ⟨some 20, _, _, _, _, none⟩) (v := _) rfl (by kernel_rfl) (by kernel_rfl) (by kernel_rfl) (fun _ _ _ h => h) (Or.inl ⟨by rfl, ?hya10⟩) hHeld ?resta10
      case hya10 => (intro W hSw; obtain ⟨s1, s2, s3, s4, s5, s6⟩ := hSw; go_simp; try with_reducible rfl)
      simp only [Act.put, List.setIfInBounds_toArray, List.set_cons_zero, List.set_cons_succ]
      refine' wpAnyH_take (i := 11) (oi := ⟨some 21, _, _, _, _, none⟩) (v := _) rfl (by kernel_rfl) (by kernel_rfl) (by kernel_rfl) (fun _ _ _ h => h) (Or.inl ⟨by rfl, ?hya11⟩) hHeld ?resta11
      case hya11 => (intro W hSw; obtain ⟨s1, s2, s3, s4, s5, s6⟩ := hSw; go_simp; try with_reducible rfl)
      simp only [Act.put, List.setIfInBounds_toArray, List.set_cons_zero, List.set_cons_succ]
      refine' wpAnyH_take (i := 12) (oi := ⟨some 22, _, _, _, _, none⟩) (v := _) rfl (by kernel_rfl) (by kernel_rfl) (by kernel_rfl) (fun _ _ _ h => h) (Or.inl ⟨by rfl, ?hya12⟩) hHeld ?resta12
      case hya12 => (intro W hSw; obtain ⟨s1, s2, s3, s4, s5, s6⟩ := hSw; go_simp; try with_reducible rfl)
      simp only [Act.put, List.setIfInBounds_toArray, List.set_cons_zero, List.set_cons_succ]
      refine wpAnyH_ready (rs := [7]) (by kernel_rfl) (by simp) ?_
      refine AllReadyH.cons (o := ⟨some 17, _, _, _, _, none⟩) rfl (fun K hK => ?_) AllReadyH.nil
      go_simp
      refine hK.out _ _ (HS.out _ (Below.refl _ _).drew) (fun hHeld => ?_)
      clear hK K
      refine wpAnyH_ready (rs := [13]) (by kernel_rfl) (by simp) ?_
      refine AllReadyH.cons (o := ⟨some 23, _, _, _, _, none⟩) rfl (fun K hK => ?_) AllReadyH.nil
      go_simp
      refine (kJ _).mono ?_
      rintro e w4 ⟨rfl, hb4⟩
      have hb4' := (Below.refl w1.heap.size w1).drew.trans hb4
      have HM4 := Lib.hid (HM1.out.grow hb4')
      refine hK.out _ _ (HS.out _ hb4') (fun hHeld => ?_)
      have HW4 := Lib.hid (HS.out _ hb4')
      clear hK K hb4 hb4' kJ t0 t1 m0 m1 e0 e1 e2 eT eM HM1
      refine' wpAnyH_take (i := 14) (oi := ⟨some 24, _, _, _, _, none⟩) (v := _) rfl (by kernel_rfl) (by kernel_rfl) (by kernel_rfl) (fun _ _ _ h => h) (Or.inl ⟨by rfl, ?hyb14⟩) hHeld ?restb14
      case hyb14 => (intro W hSw; obtain ⟨s1, s2, s3, s4, s5, s6⟩ := hSw; go_simp; try with_reducible rfl)
      simp only [Act.put, List.setIfInBounds_toArray, List.set_cons_zero, List.set_cons_succ]
      have m0 := HM4.out.cell (k := 4) rfl (i := b * 2) (labsC_at0 (tabA_get s.mar hb))
      have m1 := HM4.out.cell (k := 4) rfl (i := b * 2 + 1) (labsC_at1 (tabA_get s.mar hb))
      have f0 := HM4.out.free (k := 4) rfl (b * 2)
      have f1 := HM4.out.free (k := 4) rfl (b * 2 + 1)
      have hn1 := ((HM4.out.store (k := 4) rfl (b * 2) (.int .i64 ((lj, pj) : Lab).1)).store (k := 4) rfl (b * 2 + 1) (.int .u32 ((((lj, pj) : Lab).2 : Nat) : Int)))
      rw [List.set_set, rowsX_mar b (lj, pj), tabA_set] at hn1
      change RowsK w0 _ _ _ _ _ ((w4.setCell ⟨bm, b * 2, none⟩ (.int .i64 lj)).setCell ⟨bm, b * 2 + 1, none⟩ (.int .u32 (pj : Int))) at hn1
      have HM5 := Lib.hid hn1
      clear hn1
      refine wpAnyH_ready (rs := [15]) (by kernel_rfl) (by simp) ?_
      refine AllReadyH.cons (o := ⟨none, _, _, _, _, none⟩) rfl (fun K hK => ?_) AllReadyH.nil
      go_simp
      refine hK.out _ _ ⟨HM5.out.cell (k := 3) rfl (i := 0) rfl, HM5.out.cell (k := 0) rfl (i := 1) rfl, HM5.out.cell (k := 0) rfl (i := 2) rfl, HM5.out.cell (k := 2) rfl (i := 0) rfl, (lab_in (hr2.below HM5.out.rows.below) ht).1, (lab_in (hr2.below HM5.out.rows.below) ht).2⟩ (fun hHeld => ?_)
      clear hK K HM4 m0 m1 f0 f1 hHeld HW4 HS
      have HN := Lib.hid HM5.out.tail
      refine wpAnyH_done (by kernel_rfl) ?_ _
      go_wp2
      go_ret
      exact ⟨rfl, by rw [HJ.out]; exact HN.out⟩
    · obtain rfl : kind = 2 := by omega
      rw [if_neg (by decide)] at HQ
      clear hA hk hr hr2 hF hcs hts hk3 hk1 c0 c1 eC hok2
      have kU := fun W => nUnder_any (atL ts t).1 (s.mar b).1 (atL ts t).2 (s.mar b).2 W hok3 hok1
      rw [show underL ((atL ts t).1, (atL ts t).2) ((s.mar b).1, (s.mar b).2) = underL (atL ts t) (s.mar b) from rfl] at kU
      generalize underL (atL ts t) (s.mar b) = u at *
      go_upto_region 5 with fail
      refine wp_region_still_tail 10 (by kernel_rfl) (by kernel_rfl) ?_
      simp only [List.take_succ_cons, List.take_zero, List.drop_succ_cons, List.drop_zero]
      iterate 10 still_step
      refine wpStill_nil ?_
      go_wp2_with fail
      refine (kU _).mono ?_
      rintro e w4 ⟨rfl, hb4⟩
      have HM4 := Lib.hid (HM1.out.drew.grow hb4)
      clear kU hb4 t0 t1 m0 m1 e0 e1 e2 eT eM HM1
      cases u with
      | false =>
        obtain ⟨rfl, rfl⟩ : q = 7 ∧ s' = s := by simpa using HQ.out
        have HN := Lib.hid HM4.out.tail
        go_wp2
        go_ret
        exact ⟨rfl, HN.out⟩
      | true =>
        obtain ⟨rfl, rfl⟩ : q = 0 ∧ s' = writeM s b t := by simpa using HQ.out
        have HN := Lib.hid HM4.out.tail
        go_wp2
        go_ret
        exact ⟨rfl, HN.out⟩

end Go.Proofs.Ytdiaglaokgehbaa
