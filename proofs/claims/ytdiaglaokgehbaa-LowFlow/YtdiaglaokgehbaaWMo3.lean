/- mark.Play's execute: one deed. -/
import Derived.Test.YtdiaglaokgehbaaWMr
namespace Go.Proofs.Ytdiaglaokgehbaa
open Go.RowKit

theorem keepC {w W : World} (hb : Below w.heap.size w W) {b o : Nat} {v : Value} (h : w.cell? ⟨b, o, none⟩ = some v) : W.cell? ⟨b, o, none⟩ = some v := (hb.cell (p := ⟨b, o, none⟩) (block_lt_of_cell h)).trans h

/-- The rows that execute refers to: the boxes of its variables, and the marks. -/
def rowsX (gC gT gM bm : Nat) (A A2 : Option Addr) (nc nt c c2 cm : Nat) (mar : List Lab) (ex : List Rw) : List Rw :=
  ⟨22, 1, .slice (some ⟨gC, 0, none⟩) 1 1, 1, [.slice A nc c]⟩ :: ⟨22, 1, .slice (some ⟨gT, 0, none⟩) 1 1, 1, [.slice A2 nt c2]⟩ ::
  ⟨22, 1, .slice (some ⟨gM, 0, none⟩) 1 1, 1, [.slice (some ⟨bm, 0, none⟩) nc cm]⟩ :: ⟨40, 2, .slice (some ⟨bm, 0, none⟩) nc cm, nc, labsC mar⟩ :: ex

section
variable {gC gT gM bm : Nat} {A A2 : Option Addr} {nc nt c c2 cm : Nat} {mar : List Lab} {ex : List Rw} {d : Rw}
theorem rowsX_mar (b : Nat) (a : Lab) : ((d :: rowsX gC gT gM bm A A2 nc nt c c2 cm mar ex).set 4 ⟨40, 2, .slice (some ⟨bm, 0, none⟩) nc cm, nc, ((labsC mar).set (b * 2) (.int .i64 a.1)).set (b * 2 + 1) (.int .u32 (a.2 : Int))⟩) =
    d :: rowsX gC gT gM bm A A2 nc nt c c2 cm (mar.set b a) ex := by
  rw [labsC_set]
  rfl
end
theorem lab_at {w : World} {A : Option Addr} {l : List Lab} (h : Row w A (labsC l)) {k : Nat} (hk : k < l.length) : ∃ b off, A = some ⟨b, off, none⟩ ∧ w.cell? ⟨b, off + k * 2, none⟩ = some (.int .i64 (atL l k).1) ∧ w.cell? ⟨b, off + k * 2 + 1, none⟩ = some (.int .u32 ((atL l k).2 : Int)) := by
  have hk' := atL_get hk
  obtain ⟨b, off, rfl, hc⟩ := h.at (k := k * 2) (by rw [labsC_length]; omega)
  exact ⟨b, off, rfl, hc _ _ (labsC_at0 hk'), by rw [Nat.add_assoc]; exact hc _ _ (labsC_at1 hk')⟩
theorem lab_in {w : World} {b off : Nat} {l : List Lab} (h : Row w (some ⟨b, off, none⟩) (labsC l)) {k : Nat} (hk : k < l.length) : w.cell? ⟨b, off + k * 2, none⟩ = some (.int .i64 (atL l k).1) ∧ w.cell? ⟨b, off + k * 2 + 1, none⟩ = some (.int .u32 ((atL l k).2 : Int)) := by
  obtain ⟨b', off', e, h1, h2⟩ := lab_at h hk
  simp only [Option.some.injEq, Addr.mk.injEq, and_true] at e
  obtain ⟨rfl, rfl⟩ := e
  exact ⟨h1, h2⟩

set_option maxRecDepth 100000 in
set_option maxHeartbeats 4000000 in
theorem mExec_any {w0 : World} (cs ts : List Lab) (gC gT gM bm cm : Nat) (A A2 : Option Addr) (c c2 : Nat) (s : Ms) (ex : List Rw) (mb nk m : Nat) (f : Nat → Nat) (kind who tgt lev : Int) (parts : Nat) (val : Int) (w : World)
    (hM : RowsK w0 (rowsX gC gT gM bm A A2 cs.length ts.length c c2 cm (tabA cs.length s.mar) ex) mb nk m f w) (hr : Row w0 A (labsC cs)) (hr2 : Row w0 A2 (labsC ts))
    (hcs : ∀ a ∈ cs, LabOk a) (hts : ∀ a ∈ ts, LabOk a) (hF : ∀ b, b < cs.length → LabOk (s.mar b)) (hk : ¬ (kind < 1 ∨ 3 < kind)) (hA : ¬ ArgBad cs.length ts.length ⟨kind, who, tgt, lev, parts, val⟩) :
    Calls Try.prog 35 #[.agg #[.int .i64 kind, .int .i64 who, .int .i64 tgt, .int .i64 lev, .int .u32 parts, .int .i64 val], .pointer (some ⟨gM, 0, none⟩), .pointer (some ⟨gT, 0, none⟩), .pointer (some ⟨gC, 0, none⟩)] w fun e w' =>
      e = .returned (.int .i64 (stepM true (atL cs) (atL ts) cs.length ts.length s ⟨kind, who, tgt, lev, parts, val⟩).1) ∧
      RowsK w0 (rowsX gC gT gM bm A A2 cs.length ts.length c c2 cm (tabA cs.length (stepM true (atL cs) (atL ts) cs.length ts.length s ⟨kind, who, tgt, lev, parts, val⟩).2.mar) ex) mb nk m f w' := by
  obtain ⟨q, s', hq⟩ : ∃ q s', stepM true (atL cs) (atL ts) cs.length ts.length s ⟨kind, who, tgt, lev, parts, val⟩ = (q, s') := ⟨_, _, rfl⟩
  rw [hq]
  unfold ArgBad at hA
  simp only at hA ⊢
  obtain ⟨b, rfl⟩ := Int.eq_ofNat_of_zero_le (show 0 ≤ who by omega)
  have hb : b < cs.length := by omega
  have HQ := Lib.hid (show stepM true (atL cs) (atL ts) cs.length ts.length s ⟨kind, (b : Int), tgt, lev, parts, val⟩ = if kind = 3 then (0, dropM true (atL cs) s b) else if kind = 1 then (if underL (joinL (s.mar b) (atL ts tgt.toNat)) (atL cs b) = false then (7, s) else (0, readM true (atL ts) s b tgt.toNat)) else if underL (s.mar b) (atL ts tgt.toNat) = true then (0, writeM s b tgt.toNat) else (7, s) by
    unfold stepM
    rw [if_neg (by simpa using hk), if_neg (by unfold ArgBad; simp only; omega)]
    simp [nextL, okW])
  rw [hq] at HQ
  clear hq
  have HM1 := Lib.hid (hM.box (cs := #[.int .i64 kind, .int .i64 b, .int .i64 tgt, .int .i64 lev, .int .u32 (parts : Int), .int .i64 val]) (t := 62) 6 rfl)
  have hsz : w0.heap.size ≤ w.heap.size := hM.rows.below.size
  go_enter Try.func35, Try.ntmps35
  clear hM
  go_upto_region 1 with fail
  generalize w.alloc _ = w1 at *
  generalize w.heap.size = sz at *
  have e0 := HM1.out.cell (k := 0) rfl (i := 0) rfl
  have e1 := HM1.out.cell (k := 0) rfl (i := 1) rfl
  have e2 := HM1.out.cell (k := 0) rfl (i := 2) rfl
  have eC := HM1.out.cell (k := 1) rfl (i := 0) rfl
  have eT := HM1.out.cell (k := 2) rfl (i := 0) rfl
  have eM := HM1.out.cell (k := 3) rfl (i := 0) rfl
  have m0 := HM1.out.cell (k := 4) rfl (i := b * 2) (labsC_at0 (tabA_get s.mar hb))
  have m1 := HM1.out.cell (k := 4) rfl (i := b * 2 + 1) (labsC_at1 (tabA_get s.mar hb))
  obtain ⟨bc, oc, rfl, c0, c1⟩ := lab_at (hr.below HM1.out.rows.below) hb
  have hok1 := hF b hb
  have hok2 := hcs _ (List.mem_of_getElem? (atL_get hb))
  by_cases hk3 : kind = 3
  · subst hk3
    rw [if_pos rfl] at HQ
    obtain ⟨rfl, rfl⟩ : q = 0 ∧ s' = dropM true (atL cs) s b := by simpa using HQ.out
    have f0 := HM1.out.free (k := 4) rfl (b * 2)
    have f1 := HM1.out.free (k := 4) rfl (b * 2 + 1)
    have hn1 := ((HM1.out.store (k := 4) rfl (b * 2) (.int .i64 ((0, 0) : Lab).1)).store (k := 4) rfl (b * 2 + 1) (.int .u32 ((((0, 0) : Lab).2 : Nat) : Int)))
    rw [List.set_set, rowsX_mar b (0, 0), tabA_set] at hn1
    change RowsK w0 _ _ _ _ _ ((w1.setCell ⟨bm, b * 2, none⟩ (.int .i64 0)).setCell ⟨bm, b * 2 + 1, none⟩ (.int .u32 0)) at hn1
    have HN := Lib.hid hn1.tail
    clear hk hA hn1 c0 c1 eC eT hok1 hok2 HM1 hr hr2 hcs hts hF
    go_wp2
    go_ret
    exact ⟨rfl, HN.out⟩
  · obtain ⟨t, rfl⟩ := Int.eq_ofNat_of_zero_le (show 0 ≤ tgt by omega)
    have ht : t < ts.length := by omega
    obtain ⟨bt, ot, rfl, t0, t1⟩ := lab_at (hr2.below HM1.out.rows.below) ht
    have hok3 := hts _ (List.mem_of_getElem? (atL_get ht))
    rw [if_neg hk3] at HQ
    simp only [Int.toNat_natCast] at HQ
    by_cases hk1 : kind = 1
    · subst hk1
      rw [if_pos rfl] at HQ
      clear hA hk hr2 hF hcs hts hk3
      obtain ⟨lj, pj, hj⟩ : ∃ lj pj, joinL (s.mar b) (atL ts t) = (lj, pj) := ⟨_, _, rfl⟩
      have kJ := fun W => mJoin_any (s.mar b).1 (atL ts t).1 (s.mar b).2 (atL ts t).2 W hok1 hok3
      rw [show joinL ((s.mar b).1, (s.mar b).2) ((atL ts t).1, (atL ts t).2) = (lj, pj) from hj] at kJ
      simp only [labV] at kJ
      have hokj : LabOk (lj, pj) := by rw [← hj]; exact join_ok hok1 hok3
      rw [hj] at HQ
      have HJ := Lib.hid hj
      clear hj
      have HS := Lib.hid (fun W (hb : Below w1.heap.size w1 W) => show W.cell? ⟨gM, 0, none⟩ = some (.slice (some ⟨bm, 0, none⟩) cs.length cm) ∧ W.cell? ⟨sz, 1, none⟩ = some (.int .i64 b) ∧ W.cell? ⟨sz, 2, none⟩ = some (.int .i64 t) ∧ W.cell? ⟨gT, 0, none⟩ = some (.slice (some ⟨bt, ot, none⟩) ts.length c2) ∧
        W.cell? ⟨bm, b * 2, none⟩ = some (.int .i64 (s.mar b).1) ∧ W.cell? ⟨bm, b * 2 + 1, none⟩ = some (.int .u32 ((s.mar b).2 : Int)) ∧ W.cell? ⟨bt, ot + t * 2, none⟩ = some (.int .i64 (atL ts t).1) ∧ W.cell? ⟨bt, ot + t * 2 + 1, none⟩ = some (.int .u32 ((atL ts t).2 : Int)) from
        ⟨keepC hb eM, keepC hb e1, keepC hb e2, keepC hb eT, keepC hb m0, keepC hb m1, keepC hb t0, keepC hb t1⟩)
      go_upto_region 3 with fail
      go_cut [6] (fun v wx => ∃ g, v = .pointer (some ⟨g, 0, none⟩) ∧ RowsK w0 (⟨40, 2, .slice (some ⟨g, 0, none⟩) 1 1, 1, [.int .i64 lj, .int .u32 (pj : Int)]⟩ :: ⟨62, 6, .slice (some ⟨sz, 0, none⟩) 1 1, 1, [.int .i64 1, .int .i64 b, .int .i64 t, .int .i64 lev, .int .u32 (parts : Int), .int .i64 val]⟩ :: rowsX gC gT gM bm (some ⟨bc, oc, none⟩) (some ⟨bt, ot, none⟩) cs.length ts.length c c2 cm (tabA cs.length s.mar) ex) mb nk m f wx)
      case first =>
        refine wp_region_held_drew (S := fun W => W.cell? ⟨gM, 0, none⟩ = some (.slice (some ⟨bm, 0, none⟩) cs.length cm) ∧ W.cell? ⟨sz, 1, none⟩ = some (.int .i64 b) ∧ W.cell? ⟨sz, 2, none⟩ = some (.int .i64 t) ∧ W.cell? ⟨gT, 0, none⟩ = some (.slice (some ⟨bt, ot, none⟩) ts.length c2) ∧ W.cell? ⟨bm, b * 2, none⟩ = some (.int .i64 (s.mar b).1) ∧ W.cell? ⟨bm, b * 2 + 1, none⟩ = some (.int .u32 ((s.mar b).2 : Int)) ∧ W.cell? ⟨bt, ot + t * 2, none⟩ = some (.int .i64 (atL ts t).1) ∧ W.cell? ⟨bt, ot + t * 2 + 1, none⟩ = some (.int .u32 ((atL ts t).2 : Int))) (by kernel_rfl) (HS.out _ (Below.refl _ _).drew) (fun hHeld => ?_)
        refine' wpAnyH_take (i := 0) (oi := ⟨some 11, _, _, _, _, none⟩) (v := _) rfl (by kernel_rfl) (by kernel_rfl) (by kernel_rfl) (fun _ _ _ h => h) (Or.inl ⟨by rfl, ?hya0⟩) hHeld ?resta0
        case hya0 => (intro W hSw; obtain ⟨s1, s2, s3, s4, s5, s6, s7, s8⟩ := hSw; go_simp; try with_reducible rfl)
        simp only [Act.put, List.setIfInBounds_toArray, List.set_cons_zero, List.set_cons_succ]
        refine' wpAnyH_take (i := 1) (oi := ⟨some 12, _, _, _, _, none⟩) (v := _) rfl (by kernel_rfl) (by kernel_rfl) (by kernel_rfl) (fun _ _ _ h => h) (Or.inl ⟨by rfl, ?hya1⟩) hHeld ?resta1
        case hya1 => (intro W hSw; obtain ⟨s1, s2, s3, s4, s5, s6, s7, s8⟩ := hSw; go_simp; try with_reducible rfl)
        simp only [Act.put, List.setIfInBounds_toArray, List.set_cons_zero, List.set_cons_succ]
        refine' wpAnyH_take (i := 2) (oi := ⟨some 13, _, _, _, _, none⟩) (v := _) rfl (by kernel_rfl) (by kernel_rfl) (by kernel_rfl) (fun _ _ _ h => h) (Or.inl ⟨by rfl, ?hya2⟩) hHeld ?resta2
        case hya2 => (intro W hSw; obtain ⟨s1, s2, s3, s4, s5, s6, s7, s8⟩ := hSw; go_simp; try with_reducible rfl)
        simp only [Act.put, List.setIfInBounds_toArray, List.set_cons_zero, List.set_cons_succ]
        refine' wpAnyH_take (i := 3) (oi := ⟨some 14, _, _, _, _, none⟩) (v := _) rfl (by kernel_rfl) (by kernel_rfl) (by kernel_rfl) (fun _ _ _ h => h) (Or.inl ⟨by rfl, ?hya3⟩) hHeld ?resta3
        case hya3 => (intro W hSw; obtain ⟨s1, s2, s3, s4, s5, s6, s7, s8⟩ := hSw; go_simp; try with_reducible rfl)
        simp only [Act.put, List.setIfInBounds_toArray, List.set_cons_zero, List.set_cons_succ]
        refine' wpAnyH_take (i := 4) (oi := ⟨some 15, _, _, _, _, none⟩) (v := _) rfl (by kernel_rfl) (by kernel_rfl) (by kernel_rfl) (fun _ _ _ h => h) (Or.inl ⟨by rfl, ?hya4⟩) hHeld ?resta4
        case hya4 => (intro W hSw; obtain ⟨s1, s2, s3, s4, s5, s6, s7, s8⟩ := hSw; go_simp; try with_reducible rfl)
        simp only [Act.put, List.setIfInBounds_toArray, List.set_cons_zero, List.set_cons_succ]
        refine' wpAnyH_take (i := 5) (oi := ⟨some 16, _, _, _, _, none⟩) (v := _) rfl (by kernel_rfl) (by kernel_rfl) (by kernel_rfl) (fun _ _ _ h => h) (Or.inl ⟨by rfl, ?hya5⟩) hHeld ?resta5
        case hya5 => (intro W hSw; obtain ⟨s1, s2, s3, s4, s5, s6, s7, s8⟩ := hSw; go_simp; try with_reducible rfl)
        simp only [Act.put, List.setIfInBounds_toArray, List.set_cons_zero, List.set_cons_succ]
        refine' wpAnyH_take (i := 6) (oi := ⟨some 17, _, _, _, _, none⟩) (v := _) rfl (by kernel_rfl) (by kernel_rfl) (by kernel_rfl) (fun _ _ _ h => h) (Or.inl ⟨by rfl, ?hya6⟩) hHeld ?resta6
        case hya6 => (intro W hSw; obtain ⟨s1, s2, s3, s4, s5, s6, s7, s8⟩ := hSw; go_simp; try with_reducible rfl)
        simp only [Act.put, List.setIfInBounds_toArray, List.set_cons_zero, List.set_cons_succ]
        refine' wpAnyH_take (i := 7) (oi := ⟨some 18, _, _, _, _, none⟩) (v := _) rfl (by kernel_rfl) (by kernel_rfl) (by kernel_rfl) (fun _ _ _ h => h) (Or.inl ⟨by rfl, ?hya7⟩) hHeld ?resta7
        case hya7 => (intro W hSw; obtain ⟨s1, s2, s3, s4, s5, s6, s7, s8⟩ := hSw; go_simp; try with_reducible rfl)
        simp only [Act.put, List.setIfInBounds_toArray, List.set_cons_zero, List.set_cons_succ]
        refine' wpAnyH_take (i := 8) (oi := ⟨some 19, _, _, _, _, none⟩) (v := _) rfl (by kernel_rfl) (by kernel_rfl) (by kernel_rfl) (fun _ _ _ h => h) (Or.inl ⟨by rfl, ?hya8⟩) hHeld ?resta8
        case hya8 => (intro W hSw; obtain ⟨s1, s2, s3, s4, s5, s6, s7, s8⟩ := hSw; go_simp; try with_reducible rfl)
        simp only [Act.put, List.setIfInBounds_toArray, List.set_cons_zero, List.set_cons_succ]
        refine' wpAnyH_take (i := 9) (oi := ⟨some 20, _, _, _, _, none⟩) (v := _) rfl (by kernel_rfl) (by kernel_rfl) (by kernel_rfl) (fun _ _ _ h => h) (Or.inl ⟨by rfl, ?hya9⟩) hHeld ?resta9
        case hya9 => (intro W hSw; obtain ⟨s1, s2, s3, s4, s5, s6, s7, s8⟩ := hSw; go_simp; try with_reducible rfl)
        simp only [Act.put, List.setIfInBounds_toArray, List.set_cons_zero, List.set_cons_succ]
        refine wpAnyH_ready (rs := [10, 11]) (by kernel_rfl) (by simp) ?_
        refine AllReadyH.cons (o := ⟨some 21, _, _, _, _, none⟩) rfl (fun K hK => ?_) (AllReadyH.cons (o := ⟨some 6, _, _, _, _, none⟩) rfl (fun K hK => ?_) AllReadyH.nil)
        · go_simp
          refine (kJ _).mono ?_
          rintro e w3 ⟨rfl, hb3⟩
          have hb3' := (Below.refl w1.heap.size w1).drew.trans hb3
          have HB3 := Lib.hid hb3'
          have HM3 := Lib.hid (HM1.out.grow hb3')
          refine hK.out _ _ (HS.out _ hb3') (fun hHeld => ?_)
          clear hK K hb3 hb3'
          refine wpAnyH_ready (rs := [11]) (by kernel_rfl) (by simp) ?_
          refine AllReadyH.cons (o := ⟨some 6, _, _, _, _, none⟩) rfl (fun K hK => ?_) AllReadyH.nil
          go_simp
          have HM5 := Lib.hid (HM3.out.box (cs := #[.int .i64 lj, .int .u32 (pj : Int)]) (t := 40) 2 rfl)
          refine hK.out _ _ (HS.out _ (HB3.out.alloc HB3.out.size _)) (fun hHeld => ?_)
          clear hK K
          refine wpAnyH_ready (rs := [12]) (by kernel_rfl) (by simp) ?_
          refine AllReadyH.cons (o := ⟨none, _, _, _, _, none⟩) rfl (fun K hK => ?_) AllReadyH.nil
          go_simp
          refine hK.out _ _ (HS.out _ (HB3.out.alloc HB3.out.size _)) (fun hHeld => ?_)
          clear hK K
          refine wpAnyH_done (by kernel_rfl) ?_ _
          go_wp2_with fail
          go_meet
          exact ⟨_, rfl, HM5.out⟩
        · go_simp
          have HMa := Lib.hid (HM1.out.drew.box (cs := #[.int .i64 0, .int .u32 0]) (t := 40) 2 rfl)
          have HBa := Lib.hid ((Below.refl w1.heap.size w1).drew.alloc (Nat.le_refl _) (.cells #[.int .i64 0, .int .u32 0] 40))
          refine hK.out _ _ (HS.out _ HBa.out) (fun hHeld => ?_)
          clear hK K
          refine wpAnyH_ready (rs := [10]) (by kernel_rfl) (by simp) ?_
          refine AllReadyH.cons (o := ⟨some 21, _, _, _, _, none⟩) rfl (fun K hK => ?_) AllReadyH.nil
          go_simp
          refine (kJ _).mono ?_
          rintro e w3 ⟨rfl, hb3⟩
          have HB4 := Lib.hid (HBa.out.trans (hb3.mono HBa.out.size))
          have HM4 := Lib.hid (HMa.out.grow hb3)
          have HG := Lib.hid (Nat.le_refl w1.heap.size)
          refine hK.out _ _ (HS.out _ HB4.out) (fun hHeld => ?_)
          clear hK K hb3
          have f0 : World.frozen? w3 ⟨w1.heap.size, 0, none⟩ = false := HM4.out.free (k := 0) rfl 0
          have f1 : World.frozen? w3 ⟨w1.heap.size, 1, none⟩ = false := HM4.out.free (k := 0) rfl 1
          have n0 : World.cell? w3 ⟨w1.heap.size, 0, none⟩ = _ := HM4.out.cell (k := 0) rfl (i := 0) rfl
          have n1 : World.cell? w3 ⟨w1.heap.size, 1, none⟩ = _ := HM4.out.cell (k := 0) rfl (i := 1) rfl
          have HM5 := Lib.hid ((HM4.out.store (k := 0) rfl 0 (.int .i64 lj)).store (k := 0) rfl 1 (.int .u32 (pj : Int)))
          refine wpAnyH_ready (rs := [12]) (by kernel_rfl) (by simp) ?_
          refine AllReadyH.cons (o := ⟨none, _, _, _, _, none⟩) rfl (fun K hK => ?_) AllReadyH.nil
          go_simp
          refine hK.out _ _ (HS.out _ ((HB4.out.setCell (p := ⟨w1.heap.size, 0, none⟩) HG.out _).setCell (p := ⟨w1.heap.size, 1, none⟩) HG.out _)) (fun hHeld => ?_)
          clear hK K
          refine wpAnyH_done (by kernel_rfl) ?_ _
          go_wp2_with fail
          go_meet
          exact ⟨_, rfl, HM5.out⟩
      case rest =>
      obtain ⟨g, rfl, hm⟩ := hcut
      have HM2 := Lib.hid hm
      clear hm HS kJ t0 t1 e0 e1 e2 eC eT eM m0 m1 c0 c1
      have n0 := HM2.out.cell (k := 0) rfl (i := 0) rfl
      have n1 := HM2.out.cell (k := 0) rfl (i := 1) rfl
      have e1 := HM2.out.cell (k := 1) rfl (i := 1) rfl
      have eC := HM2.out.cell (k := 2) rfl (i := 0) rfl
      obtain ⟨c0, c1⟩ := lab_in (hr.below HM2.out.rows.below) hb
      have kU := fun W => mUnder_any lj (atL cs b).1 pj (atL cs b).2 W hokj hok2
      rw [show underL (lj, pj) ((atL cs b).1, (atL cs b).2) = underL (lj, pj) (atL cs b) from rfl] at kU
      generalize underL (lj, pj) (atL cs b) = u at *
      go_upto_region 4 with fail
      refine wp_region_still_tail 6 (by kernel_rfl) (by kernel_rfl) ?_
      simp only [List.take_succ_cons, List.take_zero, List.drop_succ_cons, List.drop_zero]
      iterate 6 still_step
      refine wpStill_nil ?_
      go_wp2_with fail
      refine (kU _).mono ?_
      rintro e w4 ⟨rfl, hb4⟩
      have HM4 := Lib.hid (HM2.out.drew.grow hb4)
      clear kU hb4 c0 c1 n0 n1 e1 eC
      cases u with
      | false =>
        obtain ⟨rfl, rfl⟩ : q = 7 ∧ s' = s := by simpa using HQ.out
        have HN := Lib.hid HM4.out.tail.tail
        go_wp2
        go_ret
        exact ⟨rfl, HN.out⟩
      | true =>
        obtain ⟨rfl, rfl⟩ : q = 0 ∧ s' = readM true (atL ts) s b t := by simpa using HQ.out
        have n0 := HM4.out.cell (k := 0) rfl (i := 0) rfl
        have n1 := HM4.out.cell (k := 0) rfl (i := 1) rfl
        have e1 := HM4.out.cell (k := 1) rfl (i := 1) rfl
        have eM := HM4.out.cell (k := 4) rfl (i := 0) rfl
        have m0 := HM4.out.cell (k := 5) rfl (i := b * 2) (labsC_at0 (tabA_get s.mar hb))
        have m1 := HM4.out.cell (k := 5) rfl (i := b * 2 + 1) (labsC_at1 (tabA_get s.mar hb))
        have f0 := HM4.out.free (k := 5) rfl (b * 2)
        have f1 := HM4.out.free (k := 5) rfl (b * 2 + 1)
        have hn1 := ((HM4.out.tail.store (k := 4) rfl (b * 2) (.int .i64 ((lj, pj) : Lab).1)).store (k := 4) rfl (b * 2 + 1) (.int .u32 ((((lj, pj) : Lab).2 : Nat) : Int)))
        rw [List.set_set, rowsX_mar b (lj, pj), tabA_set] at hn1
        change RowsK w0 _ _ _ _ _ ((w4.setCell ⟨bm, b * 2, none⟩ (.int .i64 lj)).setCell ⟨bm, b * 2 + 1, none⟩ (.int .u32 (pj : Int))) at hn1
        have HM5 := Lib.hid hn1.tail
        clear hn1
        go_wp2
        go_ret
        exact ⟨rfl, by have h := HM5.out; rw [← HJ.out] at h; exact h⟩
    · obtain rfl : kind = 2 := by omega
      rw [if_neg (by decide)] at HQ
      clear hA hk hr hr2 hF hcs hts hk3 hk1 c0 c1 eC hok2
      have kU := fun W => mUnder_any (s.mar b).1 (atL ts t).1 (s.mar b).2 (atL ts t).2 W hok1 hok3
      rw [show underL ((s.mar b).1, (s.mar b).2) ((atL ts t).1, (atL ts t).2) = underL (s.mar b) (atL ts t) from rfl] at kU
      generalize underL (s.mar b) (atL ts t) = u at *
      go_upto_region 8 with fail
      refine wp_region_still_tail 10 (by kernel_rfl) (by kernel_rfl) ?_
      simp only [List.take_succ_cons, List.take_zero, List.drop_succ_cons, List.drop_zero]
      iterate 10 still_step
      refine wpStill_nil ?_
      go_wp2_with fail
      refine (kU _).mono ?_
      rintro e w4 ⟨rfl, hb4⟩
      have HM4 := Lib.hid (HM1.out.drew.grow hb4)
      clear kU hb4 t0 t1 m0 m1 e0 e1 e2 eT eM HM1
      cases u with
      | false =>
        obtain ⟨rfl, rfl⟩ : q = 7 ∧ s' = s := by simpa using HQ.out
        have HN := Lib.hid HM4.out.tail
        go_wp2
        go_ret
        exact ⟨rfl, HN.out⟩
      | true =>
        obtain ⟨rfl, rfl⟩ : q = 0 ∧ s' = writeM s b t := by simpa using HQ.out
        have HN := Lib.hid HM4.out.tail
        go_wp2
        go_ret
        exact ⟨rfl, HN.out⟩

end Go.Proofs.Ytdiaglaokgehbaa
