/- mark.Play's execute: one deed. -/
import Derived.Test.YtmmhggldknefoaaWMo2
import Derived.Deep.RegionHeld3
import Derived.BigRegion
namespace Go.Proofs.Ytmmhggldknefoaa
open Go.RowKit

theorem keepC {w W : World} (hb : Below w.heap.size w W) {b o : Nat} {v : Value} (h : w.cell? ⟨b, o, none⟩ = some v) : W.cell? ⟨b, o, none⟩ = some v := (hb.cell (p := ⟨b, o, none⟩) (block_lt_of_cell h)).trans h

/-- The rows of a script: the boxes of the variables that execute refers to, what these hold, and others. -/
def rowsE (gC gT gM gK gF bm bk bf : Nat) (A A2 : Option Addr) (nc nt c c2 : Nat) (mar : List Lab) (kn fr : List Nat) (ex : List Rw) : List Rw :=
  ⟨22, 1, .slice (some ⟨gC, 0, none⟩) 1 1, 1, [.slice A nc c]⟩ :: ⟨22, 1, .slice (some ⟨gT, 0, none⟩) 1 1, 1, [.slice A2 nt c2]⟩ ::
  ⟨22, 1, .slice (some ⟨gM, 0, none⟩) 1 1, 1, [.slice (some ⟨bm, 0, none⟩) nc nc]⟩ :: ⟨25, 1, .slice (some ⟨gK, 0, none⟩) 1 1, 1, [.slice (some ⟨bk, 0, none⟩) nc nc]⟩ :: ⟨25, 1, .slice (some ⟨gF, 0, none⟩) 1 1, 1, [.slice (some ⟨bf, 0, none⟩) nt nt]⟩ ::
  ⟨40, 2, .slice (some ⟨bm, 0, none⟩) nc nc, nc, labsC mar⟩ :: ⟨38, 1, .slice (some ⟨bk, 0, none⟩) nc nc, nc, words kn⟩ :: ⟨38, 1, .slice (some ⟨bf, 0, none⟩) nt nt, nt, words fr⟩ :: ex

section
variable {gC gT gM gK gF bm bk bf : Nat} {A A2 : Option Addr} {nc nt c c2 : Nat} {mar : List Lab} {kn fr : List Nat} {ex : List Rw} {d : Rw}
theorem rowsE_mar (b : Nat) (a : Lab) : ((d :: rowsE gC gT gM gK gF bm bk bf A A2 nc nt c c2 mar kn fr ex).set 6 ⟨40, 2, .slice (some ⟨bm, 0, none⟩) nc nc, nc, ((labsC mar).set (b * 2) (.int .i64 a.1)).set (b * 2 + 1) (.int .u32 (a.2 : Int))⟩) =
    d :: rowsE gC gT gM gK gF bm bk bf A A2 nc nt c c2 (mar.set b a) kn fr ex := by
  rw [labsC_set]
  rfl
theorem rowsE_kn (b x : Nat) : ((d :: rowsE gC gT gM gK gF bm bk bf A A2 nc nt c c2 mar kn fr ex).set 7 ⟨38, 1, .slice (some ⟨bk, 0, none⟩) nc nc, nc, (words kn).set b (.int .u32 (x : Int))⟩) =
    d :: rowsE gC gT gM gK gF bm bk bf A A2 nc nt c c2 mar (kn.set b x) fr ex := by
  rw [words_set]
  rfl
theorem rowsE_fr (b x : Nat) : ((d :: rowsE gC gT gM gK gF bm bk bf A A2 nc nt c c2 mar kn fr ex).set 8 ⟨38, 1, .slice (some ⟨bf, 0, none⟩) nt nt, nt, (words fr).set b (.int .u32 (x : Int))⟩) =
    d :: rowsE gC gT gM gK gF bm bk bf A A2 nc nt c c2 mar kn (fr.set b x) ex := by
  rw [words_set]
  rfl
end
theorem lab_at {w : World} {A : Option Addr} {l : List Lab} (h : Row w A (labsC l)) {k : Nat} (hk : k < l.length) : ∃ b off, A = some ⟨b, off, none⟩ ∧ w.cell? ⟨b, off + k * 2, none⟩ = some (.int .i64 (atL l k).1) ∧ w.cell? ⟨b, off + k * 2 + 1, none⟩ = some (.int .u32 ((atL l k).2 : Int)) := by
  have hk' := atL_get hk
  obtain ⟨b, off, rfl, hc⟩ := h.at (k := k * 2) (by rw [labsC_length]; omega)
  exact ⟨b, off, rfl, hc _ _ (labsC_at0 hk'), by rw [Nat.add_assoc]; exact hc _ _ (labsC_at1 hk')⟩
theorem lab_in {w : World} {b off : Nat} {l : List Lab} (h : Row w (some ⟨b, off, none⟩) (labsC l)) {k : Nat} (hk : k < l.length) : w.cell? ⟨b, off + k * 2, none⟩ = some (.int .i64 (atL l k).1) ∧ w.cell? ⟨b, off + k * 2 + 1, none⟩ = some (.int .u32 ((atL l k).2 : Int)) := by
  obtain ⟨b', off', e, h1, h2⟩ := lab_at h hk
  simp only [Option.some.injEq, Addr.mk.injEq, and_true] at e
  obtain ⟨rfl, rfl⟩ := e
  exact ⟨h1, h2⟩

set_option maxRecDepth 100000 in
set_option maxHeartbeats 4000000 in
theorem mExec_any {w0 : World} (cs ts : List Lab) (gC gT gM gK gF bm bk bf : Nat) (A A2 : Option Addr) (c c2 : Nat) (s : Ms) (ex : List Rw) (kind who tgt lev : Int) (parts : Nat) (val : Int) (w : World)
    (hM : RowsM w0 (rowsE gC gT gM gK gF bm bk bf A A2 cs.length ts.length c c2 (tabA cs.length s.mar) (tabA cs.length s.kn) (tabA ts.length s.fr) ex) w) (hr : Row w0 A (labsC cs)) (hr2 : Row w0 A2 (labsC ts))
    (hcs : ∀ a ∈ cs, LabOk a) (hts : ∀ a ∈ ts, LabOk a) (hF : Fine cs.length ts.length s) (hn : ts.length ≤ 8) (hk : ¬ (kind < 1 ∨ 3 < kind)) (hA : ¬ ArgBad cs.length ts.length ⟨kind, who, tgt, lev, parts, val⟩) :
    Calls Try.prog 19 #[.agg #[.int .i64 kind, .int .i64 who, .int .i64 tgt, .int .i64 lev, .int .u32 parts, .int .i64 val], .pointer (some ⟨gM, 0, none⟩), .pointer (some ⟨gT, 0, none⟩), .pointer (some ⟨gC, 0, none⟩), .pointer (some ⟨gK, 0, none⟩), .pointer (some ⟨gF, 0, none⟩)] w fun e w' =>
      e = .returned (.int .i64 (stepM true (atL cs) (atL ts) cs.length ts.length s ⟨kind, who, tgt, lev, parts, val⟩).1) ∧
      RowsM w0 (rowsE gC gT gM gK gF bm bk bf A A2 cs.length ts.length c c2 (tabA cs.length (stepM true (atL cs) (atL ts) cs.length ts.length s ⟨kind, who, tgt, lev, parts, val⟩).2.mar) (tabA cs.length (stepM true (atL cs) (atL ts) cs.length ts.length s ⟨kind, who, tgt, lev, parts, val⟩).2.kn) (tabA ts.length (stepM true (atL cs) (atL ts) cs.length ts.length s ⟨kind, who, tgt, lev, parts, val⟩).2.fr) ex) w' := by
  obtain ⟨q, s', hq⟩ : ∃ q s', stepM true (atL cs) (atL ts) cs.length ts.length s ⟨kind, who, tgt, lev, parts, val⟩ = (q, s') := ⟨_, _, rfl⟩
  rw [hq]
  unfold ArgBad at hA
  simp only at hA ⊢
  obtain ⟨b, rfl⟩ := Int.eq_ofNat_of_zero_le (show 0 ≤ who by omega)
  have hb : b < cs.length := by omega
  have HQ := Lib.hid (show stepM true (atL cs) (atL ts) cs.length ts.length s ⟨kind, (b : Int), tgt, lev, parts, val⟩ = if kind = 3 then (0, dropM true (atL cs) s b) else if kind = 1 then (if underL (joinL (s.mar b) (atL ts tgt.toNat)) (atL cs b) = false then (7, s) else (0, readM true (atL ts) s b tgt.toNat)) else if underL (s.mar b) (atL ts tgt.toNat) = true then (0, writeM s b tgt.toNat) else (7, s) by
    unfold stepM
    rw [if_neg (by simpa using hk), if_neg (by unfold ArgBad; simp only; omega)]
    simp [nextL, okW])
  rw [hq] at HQ
  clear hq
  have HM1 := Lib.hid (hM.box (cs := #[.int .i64 kind, .int .i64 b, .int .i64 tgt, .int .i64 lev, .int .u32 (parts : Int), .int .i64 val]) (t := 49) 6 rfl)
  have hsz : w0.heap.size ≤ w.heap.size := hM.below.size
  go_enter Try.func19, Try.ntmps19
  clear hM
  go_upto_region 1 with fail
  generalize w.alloc _ = w1 at *
  generalize w.heap.size = sz at *
  have e0 := HM1.out.cell (k := 0) rfl (j := 0) rfl
  have e1 := HM1.out.cell (k := 0) rfl (j := 1) rfl
  have e2 := HM1.out.cell (k := 0) rfl (j := 2) rfl
  have eC := HM1.out.cell (k := 1) rfl (j := 0) rfl
  have eT := HM1.out.cell (k := 2) rfl (j := 0) rfl
  have eM := HM1.out.cell (k := 3) rfl (j := 0) rfl
  have eK := HM1.out.cell (k := 4) rfl (j := 0) rfl
  have eF := HM1.out.cell (k := 5) rfl (j := 0) rfl
  have m0 := HM1.out.cell (k := 6) rfl (j := b * 2) (labsC_at0 (tabA_get s.mar hb))
  have m1 := HM1.out.cell (k := 6) rfl (j := b * 2 + 1) (labsC_at1 (tabA_get s.mar hb))
  have k0 := HM1.out.cell (k := 7) rfl (j := b) (words_at (tabA_get s.kn hb))
  obtain ⟨bc, oc, rfl, c0, c1⟩ := lab_at (hr.below HM1.out.below) hb
  have hok1 := hF.1 b hb
  have hok2 := hcs _ (List.mem_of_getElem? (atL_get hb))
  by_cases hk3 : kind = 3
  · subst hk3
    rw [if_pos rfl] at HQ
    obtain ⟨rfl, rfl⟩ : q = 0 ∧ s' = dropM true (atL cs) s b := by simpa using HQ.out
    have f0 := HM1.out.free (k := 6) rfl (b * 2)
    have f1 := HM1.out.free (k := 6) rfl (b * 2 + 1)
    have f2 := HM1.out.free (k := 7) rfl b
    have hn1 := ((HM1.out.store (k := 6) rfl (b * 2) (.int .i64 ((0, 0) : Lab).1)).store (k := 6) rfl (b * 2 + 1) (.int .u32 ((((0, 0) : Lab).2 : Nat) : Int)))
    rw [List.set_set, rowsE_mar b (0, 0), tabA_set] at hn1
    change RowsM w0 _ ((w1.setCell ⟨bm, b * 2, none⟩ (.int .i64 0)).setCell ⟨bm, b * 2 + 1, none⟩ (.int .u32 0)) at hn1
    have k1 := hn1.cell (k := 7) rfl (j := b) (words_at (tabA_get s.kn hb))
    have k2 := hn1.free (k := 7) rfl b
    have k3 := hn1.cell (k := 4) rfl (j := 0) rfl
    have k4 := hn1.cell (k := 0) rfl (j := 1) rfl
    have hn2 := hn1.store (k := 7) rfl b (.int .u32 ((0 : Nat) : Int))
    rw [rowsE_kn b 0, tabA_set] at hn2
    have HN := Lib.hid hn2.drew.tail
    clear hk hA hn1 hn2 c0 c1 eC eT eF hok1 hok2 HM1 hr hr2 hcs hts hF
    go_upto_region 13 with fail
    go_region
    go_wp2
    go_ret
    exact ⟨rfl, HN.out⟩
  · obtain ⟨t, rfl⟩ := Int.eq_ofNat_of_zero_le (show 0 ≤ tgt by omega)
    have ht : t < ts.length := by omega
    obtain ⟨bt, ot, rfl, t0, t1⟩ := lab_at (hr2.below HM1.out.below) ht
    have r0 := HM1.out.cell (k := 8) rfl (j := t) (words_at (tabA_get s.fr ht))
    have hok3 := hts _ (List.mem_of_getElem? (atL_get ht))
    rw [if_neg hk3] at HQ
    simp only [Int.toNat_natCast] at HQ
    have hp1 : s.kn b < 4294967296 := Nat.lt_of_lt_of_le (hF.2.2 b hb) (Nat.le_trans (Nat.pow_le_pow_right (by omega) (by omega : ts.length ≤ 32)) (by decide))
    have hp2 : s.fr t < 4294967296 := Nat.lt_of_lt_of_le (hF.2.1 t ht) (Nat.le_trans (Nat.pow_le_pow_right (by omega) (by omega : ts.length ≤ 32)) (by decide))
    by_cases hk1 : kind = 1
    · subst hk1
      rw [if_pos rfl] at HQ
      clear hA hk hr2 hF hcs hts hk3
      obtain ⟨lj, pj, hj⟩ : ∃ lj pj, joinL (s.mar b) (atL ts t) = (lj, pj) := ⟨_, _, rfl⟩
      have kJ := fun W => mJoin_any (s.mar b).1 (atL ts t).1 (s.mar b).2 (atL ts t).2 W hok1 hok3
      rw [show joinL ((s.mar b).1, (s.mar b).2) ((atL ts t).1, (atL ts t).2) = (lj, pj) from hj] at kJ
      simp only [labV] at kJ
      have hokj : LabOk (lj, pj) := by rw [← hj]; exact join_ok hok1 hok3
      rw [hj] at HQ
      have HJ := Lib.hid hj
      clear hj
      have HS := Lib.hid (fun W (hb : Below w1.heap.size w1 W) => show W.cell? ⟨gM, 0, none⟩ = some (.slice (some ⟨bm, 0, none⟩) cs.length cs.length) ∧ W.cell? ⟨sz, 1, none⟩ = some (.int .i64 b) ∧ W.cell? ⟨sz, 2, none⟩ = some (.int .i64 t) ∧ W.cell? ⟨gT, 0, none⟩ = some (.slice (some ⟨bt, ot, none⟩) ts.length c2) ∧
        W.cell? ⟨bm, b * 2, none⟩ = some (.int .i64 (s.mar b).1) ∧ W.cell? ⟨bm, b * 2 + 1, none⟩ = some (.int .u32 ((s.mar b).2 : Int)) ∧ W.cell? ⟨bt, ot + t * 2, none⟩ = some (.int .i64 (atL ts t).1) ∧ W.cell? ⟨bt, ot + t * 2 + 1, none⟩ = some (.int .u32 ((atL ts t).2 : Int)) from
        ⟨keepC hb eM, keepC hb e1, keepC hb e2, keepC hb eT, keepC hb m0, keepC hb m1, keepC hb t0, keepC hb t1⟩)
      go_upto_region 3 with fail
      go_cut [8] (fun v wx => ∃ g, v = .pointer (some ⟨g, 0, none⟩) ∧ RowsM w0 (⟨40, 2, .slice (some ⟨g, 0, none⟩) 1 1, 1, [.int .i64 lj, .int .u32 (pj : Int)]⟩ :: ⟨49, 6, .slice (some ⟨sz, 0, none⟩) 1 1, 1, [.int .i64 1, .int .i64 b, .int .i64 t, .int .i64 lev, .int .u32 (parts : Int), .int .i64 val]⟩ :: rowsE gC gT gM gK gF bm bk bf (some ⟨bc, oc, none⟩) (some ⟨bt, ot, none⟩) cs.length ts.length c c2 (tabA cs.length s.mar) (tabA cs.length s.kn) (tabA ts.length s.fr) ex) wx)
      case first =>
        refine wp_region_held_drew (S := fun W => W.cell? ⟨gM, 0, none⟩ = some (.slice (some ⟨bm, 0, none⟩) cs.length cs.length) ∧ W.cell? ⟨sz, 1, none⟩ = some (.int .i64 b) ∧ W.cell? ⟨sz, 2, none⟩ = some (.int .i64 t) ∧ W.cell? ⟨gT, 0, none⟩ = some (.slice (some ⟨bt, ot, none⟩) ts.length c2) ∧ W.cell? ⟨bm, b * 2, none⟩ = some (.int .i64 (s.mar b).1) ∧ W.cell? ⟨bm, b * 2 + 1, none⟩ = some (.int .u32 ((s.mar b).2 : Int)) ∧ W.cell? ⟨bt, ot + t * 2, none⟩ = some (.int .i64 (atL ts t).1) ∧ W.cell? ⟨bt, ot + t * 2 + 1, none⟩ = some (.int .u32 ((atL ts t).2 : Int))) (by kernel_rfl) (HS.out _ (Below.refl _ _).drew) (fun hHeld => ?_)
        refine' wpAnyH_take (i := 0) (oi := ⟨some 13, _, _, _, _, none⟩) (v := _) rfl (by kernel_rfl) (by kernel_rfl) (by kernel_rfl) (fun _ _ _ h => h) (Or.inl ⟨by rfl, ?hya0⟩) hHeld ?resta0
        case hya0 => (intro W hSw; obtain ⟨s1, s2, s3, s4, s5, s6, s7, s8⟩ := hSw; go_simp; try with_reducible rfl)
        simp only [Act.put, List.setIfInBounds_toArray, List.set_cons_zero, List.set_cons_succ]
        refine' wpAnyH_take (i := 1) (oi := ⟨some 14, _, _, _, _, none⟩) (v := _) rfl (by kernel_rfl) (by kernel_rfl) (by kernel_rfl) (fun _ _ _ h => h) (Or.inl ⟨by rfl, ?hya1⟩) hHeld ?resta1
        case hya1 => (intro W hSw; obtain ⟨s1, s2, s3, s4, s5, s6, s7, s8⟩ := hSw; go_simp; try with_reducible rfl)
        simp only [Act.put, List.setIfInBounds_toArray, List.set_cons_zero, List.set_cons_succ]
        refine' wpAnyH_take (i := 2) (oi := ⟨some 15, _, _, _, _, none⟩) (v := _) rfl (by kernel_rfl) (by kernel_rfl) (by kernel_rfl) (fun _ _ _ h => h) (Or.inl ⟨by rfl, ?hya2⟩) hHeld ?resta2
        case hya2 => (intro W hSw; obtain ⟨s1, s2, s3, s4, s5, s6, s7, s8⟩ := hSw; go_simp; try with_reducible rfl)
        simp only [Act.put, List.setIfInBounds_toArray, List.set_cons_zero, List.set_cons_succ]
        refine' wpAnyH_take (i := 3) (oi := ⟨some 16, _, _, _, _, none⟩) (v := _) rfl (by kernel_rfl) (by kernel_rfl) (by kernel_rfl) (fun _ _ _ h => h) (Or.inl ⟨by rfl, ?hya3⟩) hHeld ?resta3
        case hya3 => (intro W hSw; obtain ⟨s1, s2, s3, s4, s5, s6, s7, s8⟩ := hSw; go_simp; try with_reducible rfl)
        simp only [Act.put, List.setIfInBounds_toArray, List.set_cons_zero, List.set_cons_succ]
        refine' wpAnyH_take (i := 4) (oi := ⟨some 17, _, _, _, _, none⟩) (v := _) rfl (by kernel_rfl) (by kernel_rfl) (by kernel_rfl) (fun _ _ _ h => h) (Or.inl ⟨by rfl, ?hya4⟩) hHeld ?resta4
        case hya4 => (intro W hSw; obtain ⟨s1, s2, s3, s4, s5, s6, s7, s8⟩ := hSw; go_simp; try with_reducible rfl)
        simp only [Act.put, List.setIfInBounds_toArray, List.set_cons_zero, List.set_cons_succ]
        refine' wpAnyH_take (i := 5) (oi := ⟨some 18, _, _, _, _, none⟩) (v := _) rfl (by kernel_rfl) (by kernel_rfl) (by kernel_rfl) (fun _ _ _ h => h) (Or.inl ⟨by rfl, ?hya5⟩) hHeld ?resta5
        case hya5 => (intro W hSw; obtain ⟨s1, s2, s3, s4, s5, s6, s7, s8⟩ := hSw; go_simp; try with_reducible rfl)
        simp only [Act.put, List.setIfInBounds_toArray, List.set_cons_zero, List.set_cons_succ]
        refine' wpAnyH_take (i := 6) (oi := ⟨some 19, _, _, _, _, none⟩) (v := _) rfl (by kernel_rfl) (by kernel_rfl) (by kernel_rfl) (fun _ _ _ h => h) (Or.inl ⟨by rfl, ?hya6⟩) hHeld ?resta6
        case hya6 => (intro W hSw; obtain ⟨s1, s2, s3, s4, s5, s6, s7, s8⟩ := hSw; go_simp; try with_reducible rfl)
        simp only [Act.put, List.setIfInBounds_toArray, List.set_cons_zero, List.set_cons_succ]
        refine' wpAnyH_take (i := 7) (oi := ⟨some 20, _, _, _, _, none⟩) (v := _) rfl (by kernel_rfl) (by kernel_rfl) (by kernel_rfl) (fun _ _ _ h => h) (Or.inl ⟨by rfl, ?hya7⟩) hHeld ?resta7
        case hya7 => (intro W hSw; obtain ⟨s1, s2, s3, s4, s5, s6, s7, s8⟩ := hSw; go_simp; try with_reducible rfl)
        simp only [Act.put, List.setIfInBounds_toArray, List.set_cons_zero, List.set_cons_succ]
        refine' wpAnyH_take (i := 8) (oi := ⟨some 21, _, _, _, _, none⟩) (v := _) rfl (by kernel_rfl) (by kernel_rfl) (by kernel_rfl) (fun _ _ _ h => h) (Or.inl ⟨by rfl, ?hya8⟩) hHeld ?resta8
        case hya8 => (intro W hSw; obtain ⟨s1, s2, s3, s4, s5, s6, s7, s8⟩ := hSw; go_simp; try with_reducible rfl)
        simp only [Act.put, List.setIfInBounds_toArray, List.set_cons_zero, List.set_cons_succ]
        refine' wpAnyH_take (i := 9) (oi := ⟨some 22, _, _, _, _, none⟩) (v := _) rfl (by kernel_rfl) (by kernel_rfl) (by kernel_rfl) (fun _ _ _ h => h) (Or.inl ⟨by rfl, ?hya9⟩) hHeld ?resta9
        case hya9 => (intro W hSw; obtain ⟨s1, s2, s3, s4, s5, s6, s7, s8⟩ := hSw; go_simp; try with_reducible rfl)
        simp only [Act.put, List.setIfInBounds_toArray, List.set_cons_zero, List.set_cons_succ]
        refine wpAnyH_ready (rs := [10, 11]) (by kernel_rfl) (by simp) ?_
        refine AllReadyH.cons (o := ⟨some 23, _, _, _, _, none⟩) rfl (fun K hK => ?_) (AllReadyH.cons (o := ⟨some 8, _, _, _, _, none⟩) rfl (fun K hK => ?_) AllReadyH.nil)
        · go_simp
          refine (kJ _).mono ?_
          rintro e w3 ⟨rfl, hb3⟩
          have hb3' := (Below.refl w1.heap.size w1).drew.trans hb3
          have HB3 := Lib.hid hb3'
          have HM3 := Lib.hid (HM1.out.grow hb3')
          refine hK.out _ _ (HS.out _ hb3') (fun hHeld => ?_)
          clear hK K hb3 hb3'
          refine wpAnyH_ready (rs := [11]) (by kernel_rfl) (by simp) ?_
          refine AllReadyH.cons (o := ⟨some 8, _, _, _, _, none⟩) rfl (fun K hK => ?_) AllReadyH.nil
          go_simp
          have HM5 := Lib.hid (HM3.out.box (cs := #[.int .i64 lj, .int .u32 (pj : Int)]) (t := 40) 2 rfl)
          refine hK.out _ _ (HS.out _ (HB3.out.alloc HB3.out.size _)) (fun hHeld => ?_)
          clear hK K
          refine wpAnyH_ready (rs := [12]) (by kernel_rfl) (by simp) ?_
          refine AllReadyH.cons (o := ⟨none, _, _, _, _, none⟩) rfl (fun K hK => ?_) AllReadyH.nil
          go_simp
          refine hK.out _ _ (HS.out _ (HB3.out.alloc HB3.out.size _)) (fun hHeld => ?_)
          clear hK K
          refine wpAnyH_done (by kernel_rfl) ?_ _
          go_wp2_with fail
          go_meet
          exact ⟨_, rfl, HM5.out⟩
        · go_simp
          have HMa := Lib.hid (HM1.out.drew.box (cs := #[.int .i64 0, .int .u32 0]) (t := 40) 2 rfl)
          have HBa := Lib.hid ((Below.refl w1.heap.size w1).drew.alloc (Nat.le_refl _) (.cells #[.int .i64 0, .int .u32 0] 40))
          refine hK.out _ _ (HS.out _ HBa.out) (fun hHeld => ?_)
          clear hK K
          refine wpAnyH_ready (rs := [10]) (by kernel_rfl) (by simp) ?_
          refine AllReadyH.cons (o := ⟨some 23, _, _, _, _, none⟩) rfl (fun K hK => ?_) AllReadyH.nil
          go_simp
          refine (kJ _).mono ?_
          rintro e w3 ⟨rfl, hb3⟩
          have HB4 := Lib.hid (HBa.out.trans (hb3.mono HBa.out.size))
          have HM4 := Lib.hid (HMa.out.grow hb3)
          have HG := Lib.hid (Nat.le_refl w1.heap.size)
          refine hK.out _ _ (HS.out _ HB4.out) (fun hHeld => ?_)
          clear hK K hb3
          have f0 : World.frozen? w3 ⟨w1.heap.size, 0, none⟩ = false := HM4.out.free (k := 0) rfl 0
          have f1 : World.frozen? w3 ⟨w1.heap.size, 1, none⟩ = false := HM4.out.free (k := 0) rfl 1
          have n0 : World.cell? w3 ⟨w1.heap.size, 0, none⟩ = _ := HM4.out.cell (k := 0) rfl (j := 0) rfl
          have n1 : World.cell? w3 ⟨w1.heap.size, 1, none⟩ = _ := HM4.out.cell (k := 0) rfl (j := 1) rfl
          have HM5 := Lib.hid ((HM4.out.store (k := 0) rfl 0 (.int .i64 lj)).store (k := 0) rfl 1 (.int .u32 (pj : Int)))
          refine wpAnyH_ready (rs := [12]) (by kernel_rfl) (by simp) ?_
          refine AllReadyH.cons (o := ⟨none, _, _, _, _, none⟩) rfl (fun K hK => ?_) AllReadyH.nil
          go_simp
          refine hK.out _ _ (HS.out _ ((HB4.out.setCell (p := ⟨w1.heap.size, 0, none⟩) HG.out _).setCell (p := ⟨w1.heap.size, 1, none⟩) HG.out _)) (fun hHeld => ?_)
          clear hK K
          refine wpAnyH_done (by kernel_rfl) ?_ _
          go_wp2_with fail
          go_meet
          exact ⟨_, rfl, HM5.out⟩
      case rest =>
      obtain ⟨g, rfl, hm⟩ := hcut
      have HM2 := Lib.hid hm
      clear hm HS kJ t0 t1 e0 e1 e2 eC eT eM eK eF m0 m1 k0 c0 c1 r0
      have n0 := HM2.out.cell (k := 0) rfl (j := 0) rfl
      have n1 := HM2.out.cell (k := 0) rfl (j := 1) rfl
      have e1 := HM2.out.cell (k := 1) rfl (j := 1) rfl
      have eC := HM2.out.cell (k := 2) rfl (j := 0) rfl
      obtain ⟨c0, c1⟩ := lab_in (hr.below HM2.out.below) hb
      have kU := fun W => mUnder_any lj (atL cs b).1 pj (atL cs b).2 W hokj hok2
      rw [show underL (lj, pj) ((atL cs b).1, (atL cs b).2) = underL (lj, pj) (atL cs b) from rfl] at kU
      generalize underL (lj, pj) (atL cs b) = u at *
      go_upto_region 4 with fail
      refine wp_region_still_tail 6 (by kernel_rfl) (by kernel_rfl) ?_
      simp only [List.take_succ_cons, List.take_zero, List.drop_succ_cons, List.drop_zero]
      iterate 6 still_step
      refine wpStill_nil ?_
      go_wp2_with fail
      refine (kU _).mono ?_
      rintro e w4 ⟨rfl, hb4⟩
      have HM4 := Lib.hid (HM2.out.drew.grow hb4)
      clear kU hb4 c0 c1 n0 n1 e1 eC
      cases u with
      | false =>
        obtain ⟨rfl, rfl⟩ : q = 7 ∧ s' = s := by simpa using HQ.out
        have HN := Lib.hid HM4.out.tail.tail
        go_wp2
        go_ret
        exact ⟨rfl, HN.out⟩
      | true =>
        obtain ⟨rfl, rfl⟩ : q = 0 ∧ s' = readM true (atL ts) s b t := by simpa using HQ.out
        have n0 := HM4.out.cell (k := 0) rfl (j := 0) rfl
        have n1 := HM4.out.cell (k := 0) rfl (j := 1) rfl
        have e1 := HM4.out.cell (k := 1) rfl (j := 1) rfl
        have eM := HM4.out.cell (k := 4) rfl (j := 0) rfl
        have m0 := HM4.out.cell (k := 7) rfl (j := b * 2) (labsC_at0 (tabA_get s.mar hb))
        have m1 := HM4.out.cell (k := 7) rfl (j := b * 2 + 1) (labsC_at1 (tabA_get s.mar hb))
        have f0 := HM4.out.free (k := 7) rfl (b * 2)
        have f1 := HM4.out.free (k := 7) rfl (b * 2 + 1)
        have hn1 := ((HM4.out.tail.store (k := 6) rfl (b * 2) (.int .i64 ((lj, pj) : Lab).1)).store (k := 6) rfl (b * 2 + 1) (.int .u32 ((((lj, pj) : Lab).2 : Nat) : Int)))
        rw [List.set_set, rowsE_mar b (lj, pj), tabA_set] at hn1
        change RowsM w0 _ ((w4.setCell ⟨bm, b * 2, none⟩ (.int .i64 lj)).setCell ⟨bm, b * 2 + 1, none⟩ (.int .u32 (pj : Int))) at hn1
        have HM5 := Lib.hid hn1
        clear hn1
        go_upto_region 7 with fail
        generalize (w4.setCell ⟨bm, b * 2, none⟩ (.int .i64 lj)).setCell ⟨bm, b * 2 + 1, none⟩ (.int .u32 (pj : Int)) = w5 at *
        clear n0 n1 e1 eM m0 m1 f0 f1 HM4
        have e1 := HM5.out.cell (k := 0) rfl (j := 1) rfl
        have e2 := HM5.out.cell (k := 0) rfl (j := 2) rfl
        have eK := HM5.out.cell (k := 4) rfl (j := 0) rfl
        have eF := HM5.out.cell (k := 5) rfl (j := 0) rfl
        have k0 := HM5.out.cell (k := 7) rfl (j := b) (words_at (tabA_get s.kn hb))
        have r0 := HM5.out.cell (k := 8) rfl (j := t) (words_at (tabA_get s.fr ht))
        have f0 := HM5.out.free (k := 7) rfl b
        have hor := u32_or_nat (s.kn b) (s.fr t) hp1 hp2
        have hn2 := HM5.out.store (k := 7) rfl b (.int .u32 ((s.kn b ||| s.fr t : Nat) : Int))
        rw [rowsE_kn b, tabA_set] at hn2
        have HN := Lib.hid hn2.drew.tail
        clear hn2
        refine wp_region_still_tail 12 (by kernel_rfl) (by kernel_rfl) ?_
        simp only [List.take_succ_cons, List.take_zero, List.drop_succ_cons, List.drop_zero]
        iterate 12 still_step
        refine wpStill_nil ?_
        go_wp2
        go_ret
        exact ⟨rfl, by have h := HN.out; rw [← HJ.out] at h; exact h⟩
    · obtain rfl : kind = 2 := by omega
      rw [if_neg (by decide)] at HQ
      clear hA hk hr hr2 hF hcs hts hk3 hk1 c0 c1 eC hok2
      have kU := fun W => mUnder_any (s.mar b).1 (atL ts t).1 (s.mar b).2 (atL ts t).2 W hok1 hok3
      rw [show underL ((s.mar b).1, (s.mar b).2) ((atL ts t).1, (atL ts t).2) = underL (s.mar b) (atL ts t) from rfl] at kU
      generalize underL (s.mar b) (atL ts t) = u at *
      go_upto_region 9 with fail
      refine wp_region_still_tail 10 (by kernel_rfl) (by kernel_rfl) ?_
      simp only [List.take_succ_cons, List.take_zero, List.drop_succ_cons, List.drop_zero]
      iterate 10 still_step
      refine wpStill_nil ?_
      go_wp2_with fail
      refine (kU _).mono ?_
      rintro e w4 ⟨rfl, hb4⟩
      have HM4 := Lib.hid (HM1.out.drew.grow hb4)
      clear kU hb4 t0 t1 m0 m1 e0 e1 e2 eT eM eK eF k0 r0 HM1
      cases u with
      | false =>
        obtain ⟨rfl, rfl⟩ : q = 7 ∧ s' = s := by simpa using HQ.out
        have HN := Lib.hid HM4.out.tail
        go_wp2
        go_ret
        exact ⟨rfl, HN.out⟩
      | true =>
        obtain ⟨rfl, rfl⟩ : q = 0 ∧ s' = writeM s b t := by simpa using HQ.out
        go_upto_region 11 with fail
        have e1 := HM4.out.cell (k := 0) rfl (j := 1) rfl
        have e2 := HM4.out.cell (k := 0) rfl (j := 2) rfl
        have eK := HM4.out.cell (k := 4) rfl (j := 0) rfl
        have eF := HM4.out.cell (k := 5) rfl (j := 0) rfl
        have k0 := HM4.out.cell (k := 7) rfl (j := b) (words_at (tabA_get s.kn hb))
        have r0 := HM4.out.cell (k := 8) rfl (j := t) (words_at (tabA_get s.fr ht))
        have f0 := HM4.out.free (k := 8) rfl t
        have hor := u32_or_nat (s.fr t) (s.kn b) hp2 hp1
        have hn2 := HM4.out.store (k := 8) rfl t (.int .u32 ((s.fr t ||| s.kn b : Nat) : Int))
        rw [rowsE_fr t, tabA_set] at hn2
        have HN := Lib.hid hn2.drew.tail
        clear hn2 HM4
        refine wp_region_still_tail 12 (by kernel_rfl) (by kernel_rfl) ?_
        simp only [List.take_succ_cons, List.take_zero, List.drop_succ_cons, List.drop_zero]
        iterate 12 still_step
        refine wpStill_nil ?_
        go_wp2
        go_ret
        exact ⟨rfl, HN.out⟩

end Go.Proofs.Ytmmhggldknefoaa
