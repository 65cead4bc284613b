/- grant.Play. -/
import Derived.Test.YtlpjpnlfmjehnaaWGo8
import Derived.Test.YtlpjpnlfmjehnaaBoxB
import Derived.Test.YtlpjpnlfmjehnaaRegI
import Derived.Test.YtlpjpnlfmjehnaaWM1
namespace Go.Proofs.Ytlpjpnlfmjehnaa
open Go.RowKit

theorem infoErn : (Try.prog.info? 27).map (fun i => (i.zero, i.size, i.bytes)) = some (some (.int .i64 0), 1, 8) := by kernel_rfl
theorem underPl : ∃ d, Try.prog.underlying 59 = some d ∧ (match d with | .struct _ | .array _ _ => true | _ => false) = true := isRow (by kernel_rfl)
theorem box_storeAt {w0 w : World} {rs : List Rw} {k g : Nat} {e t : TypeId} {size : Nat} {xs : List Value} (h : RowsM w0 rs w) (hr : rs[k]? = some ⟨e, size, .slice (some ⟨g, 0, none⟩) 1 1, 1, xs⟩) (c : Array Value) (hc : c.size = size) (h1 : c.all (·.oneCell') = true)
    (hi : (Try.prog.info? t).map (·.size) = some size) : (Instr.storeAt t (.pointer (some ⟨g, 0, none⟩)) (.agg c)).run Try.prog w = .ok () (w.setRow g c) := by
  obtain ⟨hh, hl, _⟩ := h.boxHeap hr
  simp only [Instr.storeAt, Instr.sureAddr, Sem.run_bind, Sem.run_pure, Result.andThen]
  exact run_storeVar_row w g e t xs.toArray c hh (by rw [hi, hc]) (by simp [hl, hc]) h1

theorem exec_load_gr {a : Act} {o : Oper} {x : Operand} {g : Nat} {cs : Array Value} {W : World} (ho : o.op = .load 55 x) (hx : a.eval x = .pointer (some ⟨g, 0, none⟩)) (hg : W.heap[g]? = some (.cells cs 55 (0, 0))) (hs : cs.size = 197) :
    (execOp a.eval o).run Try.prog W = .ok (.value (.agg cs)) W := by
  unfold execOp
  simp [ho, hx, Instr.loadAt, Instr.sureAddr, load_gr W g cs _ hg hs, Result.andThen]
theorem exec_build_pl {a : Act} {o : Oper} {x : Operand} {cs : Array Value} {W : World} (ho : o.op = .build 59 #[(0, x)]) (hx : a.eval x = .agg cs) (hs : cs.size = 197) :
    (execOp a.eval o).run Try.prog W = .ok (.value (.agg cs)) W := by
  unfold execOp
  simp [ho, hx, build_pl cs hs W, Result.andThen]
theorem alloc_pl {z : Array Value} (hz : z = gA zG) (W : World) : (Instr.alloc 59 true (Value.tuple #[])).run Try.prog W = .ok (.pointer (some ⟨W.heap.size, 0, none⟩)) (W.alloc (.cells z 59)) := by
  have h := (zero_of_info infoPl).1
  have h197 : (gA zG).size = 197 := gA_size _
  rw [← hz] at h h197
  simp [Instr.alloc, newVar, h, newRow, Value.cells, Sem.run_bind, Result.andThen]

theorem rows_pl {w w' : World} {s : Gs} {zs : Array Value} {gP : Nat} {ex : List Rw} {n bC : Nat} (hz : zs = gA s)
    (h : RowsM w (⟨59, 197, .slice (some ⟨gP, 0, none⟩) 1 1, 1, zs.toList⟩ :: ex ++ [⟨27, 1, .slice (some ⟨bC, 0, none⟩) n n, n, (madeCells (Value.int .i64 0).cells (n * 1)).toList⟩]) w') :
    RowsM w (rowG 59 197 gP s [] :: ex ++ [⟨27, 1, .slice (some ⟨bC, 0, none⟩) n n, n, List.replicate n (.int .i64 0)⟩]) w' := by
  rw [show rowG 59 197 gP s [] = ⟨59, 197, .slice (some ⟨gP, 0, none⟩) 1 1, 1, zs.toList⟩ by unfold rowG; rw [hz, List.append_nil]; rfl, show List.replicate n (Value.int .i64 0) = (madeCells (Value.int .i64 0).cells (n * 1)).toList by rw [Nat.mul_one]; exact (toList_madeCells_one _ _).symm]
  exact h

theorem codes_set {l : List Int} {n k : Nat} {q : Int} (hl : l.length = k) (hk : k < n) : (ints (l ++ List.replicate (n - k) 0)).set k (.int .i64 q) = ints ((l ++ [q]) ++ List.replicate (n - (k + 1)) 0) := by
  unfold ints
  rw [← List.map_set, List.set_append_right _ _ (by omega), hl, Nat.sub_self, show n - k = (n - (k + 1)) + 1 by omega, List.replicate_succ, List.set_cons_zero, List.append_assoc]
  rfl

set_option maxRecDepth 100000 in
set_option maxHeartbeats 4000000 in
theorem GPlay_ok : GPlayOk 8 := by
  intro n es A c ds A3 c3 w hlm hlc h32 hrow hdm hdc hdp hrow3 _
  obtain ⟨hz, hzs⟩ := zero_of_info infoGr
  have h197 : (gA zG).size = 197 := gA_size _
  obtain ⟨z, hzz⟩ : ∃ z, z = gA zG := ⟨_, rfl⟩
  rw [← hzz] at hz h197
  have HZ := Lib.hid hzz
  have HZ1 := Lib.hid h197
  have HZS := Lib.hid hzs
  have HM := Lib.hid ((RowsM.nil w).box (cs := #[.slice none 0 0, .int .i64 0, .slice none 0 0]) (t := 26) 3 rfl)
  clear hzz hzs
  by_cases hL : 30 < ds.length
  · have hq := Lib.hid (show codeGP n es ds.length = 1 from if_pos hL)
    have z0 := HM.out.cell (k := 0) rfl (j := 0) rfl
    have z1 := HM.out.cell (k := 0) rfl (j := 1) rfl
    have z2 := HM.out.cell (k := 0) rfl (j := 2) rfl
    have f0 := HM.out.free (k := 0) rfl 0
    have f1 := HM.out.free (k := 0) rfl 1
    have f2 := HM.out.free (k := 0) rfl 2
    have HN := Lib.hid (((HM.out.store (k := 0) rfl 0 (.slice none 0 0)).store (k := 0) rfl 1 (.int .i64 0)).store (k := 0) rfl 2 (.slice none 0 0))
    clear hz h197
    go_enter Try.func8, Try.ntmps8
    go_wp2
    have y0 := HN.out.cell (k := 0) rfl (j := 0) rfl
    have y1 := HN.out.cell (k := 0) rfl (j := 1) rfl
    have y2 := HN.out.cell (k := 0) rfl (j := 2) rfl
    refine bodyPost_ret (v := .tuple #[.agg #[.slice none 0 0, .int .i64 0, .slice none 0 0], .int .i64 1]) (by simp [results, Try.results8, go_sem, z0, z1, z2]) rfl ?_
    refine ⟨none, 0, [], 0, none, 0, [], by rw [hq.out]; rfl, ?_, Row.nil _ _, Row.nil _ _, HM.out.below⟩
    unfold GRes
    rw [hq.out, if_neg (by decide)]
    exact ⟨rfl, rfl, rfl⟩
  · have hq := Lib.hid (show codeGP n es ds.length = codeE n es from if_neg hL)
    have hd3 : decide ((30 : Int) < (ds.length : Int)) = false := by rw [decide_eq_false_iff_not]; omega
    have hL' : ds.length ≤ 30 := by omega
    have H32 := Lib.hid h32
    clear hL h32
    go_enter Try.func8, Try.ntmps8
    go_upto_region 3 with fail
    generalize w.alloc _ = w1 at *
    have KS := Lib.hid (gStart_any n es A c w1 H32.out (hrow.below HM.out.below))
    go_wp2_with fail
    refine KS.out.mono ?_
    rintro e w2 ⟨s, rfl, hs, hb⟩
    have hst := run_storeCells_new (P := Try.prog) w2 55 z (gA s) (by rw [gA_size]; exact HZS.out) (by rw [gA_size, HZ1.out]) (gA_one s)
    have HM3 := Lib.hid ((HM.out.grow hb).box (cs := gA s) (t := 55) 197 (gA_size s))
    obtain ⟨zs, hzs⟩ : ∃ zs, zs = gA s := ⟨_, rfl⟩
    rw [← hzs] at hst HM3
    have HS := Lib.hid hs
    have hzs7 : zs.size = 197 := by rw [hzs]; exact gA_size s
    have HZ7 := Lib.hid hzs7
    have HSZ := Lib.hid hzs
    clear hzs hs hb KS HM
    rw [← HSZ.out]
    go_upto_region 4 with fail
    generalize w2.alloc _ = w3 at *
    generalize w2.heap.size = g8 at *
    generalize w.heap.size = g6 at *
    clear hst hzs7
    by_cases hE : codeE n es = 0
    · have hsE := HS.out hE
      have HE := Lib.hid hE
      have hn0 := (codeE_zero hE).1
      obtain ⟨m, rfl⟩ := Int.eq_ofNat_of_zero_le (show 0 ≤ n by omega)
      rw [Int.toNat_natCast] at hsE
      rw [hE]
      obtain ⟨i0, hi0, hz0, hz1, hz2⟩ := info_parts infoErn
      have HI0 := Lib.hid (And.intro hi0 (And.intro hz0 (And.intro hz1 hz2)))
      have HSE := Lib.hid hsE
      clear hi0 hz0 hz1 hz2 hE hsE
      go_upto_region 6 with fail
      go_cut [10, 11] (fun pv cv wx => ∃ gP bC, pv = .pointer (some ⟨gP, 0, none⟩) ∧ cv = .slice (some ⟨bC, 0, none⟩) ds.length ds.length ∧
        RowsM w [rowG 59 197 gP s [], ⟨55, 197, .slice (some ⟨g8, 0, none⟩) 1 1, 1, zs.toList⟩, ⟨26, 3, .slice (some ⟨g6, 0, none⟩) 1 1, 1, [.slice none 0 0, .int .i64 0, .slice none 0 0]⟩, ⟨27, 1, .slice (some ⟨bC, 0, none⟩) ds.length ds.length, ds.length, List.replicate ds.length (.int .i64 0)⟩] wx)
      case first =>
        have hS := (HM3.out.boxHeap (k := 0) rfl).1
        rw [Array.toArray_toList] at hS
        have HB := Lib.hid (build_pl zs HZ7.out)
        refine wp_region_held_drew (S := fun W => W.heap[g8]? = some (.cells zs 55 (0, 0))) (by kernel_rfl) hS (fun hHeld => ?_)
        refine' wpAnyH_take (i := 0) (oi := ⟨some 28, _, _, _, _, none⟩) (v := .agg zs) rfl (by kernel_rfl) (by kernel_rfl) (by kernel_rfl) (fun _ _ _ h => h) (Or.inl ⟨by rfl, ?hya0⟩) hHeld ?resta0
        case hya0 =>
          intro W hSw
          exact exec_load_gr rfl rfl hSw HZ7.out
        simp only [Act.put, List.setIfInBounds_toArray, List.set_cons_zero, List.set_cons_succ]
        refine' wpAnyH_take (i := 1) (oi := ⟨some 29, _, _, _, _, none⟩) (v := .agg zs) rfl (by kernel_rfl) (by kernel_rfl) (by kernel_rfl) (fun _ _ _ h => h) (Or.inl ⟨by rfl, ?hya1⟩) hHeld ?resta1
        case hya1 =>
          intro W hSw
          exact exec_build_pl rfl rfl HZ7.out
        simp only [Act.put, List.setIfInBounds_toArray, List.set_cons_zero, List.set_cons_succ]
        refine' wpAnyH_take (i := 2) (oi := ⟨some 30, _, _, _, _, none⟩) (v := _) rfl (by kernel_rfl) (by kernel_rfl) (by kernel_rfl) (fun _ _ _ h => h) (Or.inl ⟨by rfl, ?hya2⟩) hHeld ?resta2
        case hya2 => (intro W hSw; go_simp; try with_reducible rfl)
        simp only [Act.put, List.setIfInBounds_toArray, List.set_cons_zero, List.set_cons_succ]
        refine' wpAnyH_take (i := 3) (oi := ⟨some 31, _, _, _, _, none⟩) (v := _) rfl (by kernel_rfl) (by kernel_rfl) (by kernel_rfl) (fun _ _ _ h => h) (Or.inl ⟨by rfl, ?hya3⟩) hHeld ?resta3
        case hya3 => (intro W hSw; go_simp; try with_reducible rfl)
        simp only [Act.put, List.setIfInBounds_toArray, List.set_cons_zero, List.set_cons_succ]
        refine wpAnyH_ready (rs := [4, 5]) (by kernel_rfl) (by simp) ?_
        refine AllReadyH.cons (o := ⟨some 32, _, _, _, _, none⟩) rfl (fun K hK => ?_) (AllReadyH.cons (o := ⟨some 10, _, _, _, _, none⟩) rfl (fun K hK => ?_) AllReadyH.nil)
        · refine wp_make_full _ _ _ rfl w.heap.size 27 i0 (.int .i64 0) 1 Try.underlying24 HI0.out.1 HI0.out.2.1 HI0.out.2.2.1 .i64 .i64 ds.length rfl rfl (by rw [HI0.out.2.2.2]; omega) (by unfold maxLen; omega) HM3.out.below.size (fun w4 ho hg => ?_)
          have HM4 := Lib.hid (HM3.out.drew.made ho hg (Nat.le_refl _))
          clear ho hg
          simp only [Act.put, List.setIfInBounds_toArray, List.set_cons_zero, List.set_cons_succ]
          refine hK.out _ _ (by have := (HM4.out.boxHeap (k := 0) rfl).1; rwa [Array.toArray_toList] at this) (fun hHeld => ?_)
          clear hK K
          refine wpAnyH_ready (rs := [5]) (by kernel_rfl) (by simp) ?_
          refine AllReadyH.cons (o := ⟨some 10, _, _, _, _, none⟩) rfl (fun K hK => ?_) AllReadyH.nil
          refine wp_make_box 59 rfl z (alloc_pl HZ.out w4) ?_
          have HM5 := Lib.hid (HM4.out.box (cs := z) (t := 59) 197 HZ1.out)
          simp only [Act.put, List.setIfInBounds_toArray, List.set_cons_zero, List.set_cons_succ]
          refine hK.out _ _ (by have := (HM5.out.boxHeap (k := 1) rfl).1; rwa [Array.toArray_toList] at this) (fun hHeld => ?_)
          clear hK K
          refine wpAnyH_ready (rs := [6]) (by kernel_rfl) (by simp) ?_
          refine AllReadyH.cons (o := ⟨none, _, _, _, _, none⟩) rfl (fun K hK => ?_) AllReadyH.nil
          refine wp_store_one 59 _ _ rfl _ (.agg zs) _ rfl rfl (box_storeAt HM5.out (k := 0) rfl zs HZ7.out (by rw [HSZ.out]; exact gA_one _) (zero_of_info infoPl).2) ?_
          have HM6 := Lib.hid (HM5.out.storeAll (k := 0) rfl zs HZ7.out)
          simp only [Act.put]
          refine hK.out _ _ (by have := (HM6.out.boxHeap (k := 1) rfl).1; rwa [Array.toArray_toList] at this) (fun hHeld => ?_)
          clear hK K
          have HF := Lib.hid (rows_pl HSZ.out HM6.out)
          refine wpAnyH_ready (rs := [7]) (by kernel_rfl) (by simp) ?_
          refine AllReadyH.cons (o := ⟨some 11, _, _, _, _, none⟩) rfl (fun K hK => ?_) AllReadyH.nil
          go_simp
          refine hK.out _ _ (by have := (HM6.out.boxHeap (k := 1) rfl).1; rwa [Array.toArray_toList] at this) (fun hHeld => ?_)
          clear hK K
          refine wpAnyH_done (by kernel_rfl) ?_ _
          go_wp2_with fail
          go_meet
          exact ⟨_, _, rfl, rfl, HF.out⟩
        · refine wp_make_box 59 rfl z (alloc_pl HZ.out w3.drew) ?_
          have HM5 := Lib.hid (HM3.out.drew.box (cs := z) (t := 59) 197 HZ1.out)
          simp only [Act.put, List.setIfInBounds_toArray, List.set_cons_zero, List.set_cons_succ]
          refine hK.out _ _ (by have := (HM5.out.boxHeap (k := 1) rfl).1; rwa [Array.toArray_toList] at this) (fun hHeld => ?_)
          clear hK K
          refine wpAnyH_ready (rs := [4, 6]) (by kernel_rfl) (by simp) ?_
          refine AllReadyH.cons (o := ⟨some 32, _, _, _, _, none⟩) rfl (fun K hK => ?_) (AllReadyH.cons (o := ⟨none, _, _, _, _, none⟩) rfl (fun K hK => ?_) AllReadyH.nil)
          · refine wp_make_full _ _ _ rfl w.heap.size 27 i0 (.int .i64 0) 1 Try.underlying24 HI0.out.1 HI0.out.2.1 HI0.out.2.2.1 .i64 .i64 ds.length rfl rfl (by rw [HI0.out.2.2.2]; omega) (by unfold maxLen; omega) HM5.out.below.size (fun w5 ho hg => ?_)
            have HM6 := Lib.hid (HM5.out.made ho hg (Nat.le_refl _))
            clear ho hg
            simp only [Act.put, List.setIfInBounds_toArray, List.set_cons_zero, List.set_cons_succ]
            refine hK.out _ _ (by have := (HM6.out.boxHeap (k := 1) rfl).1; rwa [Array.toArray_toList] at this) (fun hHeld => ?_)
            clear hK K
            refine wpAnyH_ready (rs := [6]) (by kernel_rfl) (by simp) ?_
            refine AllReadyH.cons (o := ⟨none, _, _, _, _, none⟩) rfl (fun K hK => ?_) AllReadyH.nil
            refine wp_store_one 59 _ _ rfl _ (.agg zs) _ rfl rfl (box_storeAt HM6.out (k := 0) rfl zs HZ7.out (by rw [HSZ.out]; exact gA_one _) (zero_of_info infoPl).2) ?_
            have HM7 := Lib.hid (HM6.out.storeAll (k := 0) rfl zs HZ7.out)
            simp only [Act.put]
            refine hK.out _ _ (by have := (HM7.out.boxHeap (k := 1) rfl).1; rwa [Array.toArray_toList] at this) (fun hHeld => ?_)
            clear hK K
            have HF := Lib.hid (rows_pl HSZ.out HM7.out)
            refine wpAnyH_ready (rs := [7]) (by kernel_rfl) (by simp) ?_
            refine AllReadyH.cons (o := ⟨some 11, _, _, _, _, none⟩) rfl (fun K hK => ?_) AllReadyH.nil
            go_simp
            refine hK.out _ _ (by have := (HM7.out.boxHeap (k := 1) rfl).1; rwa [Array.toArray_toList] at this) (fun hHeld => ?_)
            clear hK K
            refine wpAnyH_done (by kernel_rfl) ?_ _
            go_wp2_with fail
            go_meet
            exact ⟨_, _, rfl, rfl, by have h := HF.out; simp only [World.size_alloc] at h; exact h⟩
          · refine wp_store_one 59 _ _ rfl _ (.agg zs) _ rfl rfl (box_storeAt HM5.out (k := 0) rfl zs HZ7.out (by rw [HSZ.out]; exact gA_one _) (zero_of_info infoPl).2) ?_
            have HM6 := Lib.hid (HM5.out.storeAll (k := 0) rfl zs HZ7.out)
            simp only [Act.put]
            refine hK.out _ _ (by have := (HM6.out.boxHeap (k := 1) rfl).1; rwa [Array.toArray_toList] at this) (fun hHeld => ?_)
            clear hK K
            refine wpAnyH_ready (rs := [4]) (by kernel_rfl) (by simp) ?_
            refine AllReadyH.cons (o := ⟨some 32, _, _, _, _, none⟩) rfl (fun K hK => ?_) AllReadyH.nil
            refine wp_make_full _ _ _ rfl w.heap.size 27 i0 (.int .i64 0) 1 Try.underlying24 HI0.out.1 HI0.out.2.1 HI0.out.2.2.1 .i64 .i64 ds.length rfl rfl (by rw [HI0.out.2.2.2]; omega) (by unfold maxLen; omega) HM6.out.below.size (fun w5 ho hg => ?_)
            have HM7 := Lib.hid (HM6.out.made ho hg (Nat.le_refl _))
            clear ho hg
            simp only [Act.put, List.setIfInBounds_toArray, List.set_cons_zero, List.set_cons_succ]
            refine hK.out _ _ (by have := (HM7.out.boxHeap (k := 1) rfl).1; rwa [Array.toArray_toList] at this) (fun hHeld => ?_)
            clear hK K
            have HF := Lib.hid (rows_pl HSZ.out HM7.out)
            refine wpAnyH_ready (rs := [7]) (by kernel_rfl) (by simp) ?_
            refine AllReadyH.cons (o := ⟨some 11, _, _, _, _, none⟩) rfl (fun K hK => ?_) AllReadyH.nil
            go_simp
            refine hK.out _ _ (by have := (HM7.out.boxHeap (k := 1) rfl).1; rwa [Array.toArray_toList] at this) (fun hHeld => ?_)
            clear hK K
            refine wpAnyH_done (by kernel_rfl) ?_ _
            go_wp2_with fail
            go_meet
            exact ⟨_, _, rfl, rfl, by have h := HF.out; simp only [size_setRow, World.size_alloc] at h; exact h⟩
      case rest =>
      obtain ⟨gP, bC, rfl, rfl, hm⟩ := hcut
      have hm' : RowsM w [rowG 59 197 gP (runG m es (ds.take 0)).2 [], ⟨55, 197, .slice (some ⟨g8, 0, none⟩) 1 1, 1, zs.toList⟩, ⟨26, 3, .slice (some ⟨g6, 0, none⟩) 1 1, 1, [.slice none 0 0, .int .i64 0, .slice none 0 0]⟩, ⟨27, 1, .slice (some ⟨bC, 0, none⟩) ds.length ds.length, ds.length, ints ((runG m es (ds.take 0)).1 ++ List.replicate (ds.length - 0) 0)⟩] wc := by
        rw [show (runG m es (ds.take 0)).2 = s from HSE.out.symm, show ints ((runG m es (ds.take 0)).1 ++ List.replicate (ds.length - 0) 0) = List.replicate ds.length (.int .i64 0) by simp [runG, ints]]
        exact hm
      have HM6 := Lib.hid hm'
      clear hm hm' HM3
      go_wp2_with fail
      go_loopw [35] (fun v wr => ∃ k : Nat, v = .int .i64 k ∧ k ≤ ds.length ∧ RowsM w [rowG 59 197 gP (runG m es (ds.take k)).2 [], ⟨55, 197, .slice (some ⟨g8, 0, none⟩) 1 1, 1, zs.toList⟩, ⟨26, 3, .slice (some ⟨g6, 0, none⟩) 1 1, 1, [.slice none 0 0, .int .i64 0, .slice none 0 0]⟩, ⟨27, 1, .slice (some ⟨bC, 0, none⟩) ds.length ds.length, ds.length, ints ((runG m es (ds.take k)).1 ++ List.replicate (ds.length - k) 0)⟩] wr) (fun v _ => ds.length - (intOf v).toNat)
      case atStart => exact ⟨0, rfl, Nat.zero_le _, HM6.out⟩
      case round =>
        clear HM6
        obtain ⟨k, rfl, hk, hM⟩ := hrel
        have HM := Lib.hid hM
        clear hM
        by_cases hlt : k < ds.length
        · obtain ⟨d, hd⟩ := get_some hlt
          have hf := fineG_run (l := ds.take k) HE.out H32.out (fun d hd => hdp d (List.mem_of_mem_take hd))
          have hp := hdp d (List.mem_of_getElem? hd)
          have hsucc := Lib.hid (runG_succ (n := m) (es := es) hd)
          obtain ⟨b3, o3, rfl, c0, c1, c2, c4, c5, c6⟩ := RowD.cells (hrow3.below HM.out.below) hd
          have hlen := Lib.hid (runG_length m es (ds.take k))
          generalize runG m es (ds.take k) = rs at *
          have HB := Lib.hid (HM.out.box (cs := #[.int .i64 d.kind, .int .i64 d.who, .int .i64 d.tgt, .int .i64 d.lev, .int .u32 (d.parts : Int), .int .i64 d.val]) (t := 46) 6 rfl).swp
          have hkd : (k : Int) < ds.length := by omega
          obtain ⟨kind, who, tgt, lev, parts, val⟩ := d
          simp only at c0 c1 c2 c4 c5 c6 hp HB
          clear hd HM
          go_upto_region 10 with fail
          clear c0 c1 c2 c4 c5 c6
          generalize wr.alloc _ = w4 at *
          generalize wr.heap.size = g13 at *
          have e0 := HB.out.cell (k := 1) rfl (j := 0) rfl
          have e1 := HB.out.cell (k := 1) rfl (j := 1) rfl
          have e2 := HB.out.cell (k := 1) rfl (j := 2) rfl
          have e3 := HB.out.cell (k := 1) rfl (j := 3) rfl
          have e4 := HB.out.cell (k := 1) rfl (j := 4) rfl
          have e5 := HB.out.cell (k := 1) rfl (j := 5) rfl
          have hgl : gP < w4.heap.size := block_lt_of_cell (rowG_at HB.out).n
          have kE := gExec_any gP rs.2 ⟨kind, who, tgt, lev, parts, val⟩ w4 HB.out hf hp hgl
          unfold ddV at kE
          simp only at kE
          generalize hst : stepG rs.2 ⟨kind, who, tgt, lev, parts, val⟩ = st at *
          have KE := Lib.hid kE
          clear kE hgl hf HB hst
          go_wp2_with fail
          refine KE.out.mono ?_
          rintro e w5 ⟨rfl, hN⟩
          have HN := Lib.hid hN
          have f0 := hN.free (k := 4) rfl k
          have hx0 := hN.cell (k := 4) rfl (j := k) (ints_mem (l := rs.1 ++ List.replicate (ds.length - k) 0) (v := 0) (by
            have h1 := hlen.out
            rw [List.length_take, Nat.min_eq_left (by omega)] at h1
            rw [List.getElem?_append_right (by omega), h1, Nat.sub_self, List.getElem?_replicate, if_pos (by omega)]))
          have hN2 := (hN.store (k := 4) rfl k (.int .i64 st.1)).swp.tail
          clear KE hN e0 e1 e2 e3 e4 e5
          have HN2 := Lib.hid hN2
          clear hN2
          go_wp2
          go_roundw
          case rel =>
            refine ⟨k + 1, by go_num, by omega, ?_⟩
            rw [hsucc.out, ← codes_set (l := rs.1) (n := ds.length) (k := k) (by have h1 := hlen.out; rw [List.length_take, Nat.min_eq_left (by omega)] at h1; exact h1) hlt]
            exact HN2.out
          case measure => simp [intOf]; omega
        · obtain rfl : k = ds.length := by omega
          rw [List.take_length, Nat.sub_self, List.replicate_zero, List.append_nil] at HM
          have HRes := Lib.hid (show GRes m es ds (runG m es ds).1 (runG m es ds).2.n (edgesG (runG m es ds).2) by
            unfold GRes
            rw [hq.out, HE.out, if_pos rfl]
            exact ⟨rfl, rfl, rfl⟩)
          have hlen := Lib.hid (runG_length m es ds)
          have hf := fineG_run (l := ds) HE.out H32.out hdp
          generalize runG m es ds = rs at *
          have hN0 := (rowG_at HM.out).n
          have hgl : gP < wr.heap.size := block_lt_of_cell hN0
          have KG := Lib.hid (gEdges_any gP rs.2 wr.drew (rowG_at HM.out.drew) hgl hf)
          go_upto_region 12 with fail
          refine wp_region_held_drew (S := fun W => W.cell? ⟨gP, 0, none⟩ = some (.int .i64 (rs.2.n : Int))) (by kernel_rfl) hN0 (fun hHeld => ?_)
          refine' wpAnyH_take (i := 0) (oi := ⟨some 46, _, _, _, _, none⟩) (v := _) rfl (by kernel_rfl) (by kernel_rfl) (by kernel_rfl) (fun _ _ _ h => h) (Or.inl ⟨by rfl, ?hyz0⟩) hHeld ?restz0
          case hyz0 => (intro W hSw; go_simp; try with_reducible rfl)
          simp only [Act.put, List.setIfInBounds_toArray, List.set_cons_zero, List.set_cons_succ]
          refine' wpAnyH_take (i := 1) (oi := ⟨some 47, _, _, _, _, none⟩) (v := _) rfl (by kernel_rfl) (by kernel_rfl) (by kernel_rfl) (fun _ _ _ h => h) (Or.inl ⟨by rfl, ?hyz1⟩) hHeld ?restz1
          case hyz1 => (intro W hSw; go_simp; try with_reducible rfl)
          simp only [Act.put, List.setIfInBounds_toArray, List.set_cons_zero, List.set_cons_succ]
          refine' wpAnyH_take (i := 2) (oi := ⟨some 48, _, _, _, _, none⟩) (v := _) rfl (by kernel_rfl) (by kernel_rfl) (by kernel_rfl) (fun _ _ _ h => h) (Or.inl ⟨by rfl, ?hyz2⟩) hHeld ?restz2
          case hyz2 => (intro W hSw; go_simp; try with_reducible rfl)
          simp only [Act.put, List.setIfInBounds_toArray, List.set_cons_zero, List.set_cons_succ]
          refine' wpAnyH_take (i := 3) (oi := ⟨some 49, _, _, _, _, none⟩) (v := _) rfl (by kernel_rfl) (by kernel_rfl) (by kernel_rfl) (fun _ _ _ h => h) (Or.inl ⟨by rfl, ?hyz3⟩) hHeld ?restz3
          case hyz3 => (intro W hSw; go_simp; try with_reducible rfl)
          simp only [Act.put, List.setIfInBounds_toArray, List.set_cons_zero, List.set_cons_succ]
          refine' wpAnyH_take (i := 4) (oi := ⟨some 50, _, _, _, _, none⟩) (v := _) rfl (by kernel_rfl) (by kernel_rfl) (by kernel_rfl) (fun _ _ _ h => h) (Or.inl ⟨by rfl, ?hyz4⟩) hHeld ?restz4
          case hyz4 => (intro W hSw; go_simp; try with_reducible rfl)
          simp only [Act.put, List.setIfInBounds_toArray, List.set_cons_zero, List.set_cons_succ]
          refine wpAnyH_ready (rs := [5]) (by kernel_rfl) (by simp) ?_
          refine AllReadyH.cons (o := ⟨some 51, _, _, _, _, none⟩) rfl (fun K hK => ?_) AllReadyH.nil
          go_simp
          refine KG.out.mono ?_
          rintro e w6 ⟨A2, c2, rfl, hR⟩
          have HM7 := Lib.hid (HM.out.drew.beside hR)
          refine hK.out _ _ (HM7.out.cell (k := 0) rfl (j := 0) rfl) (fun hHeld => ?_)
          clear hK K KG hR HM hN0 hgl
          refine' wpAnyH_take (i := 6) (oi := ⟨some 52, _, _, _, _, none⟩) (v := _) rfl (by kernel_rfl) (by kernel_rfl) (by kernel_rfl) (fun _ _ _ h => h) (Or.inl ⟨by rfl, ?hyz6⟩) hHeld ?restz6
          case hyz6 => (intro W hSw; go_simp; try with_reducible rfl)
          simp only [Act.put, List.setIfInBounds_toArray, List.set_cons_zero, List.set_cons_succ]
          have x0 := HM7.out.cell (k := 2) rfl (j := 0) rfl
          have x1 := HM7.out.cell (k := 2) rfl (j := 1) rfl
          have x2 := HM7.out.cell (k := 2) rfl (j := 2) rfl
          have f0 := HM7.out.free (k := 2) rfl 0
          have f1 := HM7.out.free (k := 2) rfl 1
          have f2 := HM7.out.free (k := 2) rfl 2
          refine wpAnyH_ready (rs := [7]) (by kernel_rfl) (by simp) ?_
          refine AllReadyH.cons (o := ⟨none, _, _, _, _, none⟩) rfl (fun K hK => ?_) AllReadyH.nil
          go_simp
          have HN := Lib.hid (((HM7.out.store (k := 2) rfl 0 (.slice (some ⟨bC, 0, none⟩) ds.length ds.length)).store (k := 2) rfl 1 (.int .i64 (rs.2.n : Int))).store (k := 2) rfl 2 (.slice A2 (edgesG rs.2).length c2))
          refine hK.out _ _ (HN.out.cell (k := 0) rfl (j := 0) rfl) (fun hHeld => ?_)
          clear hK K HM7 x0 x1 x2 f0 f1 f2
          refine wpAnyH_ready (rs := [8]) (by kernel_rfl) (by simp) ?_
          refine AllReadyH.cons (o := ⟨some 7, _, _, _, _, none⟩) rfl (fun K hK => ?_) AllReadyH.nil
          go_simp
          refine hK.out _ _ (HN.out.cell (k := 0) rfl (j := 0) rfl) (fun hHeld => ?_)
          clear hK K
          refine wpAnyH_done (by kernel_rfl) ?_ _
          go_wp2
          have y0 := HN.out.cell (k := 2) rfl (j := 0) rfl
          have y1 := HN.out.cell (k := 2) rfl (j := 1) rfl
          have y2 := HN.out.cell (k := 2) rfl (j := 2) rfl
          refine bodyPost_ret (v := .tuple #[.agg #[.slice (some ⟨bC, 0, none⟩) ds.length ds.length, .int .i64 (rs.2.n : Int), .slice A2 (edgesG rs.2).length c2], .int .i64 0]) (by simp [results, Try.results8, go_sem, y0, y1, y2]) rfl ?_
          refine ⟨some ⟨bC, 0, none⟩, ds.length, rs.1, rs.2.n, A2, c2, edgesG rs.2, ?_, HRes.out, HN.out.row (k := 3) rfl, HN.out.row (k := 4) rfl, HN.out.below⟩
          rw [hq.out, HE.out, hlen.out]
    · have HE := Lib.hid hE
      obtain ⟨q, hqq⟩ : ∃ q, q = codeE n es := ⟨_, rfl⟩
      rw [← hqq] at HE hq ⊢
      have hE := HE.out
      have z0 := HM3.out.cell (k := 1) rfl (j := 0) rfl
      have z1 := HM3.out.cell (k := 1) rfl (j := 1) rfl
      have z2 := HM3.out.cell (k := 1) rfl (j := 2) rfl
      have f0 := HM3.out.free (k := 1) rfl 0
      have f1 := HM3.out.free (k := 1) rfl 1
      have f2 := HM3.out.free (k := 1) rfl 2
      have HN := Lib.hid (((HM3.out.store (k := 1) rfl 0 (.slice none 0 0)).store (k := 1) rfl 1 (.int .i64 0)).store (k := 1) rfl 2 (.slice none 0 0))
      clear hz h197 hqq
      go_wp2
      have y0 := HN.out.cell (k := 1) rfl (j := 0) rfl
      have y1 := HN.out.cell (k := 1) rfl (j := 1) rfl
      have y2 := HN.out.cell (k := 1) rfl (j := 2) rfl
      refine bodyPost_ret (v := .tuple #[.agg #[.slice none 0 0, .int .i64 0, .slice none 0 0], .int .i64 q]) (by simp [results, Try.results8, go_sem, y0, y1, y2]) rfl ?_
      refine ⟨none, 0, [], 0, none, 0, [], by rw [hq.out]; rfl, ?_, Row.nil _ _, Row.nil _ _, HN.out.below⟩
      unfold GRes
      rw [hq.out, if_neg hE]
      exact ⟨rfl, rfl, rfl⟩

end Go.Proofs.Ytlpjpnlfmjehnaa
