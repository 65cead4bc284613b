/- low.Play. -/
import Derived.Test.YtdiaglaokgehbaaWNo1
import Derived.Test.YtdiaglaokgehbaaWMo4
namespace Go.Proofs.Ytdiaglaokgehbaa
open Go.RowKit

theorem nExec_enters (args : Array Value) (w : World) : (callFunc 43 args).run Try.prog w = .ok (.enter 43 args) w := enters_of Try.func43 (by kernel_rfl) rfl args w

set_option maxRecDepth 100000 in
set_option maxHeartbeats 4000000 in
theorem NPlay_ok : MPlayOk 24 false := by
  intro cs A c ts A2 c2 ds A3 c3 w hm hcap h32 hr hm2 hcap2 h322 hr2 hm3 hcap3 hr3 hX
  have kC := fun W hb => mCheck_any cs ts A A2 A3 c c2 c3 ds.length W (hr.below hb) (hr2.below hb)
  have hM := (((RowsM.nil w).box (cs := #[.slice A cs.length c]) (t := 22) 1 rfl).box (cs := #[.slice A2 ts.length c2]) (t := 22) 1 rfl).box (cs := #[.slice none 0 0, .slice none 0 0, .slice none 0 0]) (t := 27) 3 rfl
  simp only [World.size_alloc] at hM
  have HM := Lib.hid hM
  have z0 := hM.cell (k := 0) rfl (j := 0) rfl
  have z1 := hM.cell (k := 1) rfl (j := 0) rfl
  have z2 := hM.cell (k := 2) rfl (j := 0) rfl
  clear hM
  by_cases hc : codeM cs ts ds.length = 0
  · obtain ⟨g1, g2, g3, g4, g5, g6⟩ := codeM_zero hc
    rw [hc] at kC ⊢
    have H5 := Lib.hid g5
    have H6 := Lib.hid g6
    have HC0 := Lib.hid hc
    clear g5 g6
    go_enter Try.func24, Try.ntmps24
    go_wp2_with fail
    generalize ((w.alloc _).alloc _).alloc _ = w1 at *
    refine (kC _ HM.out.below).mono ?_
    rintro e w2 ⟨rfl, hb2⟩
    have HM2 := Lib.hid (HM.out.grow hb2)
    clear z0 z1 z2 HM kC hc hb2
    generalize w.heap.size + 1 + 1 = gR at *
    generalize w.heap.size + 1 = gT at *
    generalize w.heap.size = gC at *
    have y1 := HM2.out.cell (k := 1) rfl (j := 0) rfl
    have y2 := HM2.out.cell (k := 2) rfl (j := 0) rfl
    go_wp2_with fail
    refine (lbClone_any cs A c w2 (by omega) (by omega) (hr.below HM2.out.below)).mono ?_
    rintro e w3 ⟨bm, cm, rfl, hm3⟩
    have hM3 := HM2.out.beside hm3
    have hN := hM3.box (cs := #[.slice (some ⟨bm, 0, none⟩) cs.length cm]) (t := 22) 1 rfl
    clear hM3 hm3 y1 y2 HM2
    go_upto_region 5 with fail
    generalize w3.alloc _ = w4 at *
    generalize w3.heap.size = gM at *
    have HM5 := Lib.hid (show RowsM w (rowsX gC gT gM bm A A2 cs.length ts.length c c2 cm (tabA cs.length (baseL false (atL cs))) [⟨27, 3, .slice (some ⟨gR, 0, none⟩) 1 1, 1, [.slice none 0 0, .slice none 0 0, .slice none 0 0]⟩]) w4 by
      rw [show tabA cs.length (baseL false (atL cs)) = cs from tabA_atL cs]
      refine hN.sub (fun i => if i = 0 then 3 else if i = 1 then 2 else if i = 2 then 0 else if i = 3 then 4 else if i = 4 then 1 else i) (fun i j hi hj e => ?_) (fun i r hr => ?_)
      · simp only [rowsX, List.length_cons, List.length_nil] at hi hj
        (repeat' split at e) <;> omega
      · match i with
        | 0 => exact hr
        | 1 => exact hr
        | 2 => exact hr
        | 3 => exact hr
        | 4 => exact hr
        | i + 5 => simp [rowsX] at hr)
    clear hN
    have HM6 := Lib.hid ((HM5.out.newAlloc (cs := #[.int .i64 1, .int .i64 2, .int .i64 3]) (t := 3) 1 3 (by simp [maxLen]) rfl).first)
    go_upto_region 7 with fail
    generalize w4.alloc _ = w6 at *
    generalize w4.heap.size = gK at *
    have y1 := HM6.out.cell (k := 2) rfl (j := 0) rfl
    have y2 := HM6.out.cell (k := 1) rfl (j := 0) rfl
    have kR := mRunM_any false cs ts gK 43 #[.pointer (some ⟨gM, 0, none⟩), .pointer (some ⟨gT, 0, none⟩), .pointer (some ⟨gC, 0, none⟩)]
      (fun mar => rowsX gC gT gM bm A A2 cs.length ts.length c c2 cm (tabA cs.length mar) [⟨27, 3, .slice (some ⟨gR, 0, none⟩) 1 1, 1, [.slice none 0 0, .slice none 0 0, .slice none 0 0]⟩]) ds A3 c3 w6 H5.out H6.out (by omega) g3 (by omega) HM6.out hr3 nExec_enters
      (fun s d ex b m f W hF hd hK => nExec_any cs ts gC gT gM bm cm A A2 c c2 s _ b cs.length m f d.kind d.who d.tgt d.lev d.parts d.val W hK hr hr2 H5.out H6.out hF.1 (codeD_zero hd).1 (codeD_zero hd).2)
    go_wp2_with fail
    refine kR.mono ?_
    rintro e w5 ⟨bC, BF, kF, rfl, hm⟩
    clear kR HM5 HM6 y1 y2
    have HL := Lib.hid (run_length (up := false) (cl := atL cs) (th := atL ts) (nc := cs.length) (nt := ts.length) ds)
    have HRes := Lib.hid (show MRes false cs ts ds (runM false (atL cs) (atL ts) cs.length ts.length ds).1 (tabA cs.length (runM false (atL cs) (atL ts) cs.length ts.length ds).2.mar) (tabA ts.length (runM false (atL cs) (atL ts) cs.length ts.length ds).2.fr) by
      unfold MRes
      rw [if_pos HC0.out]
      exact ⟨rfl, rfl, rfl⟩)
    generalize (runM false (atL cs) (atL ts) cs.length ts.length ds).1 = cd at *
    generalize (runM false (atL cs) (atL ts) cs.length ts.length ds).2 = s at *
    have eM := hm.cell (k := 5) rfl (j := 0) rfl
    have x0 := hm.cell (k := 7) rfl (j := 0) rfl
    have x1 := hm.cell (k := 7) rfl (j := 1) rfl
    have x2 := hm.cell (k := 7) rfl (j := 2) rfl
    have f0 := hm.free (k := 7) rfl 0
    have f1 := hm.free (k := 7) rfl 1
    have f2 := hm.free (k := 7) rfl 2
    have HN := Lib.hid (((hm.store (k := 7) rfl 0 (.slice (some ⟨bC, 0, none⟩) ds.length ds.length)).store (k := 7) rfl 1 (.slice (some ⟨bm, 0, none⟩) cs.length cm)).store (k := 7) rfl 2 (.slice BF ts.length kF))
    clear hm
    go_wp2
    have y0 := HN.out.cell (k := 7) rfl (j := 0) rfl
    have y1 := HN.out.cell (k := 7) rfl (j := 1) rfl
    have y2 := HN.out.cell (k := 7) rfl (j := 2) rfl
    refine bodyPost_ret (v := .tuple #[.agg #[.slice (some ⟨bC, 0, none⟩) ds.length ds.length, .slice (some ⟨bm, 0, none⟩) cs.length cm, .slice BF ts.length kF], .int .i64 0]) (by simp [results, Try.results24, go_sem, y0, y1, y2]) rfl ?_
    refine ⟨some ⟨bC, 0, none⟩, ds.length, cd, some ⟨bm, 0, none⟩, cm, _, BF, kF, _, ?_, HRes.out, by rw [HL.out]; exact Nat.le_refl _, HN.out.row (k := 0) rfl, HN.out.row (k := 6) rfl, HN.out.row (k := 1) rfl, HN.out.below⟩
    rw [HL.out, tabA_length, tabA_length]
  · have HRes := Lib.hid (show MRes false cs ts ds [] [] [] by
      unfold MRes
      rw [if_neg hc]
      exact ⟨rfl, rfl, rfl⟩)
    generalize codeM cs ts ds.length = q at *
    have hq : (q != 0) = true := by simpa using hc
    clear hc
    go_enter Try.func24, Try.ntmps24
    go_wp2_with fail
    generalize ((w.alloc _).alloc _).alloc _ = w1 at *
    refine (kC _ HM.out.below).mono ?_
    rintro e w2 ⟨rfl, hb2⟩
    have HM2 := Lib.hid (HM.out.grow hb2)
    clear z0 z1 z2 HM
    generalize w.heap.size + 1 + 1 = gR at *
    generalize w.heap.size + 1 = gT at *
    have x0 := HM2.out.cell (k := 0) rfl (j := 0) rfl
    have x1 := HM2.out.cell (k := 0) rfl (j := 1) rfl
    have x2 := HM2.out.cell (k := 0) rfl (j := 2) rfl
    have f0 := HM2.out.free (k := 0) rfl 0
    have f1 := HM2.out.free (k := 0) rfl 1
    have f2 := HM2.out.free (k := 0) rfl 2
    have HN := Lib.hid (((HM2.out.store (k := 0) rfl 0 (.slice none 0 0)).store (k := 0) rfl 1 (.slice none 0 0)).store (k := 0) rfl 2 (.slice none 0 0))
    go_wp2
    have y0 := HN.out.cell (k := 0) rfl (j := 0) rfl
    have y1 := HN.out.cell (k := 0) rfl (j := 1) rfl
    have y2 := HN.out.cell (k := 0) rfl (j := 2) rfl
    refine bodyPost_ret (v := .tuple #[.agg #[.slice none 0 0, .slice none 0 0, .slice none 0 0], .int .i64 q]) (by simp [results, Try.results24, go_sem, y0, y1, y2]) rfl ?_
    exact ⟨none, 0, [], none, 0, [], none, 0, [], rfl, HRes.out, Nat.le_refl _, Row.nil _ _, Row.nil _ _, Row.nil _ _, HN.out.below⟩

end Go.Proofs.Ytdiaglaokgehbaa
