/- wall.Play. -/
import Derived.Test.YtdiaglaokgehbaaWQo2
import Derived.Test.YtdiaglaokgehbaaWW2
namespace Go.Proofs.Ytdiaglaokgehbaa
open Go.RowKit

theorem codeW_zero {nc nt : Nat} {d : Dd} (h : codeK [1, 2] nc nt d = 0) : (d.kind = 1 ∨ d.kind = 2) ∧ ¬ ArgBadW nc nt d := by
  unfold codeK at h
  split at h
  · rename_i h1
    split at h
    · cases h
    · rename_i h2
      simp only [List.mem_cons, List.not_mem_nil, or_false] at h1
      unfold ArgBad at h2
      exact ⟨h1, by unfold ArgBadW; omega⟩
  · cases h
theorem stepW_ok (fi cl : List Int) (nc nt : Nat) : StepOk (stepW fi cl nc nt) Wst.kn Wst.fr (FineW nc nt) [1, 2] nc nt where
  bad := fun s d h => by
    unfold codeK at h ⊢
    unfold stepW
    by_cases h1 : d.kind ∈ ([1, 2] : List Int)
    · rw [if_pos h1] at h ⊢
      simp only [List.mem_cons, List.not_mem_nil, or_false] at h1
      by_cases h2 : ArgBad nc nt d
      · rw [if_pos h2, if_neg (by omega), if_pos (by unfold ArgBad at h2; unfold ArgBadW; omega)]
      · rw [if_neg h2] at h
        exact absurd rfl h
    · rw [if_neg h1]
      simp only [List.mem_cons, List.not_mem_nil, or_false] at h1
      rw [if_pos (by omega)]
  no := fun s d q s' h hq => by
    unfold stepW at h
    repeat' split at h
    all_goals first
      | exact (congrArg Prod.snd h).symm
      | exact absurd (congrArg Prod.fst h).symm hq
  yes := fun s d s' hc h => by
    obtain ⟨hk, hA⟩ := codeW_zero hc
    unfold stepW at h
    rw [if_neg (by omega), if_neg hA] at h
    unfold ArgBadW at hA
    obtain ⟨b, hb⟩ := Int.eq_ofNat_of_zero_le (show 0 ≤ d.who by omega)
    obtain ⟨t, ht⟩ := Int.eq_ofNat_of_zero_le (show 0 ≤ d.tgt by omega)
    have hbn : b < nc := by omega
    have htn : t < nt := by omega
    have hbt : d.who.toNat = b := by rw [hb]; rfl
    have htt : d.tgt.toNat = t := by rw [ht]; rfl
    refine ⟨b, hb, hbn, .inr ⟨t, ht, htn, ?_⟩⟩
    split at h
    · cases h
    · by_cases h1 : d.kind = 1
      · rw [if_pos h1] at h
        obtain rfl := (congrArg Prod.snd h).symm
        exact .inl ⟨h1, by rw [← hbt, ← htt]; rfl, rfl⟩
      · rw [if_neg h1] at h
        obtain rfl := (congrArg Prod.snd h).symm
        exact .inr ⟨by omega, rfl, by rw [← hbt, ← htt]; rfl⟩
  small := fun s h => ⟨h.2.1, h.2.2⟩
theorem made_words (n : Nat) : (madeCells #[.int .u32 0] n).toList = words (tabA n fun _ => 0) := by
  rw [toList_madeCells_one]
  apply List.ext_getElem?
  intro i
  by_cases hi : i < n
  · rw [words_at (tabA_get _ hi)]
    simp [hi]
  · rw [List.getElem?_eq_none (by simp; omega), List.getElem?_eq_none (by simp; omega)]
theorem qExec_enters (args : Array Value) (w : World) : (callFunc 47 args).run Try.prog w = .ok (.enter 47 args) w := enters_of Try.func47 (by kernel_rfl) rfl args w

set_option maxRecDepth 100000 in
set_option maxHeartbeats 4000000 in
theorem WPlay_ok : WPlayOk 26 := by
  intro who fi A c cl A2 c2 ds A3 c3 w hm hcap hr hm2 hcap2 hr2 hm3 hcap3 hr3 hX
  have kC := fun W hb => qCheck_any fi cl A A2 c c2 W (hr.below hb)
  have hM := (((RowsM.nil w).box (cs := #[.slice A fi.length c]) (t := 47) 1 rfl).box (cs := #[.slice A2 cl.length c2]) (t := 47) 1 rfl).box (cs := #[.slice none 0 0, .slice none 0 0, .slice none 0 0]) (t := 49) 3 rfl
  simp only [World.size_alloc] at hM
  have HM := Lib.hid hM
  have z0 := hM.cell (k := 0) rfl (j := 0) rfl
  have z1 := hM.cell (k := 1) rfl (j := 0) rfl
  have z2 := hM.cell (k := 2) rfl (j := 0) rfl
  have z3 := hM.cell (k := 0) rfl (j := 1) rfl
  have z4 := hM.cell (k := 0) rfl (j := 2) rfl
  have y0 := hM.free (k := 0) rfl 0
  have y1 := hM.free (k := 0) rfl 1
  have y2 := hM.free (k := 0) rfl 2
  have HN0 := Lib.hid (((hM.store (k := 0) rfl 0 (.slice none 0 0)).store (k := 0) rfl 1 (.slice none 0 0)).store (k := 0) rfl 2 (.slice none 0 0))
  clear hM
  by_cases hc : codeP who fi cl ds.length = 0
  · obtain ⟨nc, rfl, g1, g2, g3, hcf⟩ := codeP_zero hc
    obtain ⟨g4, g5, g6⟩ := codeF_zero hcf
    have HRes := Lib.hid (show WRes nc fi cl ds (runW fi cl nc fi.length ds).1 (tabA nc (runW fi cl nc fi.length ds).2.rd) (tabA fi.length (runW fi cl nc fi.length ds).2.fr) by
      unfold WRes
      rw [if_pos hc]
      exact ⟨rfl, rfl, rfl⟩)
    rw [hcf] at kC
    rw [hc]
    have HFi := Lib.hid (show FirmsOk fi cl from fun i hi => g6 _ (List.mem_of_getElem? (atI_get hi)))
    obtain ⟨i0, hi0, hz0, hz1, hz2⟩ := info_parts info29
    have HI0 := Lib.hid (And.intro hi0 (And.intro hz0 (And.intro hz1 hz2)))
    have hd1 : decide ((nc : Int) < 1) = false := by rw [decide_eq_false_iff_not]; omega
    have hd2 : decide ((5 : Int) < (nc : Int)) = false := by rw [decide_eq_false_iff_not]; omega
    have hd3 : decide ((30 : Int) < (ds.length : Int)) = false := by rw [decide_eq_false_iff_not]; omega
    clear hi0 hz0 hz1 hz2 hc hcf g6 z3 z4 y0 y1 y2 HN0
    go_enter Try.func26, Try.ntmps26
    go_wp2_with fail
    generalize ((w.alloc _).alloc _).alloc _ = w1 at *
    refine (kC _ HM.out.below).mono ?_
    rintro e w2 ⟨rfl, hb2⟩
    have HM2 := Lib.hid (HM.out.grow hb2)
    clear z0 z1 z2 HM kC hb2
    generalize w.heap.size + 1 + 1 = gR at *
    generalize w.heap.size + 1 = gC at *
    generalize w.heap.size = gF at *
    have y1 := HM2.out.cell (k := 1) rfl (j := 0) rfl
    have y2 := HM2.out.cell (k := 2) rfl (j := 0) rfl
    go_wp2_with (at_make; refine wpList_make_full _ rfl _ _ 25 rfl w.heap.size 38 i0 (.int .u32 0) 1 Try.underlying25 HI0.out.1 HI0.out.2.1 HI0.out.2.2.1 .i64 .i64 nc nc nc rfl rfl rfl rfl ?b2 ?b3 ?b4 ?c5)
    case b2 => rw [HI0.out.2.2.2]; omega
    case b3 => unfold maxLen; omega
    case b4 => exact HM2.out.below.size
    case c5 =>
      intro w3 hown hgr
      have hM3 := HM2.out.made hown hgr (Nat.le_refl _)
      generalize w2.heap.size = bm at *
      rw [made_words] at hM3
      have hN := hM3.box (cs := #[.slice (some ⟨bm, 0, none⟩) nc nc]) (t := 25) 1 rfl
      clear hM3 hown hgr y1 y2 HM2
      go_upto_region 7 with fail
      generalize w3.alloc _ = w4 at *
      generalize w3.heap.size = gM at *
      have HM5 := Lib.hid (show RowsM w (rowsY gF gM gC bm A A2 fi.length c cl.length c2 nc startW.rd [⟨49, 3, .slice (some ⟨gR, 0, none⟩) 1 1, 1, [.slice none 0 0, .slice none 0 0, .slice none 0 0]⟩]) w4 by
        refine hN.sub (fun i => if i = 0 then 3 else if i = 1 then 0 else if i = 2 then 2 else if i = 3 then 4 else if i = 4 then 1 else i) (fun i j hi hj e => ?_) (fun i r hr => ?_)
        · simp only [rowsY, List.length_cons, List.length_nil] at hi hj
          (repeat' split at e) <;> omega
        · match i with
          | 0 => exact hr
          | 1 => exact hr
          | 2 => exact hr
          | 3 => exact hr
          | 4 => exact hr
          | i + 5 => simp [rowsY] at hr)
      clear hN
      have y0 := HM5.out.cell (k := 0) rfl (j := 0) rfl
      have HM6 := Lib.hid ((HM5.out.newAlloc (cs := #[.int .i64 1, .int .i64 2]) (t := 3) 1 2 (by simp [maxLen]) rfl).first)
      go_wp2_with fail
      generalize w4.alloc _ = w6 at *
      generalize w4.heap.size = gK at *
      have kR := mRun_any (stepW fi cl nc fi.length) startW Wst.kn Wst.fr (FineW nc fi.length) [1, 2] nc fi.length gK 47 #[.pointer (some ⟨gF, 0, none⟩), .pointer (some ⟨gM, 0, none⟩), .pointer (some ⟨gC, 0, none⟩)]
        (fun s => rowsY gF gM gC bm A A2 fi.length c cl.length c2 nc s.rd [⟨49, 3, .slice (some ⟨gR, 0, none⟩) 1 1, 1, [.slice none 0 0, .slice none 0 0, .slice none 0 0]⟩]) ds A3 c3 w6 (by decide) (by omega) g4 (by omega) HM6.out hr3 rfl rfl
        (stepW_ok fi cl nc fi.length) (fun l => fineW_run l) qExec_enters
        (fun s d ex b m f W hF hd hK => qExec_any fi cl gF gM gC bm A A2 c c2 nc s _ b nc m f d.kind d.who d.tgt d.lev d.parts d.val W hK hr hr2 HFi.out g4 hF.1 (codeW_zero hd).1 (codeW_zero hd).2)
      refine kR.mono ?_
      rintro e w5 ⟨bC, BF, kF, rfl, hm⟩
      clear kR HM5 HM6 y0
      have HL := Lib.hid (show (runW fi cl nc fi.length ds).1.length = ds.length from runW_length ds)
      change RowsM w (⟨28, 1, .slice (some ⟨bC, 0, none⟩) ds.length ds.length, ds.length, ints (runW fi cl nc fi.length ds).1⟩ :: ⟨38, 1, .slice BF fi.length kF, fi.length, words (tabA fi.length (runW fi cl nc fi.length ds).2.fr)⟩ :: rowKs gK [1, 2] :: rowsY gF gM gC bm A A2 fi.length c cl.length c2 nc (runW fi cl nc fi.length ds).2.rd [⟨49, 3, .slice (some ⟨gR, 0, none⟩) 1 1, 1, [.slice none 0 0, .slice none 0 0, .slice none 0 0]⟩]) w5 at hm
      generalize (runW fi cl nc fi.length ds).1 = cd at *
      generalize (runW fi cl nc fi.length ds).2 = s at *
      have eM := hm.cell (k := 4) rfl (j := 0) rfl
      have x0 := hm.cell (k := 7) rfl (j := 0) rfl
      have x1 := hm.cell (k := 7) rfl (j := 1) rfl
      have x2 := hm.cell (k := 7) rfl (j := 2) rfl
      have f0 := hm.free (k := 7) rfl 0
      have f1 := hm.free (k := 7) rfl 1
      have f2 := hm.free (k := 7) rfl 2
      have HN := Lib.hid (((hm.store (k := 7) rfl 0 (.slice (some ⟨bC, 0, none⟩) ds.length ds.length)).store (k := 7) rfl 1 (.slice (some ⟨bm, 0, none⟩) nc nc)).store (k := 7) rfl 2 (.slice BF fi.length kF))
      clear hm
      go_wp2
      have y0 := HN.out.cell (k := 7) rfl (j := 0) rfl
      have y1 := HN.out.cell (k := 7) rfl (j := 1) rfl
      have y2 := HN.out.cell (k := 7) rfl (j := 2) rfl
      refine bodyPost_ret (v := .tuple #[.agg #[.slice (some ⟨bC, 0, none⟩) ds.length ds.length, .slice (some ⟨bm, 0, none⟩) nc nc, .slice BF fi.length kF], .int .i64 0]) (by simp [results, Try.results26, go_sem, y0, y1, y2]) rfl ?_
      refine ⟨some ⟨bC, 0, none⟩, ds.length, cd, some ⟨bm, 0, none⟩, nc, _, BF, kF, _, ?_, HRes.out, HN.out.row (k := 0) rfl, HN.out.row (k := 6) rfl, HN.out.row (k := 1) rfl, HN.out.below⟩
      rw [HL.out, tabA_length, tabA_length]
  · have HRes := Lib.hid (show WRes who fi cl ds [] [] [] by
      unfold WRes
      rw [if_neg hc]
      exact ⟨rfl, rfl, rfl⟩)
    by_cases hL : who < 1 ∨ 5 < who ∨ 30 < ds.length
    · rw [show codeP who fi cl ds.length = 1 from if_pos hL]
      clear hc kC HN0 y0 y1 y2
      by_cases h1 : who < 1
      · clear hL
        go_enter Try.func26, Try.ntmps26
        go_wp2
        refine bodyPost_ret (v := .tuple #[.agg #[.slice none 0 0, .slice none 0 0, .slice none 0 0], .int .i64 1]) (by simp [results, Try.results26, go_sem, z0, z3, z4]) rfl ?_
        exact ⟨none, 0, [], none, 0, [], none, 0, [], rfl, HRes.out, Row.nil _ _, Row.nil _ _, Row.nil _ _, HM.out.below⟩
      · by_cases h2 : 5 < who
        · clear hL
          go_enter Try.func26, Try.ntmps26
          go_wp2
          refine bodyPost_ret (v := .tuple #[.agg #[.slice none 0 0, .slice none 0 0, .slice none 0 0], .int .i64 1]) (by simp [results, Try.results26, go_sem, z0, z3, z4]) rfl ?_
          exact ⟨none, 0, [], none, 0, [], none, 0, [], rfl, HRes.out, Row.nil _ _, Row.nil _ _, Row.nil _ _, HM.out.below⟩
        · have h3 : (30 : Int) < (ds.length : Int) := by omega
          clear hL
          go_enter Try.func26, Try.ntmps26
          go_wp2
          refine bodyPost_ret (v := .tuple #[.agg #[.slice none 0 0, .slice none 0 0, .slice none 0 0], .int .i64 1]) (by simp [results, Try.results26, go_sem, z0, z3, z4]) rfl ?_
          exact ⟨none, 0, [], none, 0, [], none, 0, [], rfl, HRes.out, Row.nil _ _, Row.nil _ _, Row.nil _ _, HM.out.below⟩
    · have hq0 : codeP who fi cl ds.length = codeF fi cl := if_neg hL
      rw [hq0] at hc ⊢
      have hd1 : decide (who < 1) = false := by rw [decide_eq_false_iff_not]; omega
      have hd2 : decide ((5 : Int) < who) = false := by rw [decide_eq_false_iff_not]; omega
      have hd3 : decide ((30 : Int) < (ds.length : Int)) = false := by rw [decide_eq_false_iff_not]; omega
      clear hq0 hL z3 z4 y0 y1 y2 HN0
      generalize codeF fi cl = q at *
      have hq : (q != 0) = true := by simpa using hc
      clear hc
      go_enter Try.func26, Try.ntmps26
      go_wp2_with fail
      generalize ((w.alloc _).alloc _).alloc _ = w1 at *
      refine (kC _ HM.out.below).mono ?_
      rintro e w2 ⟨rfl, hb2⟩
      have HM2 := Lib.hid (HM.out.grow hb2)
      clear z0 z1 z2 HM
      generalize w.heap.size + 1 + 1 = gR at *
      generalize w.heap.size + 1 = gT at *
      have x0 := HM2.out.cell (k := 0) rfl (j := 0) rfl
      have x1 := HM2.out.cell (k := 0) rfl (j := 1) rfl
      have x2 := HM2.out.cell (k := 0) rfl (j := 2) rfl
      have f0 := HM2.out.free (k := 0) rfl 0
      have f1 := HM2.out.free (k := 0) rfl 1
      have f2 := HM2.out.free (k := 0) rfl 2
      have HN := Lib.hid (((HM2.out.store (k := 0) rfl 0 (.slice none 0 0)).store (k := 0) rfl 1 (.slice none 0 0)).store (k := 0) rfl 2 (.slice none 0 0))
      go_wp2
      have y0 := HN.out.cell (k := 0) rfl (j := 0) rfl
      have y1 := HN.out.cell (k := 0) rfl (j := 1) rfl
      have y2 := HN.out.cell (k := 0) rfl (j := 2) rfl
      refine bodyPost_ret (v := .tuple #[.agg #[.slice none 0 0, .slice none 0 0, .slice none 0 0], .int .i64 q]) (by simp [results, Try.results26, go_sem, y0, y1, y2]) rfl ?_
      exact ⟨none, 0, [], none, 0, [], none, 0, [], rfl, HRes.out, Row.nil _ _, Row.nil _ _, Row.nil _ _, HN.out.below⟩

end Go.Proofs.Ytdiaglaokgehbaa
