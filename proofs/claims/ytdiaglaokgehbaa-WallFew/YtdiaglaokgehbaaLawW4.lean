/- The law WallFew. -/
import Derived.Test.YtdiaglaokgehbaaWl3
import Derived.Test.YtdiaglaokgehbaaWW2
import Derived.Test.YtdiaglaokgehbaaRm
import Derived.Test.YtdiaglaokgehbaaMRow
import Derived.Test.YtdiaglaokgehbaaOwn
import Derived.BigQuiet
namespace Go.Proofs.Ytdiaglaokgehbaa
open Go.RowKit

theorem infoDd : (Try.prog.info? 62).map (fun i => (i.zero, i.size, i.bytes)) = some (some (.agg #[.int .i64 0, .int .i64 0, .int .i64 0, .int .i64 0, .int .u32 0, .int .i64 0]), 6, 48) := by kernel_rfl
theorem infoIn : (Try.prog.info? 3).map (fun i => (i.zero, i.size, i.bytes)) = some (some (.int .i64 0), 1, 8) := by kernel_rfl

set_option maxHeartbeats 1000000 in
theorem all_any (l : List Int) (x : Int) (A : Option Addr) (c : Nat) (w : World) (hr : Row w A (ints l)) (hl : l.length ≤ 1000) :
    Calls Try.prog 32 #[.slice A l.length c, .int .i64 x] w fun e w' => e = .returned (.bool (decide (∀ y ∈ l, y = x))) ∧ w = w' := by
  go_enter Try.func32, Try.ntmps32
  go_wp2
  go_loopw [9] (fun v wr => ∃ k : Nat, v = .int .i64 k ∧ k ≤ l.length ∧ (∀ y ∈ l.take k, y = x) ∧ w = wr) (fun v _ => l.length - (intOf v).toNat)
  case atStart => exact ⟨0, rfl, Nat.zero_le _, by simp, rfl⟩
  case round =>
    obtain ⟨k, rfl, hk, hal, rfl⟩ := hrel
    have HA := Lib.hid hal
    clear hal
    by_cases hlt : k < l.length
    · obtain ⟨y, hy⟩ := get_some hlt
      obtain ⟨b, off, rfl, d1⟩ := RowI.cells hr hy
      have HY := Lib.hid hy
      clear hy
      by_cases h1 : y = x
      · have HN := Lib.hid (show ∀ z ∈ l.take (k + 1), z = x by
          intro z hz
          rw [List.take_add_one, HY.out, List.mem_append] at hz
          rcases hz with hz | hz
          · exact HA.out z hz
          · simp at hz; rw [hz]; exact h1)
        have hd : (y != x) = false := by simpa using h1
        clear h1
        go_wp2
        go_roundw
        case rel => exact ⟨k + 1, by go_num, by omega, HN.out, trivial⟩
        case measure => simp [intOf]; omega
      · have HN := Lib.hid (decide_eq_false (show ¬ ∀ y ∈ l, y = x from fun h => h1 (h y (List.mem_of_getElem? HY.out))))
        have hd : (y != x) = true := by simpa using h1
        clear h1
        go_wp2
        go_ret
        exact ⟨ret_bool HN.out.symm, rfl⟩
    · obtain rfl : k = l.length := by omega
      have HN := Lib.hid (decide_eq_true (show ∀ y ∈ l, y = x from fun y hy => HA.out y (by rw [List.take_length]; exact hy)))
      go_wp2
      go_ret
      exact ⟨ret_bool HN.out.symm, rfl⟩

/-- The two lists in memory. -/
def rowsF (vl vd : Value) (ds : List Dd) (D : List Int) : List Rw := [⟨62, 6, vl, ds.length, deedsC ds⟩, ⟨3, 1, vd, D.length, ints D⟩]

set_option maxRecDepth 100000 in
set_option maxHeartbeats 8000000 in
theorem WallFew_with (hF : WFewestOk 29) (hP : WPlayOk 26) (fi : List Int) (A : Option Addr) (c : Nat) (cl : List Int) (A2 : Option Addr) (c2 : Nat) (w : World)
    (hm : fi.length ≤ maxLen) (hcap : fi.length ≤ c) (hr : Row w A (ints fi)) (hm2 : cl.length ≤ maxLen) (hcap2 : cl.length ≤ c2) (h64 : ∀ x ∈ cl, (Lit.int .i64 x).wf = true) (hr2 : Row w A2 (ints cl)) (hX : Laid w) :
    Calls Try.prog 12 #[.slice A fi.length c, .slice A2 cl.length c2] w fun e w' => e = .returned (.bool true) ∧ Below w.heap.size w w' := by
  have key := hF fi A c cl A2 c2 w hm hcap hr hm2 hcap2 h64 hr2 hX
  have kc := fun W h => FirmsCheck_any fi cl A A2 c c2 W h
  by_cases hc : codeF fi cl = 0
  · obtain ⟨g4, g5, g6⟩ := codeF_zero hc
    have HCP := Lib.hid (fun (k n : Nat) (h1 : 1 ≤ k) (h2 : k ≤ 5) (h3 : n ≤ 30) => show codeP k fi cl n = 0 by unfold codeP; rw [if_neg (by omega)]; exact hc)
    rw [hc] at key kc
    rw [if_pos rfl] at key
    clear hc
    have hml := mostW_le fi cl cl.length
    have HRun := Lib.hid (few_run (fi := fi) (cl := cl) (i := fi.length) g6 (Nat.le_refl _))
    have HZ := Lib.hid (most_zero (fi := fi) (cl := cl) g6)
    have HG6 := Lib.hid g6
    clear g6
    generalize mostW fi cl cl.length = k at *
    have HK := Lib.hid key
    have HKC := Lib.hid kc
    clear key kc
    go_enter Try.func12, Try.ntmps12
    go_wp2_with fail
    refine HK.out.mono ?_
    rintro e w1 ⟨rfl, hb1⟩
    have HB1 := Lib.hid hb1
    clear hb1
    go_wp2_with fail
    refine (HKC.out _ (hr.below HB1.out)).mono ?_
    rintro e w2 ⟨rfl, rfl⟩
    by_cases hk0 : k = 0
    · subst hk0
      by_cases hcl : cl.length = 0
      · have hcl2 : ((cl.length : Int) == 0) = true := by rw [beq_iff_eq]; omega
        clear hcl
        go_wp2
        go_ret
        exact ⟨rfl, HB1.out⟩
      · have hcl2 : ((cl.length : Int) == 0) = false := by rw [beq_eq_false_iff_ne]; omega
        clear hcl
        have ka := all_any fi (-1) A c w1 (hr.below HB1.out) (by omega)
        rw [decide_eq_true (HZ.out rfl)] at ka
        go_wp2_with fail
        refine ka.mono ?_
        rintro e w3 ⟨rfl, rfl⟩
        go_wp2
        go_ret
        exact ⟨rfl, HB1.out⟩
    · by_cases hk5 : 5 < k
      · go_wp2
        go_ret
        exact ⟨rfl, HB1.out⟩
      · obtain ⟨m, hmd⟩ : ∃ m, m = k * fi.length := ⟨_, rfl⟩
        have hm64 : m ≤ 64 := by rw [hmd]; exact Nat.mul_le_mul (show k ≤ 8 by omega) (show fi.length ≤ 8 by omega)
        have hw : (k : Int) * (fi.length : Int) = (m : Int) := by rw [hmd]; simp
        clear hmd
        by_cases h30 : 30 < m
        · go_wp2
          go_ret
          exact ⟨rfl, HB1.out⟩
        · obtain ⟨i0, hi0, hz0, hz1, hz2⟩ := info_parts infoDd
          obtain ⟨i1, hi1, hy0, hy1, hy2⟩ := info_parts infoIn
          have HI := Lib.hid (And.intro hi0 (And.intro hz0 (And.intro hz1 hz2)))
          have HI1 := Lib.hid (And.intro hi1 (And.intro hy0 (And.intro hy1 hy2)))
          have hM : RowsM w (rowsF (.slice none 0 0) (.slice none 0 0) (fewL fi cl 0) (doneW fi 0)) w1 := by
            have h := (((RowsM.nil w).grow HB1.out).newNil 62 6).newNil 3 1
            exact h
          have HM := Lib.hid hM
          clear hM hi0 hz0 hz1 hz2 hi1 hy0 hy1 hy2
          go_wp2
          go_loopw [7, 8, 68] (fun vl vd v wr => ∃ i : Nat, v = .int .i64 i ∧ i ≤ fi.length ∧ RowsM w (rowsF vl vd (fewL fi cl i) (doneW fi i)) wr) (fun _ _ v _ => fi.length - (intOf v).toNat)
          case atStart => exact ⟨0, rfl, Nat.zero_le _, HM.out⟩
          case round =>
            clear HM
            obtain ⟨i, rfl, hi, hm⟩ := hrel
            have HM := Lib.hid hm
            clear hm
            by_cases hlt : i < fi.length
            · obtain ⟨gf, of, rfl, hfx⟩ := RowI.cells (hr.below HM.out.below) (atI_get hlt)
              have hyl := HG6.out _ (List.mem_of_getElem? (atI_get hlt))
              have hLl := fewL_length fi cl i
              have hDl := doneW_length fi i
              have HS := Lib.hid (show fewL fi cl (i + 1) = if atI fi i < 0 then fewL fi cl i else fewL fi cl i ++ [fewD fi cl i] from rfl)
              have HD := Lib.hid (show doneW fi (i + 1) = if atI fi i < 0 ∨ atI fi i ∈ doneW fi i then doneW fi i else doneW fi i ++ [atI fi i] from rfl)
              have HFine := Lib.hid (done_fine (fi := fi) (n := cl.length) (i := i + 1) HG6.out hlt)
              have HLast := Lib.hid (fun h => done_last (fi := fi) (i := i) h)
              unfold fewD at HS
              generalize hf : atI fi i = f at *
              have HFf := Lib.hid hf
              clear hf
              by_cases hf0 : f < 0
              · rw [if_pos hf0] at HS
                rw [if_pos (.inl hf0)] at HD
                go_wp2
                go_roundw
                case rel => exact ⟨i + 1, by go_num, by omega, by rw [HS.out, HD.out]; exact HM.out⟩
                case measure => simp [intOf]; omega
              · rw [if_neg hf0] at HS
                obtain ⟨Ad, cd, hvd, _, hrow⟩ := own_row (HM.out.at_ 1 _ rfl)
                simp only at hvd
                subst hvd
                have kH := Has_any (doneW fi i) Ad cd f wr hrow (by omega)
                obtain ⟨Al, cdl, hvl, _, _⟩ := HM.out.form (k := 0) rfl
                simp only at hvl
                subst hvl
                generalize hbb : decide (f ∈ doneW fi i) = bb at kH
                have HBB := Lib.hid hbb
                clear hbb hrow
                go_wp2_with fail
                refine kH.mono ?_
                rintro e w5 ⟨rfl, rfl⟩
                go_upto_if 78 with fail
                go_cut [8] (fun v wx => ∃ Ad cd, v = .slice Ad (doneW fi (i + 1)).length cd ∧ RowsM w (rowsF (.slice Al (fewL fi cl i).length cdl) v (fewL fi cl i) (doneW fi (i + 1))) wx)
                case first =>
                  cases bb with
                  | true =>
                    rw [if_pos (.inr (of_decide_eq_true HBB.out))] at HD
                    go_wp2_with fail
                    go_meet
                    exact ⟨Ad, cd, by rw [HD.out], by rw [HD.out]; exact HM.out⟩
                  | false =>
                    rw [if_neg (fun h => h.elim (fun h2 => by omega) (of_decide_eq_false HBB.out))] at HD
                    have HT1 := Lib.hid (RowsM.grow HM.out ((Below.refl wr.heap.size wr).alloc (Nat.le_refl _) (.cells #[.int .i64 f] 3)))
                    go_wp2_with (at_builtin; refine wpList_append_rm rfl (.tmp 79) (.tmp 81) 47 rfl 1 3 1 (doneW fi i).length (.slice Ad (doneW fi i).length cd) (ints (doneW fi i)) HT1.out rfl i1 (.int .i64 0) 8 Try.underlying47 HI1.out.1 HI1.out.2.1 HI1.out.2.2.1 HI1.out.2.2.2 rfl (by decide) rfl ⟨wr.heap.size, 0, none⟩ 1 1 [.int .i64 f] rfl rfl ?znews ?zone ?z63 ?zby ?znext)
                    try (case znews => exact row_news (row_new wr wr.heap.size rfl [.int .i64 f] 3))
                    case zone => first | rfl | (intro u hu; simp only [List.mem_cons, List.not_mem_nil, or_false] at hu; rcases hu with rfl; rfl)
                    case z63 => unfold maxLen; omega
                    case zby => omega
                    case znext =>
                      intro A' c' w9 hn
                      have HNN := Lib.hid hn
                      clear hn HT1
                      go_wp2_with fail
                      go_meet
                      refine ⟨A', c', by rw [HD.out, List.length_append]; rfl, ?_⟩
                      rw [HD.out, rowsF, List.length_append]
                      have e3 : ints (doneW fi i ++ [f]) = ints (doneW fi i) ++ [.int .i64 f] := by simp [ints]
                      rw [e3]
                      exact HNN.out
                case rest =>
                obtain ⟨Ad2, cd2, rfl, hM2⟩ := hcut
                have HM2 := Lib.hid hM2
                have hrow2 := hM2.row (k := 1) (A := Ad2) (n := (doneW fi (i + 1)).length) (c := cd2) (e := 3) (size := 1) (xs := ints (doneW fi (i + 1))) rfl
                have hf2 := HLast.out (by omega)
                obtain ⟨hfn1, hfn2⟩ := HFine.out
                have hDl2 := doneW_length fi (i + 1)
                generalize hDD : doneW fi (i + 1) = D at *
                have HDD := Lib.hid hDD
                clear hDD
                have HRow := Lib.hid hrow2
                have HFn := Lib.hid hfn2
                have hP0 := plW_le cl f D
                have HFirst := Lib.hid (show plW cl f D = 0 + plW cl f (D.drop 0) by simp)
                clear HD hM2 hrow2 hfn1 hfn2 HBB
                go_wp2
                go_loopw [11, 85] (fun ov jv wz => ∃ j dd : Nat, jv = .int .i64 j ∧ j ≤ D.length ∧ (∃ q : Nat, ov = .int .i64 q ∧ plW cl f D = q + plW cl f (D.drop j)) ∧ wz = wc.drewN dd) (fun _ jv _ => D.length - (intOf jv).toNat)
                case atStart => exact ⟨0, 0, rfl, Nat.zero_le _, ⟨0, rfl, HFirst.out⟩, rfl⟩
                case round =>
                  obtain ⟨j, dd, rfl, hj, ⟨q, rfl, hq⟩, rfl⟩ := hrel
                  have HQ := Lib.hid hq
                  have hql : q ≤ 8 := by omega
                  clear hq
                  by_cases hltj : j < D.length
                  · obtain ⟨g, hg⟩ := get_some hltj
                    obtain ⟨gd, od, rfl, hgd⟩ := RowI.cells (HRow.out.drewN dd) hg
                    have hgl := HFn.out g (List.mem_of_getElem? hg)
                    have HDr := Lib.hid (show D.drop j = g :: D.drop (j + 1) by rw [List.drop_eq_getElem_cons hltj]; congr 1; exact Option.some.inj ((List.getElem?_eq_getElem hltj).symm.trans hg))
                    clear hg
                    by_cases hgf : g = f
                    · have HE := Lib.hid (show plW cl f D = q by rw [HQ.out, HDr.out, plW, if_pos hgf]; rfl)
                      have hd : (g == f) = true := by simpa using hgf
                      clear hgf
                      have HM5 := Lib.hid (HM2.out.drewN dd)
                      generalize wc.drewN dd = w5 at *
                      have HT1 := Lib.hid (RowsM.grow HM5.out ((Below.refl w5.heap.size w5).alloc (Nat.le_refl _) (.cells #[.int .i64 1, .int .i64 (q : Int), .int .i64 (i : Int), .int .i64 0, .int .u32 0, .int .i64 0] 62)))
                      go_wp2_with (at_builtin; refine wpList_append_rm rfl (.tmp 104) (.tmp 108) 23 rfl 0 62 6 (fewL fi cl i).length (.slice Al (fewL fi cl i).length cdl) (deedsC (fewL fi cl i)) HT1.out rfl i0 (.agg #[.int .i64 0, .int .i64 0, .int .i64 0, .int .i64 0, .int .u32 0, .int .i64 0]) 48 Try.underlying23 HI.out.1 HI.out.2.1 HI.out.2.2.1 HI.out.2.2.2 rfl (by decide) rfl ⟨w5.heap.size, 0, none⟩ 1 1 [.int .i64 1, .int .i64 (q : Int), .int .i64 (i : Int), .int .i64 0, .int .u32 0, .int .i64 0] rfl rfl ?ynewsa ?yonea ?y63a ?ybya ?ynexta)
                      try (case ynewsa => exact row_news (row_new w5 w5.heap.size rfl [.int .i64 1, .int .i64 (q : Int), .int .i64 (i : Int), .int .i64 0, .int .u32 0, .int .i64 0] 62))
                      case yonea => intro u hu; simp only [List.mem_cons, List.not_mem_nil, or_false] at hu; rcases hu with rfl | rfl | rfl | rfl | rfl | rfl <;> rfl
                      case y63a => unfold maxLen; omega
                      case ybya => omega
                      case ynexta =>
                        intro A' c' w9 hn
                        have HNN := Lib.hid hn
                        clear hn HT1
                        go_wp2
                        go_roundw
                        case rel => exact ⟨i + 1, by go_num, by omega, by
                          have hd : deedsC (fewL fi cl (i + 1)) = deedsC (fewL fi cl i) ++ [.int .i64 1, .int .i64 (q : Int), .int .i64 (i : Int), .int .i64 0, .int .u32 0, .int .i64 0] := by rw [HS.out, HE.out]; simp [deedsC, ddC]
                          have hl : (fewL fi cl (i + 1)).length = (fewL fi cl i).length + 1 := by rw [HS.out]; simp
                          rw [rowsF, hd, hl, HDD.out]
                          exact HNN.out⟩
                        case measure => simp [intOf]; omega
                    · have hd : (g == f) = false := by simpa using hgf
                      obtain ⟨ng, rfl⟩ := Int.eq_ofNat_of_zero_le hgl.1
                      obtain ⟨nf, rfl⟩ := Int.eq_ofNat_of_zero_le (show 0 ≤ f by omega)
                      obtain ⟨gc, oc, rfl, e1⟩ := RowI.cells ((hr2.below HM2.out.below).drewN dd) (atI_get (show ng < cl.length by omega))
                      obtain ⟨gc', oc', eg, e2⟩ := RowI.cells ((hr2.below HM2.out.below).drewN dd) (atI_get (show nf < cl.length by omega))
                      simp only [Option.some.injEq, Addr.mk.injEq, and_true] at eg
                      obtain ⟨rfl, rfl⟩ := eg
                      by_cases hcc : atI cl ng = atI cl nf
                      · have HE := Lib.hid (show plW cl nf D = (q + 1) + plW cl nf (D.drop (j + 1)) by rw [HQ.out, HDr.out, plW, if_neg hgf]; simp only [Int.toNat_natCast]; rw [if_pos hcc]; omega)
                        have hd2 : (atI cl ng == atI cl nf) = true := by simpa using hcc
                        clear hcc hgf
                        generalize hw5 : wc.drewN dd = w5 at *
                        have HW5 := Lib.hid hw5
                        clear hw5
                        go_wp2
                        go_quiet (fail)
                        go_wp2
                        go_roundw
                        case rel => exact ⟨j + 1, dd + nq, by go_num, by omega, ⟨q + 1, by go_num, HE.out⟩, by rw [← HW5.out, World.drewN_drewN]⟩
                        case measure => simp [intOf]; omega
                      · have HE := Lib.hid (show plW cl nf D = q + plW cl nf (D.drop (j + 1)) by rw [HQ.out, HDr.out, plW, if_neg hgf]; simp only [Int.toNat_natCast]; rw [if_neg hcc]; omega)
                        have hd2 : (atI cl ng == atI cl nf) = false := by simpa using hcc
                        clear hcc hgf
                        generalize hw5 : wc.drewN dd = w5 at *
                        have HW5 := Lib.hid hw5
                        clear hw5
                        go_wp2
                        go_quiet (fail)
                        go_wp2
                        go_roundw
                        case rel => exact ⟨j + 1, dd + nq, by go_num, by omega, ⟨q, rfl, HE.out⟩, by rw [← HW5.out, World.drewN_drewN]⟩
                        case measure => simp [intOf]; omega
                  · obtain rfl : j = D.length := by omega
                    have HE := Lib.hid (show plW cl f D = q by rw [HQ.out, List.drop_length]; rfl)
                    have HM5 := Lib.hid (HM2.out.drewN dd)
                    generalize wc.drewN dd = w5 at *
                    have HT1 := Lib.hid (RowsM.grow HM5.out ((Below.refl w5.heap.size w5).alloc (Nat.le_refl _) (.cells #[.int .i64 1, .int .i64 (q : Int), .int .i64 (i : Int), .int .i64 0, .int .u32 0, .int .i64 0] 62)))
                    go_wp2_with (at_builtin; refine wpList_append_rm rfl (.tmp 104) (.tmp 108) 23 rfl 0 62 6 (fewL fi cl i).length (.slice Al (fewL fi cl i).length cdl) (deedsC (fewL fi cl i)) HT1.out rfl i0 (.agg #[.int .i64 0, .int .i64 0, .int .i64 0, .int .i64 0, .int .u32 0, .int .i64 0]) 48 Try.underlying23 HI.out.1 HI.out.2.1 HI.out.2.2.1 HI.out.2.2.2 rfl (by decide) rfl ⟨w5.heap.size, 0, none⟩ 1 1 [.int .i64 1, .int .i64 (q : Int), .int .i64 (i : Int), .int .i64 0, .int .u32 0, .int .i64 0] rfl rfl ?ynewsb ?yoneb ?y63b ?ybyb ?ynextb)
                    try (case ynewsb => exact row_news (row_new w5 w5.heap.size rfl [.int .i64 1, .int .i64 (q : Int), .int .i64 (i : Int), .int .i64 0, .int .u32 0, .int .i64 0] 62))
                    case yoneb => intro u hu; simp only [List.mem_cons, List.not_mem_nil, or_false] at hu; rcases hu with rfl | rfl | rfl | rfl | rfl | rfl <;> rfl
                    case y63b => unfold maxLen; omega
                    case ybyb => omega
                    case ynextb =>
                      intro A' c' w9 hn
                      have HNN := Lib.hid hn
                      clear hn HT1
                      go_wp2
                      go_roundw
                      case rel => exact ⟨i + 1, by go_num, by omega, by
                        have hd : deedsC (fewL fi cl (i + 1)) = deedsC (fewL fi cl i) ++ [.int .i64 1, .int .i64 (q : Int), .int .i64 (i : Int), .int .i64 0, .int .u32 0, .int .i64 0] := by rw [HS.out, HE.out]; simp [deedsC, ddC]
                        have hl : (fewL fi cl (i + 1)).length = (fewL fi cl i).length + 1 := by rw [HS.out]; simp
                        rw [rowsF, hd, hl, HDD.out]
                        exact HNN.out⟩
                      case measure => simp [intOf]; omega
            · obtain rfl : i = fi.length := by omega
              obtain ⟨Al, cdl, hvl, hcp, _⟩ := HM.out.form (k := 0) rfl
              simp only at hvl hcp
              subst hvl
              obtain ⟨Ad, cd, hvd, _, _⟩ := HM.out.form (k := 1) rfl
              simp only at hvd
              subst hvd
              have hrow := HM.out.row (k := 0) (A := Al) (n := (fewL fi cl fi.length).length) (c := cdl) (e := 62) (size := 6) (xs := deedsC (fewL fi cl fi.length)) rfl
              have hLl := fewL_length fi cl fi.length
              have kp := hP k fi A c cl A2 c2 (fewL fi cl fi.length) Al cdl wr hm hcap (hr.below HM.out.below) hm2 hcap2 (hr2.below HM.out.below) (by unfold maxLen; omega) hcp hrow (hX.below HM.out.below)
              have hcz := HCP.out k (fewL fi cl fi.length).length (by omega) (by omega) (by omega)
              have HR := Lib.hid (fun codes rd fr (h : WRes k fi cl (fewL fi cl fi.length) codes rd fr) => show codes.length = (fewL fi cl fi.length).length ∧ ∀ c ∈ codes, c = 0 by
                unfold WRes at h
                rw [if_pos hcz] at h
                simp only [Int.toNat_natCast] at h
                rw [h.1]
                exact ⟨runW_length _, HRun.out.1⟩)
              rw [hcz] at kp
              have HB := Lib.hid HM.out.below
              clear hcz hrow hcp HRun HM
              generalize fewL fi cl fi.length = ds at *
              have HKP := Lib.hid kp
              clear kp
              go_wp2_with fail
              refine HKP.out.mono ?_
              rintro e w6 ⟨B1, k1, codes, B2, k2, rd, B3, k3, fr, rfl, hres, r1, r2, r3, hb6⟩
              obtain ⟨hq1, hq2⟩ := HR.out _ _ _ hres
              have HL := Lib.hid hq1
              have HC := Lib.hid hq2
              rw [hq1]
              have hba := (Below.refl w6.heap.size w6).alloc (Nat.le_refl _) (.cells #[.slice B1 ds.length k1, .slice B2 rd.length k2, .slice B3 fr.length k3] 49)
              have HBA := Lib.hid ((HB.out.trans (hb6.mono HB.out.size)).trans (hba.mono (HB.out.trans (hb6.mono HB.out.size)).size))
              have hM := heap_alloc_new w6 (.cells #[.slice B1 ds.length k1, .slice B2 rd.length k2, .slice B3 fr.length k3] 49)
              have hr6 := r1.below hba
              have HR6 := Lib.hid hr6
              obtain ⟨a0, a1, a2⟩ : (w6.alloc (.cells #[.slice B1 ds.length k1, .slice B2 rd.length k2, .slice B3 fr.length k3] 49)).cell? ⟨w6.heap.size, 0, none⟩ = some (.slice B1 ds.length k1) ∧ (w6.alloc (.cells #[.slice B1 ds.length k1, .slice B2 rd.length k2, .slice B3 fr.length k3] 49)).cell? ⟨w6.heap.size, 1, none⟩ = some (.slice B2 rd.length k2) ∧ (w6.alloc (.cells #[.slice B1 ds.length k1, .slice B2 rd.length k2, .slice B3 fr.length k3] 49)).cell? ⟨w6.heap.size, 2, none⟩ = some (.slice B3 fr.length k3) :=
                ⟨cell_of_row _ _ 0 _ _ _ hM, cell_of_row _ _ 1 _ _ _ hM, cell_of_row _ _ 2 _ _ _ hM⟩
              clear hq1 hq2 hres r1 r2 r3 hb6 hba hM hr6
              go_wp2
              go_loopw [132] (fun v wz => ∃ j : Nat, v = .int .i64 j ∧ j ≤ ds.length ∧ wz = w6.alloc (.cells #[.slice B1 ds.length k1, .slice B2 rd.length k2, .slice B3 fr.length k3] 49)) (fun v _ => ds.length - (intOf v).toNat)
              case atStart => exact ⟨0, rfl, Nat.zero_le _, rfl⟩
              case round =>
                obtain ⟨j, rfl, hj, rfl⟩ := hrel
                by_cases hltj : j < ds.length
                · obtain ⟨x, hx⟩ := get_some (show j < codes.length by rw [HL.out]; exact hltj)
                  have hx0 := HC.out x (List.mem_of_getElem? hx)
                  subst hx0
                  obtain ⟨gb, ob, rfl, hbx⟩ := RowI.cells HR6.out hx
                  clear hx
                  go_wp2
                  go_roundw
                  case rel => exact ⟨j + 1, by go_num, by omega, trivial⟩
                  case measure => simp [intOf]; omega
                · obtain rfl : j = ds.length := by omega
                  go_wp2
                  go_ret
                  exact ⟨rfl, HBA.out⟩
  · have hne : (codeF fi cl != 0) = true := by simpa using hc
    rw [if_neg hc] at key
    generalize codeF fi cl = q at *
    clear hc
    have HK := Lib.hid key
    have HKC := Lib.hid kc
    clear key kc
    go_enter Try.func12, Try.ntmps12
    go_wp2_with fail
    refine HK.out.mono ?_
    rintro e w1 ⟨rfl, hb1⟩
    have HB1 := Lib.hid hb1
    clear hb1
    go_wp2_with fail
    refine (HKC.out _ (hr.below HB1.out)).mono ?_
    rintro e w2 ⟨rfl, rfl⟩
    go_wp2
    go_ret
    exact ⟨by first | rfl | rw [hne], HB1.out⟩

end Go.Proofs.Ytdiaglaokgehbaa
