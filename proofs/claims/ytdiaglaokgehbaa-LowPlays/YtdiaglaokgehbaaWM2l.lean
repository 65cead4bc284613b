/- syllogistref.Mark (this text is written by wip/mkWM2.py). -/
import Derived.Test.YtdiaglaokgehbaaWM2
namespace Go.Proofs.Ytdiaglaokgehbaa
open Go.RowKit

set_option maxRecDepth 100000 in
set_option maxHeartbeats 4000000 in
theorem Mark_low (cs ts : List Lab) (ds : List Dd) (A A2 A3 : Option Addr) (c c2 c3 : Nat) (w : World) (hc : codeM cs ts ds.length = 0) (hr : Row w A (labsC cs)) (hr2 : Row w A2 (labsC ts)) (hr3 : Row w A3 (deedsC ds)) :
    Calls Try.prog 15 #[.slice A cs.length c, .slice A2 ts.length c2, .slice A3 ds.length c3, .bool false] w fun e w' => ∃ (Ac : Option Addr) (cc : Nat) (Am : Option Addr) (cm : Nat) (Af : Option Addr) (cf : Nat),
      e = .returned (.agg #[.slice Ac (runM false (atL cs) (atL ts) cs.length ts.length ds).1.length cc, .slice Am cs.length cm, .slice Af ts.length cf]) ∧ (runM false (atL cs) (atL ts) cs.length ts.length ds).1.length ≤ cc ∧ Row w' Ac (ints (runM false (atL cs) (atL ts) cs.length ts.length ds).1) ∧
      Row w' Am (labsC (tabA cs.length (runM false (atL cs) (atL ts) cs.length ts.length ds).2.mar)) ∧ Row w' Af (words (tabA ts.length (runM false (atL cs) (atL ts) cs.length ts.length ds).2.fr)) ∧ Below w.heap.size w w' := by
  obtain ⟨hc1, hc5, ht8, hd30, hcl, hth⟩ := codeM_zero hc
  have HC := Lib.hid (fun b (hb : b < cs.length) => show LabOk (atL cs b) from hcl _ (List.mem_of_getElem? (atL_get hb)))
  have HT := Lib.hid (fun b (hb : b < ts.length) => show LabOk (atL ts b) from hth _ (List.mem_of_getElem? (atL_get hb)))
  clear hc hcl hth
  obtain ⟨i0, hi0, hz0, hz1, hz2⟩ := info_parts infoLb
  obtain ⟨i1, hi1, hy0, hy1, hy2⟩ := info_parts infoU32
  obtain ⟨i2, hi2, hx0, hx1, hx2⟩ := info_parts infoEr
  have HI := Lib.hid (And.intro hi0 (And.intro hz0 (And.intro hz1 hz2)))
  have HI1 := Lib.hid (And.intro hi1 (And.intro hy0 (And.intro hy1 hy2)))
  have HI2 := Lib.hid (And.intro hi2 (And.intro hx0 (And.intro hx1 hx2)))
  clear hi0 hz0 hz1 hz2 hi1 hy0 hy1 hy2 hi2 hx0 hx1 hx2
  go_enter Try.func15, Try.ntmps15
  go_wp2
  obtain ⟨w0, hw0⟩ : ∃ w0, w0 = w.alloc (Obj.cells #[Value.slice none 0 0, Value.slice none 0 0, Value.slice none 0 0] 27) := ⟨_, rfl⟩
  have hsz : w.heap.size + 1 = w0.heap.size := by rw [hw0]; simp
  rw [← hw0, hsz]
  have HR0 := Lib.hid (show w0.heap[w.heap.size]? = some (.cells #[.slice none 0 0, .slice none 0 0, .slice none 0 0] 27 (0, 0)) by rw [hw0]; exact heap_alloc_new w _)
  have HW0 := Lib.hid (show Below w.heap.size w w0 by rw [hw0]; exact (Below.refl _ _).alloc (Nat.le_refl _) _)
  have HS := Lib.hid hsz
  obtain ⟨g, hg⟩ : ∃ g, g = w0.heap.size := ⟨_, rfl⟩
  rw [← hg]
  have HG := Lib.hid hg
  have HM := Lib.hid (start_mk (w0 := w0) rfl (heap_alloc_new w0 (Obj.cells #[Value.slice none 0 0, Value.slice none 0 0, Value.slice none 0 0] 27)) ((Below.refl _ _).alloc (Nat.le_refl _) _))
  rw [← hg] at HM
  clear hw0 hsz hg
  go_loopw [22] (fun v wr => ∃ k : Nat, v = .int .i64 k ∧ k ≤ cs.length ∧ ∃ vm, MkW w0 g (.slice none 0 0) vm (.slice none 0 0) (.slice none 0 0) [] (tabA k (baseL false (atL cs))) [] [] wr) (fun v _ => cs.length - (intOf v).toNat)
  case atStart => exact ⟨0, rfl, Nat.zero_le _, _, HM.out⟩
  case round =>
    clear HM
    obtain ⟨k, rfl, hk, vm, hm⟩ := hrel
    have HM := Lib.hid hm
    by_cases hlt : k < cs.length
    · obtain ⟨b, off, rfl, d1, d2⟩ := RowL.cells (hr.below (HW0.out.trans (hm.below.mono HW0.out.size))) (atL_get hlt)
      clear hm
      obtain ⟨q1, q2⟩ := ltwo_cells (heap_alloc_new wr (.cells #[.int .i64 (atL cs k).1, .int .u32 ((atL cs k).2 : Int)] 40))
      have hma := HM.out.grow ((Below.refl wr.heap.size wr).alloc (Nat.le_refl _) (.cells #[.int .i64 (atL cs k).1, .int .u32 ((atL cs k).2 : Int)] 40))
      have hma2 := hma.grow ((Below.refl _ _).alloc (Nat.le_refl _) (.cells #[.int .i64 (atL cs k).1, .int .u32 ((atL cs k).2 : Int)] 40))
      obtain ⟨_, c1, _⟩ := hma.cells
      have HMA := Lib.hid hma2
      clear hma hma2
      go_wp2_with (at_builtin; refine wpList_append_grow rfl (.tmp 29) (.tmp 31) 22 rfl w0.heap.size 40 i0 (.agg #[.int .i64 0, .int .u32 0]) 2 16 Try.underlying22 HI.out.1 HI.out.2.1 HI.out.2.2.1 HI.out.2.2.2 rfl (by decide) vm k (labsC (tabA k (baseL false (atL cs)))) rfl ?qown ⟨wr.heap.size + 1, 0, none⟩ 1 1 [.int .i64 (atL cs k).1, .int .u32 ((atL cs k).2 : Int)] rfl rfl ?qnews ?qone ?q63 ?qby ?qbase ?qnext)
      case qown => have := HMA.out.om; rw [tabA_length] at this; exact this
      case qnews => have := row_news (row_new (wr.alloc (.cells #[.int .i64 (atL cs k).1, .int .u32 ((atL cs k).2 : Int)] 40)) (wr.heap.size + 1) (by simp) [.int .i64 (atL cs k).1, .int .u32 ((atL cs k).2 : Int)] 40); exact this
      case qone => intro u hu; simp only [List.mem_cons, List.not_mem_nil, or_false] at hu; rcases hu with rfl | rfl <;> rfl
      case q63 => unfold maxLen; omega
      case qby => omega
      case qbase => exact HMA.out.below.size
      case qnext =>
        intro v' w3 hown hgr
        obtain ⟨A', c', rfl, _, _⟩ := own_slice hown
        obtain ⟨hn, e1, e2⟩ := HMA.out.pushMark (a := atL cs k) (by rw [tabA_length]; exact hown) hgr
        have HN := Lib.hid hn
        clear hn hown hgr
        go_wp2
        go_roundw
        case rel => exact ⟨k + 1, by go_num, by omega, _, by rw [tabA_succ]; exact HN.out⟩
        case measure => simp [intOf]; omega
    · obtain rfl : k = cs.length := by omega
      clear hm
      go_wp2
      go_loopw [12] (fun v wr => ∃ k : Nat, v = .int .i64 k ∧ k ≤ ts.length ∧ ∃ vf, MkW w0 g (.slice none 0 0) vm vf (.slice none 0 0) [] (tabA cs.length (baseL false (atL cs))) (tabA k one) [] wr) (fun v _ => ts.length - (intOf v).toNat)
      case atStart => exact ⟨0, rfl, Nat.zero_le _, _, HM.out⟩
      case round =>
        clear HM
        obtain ⟨k, rfl, hk, vf, hm⟩ := hrel
        have HM := Lib.hid hm
        clear hm
        by_cases hlt : k < ts.length
        · have h1 := one_int k (by omega)
          obtain ⟨_, _, c2⟩ := HM.out.cells
          have HMA := Lib.hid (HM.out.grow ((Below.refl wr.heap.size wr).alloc (Nat.le_refl _) (.cells #[.int .u32 (one k : Int)] 38)))
          go_wp2_with (at_builtin; refine wpList_append_grow rfl (.tmp 42) (.tmp 46) 25 rfl w0.heap.size 38 i1 (.int .u32 0) 1 4 Try.underlying25 HI1.out.1 HI1.out.2.1 HI1.out.2.2.1 HI1.out.2.2.2 rfl (by decide) vf k (words (tabA k one)) rfl ?qown ⟨wr.heap.size, 0, none⟩ 1 1 [.int .u32 (one k : Int)] rfl rfl ?qnews ?qone ?q63 ?qby ?qbase ?qnext)
          case qown => have := HMA.out.of; rw [tabA_length] at this; exact this
          case qnews => exact row_news (row_new wr wr.heap.size rfl [.int .u32 (one k : Int)] 38)
          case qone => intro u hu; simp only [List.mem_cons, List.not_mem_nil, or_false] at hu; rcases hu with rfl; rfl
          case q63 => unfold maxLen; omega
          case qby => omega
          case qbase => exact HMA.out.below.size
          case qnext =>
            intro v' w3 hown hgr
            obtain ⟨A', c', rfl, _, _⟩ := own_slice hown
            obtain ⟨hn, e1, e2⟩ := HMA.out.pushThing (x := one k) (by rw [tabA_length]; exact hown) hgr
            have HN := Lib.hid hn
            clear hn hown hgr
            go_wp2
            go_roundw
            case rel => exact ⟨k + 1, by go_num, by omega, _, by rw [tabA_succ]; exact HN.out⟩
            case measure => simp [intOf]; omega
        · obtain rfl : k = ts.length := by omega
          go_wp2_with (at_make; refine wpList_make_full _ rfl _ _ 25 rfl w0.heap.size 38 i1 (.int .u32 0) 1 Try.underlying25 HI1.out.1 HI1.out.2.1 HI1.out.2.2.1 .i64 .i64 cs.length cs.length cs.length rfl rfl rfl rfl ?b2 ?b3 ?b4 ?c5)
          case b2 => rw [HI1.out.2.2.2]; omega
          case b3 => unfold maxLen; omega
          case b4 => exact HM.out.below.size
          case c5 =>
            intro w1 hown hgrow
            obtain ⟨gm, cm, rfl, _⟩ := own_some HM.out.om (by rw [tabA_length]; omega)
            obtain ⟨Af, cf, rfl, _⟩ := own_slice HM.out.of
            simp only [tabA_length] at HM
            have HMK := Lib.hid (MkW.knows (kn' := tabA cs.length fun _ => 0) HM.out (by
              have e : (madeCells #[Value.int .u32 0] cs.length).toList = words (tabA cs.length fun _ => 0) := by
                rw [toList_madeCells_one]
                apply List.ext_getElem?
                intro i
                by_cases hi : i < cs.length <;> simp [words, tabA, hi]
              rw [tabA_length, ← e]; exact hown) ((Below.refl _ _).grown hgrow (Nat.le_refl _) (by intro k hk; cases hk)) (fun b e => by simp [Value.ownBlock] at e; omega))
            generalize wr.heap.size = gq at *
            clear HM hown hgrow
            go_wp2
            go_loopg [54] ds.length (fun gi v wr => ∃ (k : Nat) (vc : Value), v = .int .i64 k ∧ k + gi = ds.length ∧ MkS w0 g vc (.slice (some ⟨gm, 0, none⟩) cs.length cm) (.slice Af ts.length cf) (.slice (some ⟨gq, 0, none⟩) cs.length cs.length) (stM false cs ts ds k).1 cs.length ts.length (stM false cs ts ds k).2 wr)
            case atStart => exact ⟨0, _, rfl, by omega, HMK.out⟩
            case round =>
              clear HMK
              obtain ⟨k, vc, rfl, hk, hm⟩ := hrel
              have HM := Lib.hid hm
              clear hm
              by_cases hlt : k < ds.length
              · obtain ⟨d, hd⟩ := get_some hlt
                obtain ⟨b3, o3, rfl, e0, e1, e2, e3, e4, e5⟩ := RowD.cells (hr3.below (HW0.out.trans (HM.out.below.mono HW0.out.size))) hd
                have HN := Lib.hid (stM_succ (up := false) (cs := cs) (ts := ts) hd)
                have HL := Lib.hid (show (stM false cs ts ds k).1.length = k by unfold stM; rw [run_length, List.length_take]; omega)
                have HF := Lib.hid (stM_fine (up := false) (ds := ds) (k := k) HC.out HT.out)
                clear hd
                generalize hcd : (stM false cs ts ds k).1 = cd at *
                generalize hst : (stM false cs ts ds k).2 = s at *
                have HX := Lib.hid (And.intro hcd hst)
                clear hcd hst
                obtain ⟨kind, who, tgt, lev, parts, val⟩ := d
                simp only at e0 e1 e2 e3 e4 e5
                have HD := Lib.hid (show DdAt (wr.alloc (.cells #[.int .i64 kind, .int .i64 who, .int .i64 tgt, .int .i64 lev, .int .u32 (parts : Int), .int .i64 val] 62)) wr.heap.size ⟨kind, who, tgt, lev, parts, val⟩ from heap_alloc_new wr _)
                have HM1 := Lib.hid (MkW.grow HM.out ((Below.refl wr.heap.size wr).alloc (Nat.le_refl _) (.cells #[.int .i64 kind, .int .i64 who, .int .i64 tgt, .int .i64 lev, .int .u32 (parts : Int), .int .i64 val] 62)))
                obtain ⟨q, s', hq⟩ : ∃ q s', stepM false (atL cs) (atL ts) cs.length ts.length s ⟨kind, who, tgt, lev, parts, val⟩ = (q, s') := ⟨_, _, rfl⟩
                rw [hq] at HN
                have HQ := Lib.hid hq
                clear hq
                go_upto_region 18 with fail
                generalize wr.alloc _ = w1 at *
                generalize wr.heap.size = sz at *
                clear e0 e1 e2 e3 e4 e5 HM
                obtain ⟨f0, f1, f2⟩ := HD.out.cells
                simp only at f0 f1 f2
                by_cases h1 : kind < 1 ∨ 3 < kind
                · have HQ2 := Lib.hid (by have := HQ.out; simp only [stepM] at this; exact this)
                  by_cases h2 : kind < 1
                  · as_aux_lemma =>
                      obtain ⟨rfl, rfl⟩ : 6 = q ∧ s = s' := by have := HQ2.out; rw [if_pos (h1)] at this; simpa using this
                      clear h1
                      have HE := HM1
                      have HT1 := Lib.hid (MkW.grow HE.out ((Below.refl (w1).heap.size (w1)).alloc (Nat.le_refl _) (.cells #[.int .i64 6] 28)))
                      obtain ⟨c0, _, _⟩ := MkW.cells HE.out
                      go_wp2_with (at_builtin; refine wpList_append_grow rfl (.tmp 223) (.tmp 225) 24 rfl w0.heap.size 28 i2 (.int .i64 0) 1 8 Try.underlying24 HI2.out.1 HI2.out.2.1 HI2.out.2.2.1 HI2.out.2.2.2 rfl (by decide) vc cd.length (ints cd) rfl ?qownj ⟨(w1).heap.size, 0, none⟩ 1 1 [.int .i64 6] rfl rfl ?qnewsj ?qonej ?q63j ?qbyj ?qbasej ?qnextj)
                      case qownj => exact HT1.out.oc
                      try (case qnewsj => exact row_news (row_new (w1) (w1).heap.size rfl [.int .i64 6] 28))
                      case qonej => first | rfl | (intro u hu; simp only [List.mem_cons, List.not_mem_nil, or_false] at hu; rcases hu with rfl; rfl)
                      case q63j => have := HL.out; unfold maxLen; omega
                      case qbyj => have := HL.out; omega
                      case qbasej => first | exact HT1.out.below.size | (have := HT1.out.below.size; simpa using this)
                      case qnextj =>
                        intro v' w9 hown hgr
                        obtain ⟨A', c', rfl, _, _⟩ := own_slice hown
                        obtain ⟨hn, e1, e2⟩ := MkW.pushCode (x := 6) HT1.out hown hgr
                        have HNN := Lib.hid (show MkS w0 g _ (.slice (some ⟨gm, 0, none⟩) cs.length cm) (.slice Af ts.length cf) (.slice (some ⟨gq, 0, none⟩) cs.length cs.length) (stM false cs ts ds (k + 1)).1 cs.length ts.length (stM false cs ts ds (k + 1)).2 _ from by rw [HN.out]; exact hn)
                        clear hn hown hgr HT1
                        go_wp2
                        go_roundg (gk - 1)
                        case measure => omega
                        case rel => exact ⟨k + 1, _, by go_num, by omega, HNN.out⟩
                  · have h3 : 3 < kind := by omega
                    as_aux_lemma =>
                      obtain ⟨rfl, rfl⟩ : 6 = q ∧ s = s' := by have := HQ2.out; rw [if_pos (h1)] at this; simpa using this
                      clear h1
                      have HE := HM1
                      have HT1 := Lib.hid (MkW.grow HE.out ((Below.refl (w1).heap.size (w1)).alloc (Nat.le_refl _) (.cells #[.int .i64 6] 28)))
                      obtain ⟨c0, _, _⟩ := MkW.cells HE.out
                      go_wp2_with (at_builtin; refine wpList_append_grow rfl (.tmp 223) (.tmp 225) 24 rfl w0.heap.size 28 i2 (.int .i64 0) 1 8 Try.underlying24 HI2.out.1 HI2.out.2.1 HI2.out.2.2.1 HI2.out.2.2.2 rfl (by decide) vc cd.length (ints cd) rfl ?qownk ⟨(w1).heap.size, 0, none⟩ 1 1 [.int .i64 6] rfl rfl ?qnewsk ?qonek ?q63k ?qbyk ?qbasek ?qnextk)
                      case qownk => exact HT1.out.oc
                      try (case qnewsk => exact row_news (row_new (w1) (w1).heap.size rfl [.int .i64 6] 28))
                      case qonek => first | rfl | (intro u hu; simp only [List.mem_cons, List.not_mem_nil, or_false] at hu; rcases hu with rfl; rfl)
                      case q63k => have := HL.out; unfold maxLen; omega
                      case qbyk => have := HL.out; omega
                      case qbasek => first | exact HT1.out.below.size | (have := HT1.out.below.size; simpa using this)
                      case qnextk =>
                        intro v' w9 hown hgr
                        obtain ⟨A', c', rfl, _, _⟩ := own_slice hown
                        obtain ⟨hn, e1, e2⟩ := MkW.pushCode (x := 6) HT1.out hown hgr
                        have HNN := Lib.hid (show MkS w0 g _ (.slice (some ⟨gm, 0, none⟩) cs.length cm) (.slice Af ts.length cf) (.slice (some ⟨gq, 0, none⟩) cs.length cs.length) (stM false cs ts ds (k + 1)).1 cs.length ts.length (stM false cs ts ds (k + 1)).2 _ from by rw [HN.out]; exact hn)
                        clear hn hown hgr HT1
                        go_wp2
                        go_roundg (gk - 1)
                        case measure => omega
                        case rel => exact ⟨k + 1, _, by go_num, by omega, HNN.out⟩
                · obtain ⟨hk1, hk3⟩ : 1 ≤ kind ∧ kind ≤ 3 := by omega
                  have HQ2 := Lib.hid (show (if ArgBad cs.length ts.length ⟨kind, who, tgt, lev, parts, val⟩ then (2, s) else if kind = 3 then (0, dropM false (atL cs) s who.toNat) else if kind = 1 then (if (false && !underL (nextL false (s.mar who.toNat) (atL ts tgt.toNat)) (atL cs who.toNat)) = true then (7, s) else (0, readM false (atL ts) s who.toNat tgt.toNat)) else if okW false (s.mar who.toNat) (atL ts tgt.toNat) = true then (0, writeM s who.toNat tgt.toNat) else (7, s)) = (q, s') by
                    have := HQ.out; simp only [stepM] at this; rw [if_neg h1] at this; exact this)
                  clear h1
                  by_cases hw0 : who < 0
                  · as_aux_lemma =>
                      obtain ⟨rfl, rfl⟩ : 2 = q ∧ s = s' := by have := HQ2.out; rw [if_pos (.inl hw0)] at this; simpa using this
                      have HE := HM1
                      have HT1 := Lib.hid (MkW.grow HE.out ((Below.refl (w1).heap.size (w1)).alloc (Nat.le_refl _) (.cells #[.int .i64 2] 28)))
                      obtain ⟨c0, _, _⟩ := MkW.cells HE.out
                      go_wp2_with (at_builtin; refine wpList_append_grow rfl (.tmp 223) (.tmp 225) 24 rfl w0.heap.size 28 i2 (.int .i64 0) 1 8 Try.underlying24 HI2.out.1 HI2.out.2.1 HI2.out.2.2.1 HI2.out.2.2.2 rfl (by decide) vc cd.length (ints cd) rfl ?qownl ⟨(w1).heap.size, 0, none⟩ 1 1 [.int .i64 2] rfl rfl ?qnewsl ?qonel ?q63l ?qbyl ?qbasel ?qnextl)
                      case qownl => exact HT1.out.oc
                      try (case qnewsl => exact row_news (row_new (w1) (w1).heap.size rfl [.int .i64 2] 28))
                      case qonel => first | rfl | (intro u hu; simp only [List.mem_cons, List.not_mem_nil, or_false] at hu; rcases hu with rfl; rfl)
                      case q63l => have := HL.out; unfold maxLen; omega
                      case qbyl => have := HL.out; omega
                      case qbasel => first | exact HT1.out.below.size | (have := HT1.out.below.size; simpa using this)
                      case qnextl =>
                        intro v' w9 hown hgr
                        obtain ⟨A', c', rfl, _, _⟩ := own_slice hown
                        obtain ⟨hn, e1, e2⟩ := MkW.pushCode (x := 2) HT1.out hown hgr
                        have HNN := Lib.hid (show MkS w0 g _ (.slice (some ⟨gm, 0, none⟩) cs.length cm) (.slice Af ts.length cf) (.slice (some ⟨gq, 0, none⟩) cs.length cs.length) (stM false cs ts ds (k + 1)).1 cs.length ts.length (stM false cs ts ds (k + 1)).2 _ from by rw [HN.out]; exact hn)
                        clear hn hown hgr HT1
                        go_wp2
                        go_roundg (gk - 1)
                        case measure => omega
                        case rel => exact ⟨k + 1, _, by go_num, by omega, HNN.out⟩
                  · by_cases hw1 : (cs.length : Int) ≤ who
                    · as_aux_lemma =>
                        obtain ⟨rfl, rfl⟩ : 2 = q ∧ s = s' := by have := HQ2.out; rw [if_pos (.inr (.inl hw1))] at this; simpa using this
                        have HE := HM1
                        have HT1 := Lib.hid (MkW.grow HE.out ((Below.refl (w1).heap.size (w1)).alloc (Nat.le_refl _) (.cells #[.int .i64 2] 28)))
                        obtain ⟨c0, _, _⟩ := MkW.cells HE.out
                        go_wp2_with (at_builtin; refine wpList_append_grow rfl (.tmp 223) (.tmp 225) 24 rfl w0.heap.size 28 i2 (.int .i64 0) 1 8 Try.underlying24 HI2.out.1 HI2.out.2.1 HI2.out.2.2.1 HI2.out.2.2.2 rfl (by decide) vc cd.length (ints cd) rfl ?qownm ⟨(w1).heap.size, 0, none⟩ 1 1 [.int .i64 2] rfl rfl ?qnewsm ?qonem ?q63m ?qbym ?qbasem ?qnextm)
                        case qownm => exact HT1.out.oc
                        try (case qnewsm => exact row_news (row_new (w1) (w1).heap.size rfl [.int .i64 2] 28))
                        case qonem => first | rfl | (intro u hu; simp only [List.mem_cons, List.not_mem_nil, or_false] at hu; rcases hu with rfl; rfl)
                        case q63m => have := HL.out; unfold maxLen; omega
                        case qbym => have := HL.out; omega
                        case qbasem => first | exact HT1.out.below.size | (have := HT1.out.below.size; simpa using this)
                        case qnextm =>
                          intro v' w9 hown hgr
                          obtain ⟨A', c', rfl, _, _⟩ := own_slice hown
                          obtain ⟨hn, e1, e2⟩ := MkW.pushCode (x := 2) HT1.out hown hgr
                          have HNN := Lib.hid (show MkS w0 g _ (.slice (some ⟨gm, 0, none⟩) cs.length cm) (.slice Af ts.length cf) (.slice (some ⟨gq, 0, none⟩) cs.length cs.length) (stM false cs ts ds (k + 1)).1 cs.length ts.length (stM false cs ts ds (k + 1)).2 _ from by rw [HN.out]; exact hn)
                          clear hn hown hgr HT1
                          go_wp2
                          go_roundg (gk - 1)
                          case measure => omega
                          case rel => exact ⟨k + 1, _, by go_num, by omega, HNN.out⟩
                    · by_cases h3 : kind = 3
                      · as_aux_lemma =>
                          subst h3
                          obtain ⟨b, rfl⟩ := Int.eq_ofNat_of_zero_le (show 0 ≤ who by omega)
                          have hb : b < cs.length := by omega
                          obtain ⟨rfl, rfl⟩ : 0 = q ∧ dropM false (atL cs) s b = s' := by
                            have := HQ2.out
                            rw [if_neg (by unfold ArgBad; simp only; omega), if_pos rfl] at this
                            simpa using this
                          obtain ⟨_, m1, _⟩ := MkW.cells HM1.out
                          obtain ⟨bb, oo, rfl, d1, d2⟩ := RowL.cells (hr.below (HW0.out.trans (HM1.out.below.mono HW0.out.size))) (atL_get hb)
                          obtain ⟨y1, y2, y3⟩ := MkS.markAt HM1.out hb
                          have y4 := y3 (b * 2)
                          have y5 := y3 (b * 2 + 1)
                          obtain ⟨n1, n2, n3⟩ := MkS.apart HM1.out HD.out
                          have hd2 := (HD.out.set (o := b * 2) (u := .int .i64 (atL cs b).1) n1).set (o := b * 2 + 1) (u := .int .u32 ((atL cs b).2 : Int)) n1
                          have hm2 := MkW.drew (MkS.setMark HM1.out b (atL cs b))
                          generalize hw2 : ((w1.setCell ⟨gm, b * 2, none⟩ (.int .i64 (atL cs b).1)).setCell ⟨gm, b * 2 + 1, none⟩ (.int .u32 ((atL cs b).2 : Int))).drew = w2 at hm2
                          have hd2' : DdAt w2 sz ⟨3, (b : Int), tgt, lev, parts, val⟩ := by rw [← hw2]; exact hd2
                          obtain ⟨_, f3, _⟩ := hd2'.cells
                          simp only at f3
                          obtain ⟨_, m3, _⟩ := MkW.cells hm2
                          have hm2' : MkS w0 g vc (.slice (some ⟨gm, 0, none⟩) cs.length cm) (.slice Af ts.length cf) (.slice (some ⟨gq, 0, none⟩) cs.length cs.length) cd cs.length ts.length ⟨updA s.mar b (atL cs b), s.fr, s.kn⟩ w2 := hm2
                          obtain ⟨y6, y7, y8⟩ := MkS.markAt hm2' hb
                          obtain ⟨z1, z2⟩ := MkS.knowAt hm2' hb
                          have y9 := y8 (b * 2)
                          have y10 := y8 (b * 2 + 1)
                          have z3 := z2 b
                          have HM2 := Lib.hid hm2'
                          have HD2 := Lib.hid hd2'
                          clear y3 y8 z2 hm2 hm2' hd2 hd2'
                          go_wp2
                          refine wp_region_still_tail 10 (by kernel_rfl) (by kernel_rfl) ?_
                          simp only [List.take_succ_cons, List.take_zero, List.drop_succ_cons, List.drop_zero]
                          iterate 10 still_step
                          refine wpStill_nil ?_
                          have hm3 := MkS.setKnow HM2.out b 0
                          generalize hw3 : w2.setCell ⟨gq, b, none⟩ (.int .u32 ((0 : Nat) : Int)) = wE at hm3
                          simp only [Int.natCast_zero] at hw3
                          have HE := Lib.hid (show MkS w0 g vc (.slice (some ⟨gm, 0, none⟩) cs.length cm) (.slice Af ts.length cf) (.slice (some ⟨gq, 0, none⟩) cs.length cs.length) cd cs.length ts.length (dropM false (atL cs) s b) wE from hm3)
                          clear hm3
                          have HT1 := Lib.hid (MkW.grow HE.out ((Below.refl (wE).heap.size (wE)).alloc (Nat.le_refl _) (.cells #[.int .i64 0] 28)))
                          obtain ⟨c0, _, _⟩ := MkW.cells HE.out
                          go_wp2_with (at_builtin; refine wpList_append_grow rfl (.tmp 223) (.tmp 225) 24 rfl w0.heap.size 28 i2 (.int .i64 0) 1 8 Try.underlying24 HI2.out.1 HI2.out.2.1 HI2.out.2.2.1 HI2.out.2.2.2 rfl (by decide) vc cd.length (ints cd) rfl ?qowna ⟨(wE).heap.size, 0, none⟩ 1 1 [.int .i64 0] rfl rfl ?qnewsa ?qonea ?q63a ?qbya ?qbasea ?qnexta)
                          case qowna => exact HT1.out.oc
                          try (case qnewsa => exact row_news (row_new (wE) (wE).heap.size rfl [.int .i64 0] 28))
                          case qonea => first | rfl | (intro u hu; simp only [List.mem_cons, List.not_mem_nil, or_false] at hu; rcases hu with rfl; rfl)
                          case q63a => have := HL.out; unfold maxLen; omega
                          case qbya => have := HL.out; omega
                          case qbasea => first | exact HT1.out.below.size | (have := HT1.out.below.size; simpa using this)
                          case qnexta =>
                            intro v' w9 hown hgr
                            obtain ⟨A', c', rfl, _, _⟩ := own_slice hown
                            obtain ⟨hn, e1, e2⟩ := MkW.pushCode (x := 0) HT1.out hown hgr
                            have HNN := Lib.hid (show MkS w0 g _ (.slice (some ⟨gm, 0, none⟩) cs.length cm) (.slice Af ts.length cf) (.slice (some ⟨gq, 0, none⟩) cs.length cs.length) (stM false cs ts ds (k + 1)).1 cs.length ts.length (stM false cs ts ds (k + 1)).2 _ from by rw [HN.out]; exact hn)
                            clear hn hown hgr HT1
                            go_wp2
                            go_roundg (gk - 1)
                            case measure => omega
                            case rel => exact ⟨k + 1, _, by go_num, by omega, HNN.out⟩
                      · by_cases ht0 : tgt < 0
                        · as_aux_lemma =>
                            obtain ⟨rfl, rfl⟩ : 2 = q ∧ s = s' := by have := HQ2.out; rw [if_pos (.inr (.inr ⟨h3, .inl ht0⟩))] at this; simpa using this
                            have HE := HM1
                            have HT1 := Lib.hid (MkW.grow HE.out ((Below.refl (w1).heap.size (w1)).alloc (Nat.le_refl _) (.cells #[.int .i64 2] 28)))
                            obtain ⟨c0, _, _⟩ := MkW.cells HE.out
                            go_wp2_with (at_builtin; refine wpList_append_grow rfl (.tmp 223) (.tmp 225) 24 rfl w0.heap.size 28 i2 (.int .i64 0) 1 8 Try.underlying24 HI2.out.1 HI2.out.2.1 HI2.out.2.2.1 HI2.out.2.2.2 rfl (by decide) vc cd.length (ints cd) rfl ?qownn ⟨(w1).heap.size, 0, none⟩ 1 1 [.int .i64 2] rfl rfl ?qnewsn ?qonen ?q63n ?qbyn ?qbasen ?qnextn)
                            case qownn => exact HT1.out.oc
                            try (case qnewsn => exact row_news (row_new (w1) (w1).heap.size rfl [.int .i64 2] 28))
                            case qonen => first | rfl | (intro u hu; simp only [List.mem_cons, List.not_mem_nil, or_false] at hu; rcases hu with rfl; rfl)
                            case q63n => have := HL.out; unfold maxLen; omega
                            case qbyn => have := HL.out; omega
                            case qbasen => first | exact HT1.out.below.size | (have := HT1.out.below.size; simpa using this)
                            case qnextn =>
                              intro v' w9 hown hgr
                              obtain ⟨A', c', rfl, _, _⟩ := own_slice hown
                              obtain ⟨hn, e1, e2⟩ := MkW.pushCode (x := 2) HT1.out hown hgr
                              have HNN := Lib.hid (show MkS w0 g _ (.slice (some ⟨gm, 0, none⟩) cs.length cm) (.slice Af ts.length cf) (.slice (some ⟨gq, 0, none⟩) cs.length cs.length) (stM false cs ts ds (k + 1)).1 cs.length ts.length (stM false cs ts ds (k + 1)).2 _ from by rw [HN.out]; exact hn)
                              clear hn hown hgr HT1
                              go_wp2
                              go_roundg (gk - 1)
                              case measure => omega
                              case rel => exact ⟨k + 1, _, by go_num, by omega, HNN.out⟩
                        · by_cases ht1 : (ts.length : Int) ≤ tgt
                          · as_aux_lemma =>
                              obtain ⟨rfl, rfl⟩ : 2 = q ∧ s = s' := by have := HQ2.out; rw [if_pos (.inr (.inr ⟨h3, .inr ht1⟩))] at this; simpa using this
                              have HE := HM1
                              have HT1 := Lib.hid (MkW.grow HE.out ((Below.refl (w1).heap.size (w1)).alloc (Nat.le_refl _) (.cells #[.int .i64 2] 28)))
                              obtain ⟨c0, _, _⟩ := MkW.cells HE.out
                              go_wp2_with (at_builtin; refine wpList_append_grow rfl (.tmp 223) (.tmp 225) 24 rfl w0.heap.size 28 i2 (.int .i64 0) 1 8 Try.underlying24 HI2.out.1 HI2.out.2.1 HI2.out.2.2.1 HI2.out.2.2.2 rfl (by decide) vc cd.length (ints cd) rfl ?qowno ⟨(w1).heap.size, 0, none⟩ 1 1 [.int .i64 2] rfl rfl ?qnewso ?qoneo ?q63o ?qbyo ?qbaseo ?qnexto)
                              case qowno => exact HT1.out.oc
                              try (case qnewso => exact row_news (row_new (w1) (w1).heap.size rfl [.int .i64 2] 28))
                              case qoneo => first | rfl | (intro u hu; simp only [List.mem_cons, List.not_mem_nil, or_false] at hu; rcases hu with rfl; rfl)
                              case q63o => have := HL.out; unfold maxLen; omega
                              case qbyo => have := HL.out; omega
                              case qbaseo => first | exact HT1.out.below.size | (have := HT1.out.below.size; simpa using this)
                              case qnexto =>
                                intro v' w9 hown hgr
                                obtain ⟨A', c', rfl, _, _⟩ := own_slice hown
                                obtain ⟨hn, e1, e2⟩ := MkW.pushCode (x := 2) HT1.out hown hgr
                                have HNN := Lib.hid (show MkS w0 g _ (.slice (some ⟨gm, 0, none⟩) cs.length cm) (.slice Af ts.length cf) (.slice (some ⟨gq, 0, none⟩) cs.length cs.length) (stM false cs ts ds (k + 1)).1 cs.length ts.length (stM false cs ts ds (k + 1)).2 _ from by rw [HN.out]; exact hn)
                                clear hn hown hgr HT1
                                go_wp2
                                go_roundg (gk - 1)
                                case measure => omega
                                case rel => exact ⟨k + 1, _, by go_num, by omega, HNN.out⟩
                          · obtain ⟨t, rfl⟩ := Int.eq_ofNat_of_zero_le (show 0 ≤ tgt by omega)
                            obtain ⟨b, rfl⟩ := Int.eq_ofNat_of_zero_le (show 0 ≤ who by omega)
                            have hb : b < cs.length := by omega
                            have ht : t < ts.length := by omega
                            have HQ3 := Lib.hid (show (if kind = 1 then (if (false && !underL (nextL false (s.mar b) (atL ts t)) (atL cs b)) = true then (7, s) else (0, readM false (atL ts) s b t)) else if okW false (s.mar b) (atL ts t) = true then (0, writeM s b t) else (7, s)) = (q, s') by
                              have := HQ2.out
                              rw [if_neg (by unfold ArgBad; simp only; omega), if_neg h3] at this
                              exact this)
                            obtain ⟨gf, cf', he, _⟩ := own_some (by have := MkW.of HM1.out; rw [tabA_length] at this; exact this) (show 0 < ts.length by omega)
                            simp only [Value.slice.injEq, true_and] at he
                            obtain ⟨rfl, rfl⟩ := he
                            obtain ⟨g1, o1, rfl, _, _⟩ := RowL.cells hr (atL_get hb)
                            obtain ⟨g2, o2, rfl, _, _⟩ := RowL.cells hr2 (atL_get ht)
                            have hp1 : (s.mar b).2 < 4294967296 := by have := (HF.out.1 b hb).2.2; omega
                            have hp2 : (atL ts t).2 < 4294967296 := by have := (HT.out t ht).2.2; omega
                            have hp3 : (atL cs b).2 < 4294967296 := by have := (HC.out b hb).2.2; omega
                            have hp4 : s.fr t < 4294967296 := by have := HF.out.2.1 t ht; have h8 : one ts.length ≤ one 8 := Nat.pow_le_pow_right (by omega) ht8; simp [one] at h8 this; omega
                            have hp5 : s.kn b < 4294967296 := by have := HF.out.2.2 b hb; have h8 : one ts.length ≤ one 8 := Nat.pow_le_pow_right (by omega) ht8; simp [one] at h8 this; omega
                            have HD1 := HD
                            clear f0 f1 f2 HQ HQ2 hw0 hw1 ht0 ht1
                            by_cases hk : kind = 1
                            · as_aux_lemma =>
                                subst hk
                                have HQ4 := Lib.hid (show (if (false && !underL (nextL false (s.mar b) (atL ts t)) (atL cs b)) = true then (7, s) else (0, readM false (atL ts) s b t)) = (q, s') by have := HQ3.out; rw [if_pos rfl] at this; exact this)
                                obtain ⟨f01, f11, f21⟩ := HD1.out.cells
                                simp only at f01 f11 f21
                                obtain ⟨_, m11, m21⟩ := MkW.cells HM1.out
                                obtain ⟨y11, y21, y31⟩ := MkS.markAt HM1.out hb
                                have y41 := y31 (b * 2)
                                have y51 := y31 (b * 2 + 1)
                                obtain ⟨x11, x21⟩ := MkS.knowAt HM1.out hb
                                have x31 := x21 b
                                obtain ⟨z11, z21⟩ := MkS.fromAt HM1.out ht
                                have z31 := z21 t
                                have r21 := hr2.below (HW0.out.trans (MkW.below HM1.out |>.mono HW0.out.size))
                                obtain ⟨t11, t21⟩ := row_two r21 (atL_get ht)
                                have r11 := hr.below (HW0.out.trans (MkW.below HM1.out |>.mono HW0.out.size))
                                obtain ⟨d11, d21⟩ := row_two r11 (atL_get hb)
                                clear y31 x21 z21 r21 r11
                                have kC := fun W => Common_any (s.mar b).1 (atL ts t).1 (s.mar b).2 (atL ts t).2 W hp1 hp2
                                obtain ⟨nl, np, hn⟩ : ∃ nl np, meetL ((s.mar b).1, (s.mar b).2) ((atL ts t).1, (atL ts t).2) = (nl, np) := ⟨_, _, rfl⟩
                                rw [hn] at kC
                                simp only [labV] at kC
                                have HN1 := Lib.hid (show meetL (s.mar b) (atL ts t) = (nl, np) from hn)
                                clear hn
                                have hS : LabS g sz gm b g2 o2 t cs.length cm (b : Int) (t : Int) (s.mar b) (atL ts t) w1 := ⟨m11, f11, f21, y11, y21, t11, t21⟩
                                have HB1 := Lib.hid (show Below w1.heap.size w1 w1.drew from (Below.refl _ _).drew)
                                have HBZ := Lib.hid (show Below w1.heap.size w1 (w1.alloc (.cells #[.int .i64 0, .int .u32 0] 40)).drew from ((Below.refl _ _).alloc (Nat.le_refl _) _).drew)
                                have FZ := Lib.hid (fun (W4 : World) (h : Below (w1.alloc (.cells #[.int .i64 0, .int .u32 0] 40)).drew.heap.size (w1.alloc (.cells #[.int .i64 0, .int .u32 0] 40)).drew W4) => twoFacts h (show (w1.alloc (.cells #[.int .i64 0, .int .u32 0] 40)).drew.heap[w1.heap.size]? = some (.cells #[.int .i64 0, .int .u32 0] 40 (0, 0)) from heap_alloc_new w1 _))
                                have HS1 := Lib.hid (hS.below HB1.out)
                                have HSZ := Lib.hid (hS.below HBZ.out)
                                have HR1 := Lib.hid (hr.below (HW0.out.trans (MkW.below HM1.out |>.mono HW0.out.size)))
                                go_upto_region 28 with fail
                                clear m11 m21 f01 f11 f21 y11 y21 y41 y51 x11 x31 z11 z31 t11 t21 d11 d21
                                go_cut [17] (fun v wx => ∃ gn, v = .pointer (some ⟨gn, 0, none⟩) ∧ wx.heap[gn]? = some (.cells #[.int .i64 nl, .int .u32 (np : Int)] 40 (0, 0)) ∧ Below w1.heap.size w1 wx ∧ w1.heap.size ≤ gn)
                                case first =>
                                  as_aux_lemma =>
                                  go_region_held3 (fun w' => w'.cell? ⟨g, 1, none⟩ = some (.slice (some ⟨gm, 0, none⟩) cs.length cm) ∧ w'.cell? ⟨sz, 1, none⟩ = some (.int .i64 (b : Int)) ∧ w'.cell? ⟨sz, 2, none⟩ = some (.int .i64 (t : Int)) ∧ w'.cell? ⟨gm, b * 2, none⟩ = some (.int .i64 (s.mar b).1) ∧ w'.cell? ⟨gm, b * 2 + 1, none⟩ = some (.int .u32 ((s.mar b).2 : Int)) ∧ w'.cell? ⟨g2, o2 + t * 2, none⟩ = some (.int .i64 (atL ts t).1) ∧ w'.cell? ⟨g2, o2 + t * 2 + 1, none⟩ = some (.int .u32 ((atL ts t).2 : Int)))
                                    (first | exact hS | exact HS1.out | exact HSZ.out | exact HS1.out.below HB4.out | exact HSZ.out.below HB4.out | exact (HS1.out.below HB4.out).below ((Below.refl _ _).alloc (Nat.le_refl _) _) | exact hS.below (((HBZ.out.trans (HB4.out.mono HBZ.out.size)).setCell (Nat.le_refl _) _).setCell (Nat.le_refl _) _) | go_keep)
                                    (first
                                    | (go_at_call 40
                                       refine (kC _).mono ?_
                                       rintro e w4 ⟨rfl, hb4⟩
                                       have HB4 := Lib.hid hb4
                                       first
                                         | (obtain ⟨zb, f0, f1, z0, z1⟩ := FZ.out _ hb4
                                            have HZB := Lib.hid zb
                                            clear zb hb4)
                                         | clear hb4))
                                  all_goals
                                    go_wp2_with fail
                                    go_meet
                                    first
                                      | exact ⟨_, rfl, heap_alloc_new _ _, (HB1.out.trans (HB4.out.mono HB1.out.size)).alloc (HB1.out.trans (HB4.out.mono HB1.out.size)).size _, (HB1.out.trans (HB4.out.mono HB1.out.size)).size⟩
                                      | exact ⟨w1.heap.size, rfl, ltwo_set1 (ltwo_set0 HZB.out), (((HBZ.out.trans (HB4.out.mono HBZ.out.size)).setCell (Nat.le_refl _) _).setCell (Nat.le_refl _) _), Nat.le_refl _⟩
                                case rest =>
                                as_aux_lemma =>
                                obtain ⟨gn, rfl, hn, hbn, hgn⟩ := hcut
                                have HGN := Lib.hid hgn
                                have HMc := Lib.hid (show MkS w0 g vc (.slice (some ⟨gm, 0, none⟩) cs.length cm) (.slice (some ⟨gf, 0, none⟩) ts.length cf) (.slice (some ⟨gq, 0, none⟩) cs.length cs.length) cd cs.length ts.length s wc from MkW.grow HM1.out hbn)
                                have HDc := Lib.hid (HD1.out.below hbn)
                                have HBc := Lib.hid hbn
                                have HNc := Lib.hid hn
                                obtain ⟨f0c, f1c, f2c⟩ := HDc.out.cells
                                simp only at f0c f1c f2c
                                obtain ⟨_, m1c, m2c⟩ := MkW.cells HMc.out
                                obtain ⟨y1c, y2c, y3c⟩ := MkS.markAt HMc.out hb
                                have y4c := y3c (b * 2)
                                have y5c := y3c (b * 2 + 1)
                                obtain ⟨x1c, x2c⟩ := MkS.knowAt HMc.out hb
                                have x3c := x2c b
                                obtain ⟨z1c, z2c⟩ := MkS.fromAt HMc.out ht
                                have z3c := z2c t
                                have r2c := hr2.below (HW0.out.trans (MkW.below HMc.out |>.mono HW0.out.size))
                                obtain ⟨t1c, t2c⟩ := row_two r2c (atL_get ht)
                                have r1c := hr.below (HW0.out.trans (MkW.below HMc.out |>.mono HW0.out.size))
                                obtain ⟨d1c, d2c⟩ := row_two r1c (atL_get hb)
                                clear y3c x2c z2c r2c r1c
                                obtain ⟨u1c, u2c⟩ := ltwo_cells hn
                                clear hn hbn hgn HB1 HBZ FZ HS1 HSZ hS kC
                                have hnp : np < 4294967296 := by have := meet_ok (HF.out.1 b hb) (HT.out t ht); rw [HN1.out] at this; have := this.2.2; simp only at this; omega
                                go_wp2
                                go_quiet (fail)
                                have HM7 := Lib.hid (show MkS w0 g vc (.slice (some ⟨gm, 0, none⟩) cs.length cm) (.slice (some ⟨gf, 0, none⟩) ts.length cf) (.slice (some ⟨gq, 0, none⟩) cs.length cs.length) cd cs.length ts.length s (wc.drewN nq) from MkW.drewN HMc.out nq)
                                have HD7 := Lib.hid (show DdAt (wc.drewN nq) sz _ from HDc.out)
                                have HN7 := Lib.hid (show (wc.drewN nq).heap[gn]? = _ from HNc.out)
                                clear f0c f1c f2c m1c m2c y1c y2c y4c y5c x1c x3c z1c z3c t1c t2c d1c d2c u1c u2c
                                generalize wc.drewN nq = w7 at *
                                obtain ⟨f07, f17, f27⟩ := HD7.out.cells
                                simp only at f07 f17 f27
                                obtain ⟨_, m17, m27⟩ := MkW.cells HM7.out
                                obtain ⟨y17, y27, y37⟩ := MkS.markAt HM7.out hb
                                have y47 := y37 (b * 2)
                                have y57 := y37 (b * 2 + 1)
                                obtain ⟨x17, x27⟩ := MkS.knowAt HM7.out hb
                                have x37 := x27 b
                                obtain ⟨z17, z27⟩ := MkS.fromAt HM7.out ht
                                have z37 := z27 t
                                have r27 := hr2.below (HW0.out.trans (MkW.below HM7.out |>.mono HW0.out.size))
                                obtain ⟨t17, t27⟩ := row_two r27 (atL_get ht)
                                have r17 := hr.below (HW0.out.trans (MkW.below HM7.out |>.mono HW0.out.size))
                                obtain ⟨d17, d27⟩ := row_two r17 (atL_get hb)
                                clear y37 x27 z27 r27 r17
                                obtain ⟨u17, u27⟩ := ltwo_cells HN7.out
                                have HJ := HN1
                                obtain ⟨rfl, rfl⟩ : 0 = q ∧ readM false (atL ts) s b t = s' := by have := HQ4.out; rw [if_neg (by simp)] at this; simpa using this
                                have hm8 := MkS.setMark HM7.out b (nl, np)
                                obtain ⟨a1, a2, a3⟩ := MkS.apart HM7.out HD7.out
                                have hd8 := (HD7.out.set (o := b * 2) (u := .int .i64 nl) a1).set (o := b * 2 + 1) (u := .int .u32 (np : Int)) a1
                                simp only at hm8
                                generalize hw8 : (w7.setCell ⟨gm, b * 2, none⟩ (.int .i64 nl)).setCell ⟨gm, b * 2 + 1, none⟩ (.int .u32 (np : Int)) = w8 at hm8 hd8
                                have HM8 := Lib.hid hm8
                                have HD8 := Lib.hid hd8
                                obtain ⟨f08, f18, f28⟩ := HD8.out.cells
                                simp only at f08 f18 f28
                                obtain ⟨_, m18, m28⟩ := MkW.cells HM8.out
                                obtain ⟨x18, x28⟩ := MkS.knowAt HM8.out hb
                                have x38 := x28 b
                                obtain ⟨z18, z28⟩ := MkS.fromAt HM8.out ht
                                have z38 := z28 t
                                have r28 := hr2.below (HW0.out.trans (MkW.below HM8.out |>.mono HW0.out.size))
                                obtain ⟨t18, t28⟩ := row_two r28 (atL_get ht)
                                have r18 := hr.below (HW0.out.trans (MkW.below HM8.out |>.mono HW0.out.size))
                                obtain ⟨d18, d28⟩ := row_two r18 (atL_get hb)
                                clear x28 z28 r28 r18
                                have hor := u32_or_nat (s.kn b) (s.fr t) hp5 hp4
                                have hm9 := MkW.drew (MkS.setKnow HM8.out b (s.kn b ||| s.fr t))
                                have HE' := Lib.hid (show MkS w0 g vc (.slice (some ⟨gm, 0, none⟩) cs.length cm) (.slice (some ⟨gf, 0, none⟩) ts.length cf) (.slice (some ⟨gq, 0, none⟩) cs.length cs.length) cd cs.length ts.length (readM false (atL ts) s b t) _ from by
                                  have e : nextL false (s.mar b) (atL ts t) = (nl, np) := by rw [nextL_low]; exact HJ.out
                                  unfold readM
                                  rw [e]
                                  exact hm9)
                                clear hm8 hd8 hm9 a1 a2 a3
                                generalize s.kn b ||| s.fr t = z at *
                                generalize hwE : (w8.setCell ⟨gq, b, none⟩ (.int .u32 (z : Int))).drew = wE at HE'
                                go_wp2
                                refine wp_region_still_tail 16 (by kernel_rfl) (by kernel_rfl) ?_
                                simp only [List.take_succ_cons, List.take_zero, List.drop_succ_cons, List.drop_zero]
                                iterate 16 still_step
                                refine wpStill_nil ?_
                                have HE := HE'
                                clear HE'
                                have HT1 := Lib.hid (MkW.grow HE.out ((Below.refl (wE).heap.size (wE)).alloc (Nat.le_refl _) (.cells #[.int .i64 0] 28)))
                                obtain ⟨c0, _, _⟩ := MkW.cells HE.out
                                go_wp2_with (at_builtin; refine wpList_append_grow rfl (.tmp 223) (.tmp 225) 24 rfl w0.heap.size 28 i2 (.int .i64 0) 1 8 Try.underlying24 HI2.out.1 HI2.out.2.1 HI2.out.2.2.1 HI2.out.2.2.2 rfl (by decide) vc cd.length (ints cd) rfl ?qowng ⟨(wE).heap.size, 0, none⟩ 1 1 [.int .i64 0] rfl rfl ?qnewsg ?qoneg ?q63g ?qbyg ?qbaseg ?qnextg)
                                case qowng => exact HT1.out.oc
                                try (case qnewsg => exact row_news (row_new (wE) (wE).heap.size rfl [.int .i64 0] 28))
                                case qoneg => first | rfl | (intro u hu; simp only [List.mem_cons, List.not_mem_nil, or_false] at hu; rcases hu with rfl; rfl)
                                case q63g => have := HL.out; unfold maxLen; omega
                                case qbyg => have := HL.out; omega
                                case qbaseg => first | exact HT1.out.below.size | (have := HT1.out.below.size; simpa using this)
                                case qnextg =>
                                  intro v' w9 hown hgr
                                  obtain ⟨A', c', rfl, _, _⟩ := own_slice hown
                                  obtain ⟨hn, e1, e2⟩ := MkW.pushCode (x := 0) HT1.out hown hgr
                                  have HNN := Lib.hid (show MkS w0 g _ (.slice (some ⟨gm, 0, none⟩) cs.length cm) (.slice (some ⟨gf, 0, none⟩) ts.length cf) (.slice (some ⟨gq, 0, none⟩) cs.length cs.length) (stM false cs ts ds (k + 1)).1 cs.length ts.length (stM false cs ts ds (k + 1)).2 _ from by rw [HN.out]; exact hn)
                                  clear hn hown hgr HT1
                                  go_wp2
                                  go_roundg (gk - 1)
                                  case measure => omega
                                  case rel => exact ⟨k + 1, _, by go_num, by omega, HNN.out⟩
                            · as_aux_lemma =>
                                obtain rfl : kind = 2 := by omega
                                have HQ4 := Lib.hid (show (if okW false (s.mar b) (atL ts t) = true then (0, writeM s b t) else (7, s)) = (q, s') by have := HQ3.out; rw [if_neg (by decide)] at this; simpa using this)
                                obtain ⟨f01, f11, f21⟩ := HD1.out.cells
                                simp only at f01 f11 f21
                                obtain ⟨_, m11, m21⟩ := MkW.cells HM1.out
                                obtain ⟨y11, y21, y31⟩ := MkS.markAt HM1.out hb
                                have y41 := y31 (b * 2)
                                have y51 := y31 (b * 2 + 1)
                                obtain ⟨x11, x21⟩ := MkS.knowAt HM1.out hb
                                have x31 := x21 b
                                obtain ⟨z11, z21⟩ := MkS.fromAt HM1.out ht
                                have z31 := z21 t
                                have r21 := hr2.below (HW0.out.trans (MkW.below HM1.out |>.mono HW0.out.size))
                                obtain ⟨t11, t21⟩ := row_two r21 (atL_get ht)
                                have r11 := hr.below (HW0.out.trans (MkW.below HM1.out |>.mono HW0.out.size))
                                obtain ⟨d11, d21⟩ := row_two r11 (atL_get hb)
                                clear y31 x21 z21 r21 r11
                                have kA := fun W => refBelow_any (atL ts t).1 (s.mar b).1 (atL ts t).2 (s.mar b).2 W hp2 hp1
                                have kB := fun W => refBelow_any (s.mar b).1 (atL ts t).1 (s.mar b).2 (atL ts t).2 W hp1 hp2
                                generalize hu : underL ((atL ts t).1, (atL ts t).2) ((s.mar b).1, (s.mar b).2) = u at kA
                                generalize hv : underL ((s.mar b).1, (s.mar b).2) ((atL ts t).1, (atL ts t).2) = v at kB
                                have HU := Lib.hid (show underL (atL ts t) (s.mar b) = u from hu)
                                have HV := Lib.hid (show underL (s.mar b) (atL ts t) = v from hv)
                                clear hu hv
                                go_wp2
                                refine wp_region_still_tail 11 (by kernel_rfl) (by kernel_rfl) ?_
                                simp only [List.take_succ_cons, List.take_zero, List.drop_succ_cons, List.drop_zero]
                                iterate 11 still_step
                                refine wpStill_nil ?_
                                go_wp2_with fail
                                refine (kA _).mono ?_
                                rintro e w2 ⟨rfl, hb2⟩
                                have HB2 := Lib.hid ((Below.refl (w1).heap.size (w1)).drew.trans hb2)
                                have HM2 := Lib.hid (show MkS w0 g vc (.slice (some ⟨gm, 0, none⟩) cs.length cm) (.slice (some ⟨gf, 0, none⟩) ts.length cf) (.slice (some ⟨gq, 0, none⟩) cs.length cs.length) cd cs.length ts.length s w2 from MkW.grow HM1.out HB2.out)
                                have HD2 := Lib.hid (HD1.out.below HB2.out)
                                clear hb2
                                obtain ⟨f02, f12, f22⟩ := HD2.out.cells
                                simp only at f02 f12 f22
                                obtain ⟨_, m12, m22⟩ := MkW.cells HM2.out
                                obtain ⟨y12, y22, y32⟩ := MkS.markAt HM2.out hb
                                have y42 := y32 (b * 2)
                                have y52 := y32 (b * 2 + 1)
                                obtain ⟨x12, x22⟩ := MkS.knowAt HM2.out hb
                                have x32 := x22 b
                                obtain ⟨z12, z22⟩ := MkS.fromAt HM2.out ht
                                have z32 := z22 t
                                have r22 := hr2.below (HW0.out.trans (MkW.below HM2.out |>.mono HW0.out.size))
                                obtain ⟨t12, t22⟩ := row_two r22 (atL_get ht)
                                have r12 := hr.below (HW0.out.trans (MkW.below HM2.out |>.mono HW0.out.size))
                                obtain ⟨d12, d22⟩ := row_two r12 (atL_get hb)
                                clear y32 x22 z22 r22 r12
                                clear f01 f11 f21 m11 m21 y11 y21 y41 y51 x11 x31 z11 z31 t11 t21 d11 d21
                                clear kA kB
                                cases u
                                · obtain ⟨rfl, rfl⟩ : 7 = q ∧ s = s' := by have := HQ4.out; rw [okW_low, HU.out, if_neg (by decide)] at this; simpa using this
                                  have HE := HM2
                                  clear f02 f12 f22 m12 m22 y12 y22 y42 y52 x12 x32 z12 z32 t12 t22 d12 d22
                                  have HT1 := Lib.hid (MkW.grow HE.out ((Below.refl (w2).heap.size (w2)).alloc (Nat.le_refl _) (.cells #[.int .i64 7] 28)))
                                  obtain ⟨c0, _, _⟩ := MkW.cells HE.out
                                  go_wp2_with (at_builtin; refine wpList_append_grow rfl (.tmp 223) (.tmp 225) 24 rfl w0.heap.size 28 i2 (.int .i64 0) 1 8 Try.underlying24 HI2.out.1 HI2.out.2.1 HI2.out.2.2.1 HI2.out.2.2.2 rfl (by decide) vc cd.length (ints cd) rfl ?qownc ⟨(w2).heap.size, 0, none⟩ 1 1 [.int .i64 7] rfl rfl ?qnewsc ?qonec ?q63c ?qbyc ?qbasec ?qnextc)
                                  case qownc => exact HT1.out.oc
                                  try (case qnewsc => exact row_news (row_new (w2) (w2).heap.size rfl [.int .i64 7] 28))
                                  case qonec => first | rfl | (intro u hu; simp only [List.mem_cons, List.not_mem_nil, or_false] at hu; rcases hu with rfl; rfl)
                                  case q63c => have := HL.out; unfold maxLen; omega
                                  case qbyc => have := HL.out; omega
                                  case qbasec => first | exact HT1.out.below.size | (have := HT1.out.below.size; simpa using this)
                                  case qnextc =>
                                    intro v' w9 hown hgr
                                    obtain ⟨A', c', rfl, _, _⟩ := own_slice hown
                                    obtain ⟨hn, e1, e2⟩ := MkW.pushCode (x := 7) HT1.out hown hgr
                                    have HNN := Lib.hid (show MkS w0 g _ (.slice (some ⟨gm, 0, none⟩) cs.length cm) (.slice (some ⟨gf, 0, none⟩) ts.length cf) (.slice (some ⟨gq, 0, none⟩) cs.length cs.length) (stM false cs ts ds (k + 1)).1 cs.length ts.length (stM false cs ts ds (k + 1)).2 _ from by rw [HN.out]; exact hn)
                                    clear hn hown hgr HT1
                                    go_wp2
                                    go_roundg (gk - 1)
                                    case measure => omega
                                    case rel => exact ⟨k + 1, _, by go_num, by omega, HNN.out⟩
                                · obtain ⟨rfl, rfl⟩ : 0 = q ∧ writeM s b t = s' := by have := HQ4.out; rw [okW_low, HU.out, if_pos rfl] at this; simpa using this
                                  have hor := u32_or_nat (s.fr t) (s.kn b) hp4 hp5
                                  have hm := MkW.drew (MkS.setFrom HM2.out t (s.fr t ||| s.kn b))
                                  have HE' := Lib.hid (show MkS w0 g vc (.slice (some ⟨gm, 0, none⟩) cs.length cm) (.slice (some ⟨gf, 0, none⟩) ts.length cf) (.slice (some ⟨gq, 0, none⟩) cs.length cs.length) cd cs.length ts.length (writeM s b t) _ from hm)
                                  clear hm
                                  generalize s.fr t ||| s.kn b = z at *
                                  generalize hwE : ((w2).setCell ⟨gf, t, none⟩ (.int .u32 (z : Int))).drew = wE at HE'
                                  go_wp2
                                  refine wp_region_still_tail 17 (by kernel_rfl) (by kernel_rfl) ?_
                                  simp only [List.take_succ_cons, List.take_zero, List.drop_succ_cons, List.drop_zero]
                                  iterate 17 still_step
                                  refine wpStill_nil ?_
                                  have HE := HE'
                                  clear HE'
                                  have HT1 := Lib.hid (MkW.grow HE.out ((Below.refl (wE).heap.size (wE)).alloc (Nat.le_refl _) (.cells #[.int .i64 0] 28)))
                                  obtain ⟨c0, _, _⟩ := MkW.cells HE.out
                                  go_wp2_with (at_builtin; refine wpList_append_grow rfl (.tmp 223) (.tmp 225) 24 rfl w0.heap.size 28 i2 (.int .i64 0) 1 8 Try.underlying24 HI2.out.1 HI2.out.2.1 HI2.out.2.2.1 HI2.out.2.2.2 rfl (by decide) vc cd.length (ints cd) rfl ?qownd ⟨(wE).heap.size, 0, none⟩ 1 1 [.int .i64 0] rfl rfl ?qnewsd ?qoned ?q63d ?qbyd ?qbased ?qnextd)
                                  case qownd => exact HT1.out.oc
                                  try (case qnewsd => exact row_news (row_new (wE) (wE).heap.size rfl [.int .i64 0] 28))
                                  case qoned => first | rfl | (intro u hu; simp only [List.mem_cons, List.not_mem_nil, or_false] at hu; rcases hu with rfl; rfl)
                                  case q63d => have := HL.out; unfold maxLen; omega
                                  case qbyd => have := HL.out; omega
                                  case qbased => first | exact HT1.out.below.size | (have := HT1.out.below.size; simpa using this)
                                  case qnextd =>
                                    intro v' w9 hown hgr
                                    obtain ⟨A', c', rfl, _, _⟩ := own_slice hown
                                    obtain ⟨hn, e1, e2⟩ := MkW.pushCode (x := 0) HT1.out hown hgr
                                    have HNN := Lib.hid (show MkS w0 g _ (.slice (some ⟨gm, 0, none⟩) cs.length cm) (.slice (some ⟨gf, 0, none⟩) ts.length cf) (.slice (some ⟨gq, 0, none⟩) cs.length cs.length) (stM false cs ts ds (k + 1)).1 cs.length ts.length (stM false cs ts ds (k + 1)).2 _ from by rw [HN.out]; exact hn)
                                    clear hn hown hgr HT1
                                    go_wp2
                                    go_roundg (gk - 1)
                                    case measure => omega
                                    case rel => exact ⟨k + 1, _, by go_num, by omega, HNN.out⟩
              · obtain rfl : k = ds.length := by omega
                obtain ⟨c0, c1, c2⟩ := MkW.cells HM.out
                have hz := lblk_keep HM.out.below HR0.out
                obtain ⟨z0, z1, z2⟩ : wr.cell? ⟨w.heap.size, 0, none⟩ = some (.slice none 0 0) ∧ wr.cell? ⟨w.heap.size, 1, none⟩ = some (.slice none 0 0) ∧ wr.cell? ⟨w.heap.size, 2, none⟩ = some (.slice none 0 0) :=
                  ⟨cell_of_row wr _ 0 _ _ _ hz, cell_of_row wr _ 1 _ _ _ hz, cell_of_row wr _ 2 _ _ _ hz⟩
                have y0 : wr.frozen? ⟨w.heap.size, 0, none⟩ = false := by simp [World.frozen?, hz]
                have y1 : wr.frozen? ⟨w.heap.size, 1, none⟩ = false := by simp [World.frozen?, hz]
                have y2 : wr.frozen? ⟨w.heap.size, 2, none⟩ = false := by simp [World.frozen?, hz]
                obtain ⟨Ac, cc, rfl, _, _⟩ := own_slice HM.out.oc
                have hz3 := (set_blk (u := .slice Af ts.length cf) (set_blk (u := .slice (some ⟨gm, 0, none⟩) cs.length cm) (set_blk (u := .slice Ac (stM false cs ts ds ds.length).1.length cc) hz).1).2.1).2.2
                have HZ := Lib.hid (show _ ∧ _ ∧ _ from ⟨cell_of_row _ _ 0 _ _ _ hz3, cell_of_row _ _ 1 _ _ _ hz3, cell_of_row _ _ 2 _ _ _ hz3⟩)
                have HBz := Lib.hid ((((HW0.out.trans (HM.out.below.mono HW0.out.size)).setCell (p := ⟨w.heap.size, 0, none⟩) (Nat.le_refl _) (.slice Ac (stM false cs ts ds ds.length).1.length cc)).setCell (p := ⟨w.heap.size, 1, none⟩) (Nat.le_refl _) (.slice (some ⟨gm, 0, none⟩) cs.length cm)).setCell (p := ⟨w.heap.size, 2, none⟩) (Nat.le_refl _) (.slice Af ts.length cf))
                have hlt0 : w.heap.size < w0.heap.size := by have := HS.out; omega
                have k1 := own_far (own_far (own_far HM.out.oc (.slice Ac (stM false cs ts ds ds.length).1.length cc) (a := ⟨w.heap.size, 0, none⟩) (own_low HM.out.oc hlt0)) (.slice (some ⟨gm, 0, none⟩) cs.length cm) (a := ⟨w.heap.size, 1, none⟩) (own_low HM.out.oc hlt0)) (.slice Af ts.length cf) (a := ⟨w.heap.size, 2, none⟩) (own_low HM.out.oc hlt0)
                have k2 := own_far (own_far (own_far HM.out.om (.slice Ac (stM false cs ts ds ds.length).1.length cc) (a := ⟨w.heap.size, 0, none⟩) (own_low HM.out.om hlt0)) (.slice (some ⟨gm, 0, none⟩) cs.length cm) (a := ⟨w.heap.size, 1, none⟩) (own_low HM.out.om hlt0)) (.slice Af ts.length cf) (a := ⟨w.heap.size, 2, none⟩) (own_low HM.out.om hlt0)
                have k3 := own_far (own_far (own_far HM.out.of (.slice Ac (stM false cs ts ds ds.length).1.length cc) (a := ⟨w.heap.size, 0, none⟩) (own_low HM.out.of hlt0)) (.slice (some ⟨gm, 0, none⟩) cs.length cm) (a := ⟨w.heap.size, 1, none⟩) (own_low HM.out.of hlt0)) (.slice Af ts.length cf) (a := ⟨w.heap.size, 2, none⟩) (own_low HM.out.of hlt0)
                have HK := Lib.hid (And.intro (own_row k1) (And.intro (own_row k2) (own_row k3)))
                clear hz hz3 hlt0 k1 k2 k3
                go_wp2
                refine bodyPost_ret (v := .agg #[.slice Ac (stM false cs ts ds ds.length).1.length cc, .slice (some ⟨gm, 0, none⟩) cs.length cm, .slice Af ts.length cf]) (by simp [results, Try.results15, go_sem, HZ.out.1, HZ.out.2.1, HZ.out.2.2]) rfl ?_
                obtain ⟨⟨A1, c1', e1, f1, r1⟩, ⟨A2', c2', e2, f2, r2⟩, ⟨A3', c3', e3, f3, r3⟩⟩ := HK.out
                have hst : stM false cs ts ds ds.length = runM false (atL cs) (atL ts) cs.length ts.length ds := by unfold stM; rw [List.take_length]
                have hBz := HBz.out
                rw [hst] at r1 r2 r3 e1 f1 hBz ⊢
                simp only [tabA_length] at e2 e3 f2 f3
                simp only [Value.slice.injEq, true_and] at e1 e2 e3
                obtain ⟨rfl, rfl⟩ := e1
                obtain ⟨rfl, rfl⟩ := e2
                obtain ⟨rfl, rfl⟩ := e3
                exact ⟨_, _, _, _, _, _, rfl, f1, r1, r2, r3, hBz⟩

end Go.Proofs.Ytdiaglaokgehbaa
