/- The law of Post on Class, from the contract. -/
import Derived.Test.YtcokpjffgeihbaaLawT4
import Derived.Test.YtcokpjffgeihbaaPost
namespace Go.Proofs.Ytcokpjffgeihbaa
open Go.RowKit

/-- What f and the first i tables have. -/
def allP (k : Nat) (f : List Bool) (gs : List (List Bool)) (i : Nat) : Nat := (gs.take i).foldl (fun a g => a &&& classF k (atB g)) (classF k (atB f))
theorem allP_succ {k : Nat} {f : List Bool} {gs : List (List Bool)} {i : Nat} {g : List Bool} (h : gs[i]? = some g) : allP k f gs (i + 1) = allP k f gs i &&& classF k (atB g) := by
  unfold allP
  rw [List.take_add_one, h, List.foldl_append]
  rfl
theorem allP_f (k : Nat) (f : List Bool) (gs : List (List Bool)) : ∀ i, sub (allP k f gs i) (classF k (atB f)) = true
  | 0 => sub_refl _
  | i + 1 => by
    cases h : gs[i]? with
    | none =>
      have : allP k f gs (i + 1) = allP k f gs i := by
        unfold allP
        rw [List.take_add_one, h]; simp
      rw [this]; exact allP_f k f gs i
    | some g => rw [allP_succ h]; exact sub_trans (sub_and.1 (sub_refl _)).1 (allP_f k f gs i)
theorem allP_g {k : Nat} {f : List Bool} {gs : List (List Bool)} {v : Nat} {g : List Bool} (hg : gs[v]? = some g) : ∀ i, v < i → sub (allP k f gs i) (classF k (atB g)) = true
  | 0, h => by omega
  | i + 1, h => by
    by_cases e : v = i
    · subst e; rw [allP_succ hg]; exact (sub_and.1 (sub_refl _)).2
    · cases h2 : gs[i]? with
      | none =>
        have : allP k f gs (i + 1) = allP k f gs i := by
          unfold allP
          rw [List.take_add_one, h2]; simp
        rw [this]; exact allP_g hg i (by omega)
      | some g2 => rw [allP_succ h2]; exact sub_trans (sub_and.1 (sub_refl _)).1 (allP_g hg i (by omega))
/-- The tables, by their numbers. -/
def tabG (gs : List (List Bool)) (v s : Nat) : Bool := atB (gs.getD v []) s
theorem tabG_at {gs : List (List Bool)} {v : Nat} {g : List Bool} (h : gs[v]? = some g) : tabG gs v = atB g := by
  unfold tabG
  rw [List.getD_eq_getElem?_getD, h]; rfl
theorem inP_yes {G : Nat → Nat → Bool} {s v : Nat} (h : G v s = true) : inP G s (v + 1) = inP G s v + one v := by
  unfold inP
  rw [wordOf, if_pos h]
  exact Nat.or_two_pow_eq_add_of_lt (wordOf_lt v _)
theorem inP_no {G : Nat → Nat → Bool} {s v : Nat} (h : G v s = false) : inP G s (v + 1) = inP G s v := by
  unfold inP
  rw [wordOf, if_neg (by rw [h]; decide)]; simp
theorem class_congr {k : Nat} {F G : Nat → Bool} (h : ∀ i, i < one k → F i = G i) : classF k F = classF k G := by
  have h0 := h 0 (one_pos k)
  have h1 := h (full k) (full_lt k)
  have e2 : selfB k F = selfB k G := by
    rw [Bool.eq_iff_iff, self_iff, self_iff]
    exact forall_congr' fun s => forall_congr' fun hs => by rw [h s hs, h (full k - s) comp_lt]
  have e3 : riseP k F (one k) = riseP k G (one k) := by
    rw [Bool.eq_iff_iff, rise_iff, rise_iff]
    exact forall_congr' fun a => forall_congr' fun b => forall_congr' fun ha => forall_congr' fun hb => by rw [h a ha, h b hb]
  have e4 : straP (mob k F) (one k) = straP (mob k G) (one k) := by
    have : mob k F = mob k G := funext fun s => mob_congr h s
    rw [this]
  unfold classF
  rw [h0, h1, e2, e3, e4]

set_option maxRecDepth 100000 in
set_option maxHeartbeats 4000000 in
theorem TruthPost_with (hF : TClassOk 18) (n : Int) (f : List Bool) (A : Option Addr) (c : Nat) (gs : List (List Bool)) (A2 : Option Addr) (c2 : Nat) (w : World) (hm : f.length ≤ maxLen) (hr : Row w A (boolsC f)) (hm2 : gs.length ≤ maxLen) (hr2 : Tabs w A2 gs) (hX : Laid w) :
    Calls Try.prog 10 #[.int .i64 n, .slice A f.length c, .slice A2 gs.length c2] w fun e w' => e = .returned (.bool true) ∧ Below w.heap.size w w' := by
  have key := hF n f A c w hm hr hX
  have hmm : gs.length < 9223372036854775808 := by unfold maxLen at hm2; omega
  by_cases hc : codeT n f.length = 0
  · obtain ⟨k, rfl, hk, hl⟩ := codeT_zero hc
    have h16 := one_le_16 hk
    have h1p := one_pos k
    rw [hc, if_pos rfl, Int.toNat_natCast] at key
    have HC := Lib.hid hc
    have HLn := Lib.hid hl
    have hf16 : f.length ≤ 16 := by omega
    clear hc hl
    go_enter Try.func10, Try.ntmps10
    go_wp2_with fail
    refine key.mono ?_
    rintro e w1 ⟨rfl, hb1⟩
    clear key
    go_wp2_with fail
    refine (stated_any k f A c _ hm).mono ?_
    rintro e w1' ⟨rfl, rfl⟩
    rw [HC.out, show ((0 : Int) == 0) = true from rfl]
    by_cases hgk : gs.length = k
    · have hgi : ((gs.length : Int) != (k : Int)) = false := by simp [hgk]
      have HGk := Lib.hid hgk
      have hgl : gs.length ≤ 4 := by omega
      clear hgk
      go_wp2
      go_loopw [9, 44] (fun qv iv wr => ∃ (i q : Nat), iv = .int .i64 i ∧ qv = .int .u32 q ∧ i ≤ gs.length ∧ q < 32 ∧ q = allP k f gs i ∧ fitsP k gs i ∧ Below w.heap.size w wr) (fun _ iv _ => gs.length - (intOf iv).toNat)
      case atStart => exact ⟨0, _, rfl, rfl, Nat.zero_le _, class_lt _ _, rfl, fun g hg => by simp at hg, hb1⟩
      case round =>
        clear hb1
        obtain ⟨i, q, rfl, rfl, hi, hq, hqa, hft, hbel⟩ := hrel
        have HQ := Lib.hid hqa
        have HFt := Lib.hid hft
        clear hqa hft
        by_cases hlt : i < gs.length
        · obtain ⟨g, hg⟩ := get_some hlt
          obtain ⟨hgm, b, off, B, d, rfl, hcell, hrow⟩ := (hr2.below hbel).at hg
          have HS := Lib.hid (fitsP_succ (k := k) hg)
          have HA := Lib.hid (allP_succ (k := k) (f := f) hg)
          clear hg
          have key2 := hF k g B d wr hgm hrow (hX.below hbel)
          by_cases hcg : codeT k g.length = 0
          · have HLg := Lib.hid (show g.length = one k by obtain ⟨k', e', _, h'⟩ := codeT_zero hcg; obtain rfl : k = k' := (by omega); exact h')
            rw [hcg, if_pos rfl, Int.toNat_natCast] at key2
            have HCg := Lib.hid hcg
            clear hcg
            have hand := u32_and_nat q (classF k (atB g)) (by omega) (by have := class_lt k (atB g); omega)
            go_wp2_with fail
            refine key2.mono ?_
            rintro e w2 ⟨rfl, hb2⟩
            have hbb := hbel.trans (hb2.mono hbel.size)
            clear hb2
            go_wp2_with fail
            refine (stated_any k g B d _ hgm).mono ?_
            rintro e w2' ⟨rfl, rfl⟩
            rw [HCg.out, show ((0 : Int) == 0) = true from rfl]
            go_wp2
            go_roundw
            case rel => exact ⟨i + 1, q &&& classF k (atB g), by go_num, by first | rfl | rw [hand], by omega, Nat.lt_of_le_of_lt Nat.and_le_left hq, by rw [HA.out, HQ.out], HS.out.2 ⟨HFt.out, HLg.out⟩, hbb⟩
            case measure => simp [intOf]; omega
          · have hcf : (codeT k g.length == 0) = false := by simpa using hcg
            rw [if_neg hcg] at key2
            have HC2 := Lib.hid hcf
            generalize hx : codeT k g.length = x at key2 hcg
            have HX2 := Lib.hid hx
            clear hcf hx
            go_wp2_with fail
            refine key2.mono ?_
            rintro e w2 ⟨rfl, hb2⟩
            have hbb := hbel.trans (hb2.mono hbel.size)
            clear hb2
            go_wp2_with fail
            refine (stated_any k g B d _ hgm).mono ?_
            rintro e w2' ⟨rfl, rfl⟩
            rw [HC2.out]
            go_wp2
            go_ret
            exact ⟨ret_bool (by simpa using hcg), hbb⟩
        · obtain rfl : i = gs.length := by omega
          obtain ⟨i0, hi0, hz0, hz1, hz2⟩ := info_parts infoB
          have HI := Lib.hid (And.intro hi0 (And.intro hz0 (And.intro hz1 hz2)))
          clear hi0 hz0 hz1 hz2
          go_wp2
          go_loopw [14, 15] (fun v sv w5 => ∃ s : Nat, sv = .int .i64 s ∧ s ≤ f.length ∧ (∃ l : List Bool, l = tabB s (putF k (atB f) (tabG gs)) ∧ OwnX w5 wr.heap.size v l) ∧ Below wr.heap.size wr w5) (fun _ sv _ => f.length - (intOf sv).toNat)
          case atStart => exact ⟨0, rfl, Nat.zero_le _, ⟨[], rfl, World.ownsRow_nil _ _ _ _⟩, Below.refl _ _⟩
          case round =>
            rename World => w5
            obtain ⟨s, rfl, hs, ⟨l, hl, hown⟩, hb5⟩ := hrel
            have hll : l.length ≤ 16 := by rw [hl]; simp; omega
            have hsz := hb5.size
            have hbb5 := hbel.trans (hb5.mono hbel.size)
            have HL := Lib.hid hl
            have HO := Lib.hid (show _root_.Go.World.ownsRow _ wr.heap.size 4 1 _ l.length (boolsC l) from hown)
            clear hl hown
            by_cases hlt2 : s < f.length
            · go_wp2
              go_loopw [16, 74] (fun nv vv wi => ∃ v x : Nat, vv = .int .i64 v ∧ nv = .int .i64 x ∧ v ≤ gs.length ∧ x = inP (tabG gs) s v ∧ w5 = wi) (fun _ vv _ => gs.length - (intOf vv).toNat)
              case atStart => exact ⟨0, 0, rfl, rfl, Nat.zero_le _, rfl, rfl⟩
              case round =>
                obtain ⟨v, x, rfl, rfl, hv, hx, rfl⟩ := hrel
                have hxl : x < one v := by rw [hx]; exact inP_lt _ _ _
                have HXx := Lib.hid hx
                clear hx
                by_cases hvl : v < gs.length
                · obtain ⟨g, hg⟩ := get_some hvl
                  obtain ⟨hgm, b, off, B, d, rfl, hcell, hrow⟩ := (hr2.below hbb5).at hg
                  have hgl2 : s < g.length := by
                    have h1 := HFt.out g (List.mem_take_iff_getElem.2 ⟨v, by omega, (List.getElem?_eq_some_iff.1 hg).2⟩)
                    rw [h1, ← HLn.out]; exact hlt2
                  obtain ⟨b2, off2, rfl, hcell2⟩ := atB_cell hrow hgl2
                  have HT := Lib.hid (show tabG gs v s = atB g s by rw [tabG_at hg])
                  have h1v := one_i64 v
                  have h1v16 := one_le_16 (show v ≤ 4 by omega)
                  clear hg
                  generalize atB g s = y at hcell2 HT
                  cases y with
                  | true =>
                    have HN := Lib.hid (inP_yes HT.out)
                    go_wp2
                    go_roundw
                    case rel => exact ⟨v + 1, x + one v, by go_num, by go_num, by omega, by rw [HN.out, HXx.out], trivial⟩
                    case measure => simp [intOf]; omega
                  | false =>
                    have HN := Lib.hid (inP_no HT.out)
                    clear h1v
                    go_wp2
                    go_roundw
                    case rel => exact ⟨v + 1, x, by go_num, rfl, by omega, by rw [HN.out, HXx.out], trivial⟩
                    case measure => simp [intOf]; omega
                · obtain rfl : v = gs.length := by omega
                  have hxf : x < f.length := by rw [HLn.out, ← HGk.out]; exact hxl
                  obtain ⟨b1, o1, rfl, q1⟩ := atB_cell (hr.below hbb5) hxf
                  have HS := Lib.hid (show tabB (s + 1) (putF k (atB f) (tabG gs)) = l ++ [atB f x] by rw [HL.out, tabB, List.range_succ, HXx.out, HGk.out]; simp [tabB, putF])
                  generalize atB f x = y at q1 HS
                  obtain ⟨hi0, hz0, hz1, hz2⟩ := HI.out
                  go_wp2_with (first | (at_builtin; refine wpList_append_lies _ rfl _ _ 22 rfl wr.heap.size 4 i0 (.bool false) 1 1 Try.underlying22 hi0 hz0 hz1 hz2 rfl (by decide) _ _ _ rfl (HO.out.alloc _) ⟨_, 0, none⟩ 1 1 [.bool y] rfl rfl (cell_one_new _ _ _) ?c1 (by decide) ?c2 ?c3 ?c4 _ rfl ?c6))
                  case c1 => intro u hu; simp at hu; subst hu; rfl
                  case c2 => unfold maxLen; omega
                  case c3 => omega
                  case c4 => simp; omega
                  case c6 =>
                    intro g3 cap3 w6 hown6 hgrow6 hat6 hlt6
                    have hb7 := (hb5.alloc hsz _).grown hgrow6 (by simp; omega) (fun k hk => (World.ownsRow.lt HO.out k hk).1)
                    have HO6 := Lib.hid hown6
                    clear hown6 hgrow6 hat6
                    go_wp2
                    go_roundw
                    case rel =>
                      refine ⟨s + 1, by go_num, by omega, ⟨_, HS.out.symm, ?_⟩, hb7⟩
                      unfold OwnX
                      rw [boolsC_append, List.length_append]
                      exact HO6.out
                    case measure => simp [intOf]; omega
            · obtain rfl : s = f.length := by omega
              obtain ⟨Al, cpl, rfl, hrl, _⟩ := OwnX.row HO.out
              have hlb : l.length = f.length := by rw [HL.out]; simp
              have hcl2 : codeT k l.length = 0 := by rw [hlb]; exact HC.out
              have key5 := hF k l Al cpl _ (by omega) hrl (hX.below hbb5)
              rw [hcl2, if_pos rfl, Int.toNat_natCast] at key5
              have HP := Lib.hid (show sub q (classF k (atB l)) = true by
                rw [class_congr (G := putF k (atB f) (tabG gs)) (fun i hi => by rw [HL.out, HLn.out]; exact atB_tabB _ hi), HQ.out]
                refine post hk (allP_f _ _ _ _) fun v hv => ?_
                obtain ⟨g, hg⟩ := get_some (show v < gs.length by rw [HGk.out]; exact hv)
                rw [tabG_at hg]
                exact allP_g hg _ (by rw [HGk.out]; exact hv))
              clear hlb hcl2 hrl
              have hkl := class_lt k (atB l)
              go_wp2_with fail
              refine key5.mono ?_
              rintro e w6 ⟨rfl, hb6⟩
              have hb06 := hbb5.trans (hb6.mono hbb5.size)
              have hrow1 := row_new w6 w6.heap.size rfl (boolsC [true]) 4
              have hb7 := hb06.alloc hb06.size (.cells (boolsC [true]).toArray 4)
              have key6 := hF 0 [true] (some ⟨w6.heap.size, 0, none⟩) 1 _ (by simp [maxLen]) hrow1 (hX.below hb7)
              rw [show codeT 0 [true].length = 0 from codeT_ok (n := 0) (by decide), if_pos rfl, show (0 : Int).toNat = 0 from rfl, class_true] at key6
              clear hb6 hrow1 key5
              go_wp2_with fail
              refine key6.mono ?_
              rintro e w7 ⟨rfl, hb8⟩
              have hb78 := hb7.trans (hb8.mono hb7.size)
              clear hb8 key6
              go_wp2_with fail
              refine (In_any q (classF k (atB l)) (by omega) (by omega) _).mono ?_
              rintro e w8 ⟨rfl, rfl⟩
              rw [show (q ||| classF k (atB l) == classF k (atB l)) = true from HP.out]
              go_wp2
              go_ret
              exact ⟨rfl, hb78⟩
    · have hgi : ((gs.length : Int) != (k : Int)) = true := by simp; omega
      go_wp2
      go_ret
      exact ⟨rfl, hb1⟩
  · have HC := Lib.hid hc
    rw [if_neg hc] at key
    have hcf : (codeT n f.length == 0) = false := by simpa using hc
    have HF := Lib.hid hcf
    generalize hq : codeT n f.length = q at key
    have HQ := Lib.hid hq
    have hq0 : q ≠ 0 := by rw [← HQ.out]; exact HC.out
    clear hc hq hcf
    go_enter Try.func10, Try.ntmps10
    go_wp2_with fail
    refine key.mono ?_
    rintro e w1 ⟨rfl, hb1⟩
    go_wp2_with fail
    refine (stated_any n f A c _ hm).mono ?_
    rintro e w1' ⟨rfl, rfl⟩
    rw [HF.out]
    go_wp2
    go_ret
    exact ⟨ret_bool (by simpa using hq0), hb1⟩

end Go.Proofs.Ytcokpjffgeihbaa
