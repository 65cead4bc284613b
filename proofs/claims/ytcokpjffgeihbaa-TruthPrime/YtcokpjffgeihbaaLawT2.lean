/- The laws on Dual and Sums: twice, and of two tables; from contracts. -/
import Derived.Test.YtcokpjffgeihbaaLawT1
import Derived.Deep.RegionLaw
namespace Go.Proofs.Ytcokpjffgeihbaa
open Go.RowKit

theorem dualF_congr {k : Nat} {F G : Nat → Bool} (h : ∀ i, i < one k → F i = G i) {s : Nat} (hs : s < one k) : dualF k F s = dualF k G s := by
  unfold dualF
  rw [h]
  have := full_lt k
  omega
theorem dualF_dualF {k : Nat} {F : Nat → Bool} {s : Nat} (hs : s < one k) : dualF k (dualF k F) s = F s := by
  unfold dualF
  rw [Bool.not_not]
  congr 1
  have := full_lt k
  have : s ≤ full k := by unfold full; omega
  omega
theorem dual_twice {k : Nat} {f : List Bool} (_hk : k ≤ 4) (hf : f.length = one k) : tabB (one k) (dualF k (atB (tabB (one k) (dualF k (atB f))))) = f := by
  have h2 := tabB_self f
  rw [hf] at h2
  rw [← h2]
  refine tabB_congr fun s hs => ?_
  rw [h2, dualF_congr (G := dualF k (atB f)) (fun i hi => atB_tabB _ hi) hs, dualF_dualF hs]
theorem sums_twice {k : Nat} {f : List Bool} (_hk : k ≤ 4) (hf : f.length = one k) : tabB (one k) (mob k (atB (tabB (one k) (mob k (atB f))))) = f := by
  have h2 := tabB_self f
  rw [hf] at h2
  rw [← h2]
  refine tabB_congr fun s hs => ?_
  rw [h2, mob_congr (G := mob k (atB f)) (fun i hi => atB_tabB _ hi), mob_mob k _ s hs]
theorem TruthDual_at {k s : Nat} {f g l : List Bool} (_hk : k ≤ 4) (hs : s < one k) (hl : l = tabB (one k) (fun i => atB f i && atB g i)) : dualF k (atB l) s = (dualF k (atB f) s || dualF k (atB g) s) := by
  rw [hl, dualF_congr (G := fun i => atB f i && atB g i) (fun i hi => atB_tabB _ hi) hs]
  unfold dualF
  rw [Bool.not_and]
theorem TruthSum_at {k s : Nat} {f g l : List Bool} (_hk : k ≤ 4) (_hs : s < one k) (hl : l = tabB (one k) (fun i => atB f i != atB g i)) : mob k (atB l) s = (mob k (atB f) s != mob k (atB g) s) := by
  rw [hl, mob_congr (G := fun i => atB f i ^^ atB g i) (fun i hi => by rw [atB_tabB _ hi]), mob_xor]

set_option maxRecDepth 100000 in
set_option maxHeartbeats 4000000 in
theorem TruthDual_with (hF : TDualOk 12) (n : Int) (f : List Bool) (A : Option Addr) (c : Nat) (g : List Bool) (A2 : Option Addr) (c2 : Nat) (w : World) (hm : f.length ≤ maxLen) (hr : Row w A (boolsC f)) (hm2 : g.length ≤ maxLen) (hr2 : Row w A2 (boolsC g)) (hX : Laid w) :
    Calls Try.prog 8 #[.int .i64 n, .slice A f.length c, .slice A2 g.length c2] w fun e w' => e = .returned (.bool true) ∧ Below w.heap.size w w' := by
  have key := hF n f A c w hm hr hX
  by_cases hc : codeT n f.length = 0
  · obtain ⟨k, rfl, hk, hl⟩ := codeT_zero hc
    have h16 := one_le_16 hk
    have h1p := one_pos k
    rw [hc, if_pos rfl, Int.toNat_natCast] at key
    have HC := Lib.hid hc
    have HLn := Lib.hid hl
    have hf16 : f.length ≤ 16 := by omega
    clear hc hl
    go_enter Try.func8, Try.ntmps8
    go_wp2_with fail
    refine key.mono ?_
    rintro e w1 ⟨Aa, ca, a, rfl, ha, hra, hb1⟩
    have hla : a.length = f.length := by rw [ha, HLn.out]; simp
    have HLa := Lib.hid hla
    have HA := Lib.hid ha
    have hca : codeT k a.length = 0 := by rw [hla]; exact HC.out
    have key2 := hF k a Aa ca w1 (by omega) hra (hX.below hb1)
    rw [hca, if_pos rfl, Int.toNat_natCast] at key2
    have hlx : a.length ≤ 16 := by omega
    clear hla ha key hca
    go_wp2_with fail
    refine (stated_any k f A c _ hm).mono ?_
    rintro e w1' ⟨rfl, rfl⟩
    rw [HC.out, show ((0 : Int) == 0) = true from rfl]
    go_wp2_with fail
    refine key2.mono ?_
    rintro e w2 ⟨Ab, cb, b, rfl, hbv, hrb, hb2⟩
    have hbf : b = f := by rw [hbv, HA.out]; exact dual_twice hk HLn.out
    subst hbf
    have hb12 := hb1.trans (hb2.mono hb1.size)
    have hra2 := hra.below hb2
    have hbo := Bools_any b b Ab A cb c w2 hrb (hr.below hb12) (by omega) (by omega)
    rw [decide_eq_true rfl] at hbo
    have hne : ((a.length : Int) != (b.length : Int)) = false := by rw [HLa.out]; simp
    clear hbv key2 hb2 hb1 hra hrb
    go_wp2_with fail
    refine hbo.mono ?_
    rintro e w3 ⟨rfl, d3, hw3⟩
    have hb3 : Below w.heap.size w w3 := by rw [hw3]; exact below_drewN hb12 _
    have hra3 : Row w3 Aa (boolsC a) := by rw [hw3]; exact hra2
    clear hw3 hbo hb12 hra2
    have key3 := hF k g A2 c2 w3 hm2 (hr2.below hb3) (hX.below hb3)
    by_cases hcg : codeT k g.length = 0
    · have HLg := Lib.hid (show g.length = one k by obtain ⟨k', e', _, h'⟩ := codeT_zero hcg; obtain rfl : k = k' := (by omega); exact h')
      rw [hcg, if_pos rfl, Int.toNat_natCast] at key3
      have HCg := Lib.hid hcg
      clear hcg
      go_wp2_with fail
      refine (stated_any k g A2 c2 _ hm2).mono ?_
      rintro e w3' ⟨rfl, rfl⟩
      rw [HCg.out, show ((0 : Int) == 0) = true from rfl]
      go_wp2_with fail
      refine key3.mono ?_
      rintro e w4 ⟨Ac, cc, cl, rfl, hcl, hrc, hb4⟩
      have hb34 := hb3.trans (hb4.mono hb3.size)
      have hra4 := hra3.below hb4
      have HLc := Lib.hid (show cl.length = b.length by rw [hcl, HLn.out]; simp)
      have hnc : ((cl.length : Int) != (b.length : Int)) = false := by rw [HLc.out]; simp
      have HCl := Lib.hid hcl
      have hrg4 := (hr2.below hb34)
      have hrf4 := (hr.below hb34)
      obtain ⟨i0, hi, hz0, hz1, hz2⟩ := info_parts infoB
      have HI := Lib.hid (And.intro hi (And.intro hz0 (And.intro hz1 hz2)))
      clear hi hz0 hz1 hz2
      clear hcl key3 hb4 hra3 hb3
      go_wp2
      go_loopw [12, 13] (fun v sv wr => ∃ s : Nat, sv = .int .i64 s ∧ s ≤ b.length ∧ (∃ l : List Bool, l = tabB s (fun i => atB b i && atB g i) ∧ OwnX wr w4.heap.size v l) ∧ Below w4.heap.size w4 wr) (fun _ sv _ => b.length - (intOf sv).toNat)
      case atStart => exact ⟨0, rfl, Nat.zero_le _, ⟨[], rfl, World.ownsRow_nil _ _ _ _⟩, Below.refl _ _⟩
      case round =>
        obtain ⟨s, rfl, hs, ⟨l, hl, hown⟩, hb5⟩ := hrel
        have hll : l.length ≤ 16 := by rw [hl]; simp; omega
        have hsz := hb5.size
        have HL := Lib.hid hl
        have HO := Lib.hid (show _root_.Go.World.ownsRow _ w4.heap.size 4 1 _ l.length (boolsC l) from hown)
        clear hl hown
        by_cases hlt : s < b.length
        · have hltg : s < g.length := by rw [HLg.out, ← HLn.out]; exact hlt
          obtain ⟨b1, o1, rfl, q1⟩ := atB_cell (hrf4.below hb5) hlt
          obtain ⟨b2, o2, rfl, q2⟩ := atB_cell (hrg4.below hb5) hltg
          have HS := Lib.hid (show tabB (s + 1) (fun i => atB b i && atB g i) = l ++ [atB b s && atB g s] by rw [HL.out, tabB, List.range_succ]; simp [tabB])
          generalize atB b s = x at q1 HS
          generalize atB g s = y at q2 HS
          obtain ⟨hi, hz0, hz1, hz2⟩ := HI.out
          cases x
          · go_wp2_with (first | (at_builtin; refine wpList_append_lies _ rfl _ _ 22 rfl w4.heap.size 4 i0 (.bool false) 1 1 Try.underlying22 hi hz0 hz1 hz2 rfl (by decide) _ _ _ rfl (HO.out.alloc _) ⟨_, 0, none⟩ 1 1 [.bool (false)] rfl rfl (cell_one_new _ _ _) ?c1 (by decide) ?c2 ?c3 ?c4 _ rfl ?c6))
            case c1 => intro u hu; simp at hu; subst hu; rfl
            case c2 => unfold maxLen; omega
            case c3 => omega
            case c4 => simp; omega
            case c6 =>
              intro g3 cap3 w5 hown5 hgrow5 hat5 hlt5
              have hb7 := (hb5.alloc hsz _).grown hgrow5 (by simp; omega) (fun k hk => (World.ownsRow.lt HO.out k hk).1)
              have HO5 := Lib.hid hown5
              clear hown5 hgrow5 hat5
              go_wp2
              go_roundw
              case rel =>
                refine ⟨s + 1, by go_num, by omega, ⟨_, HS.out.symm, ?_⟩, hb7⟩
                unfold OwnX
                rw [boolsC_append, List.length_append]
                exact HO5.out
              case measure => simp [intOf]; omega
          · go_wp2_with (first | (at_builtin; refine wpList_append_lies _ rfl _ _ 22 rfl w4.heap.size 4 i0 (.bool false) 1 1 Try.underlying22 hi hz0 hz1 hz2 rfl (by decide) _ _ _ rfl (HO.out.alloc _) ⟨_, 0, none⟩ 1 1 [.bool (y)] rfl rfl (cell_one_new _ _ _) ?c1 (by decide) ?c2 ?c3 ?c4 _ rfl ?c6))
            case c1 => intro u hu; simp at hu; subst hu; rfl
            case c2 => unfold maxLen; omega
            case c3 => omega
            case c4 => simp; omega
            case c6 =>
              intro g3 cap3 w5 hown5 hgrow5 hat5 hlt5
              have hb7 := (hb5.alloc hsz _).grown hgrow5 (by simp; omega) (fun k hk => (World.ownsRow.lt HO.out k hk).1)
              have HO5 := Lib.hid hown5
              clear hown5 hgrow5 hat5
              go_wp2
              go_roundw
              case rel =>
                refine ⟨s + 1, by go_num, by omega, ⟨_, HS.out.symm, ?_⟩, hb7⟩
                unfold OwnX
                rw [boolsC_append, List.length_append]
                exact HO5.out
              case measure => simp [intOf]; omega
        · obtain rfl : s = b.length := by omega
          obtain ⟨Al, cpl, rfl, hrl, _⟩ := OwnX.row HO.out
          have hlb : l.length = b.length := by rw [HL.out]; simp
          have hcl2 : codeT k l.length = 0 := by rw [hlb]; exact HC.out
          have key5 := hF k l Al cpl _ (by omega) hrl (hX.below (hb34.trans (hb5.mono hb34.size)))
          rw [hcl2, if_pos rfl, Int.toNat_natCast] at key5
          have HLl := Lib.hid hlb
          have hb45 := hb34.trans (hb5.mono hb34.size)
          have hra5 := hra4.below hb5
          have hrc5 := hrc.below hb5
          clear hlb hcl2 HO hrl hb5 hra4 hrc
          go_wp2_with fail
          refine key5.mono ?_
          rintro e w6 ⟨Ad, cd, dl, rfl, hdl, hrd, hb6⟩
          have hb46 := hb45.trans (hb6.mono hb45.size)
          have hra6 := hra5.below hb6
          have hrc6 := hrc5.below hb6
          have HLd := Lib.hid (show dl.length = b.length by rw [hdl, HLn.out]; simp)
          have hnd : ((dl.length : Int) != (b.length : Int)) = false := by rw [HLd.out]; simp
          have HD := Lib.hid hdl
          clear hdl key5 hb6 hb45 hra5 hrc5
          go_wp2
          go_loopw [16] (fun sv wr => ∃ s d : Nat, sv = .int .i64 s ∧ s ≤ b.length ∧ wr = w6.drewN d) (fun sv _ => b.length - (intOf sv).toNat)
          case atStart => exact ⟨0, 0, rfl, Nat.zero_le _, rfl⟩
          case round =>
            obtain ⟨s, d, rfl, hs2, rfl⟩ := hrel
            by_cases hlt2 : s < b.length
            · have s1 : s < a.length := by rw [HLa.out]; exact hlt2
              have s2 : s < cl.length := by rw [HLc.out]; exact hlt2
              have s3 : s < dl.length := by rw [HLd.out]; exact hlt2
              obtain ⟨b1, o1, rfl, q1⟩ := atB_cell hra6 s1
              obtain ⟨b2, o2, rfl, q2⟩ := atB_cell hrc6 s2
              obtain ⟨b3, o3, rfl, q3⟩ := atB_cell hrd s3
              have HE := Lib.hid (show atB dl s = (atB a s || atB cl s) by
                have hsk : s < one k := by rw [← HLn.out]; exact hlt2
                rw [HD.out, HA.out, HCl.out, atB_tabB _ hsk, atB_tabB _ hsk, atB_tabB _ hsk]
                exact TruthDual_at hk (by rw [← HLn.out]; exact hlt2) (by rw [HL.out, HLn.out]))
              generalize atB a s = x at q1 HE
              generalize atB cl s = y at q2 HE
              rw [HE.out] at q3
              cases x <;> cases y
              all_goals
                go_wp2
                go_quiet (fail)
                go_wp2
                go_roundw
                case rel => exact ⟨s + 1, _, by go_num, by omega, by first | rfl | exact World.drewN_drewN _ _ _⟩
                case measure => simp [intOf]; omega
            · go_wp2
              go_ret
              exact ⟨rfl, below_drewN hb46 _⟩
    · have hcf : (codeT k g.length == 0) = false := by simpa using hcg
      go_wp2_with fail
      refine (stated_any k g A2 c2 _ hm2).mono ?_
      rintro e w3' ⟨rfl, rfl⟩
      rw [hcf]
      go_wp2
      go_ret
      exact ⟨rfl, hb3⟩
  · have HC := Lib.hid hc
    rw [if_neg hc] at key
    have hcf : (codeT n f.length == 0) = false := by simpa using hc
    have HF := Lib.hid hcf
    generalize hq : codeT n f.length = q at key
    have HQ := Lib.hid hq
    have hq0 : q ≠ 0 := by rw [← HQ.out]; exact HC.out
    clear hc hq hcf
    go_enter Try.func8, Try.ntmps8
    go_wp2_with fail
    refine key.mono ?_
    rintro e w1 ⟨Aa, ca, a, rfl, rfl, hra, hb1⟩
    go_wp2_with fail
    refine (stated_any n f A c _ hm).mono ?_
    rintro e w1' ⟨rfl, rfl⟩
    rw [HF.out]
    go_wp2
    go_ret
    exact ⟨ret_bool (by simpa using hq0), hb1⟩

set_option maxRecDepth 100000 in
set_option maxHeartbeats 4000000 in
theorem TruthSum_with (hF : TSumsOk 16) (n : Int) (f : List Bool) (A : Option Addr) (c : Nat) (g : List Bool) (A2 : Option Addr) (c2 : Nat) (w : World) (hm : f.length ≤ maxLen) (hr : Row w A (boolsC f)) (hm2 : g.length ≤ maxLen) (hr2 : Row w A2 (boolsC g)) (hX : Laid w) :
    Calls Try.prog 9 #[.int .i64 n, .slice A f.length c, .slice A2 g.length c2] w fun e w' => e = .returned (.bool true) ∧ Below w.heap.size w w' := by
  have key := hF n f A c w hm hr hX
  by_cases hc : codeT n f.length = 0
  · obtain ⟨k, rfl, hk, hl⟩ := codeT_zero hc
    have h16 := one_le_16 hk
    have h1p := one_pos k
    rw [hc, if_pos rfl, Int.toNat_natCast] at key
    have HC := Lib.hid hc
    have HLn := Lib.hid hl
    have hf16 : f.length ≤ 16 := by omega
    clear hc hl
    go_enter Try.func9, Try.ntmps9
    go_wp2_with fail
    refine key.mono ?_
    rintro e w1 ⟨Aa, ca, a, rfl, ha, hra, hb1⟩
    have hla : a.length = f.length := by rw [ha, HLn.out]; simp
    have HLa := Lib.hid hla
    have HA := Lib.hid ha
    have hca : codeT k a.length = 0 := by rw [hla]; exact HC.out
    have key2 := hF k a Aa ca w1 (by omega) hra (hX.below hb1)
    rw [hca, if_pos rfl, Int.toNat_natCast] at key2
    have hlx : a.length ≤ 16 := by omega
    clear hla ha key hca
    go_wp2_with fail
    refine (stated_any k f A c _ hm).mono ?_
    rintro e w1' ⟨rfl, rfl⟩
    rw [HC.out, show ((0 : Int) == 0) = true from rfl]
    go_wp2_with fail
    refine key2.mono ?_
    rintro e w2 ⟨Ab, cb, b, rfl, hbv, hrb, hb2⟩
    have hbf : b = f := by rw [hbv, HA.out]; exact sums_twice hk HLn.out
    subst hbf
    have hb12 := hb1.trans (hb2.mono hb1.size)
    have hra2 := hra.below hb2
    have hbo := Bools_any b b Ab A cb c w2 hrb (hr.below hb12) (by omega) (by omega)
    rw [decide_eq_true rfl] at hbo
    have hne : ((a.length : Int) != (b.length : Int)) = false := by rw [HLa.out]; simp
    clear hbv key2 hb2 hb1 hra hrb
    go_wp2_with fail
    refine hbo.mono ?_
    rintro e w3 ⟨rfl, d3, hw3⟩
    have hb3 : Below w.heap.size w w3 := by rw [hw3]; exact below_drewN hb12 _
    have hra3 : Row w3 Aa (boolsC a) := by rw [hw3]; exact hra2
    clear hw3 hbo hb12 hra2
    have key3 := hF k g A2 c2 w3 hm2 (hr2.below hb3) (hX.below hb3)
    by_cases hcg : codeT k g.length = 0
    · have HLg := Lib.hid (show g.length = one k by obtain ⟨k', e', _, h'⟩ := codeT_zero hcg; obtain rfl : k = k' := (by omega); exact h')
      rw [hcg, if_pos rfl, Int.toNat_natCast] at key3
      have HCg := Lib.hid hcg
      clear hcg
      go_wp2_with fail
      refine (stated_any k g A2 c2 _ hm2).mono ?_
      rintro e w3' ⟨rfl, rfl⟩
      rw [HCg.out, show ((0 : Int) == 0) = true from rfl]
      go_wp2_with fail
      refine key3.mono ?_
      rintro e w4 ⟨Ac, cc, cl, rfl, hcl, hrc, hb4⟩
      have hb34 := hb3.trans (hb4.mono hb3.size)
      have hra4 := hra3.below hb4
      have HLc := Lib.hid (show cl.length = b.length by rw [hcl, HLn.out]; simp)
      have hnc : ((cl.length : Int) != (b.length : Int)) = false := by rw [HLc.out]; simp
      have HCl := Lib.hid hcl
      have hrg4 := (hr2.below hb34)
      have hrf4 := (hr.below hb34)
      obtain ⟨i0, hi, hz0, hz1, hz2⟩ := info_parts infoB
      have HI := Lib.hid (And.intro hi (And.intro hz0 (And.intro hz1 hz2)))
      clear hi hz0 hz1 hz2
      clear hcl key3 hb4 hra3 hb3
      go_wp2
      go_loopw [12, 13] (fun v sv wr => ∃ s : Nat, sv = .int .i64 s ∧ s ≤ b.length ∧ (∃ l : List Bool, l = tabB s (fun i => atB b i != atB g i) ∧ OwnX wr w4.heap.size v l) ∧ Below w4.heap.size w4 wr) (fun _ sv _ => b.length - (intOf sv).toNat)
      case atStart => exact ⟨0, rfl, Nat.zero_le _, ⟨[], rfl, World.ownsRow_nil _ _ _ _⟩, Below.refl _ _⟩
      case round =>
        obtain ⟨s, rfl, hs, ⟨l, hl, hown⟩, hb5⟩ := hrel
        have hll : l.length ≤ 16 := by rw [hl]; simp; omega
        have hsz := hb5.size
        have HL := Lib.hid hl
        have HO := Lib.hid (show _root_.Go.World.ownsRow _ w4.heap.size 4 1 _ l.length (boolsC l) from hown)
        clear hl hown
        by_cases hlt : s < b.length
        · have hltg : s < g.length := by rw [HLg.out, ← HLn.out]; exact hlt
          obtain ⟨b1, o1, rfl, q1⟩ := atB_cell (hrf4.below hb5) hlt
          obtain ⟨b2, o2, rfl, q2⟩ := atB_cell (hrg4.below hb5) hltg
          have HS := Lib.hid (show tabB (s + 1) (fun i => atB b i != atB g i) = l ++ [atB b s != atB g s] by rw [HL.out, tabB, List.range_succ]; simp [tabB])
          generalize atB b s = x at q1 HS
          generalize atB g s = y at q2 HS
          obtain ⟨hi, hz0, hz1, hz2⟩ := HI.out
          have HA2 := Lib.hid (fun o : Obj => show ((wr.alloc o).drew).ownsRow w4.heap.size 4 1 u12 l.length (boolsC l) from HO.out.alloc o)
          have H63 := Lib.hid (show l.length + 1 ≤ maxLen by unfold maxLen; omega)
          have HBy := Lib.hid (show (l.length + 1) * 1 ≤ 140737488355328 by omega)
          have HOne := Lib.hid (show ∀ u ∈ [Value.bool (x != y)], u.oneCell' = true by intro u hu; simp at hu; subst hu; rfl)
          have HBase := Lib.hid (fun o : Obj => show w4.heap.size ≤ ((wr.alloc o).drew).heap.size by show _ ≤ (wr.alloc o).heap.size; simp; omega)
          have HNews := Lib.hid (show ∀ j u, [Value.bool (x != y)][j]? = some u → ((wr.alloc (.cells #[.bool (x != y)] 4)).drew).cell? ((⟨wr.heap.size, 0, none⟩ : Addr).add j) = some u from cell_one_new wr _ _)
          go_wp2
          go_region_law ((refine step_append_lies _ rfl (.tmp 70) (.tmp 80) 22 rfl w4.heap.size 4 i0 (.bool false) 1 1 Try.underlying22 hi hz0 hz1 hz2 rfl (by decide) u12 l.length (boolsC l) (by simp [Act.eval]) (HA2.out _) ⟨wr.heap.size, 0, none⟩ 1 1 [.bool (x != y)] (by simp [Act.eval]) rfl HNews.out HOne.out (by decide) H63.out HBy.out (HBase.out _) _ rfl ?_; intro g3 cap3 w5 hown5 hgrow5 hat5 hlt5))
          all_goals
            have hb7 := ((hb5.alloc hsz _).drew).grown hgrow5 (HBase.out _) (fun k hk => (World.ownsRow.lt HO.out k hk).1)
            have HO5 := Lib.hid hown5
            clear hown5 hgrow5 hat5
            go_wp2
            go_roundw
            case rel =>
              refine ⟨s + 1, by go_num, by omega, ⟨_, HS.out.symm, ?_⟩, hb7⟩
              unfold OwnX
              rw [boolsC_append, List.length_append]
              exact HO5.out
            case measure => simp [intOf]; omega
        · obtain rfl : s = b.length := by omega
          obtain ⟨Al, cpl, rfl, hrl, _⟩ := OwnX.row HO.out
          have hlb : l.length = b.length := by rw [HL.out]; simp
          have hcl2 : codeT k l.length = 0 := by rw [hlb]; exact HC.out
          have key5 := hF k l Al cpl _ (by omega) hrl (hX.below (hb34.trans (hb5.mono hb34.size)))
          rw [hcl2, if_pos rfl, Int.toNat_natCast] at key5
          have HLl := Lib.hid hlb
          have hb45 := hb34.trans (hb5.mono hb34.size)
          have hra5 := hra4.below hb5
          have hrc5 := hrc.below hb5
          clear hlb hcl2 HO hrl hb5 hra4 hrc
          go_wp2_with fail
          refine key5.mono ?_
          rintro e w6 ⟨Ad, cd, dl, rfl, hdl, hrd, hb6⟩
          have hb46 := hb45.trans (hb6.mono hb45.size)
          have hra6 := hra5.below hb6
          have hrc6 := hrc5.below hb6
          have HLd := Lib.hid (show dl.length = b.length by rw [hdl, HLn.out]; simp)
          have hnd : ((dl.length : Int) != (b.length : Int)) = false := by rw [HLd.out]; simp
          have HD := Lib.hid hdl
          clear hdl key5 hb6 hb45 hra5 hrc5
          go_wp2
          go_loopw [16] (fun sv wr => ∃ s d : Nat, sv = .int .i64 s ∧ s ≤ b.length ∧ wr = w6.drewN d) (fun sv _ => b.length - (intOf sv).toNat)
          case atStart => exact ⟨0, 0, rfl, Nat.zero_le _, rfl⟩
          case round =>
            obtain ⟨s, d, rfl, hs2, rfl⟩ := hrel
            by_cases hlt2 : s < b.length
            · have s1 : s < a.length := by rw [HLa.out]; exact hlt2
              have s2 : s < cl.length := by rw [HLc.out]; exact hlt2
              have s3 : s < dl.length := by rw [HLd.out]; exact hlt2
              obtain ⟨b1, o1, rfl, q1⟩ := atB_cell hra6 s1
              obtain ⟨b2, o2, rfl, q2⟩ := atB_cell hrc6 s2
              obtain ⟨b3, o3, rfl, q3⟩ := atB_cell hrd s3
              have HE := Lib.hid (show atB dl s = (atB a s != atB cl s) by
                have hsk : s < one k := by rw [← HLn.out]; exact hlt2
                rw [HD.out, HA.out, HCl.out, atB_tabB _ hsk, atB_tabB _ hsk, atB_tabB _ hsk]
                exact TruthSum_at hk (by rw [← HLn.out]; exact hlt2) (by rw [HL.out, HLn.out]))
              generalize atB a s = x at q1 HE
              generalize atB cl s = y at q2 HE
              rw [HE.out] at q3
              cases x <;> cases y
              all_goals
                go_wp2
                go_quiet (fail)
                go_wp2
                go_roundw
                case rel => exact ⟨s + 1, _, by go_num, by omega, by first | rfl | exact World.drewN_drewN _ _ _⟩
                case measure => simp [intOf]; omega
            · go_wp2
              go_ret
              exact ⟨rfl, below_drewN hb46 _⟩
    · have hcf : (codeT k g.length == 0) = false := by simpa using hcg
      go_wp2_with fail
      refine (stated_any k g A2 c2 _ hm2).mono ?_
      rintro e w3' ⟨rfl, rfl⟩
      rw [hcf]
      go_wp2
      go_ret
      exact ⟨rfl, hb3⟩
  · have HC := Lib.hid hc
    rw [if_neg hc] at key
    have hcf : (codeT n f.length == 0) = false := by simpa using hc
    have HF := Lib.hid hcf
    generalize hq : codeT n f.length = q at key
    have HQ := Lib.hid hq
    have hq0 : q ≠ 0 := by rw [← HQ.out]; exact HC.out
    clear hc hq hcf
    go_enter Try.func9, Try.ntmps9
    go_wp2_with fail
    refine key.mono ?_
    rintro e w1 ⟨Aa, ca, a, rfl, rfl, hra, hb1⟩
    go_wp2_with fail
    refine (stated_any n f A c _ hm).mono ?_
    rintro e w1' ⟨rfl, rfl⟩
    rw [HF.out]
    go_wp2
    go_ret
    exact ⟨ret_bool (by simpa using hq0), hb1⟩

end Go.Proofs.Ytcokpjffgeihbaa
