/- Bryant's second law, on And, from contracts. -/
import Derived.Test.YtnoehmokaeegeaaLawH2
namespace Go.Proofs.Ytnoehmokaeegeaa
open Go.RowKit

set_option maxRecDepth 100000 in
set_option maxHeartbeats 4000000 in
theorem ChoiceAnd_with (hF : HBuildOk 8) (hR : HReadOk 12) (hA : HAndOk 16) (n : Int) (f : List Bool) (A : Option Addr) (c : Nat) (g : List Bool) (B : Option Addr) (d : Nat) (w : World) (hm : f.length ≤ maxLen) (hr : Row w A (boolsC f)) (hm2 : g.length ≤ maxLen) (hr2 : Row w B (boolsC g)) (hX : Laid w) :
    Calls Try.prog 7 #[.int .i64 n, .slice A f.length c, .slice B g.length d] w fun e w' => e = .returned (.bool true) ∧ Below w.heap.size w w' := by
  have key := hF n f A c w hm hr hX
  have key2 := fun w1 hb => hF n g B d w1 hm2 (hr2.below hb) (hX.below hb)
  by_cases hcf : codeT n f.length = 0
  · by_cases hcg : codeT n g.length = 0
    · obtain ⟨k, rfl, hk, hl⟩ := codeT_zero hcf
      have HLg := Lib.hid (show g.length = one k by obtain ⟨k', e', _, h'⟩ := codeT_zero hcg; obtain rfl : k = k' := (by omega); exact h')
      have h16 := one_le_16 hk
      have hf16 : f.length ≤ 16 := by omega
      rw [hcf, if_pos rfl, Int.toNat_natCast] at key
      rw [hcg, if_pos rfl, Int.toNat_natCast] at key2
      have HCf := Lib.hid hcf
      have HCg := Lib.hid hcg
      have HLf := Lib.hid hl
      clear hcf hcg hl
      go_enter Try.func7, Try.ntmps7
      go_wp2_with fail
      refine key.mono ?_
      rintro e w1 ⟨A1, c1, a, x, rfl, hax, hr1, hb1, hk1⟩
      have HA := Lib.hid hax
      clear hax key
      go_wp2_with fail
      refine (key2 w1 hb1).mono ?_
      rintro e w2 ⟨A3, c3, b, y, rfl, hby, hr3, hb2, hk2⟩
      have HB := Lib.hid hby
      have hb12 := hb1.trans (hb2.mono hb1.size)
      have hr1' := hr1.below hb2
      clear hby key2 hr1 hb1 hb2
      go_wp2_with fail
      refine (stated_any k f A c _ hm).mono ?_
      rintro e w2' ⟨rfl, rfl⟩
      rw [HCf.out, show ((0 : Int) == 0) = true from rfl]
      go_wp2_with fail
      refine (stated_any k g B d _ hm2).mono ?_
      rintro e w2' ⟨rfl, rfl⟩
      rw [HCg.out, show ((0 : Int) == 0) = true from rfl]
      obtain ⟨i0, hi, hz0, hz1, hz2⟩ := info_parts infoB
      have HI := Lib.hid (And.intro hi (And.intro hz0 (And.intro hz1 hz2)))
      clear hi hz0 hz1 hz2
      have hrf2 := hr.below hb12
      have hrg2 := hr2.below hb12
      go_wp2
      go_loopw [13, 14] (fun v sv wr => ∃ s : Nat, sv = .int .i64 s ∧ s ≤ f.length ∧ (∃ l : List Bool, l = tabB s (fun i => atB f i && atB g i) ∧ OwnX wr w2.heap.size v l) ∧ Below w2.heap.size w2 wr) (fun _ sv _ => f.length - (intOf sv).toNat)
      case atStart => exact ⟨0, rfl, Nat.zero_le _, ⟨[], rfl, World.ownsRow_nil _ _ _ _⟩, Below.refl _ _⟩
      case round =>
        obtain ⟨s, rfl, hs, ⟨l, hl, hown⟩, hb5⟩ := hrel
        have hll : l.length ≤ 16 := by rw [hl]; simp; omega
        have hsz := hb5.size
        have HL := Lib.hid hl
        have HO := Lib.hid (show _root_.Go.World.ownsRow _ w2.heap.size 4 1 _ l.length (boolsC l) from hown)
        clear hl hown
        by_cases hlt : s < f.length
        · have hltg : s < g.length := by rw [HLg.out, ← HLf.out]; exact hlt
          obtain ⟨b1, o1, rfl, q1⟩ := atB_cell (hrf2.below hb5) hlt
          obtain ⟨b2, o2, rfl, q2⟩ := atB_cell (hrg2.below hb5) hltg
          have HS := Lib.hid (show tabB (s + 1) (fun i => atB f i && atB g i) = l ++ [atB f s && atB g s] by rw [HL.out, tabB_succ])
          generalize atB f s = p at q1 HS
          generalize atB g s = q at q2 HS
          obtain ⟨hi, hz0, hz1, hz2⟩ := HI.out
          cases p
          · go_wp2_with (first | (at_builtin; refine wpList_append_lies _ rfl _ _ 22 rfl w2.heap.size 4 i0 (.bool false) 1 1 Try.underlying22 hi hz0 hz1 hz2 rfl (by decide) _ _ _ rfl (HO.out.alloc _) ⟨_, 0, none⟩ 1 1 [.bool (false)] rfl rfl (cell_one_new _ _ _) ?c1 (by decide) ?c2 ?c3 ?c4 _ rfl ?c6))
            case c1 => intro u hu; simp at hu; subst hu; rfl
            case c2 => unfold maxLen; omega
            case c3 => omega
            case c4 => simp; omega
            case c6 =>
              intro g3 cap3 w5 hown5 hgrow5 hat5 hlt5
              have hb7 := (hb5.alloc hsz _).grown hgrow5 (by simp; omega) (fun k hk => (World.ownsRow.lt HO.out k hk).1)
              have HO5 := Lib.hid hown5
              clear hown5 hgrow5 hat5
              go_wp2
              go_roundw
              case rel =>
                refine ⟨s + 1, by go_num, by omega, ⟨_, HS.out.symm, ?_⟩, hb7⟩
                unfold OwnX
                rw [boolsC_append, List.length_append]
                exact HO5.out
              case measure => simp [intOf]; omega
          · go_wp2_with (first | (at_builtin; refine wpList_append_lies _ rfl _ _ 22 rfl w2.heap.size 4 i0 (.bool false) 1 1 Try.underlying22 hi hz0 hz1 hz2 rfl (by decide) _ _ _ rfl (HO.out.alloc _) ⟨_, 0, none⟩ 1 1 [.bool (q)] rfl rfl (cell_one_new _ _ _) ?c1 (by decide) ?c2 ?c3 ?c4 _ rfl ?c6))
            case c1 => intro u hu; simp at hu; subst hu; rfl
            case c2 => unfold maxLen; omega
            case c3 => omega
            case c4 => simp; omega
            case c6 =>
              intro g3 cap3 w5 hown5 hgrow5 hat5 hlt5
              have hb7 := (hb5.alloc hsz _).grown hgrow5 (by simp; omega) (fun k hk => (World.ownsRow.lt HO.out k hk).1)
              have HO5 := Lib.hid hown5
              clear hown5 hgrow5 hat5
              go_wp2
              go_roundw
              case rel =>
                refine ⟨s + 1, by go_num, by omega, ⟨_, HS.out.symm, ?_⟩, hb7⟩
                unfold OwnX
                rw [boolsC_append, List.length_append]
                exact HO5.out
              case measure => simp [intOf]; omega
        · obtain rfl : s = f.length := by omega
          obtain ⟨Al, cpl, rfl, hrl, _⟩ := OwnX.row HO.out
          have hb05 := hb12.trans (hb5.mono hb12.size)
          have hlb : l.length = f.length := by rw [HL.out]; simp
          have hcl : codeT k l.length = 0 := by rw [hlb]; exact HCf.out
          have hat : ∀ i, i < one k → atB l i = (atB f i && atB g i) := fun i hi => by rw [HL.out, HLf.out, atB_tabB _ hi]
          have htf : ∀ i, i < one k → tell a x i = atB f i := fun i hi => by have := small_tell (F := atB f) hi; rw [← HA.out] at this; exact this
          have htg : ∀ i, i < one k → tell b y i = atB g i := fun i hi => by have := small_tell (F := atB g) hi; rw [← HB.out] at this; exact this
          have hal : a.length ≤ 15 := by have := (small_code hk (atB f)).2; rw [← HA.out] at this; exact this
          have hbl : b.length ≤ 15 := by have := (small_code hk (atB g)).2; rw [← HB.out] at this; exact this
          have hca : codeA k a x b y = 0 := by have := small_codeA hk (atB f) (atB g); rw [← HA.out, ← HB.out] at this; exact this
          have hca2 : codeA k a x a x = 0 := by have := small_codeA hk (atB f) (atB f); rw [← HA.out] at this; exact this
          have key5 := hF k l Al cpl _ (by unfold maxLen; omega) hrl (hX.below hb05)
          rw [hcl, if_pos rfl, Int.toNat_natCast] at key5
          have HS1 := Lib.hid (show small k (fun s => tell a x s && tell b y s) = small k (atB l) from small_congr fun i hi => by rw [htf i hi, htg i hi, hat i hi])
          have HS2 := Lib.hid (show small k (fun s => tell a x s && tell a x s) = (a, x) by
            rw [HA.out]; exact small_congr fun i hi => by rw [htf i hi, Bool.and_self])
          have HLl := Lib.hid hlb
          have ra5 := hr1'.below hb5
          have rb5 := hr3.below hb5
          clear hlb hcl hat htf htg HO hr1' hr3 hrf2 hrg2 hb5 hb12 hsz
          go_wp2_with fail
          refine key5.mono ?_
          rintro e w6 ⟨A6, c6, cl, z, rfl, hcz, hr6, hb6, hk6⟩
          have hb06 := hb05.trans (hb6.mono hb05.size)
          have ra6 := ra5.below hb6
          have rb6 := rb5.below hb6
          have rl6 := hrl.below hb6
          have HCZ := Lib.hid hcz
          have hcl15 : cl.length ≤ 15 := by have := (small_code hk (atB l)).2; rw [← hcz] at this; exact this
          have key6 := hA k a A1 c1 x b A3 c3 y w6 (by unfold maxLen; omega) hk1 ra6 (by unfold maxLen; omega) hk2 rb6 (hX.below hb06)
          rw [hca, if_pos rfl, Int.toNat_natCast, HS1.out, ← hcz] at key6
          clear hcz key5 hb6 hb05 ra5 rb5 hrl hca
          go_wp2_with fail
          refine key6.mono ?_
          rintro e w7 ⟨A7, c7, dl, z7, rfl, hdz, hr7, hb7, hk7⟩
          obtain ⟨e1, e2⟩ : dl = cl ∧ z7 = z := by simpa using hdz
          subst e1 e2
          have hb07 := hb06.trans (hb7.mono hb06.size)
          have ra7 := ra6.below hb7
          have rl7 := rl6.below hb7
          have r67 := hr6.below hb7
          have key7 := hA k a A1 c1 x a A1 c1 x w7 (by unfold maxLen; omega) hk1 ra7 (by unfold maxLen; omega) hk1 ra7 (hX.below hb07)
          rw [hca2, if_pos rfl, Int.toNat_natCast, HS2.out] at key7
          clear hdz key6 hb7 hb06 ra6 rb6 rl6 hr6 hca2
          go_wp2_with fail
          refine key7.mono ?_
          rintro e w8 ⟨A8, c8, kl, v8, rfl, hkv, hr8, hb8, hk8⟩
          obtain ⟨e1, e2⟩ : kl = a ∧ v8 = x := by simpa using hkv
          subst e1 e2
          have hb08 := hb07.trans (hb8.mono hb07.size)
          have ra8 := ra7.below hb8
          have rl8 := rl7.below hb8
          have r68 := r67.below hb8
          have r78 := hr7.below hb8
          have hcd : codeD k dl z7 = 0 := by have := small_codeD hk (atB l); rw [← HCZ.out] at this; exact this
          have key8 := hR k dl A7 c7 z7 w8 (by unfold maxLen; omega) hk7 r78 (hX.below hb08)
          rw [hcd, if_pos rfl, Int.toNat_natCast] at key8
          have htab : tabB (one k) (tell dl z7) = l := by
            have h1 := tabB_self l
            rw [HLl.out, HLf.out] at h1
            rw [← h1]
            refine tabB_congr fun s hs => ?_
            have := small_tell (F := atB l) hs
            rw [← HCZ.out] at this
            exact this
          rw [htab] at key8
          clear hkv key7 hb8 hb07 ra7 rl7 r67 hr7 hcd htab
          go_wp2_with fail
          refine key8.mono ?_
          rintro e w9 ⟨A9, c9, t, rfl, rfl, hr9, hb9⟩
          have hb09 := hb08.trans (hb9.mono hb08.size)
          have ra9 := ra8.below hb9
          have rl9 := rl8.below hb9
          have r69 := r68.below hb9
          have r79 := r78.below hb9
          have r89 := hr8.below hb9
          clear key8 hb9 hb08 ra8 rl8 r68 r78 hr8
          have hbo := Bools_any t t A9 Al c9 cpl w9 hr9 rl9 (by omega) (by omega)
          rw [decide_eq_true rfl] at hbo
          have hb1 := fun q => Branches_any dl dl A6 A7 c6 c7 (w9.drewN q) r69 r79 (by unfold maxLen; omega) (by unfold maxLen; omega)
          have hb2 := fun q => Branches_any kl kl A8 A1 c8 c1 (w9.drewN q) r89 ra9 (by unfold maxLen; omega) (by unfold maxLen; omega)
          go_wp2_with fail
          refine hbo.mono ?_
          rintro e w10 ⟨rfl, d10, rfl⟩
          go_wp2_with fail
          refine (hb1 _).mono ?_
          rintro e w11 ⟨rfl, d11, rfl⟩
          rw [show decide True = true from rfl]
          go_wp2_with fail
          refine (hb2 _).mono ?_
          rintro e w12 ⟨rfl, d12, rfl⟩
          rw [show decide True = true from rfl]
          go_wp2
          go_ret
          exact ⟨rfl, by first | exact below_drewN hb09 _ | exact below_drewN (below_drewN hb09 _) _⟩
    · rw [hcf] at key
      have HCf := Lib.hid hcf
      have HG := Lib.hid (show (codeT n g.length == 0) = false by simpa using hcg)
      generalize hq : codeT n g.length = q at key2
      have hq0 : q ≠ 0 := by rw [← hq]; exact hcg
      have HQ := Lib.hid hq
      clear hcf hcg hq
      go_enter Try.func7, Try.ntmps7
      go_wp2_with fail
      refine key.mono ?_
      rintro e w1 ⟨A1, c1, a, x, rfl, hax, hr1, hb1, hk1⟩
      clear hax key
      go_wp2_with fail
      refine (key2 w1 hb1).mono ?_
      rintro e w2 ⟨A3, c3, b, y, rfl, hby, hr3, hb2, hk2⟩
      have hb12 := hb1.trans (hb2.mono hb1.size)
      clear hby key2 hb2
      go_wp2_with fail
      refine (stated_any n f A c _ hm).mono ?_
      rintro e w2' ⟨rfl, rfl⟩
      rw [HCf.out, show ((0 : Int) == 0) = true from rfl]
      go_wp2_with fail
      refine (stated_any n g B d _ hm2).mono ?_
      rintro e w2' ⟨rfl, rfl⟩
      rw [HG.out]
      go_wp2
      go_ret
      exact ⟨ret_bool (by simpa using hq0), hb12⟩
  · have HG := Lib.hid (show (codeT n f.length == 0) = false by simpa using hcf)
    generalize hq : codeT n f.length = q at key
    have hq0 : q ≠ 0 := by rw [← hq]; exact hcf
    have HQ := Lib.hid hq
    clear hcf hq
    go_enter Try.func7, Try.ntmps7
    go_wp2_with fail
    refine key.mono ?_
    rintro e w1 ⟨A1, c1, a, x, rfl, hax, hr1, hb1, hk1⟩
    clear hax key
    go_wp2_with fail
    refine (key2 w1 hb1).mono ?_
    rintro e w2 ⟨A3, c3, b, y, rfl, hby, hr3, hb2, hk2⟩
    have hb12 := hb1.trans (hb2.mono hb1.size)
    clear hby key2 hb2
    go_wp2_with fail
    refine (stated_any n f A c _ hm).mono ?_
    rintro e w2' ⟨rfl, rfl⟩
    rw [HG.out]
    go_wp2
    go_ret
    exact ⟨rfl, hb12⟩


end Go.Proofs.Ytnoehmokaeegeaa
