/- The law on And by what the document asks, from the contract. -/
import Derived.Test.YtnoehmokaeegeaaLawH1
namespace Go.Proofs.Ytnoehmokaeegeaa
open Go.RowKit

theorem codeB_one (n : Int) (l : List Nd) (root : Int) : codeB n l root ≠ 1 := by
  have h1 : ∀ k, firstC n l k ≠ 1 := by
    intro k
    induction k with
    | zero => simp [firstC]
    | succ k ih =>
      rw [firstC]
      split
      · exact ih
      · cases l[k]? with
        | none => simp
        | some b => simp only [nodeC]; repeat' split <;> omega
  unfold codeB
  split
  · exact h1 _
  · split <;> omega
/-- Both, of the first s sets; the first table behind. -/
def halfA (F G : Nat → Bool) (s : Nat) : Nat → Bool := fun i => if i < s then F i && G i else F i
theorem halfA_zero (F G : Nat → Bool) : halfA F G 0 = F := funext fun i => by simp [halfA]
theorem halfA_succ (F G : Nat → Bool) (s i : Nat) : updB (halfA F G s) s (F s && G s) i = halfA F G (s + 1) i := by
  unfold updB halfA
  by_cases h : i = s
  · subst h; simp
  · by_cases h2 : i < s
    · have : i < s + 1 := by omega
      simp [h, h2, this]
    · have : ¬ i < s + 1 := by omega
      simp [h, h2, this]
theorem halfA_at (F G : Nat → Bool) (s : Nat) : halfA F G s s = F s := by simp [halfA]
theorem Row.setFar {w : World} {A : Option Addr} {cs : List Value} (h : Row w A cs) {g a : Nat} {u : Value} (hne : ∀ b off, A = some ⟨b, off, none⟩ → b ≠ g) : Row (w.setCell ⟨g, a, none⟩ u) A cs := by
  rcases h with h | ⟨b, off, rfl, hc⟩
  · exact .inl h
  · refine .inr ⟨b, off, rfl, fun j v hv => ?_⟩
    have := hne b off rfl
    rw [World.cell?_setCell_far _ _ _ _ (show g ≠ b from fun e => this e.symm)]
    exact hc j v hv
/-- A full row of truth values of the call's own, with room behind. -/
theorem OwnX.full {w : World} {B : Nat} {v : Value} {n : Nat} {F : Nat → Bool} (h : OwnX w B v (tabB n F)) (hn : 0 < n) : ∃ g c, v = .slice (some ⟨g, 0, none⟩) n c ∧ B ≤ g ∧ g < w.heap.size ∧ w.ownsRow B 4 1 (.slice (some ⟨g, 0, none⟩) n c) n (boolsC (tabB n F)) := by
  unfold OwnX at h
  rw [tabB_length] at h
  have h' := h
  rcases h.2 with ⟨hv, h0⟩ | ⟨g, cap, cur, hv, hg, hh, _⟩
  · omega
  · subst hv
    exact ⟨g, cap, rfl, hg, (World.ownsRow.lt h' g rfl).2, h'⟩

set_option maxRecDepth 100000 in
set_option maxHeartbeats 4000000 in
theorem ChoiceAnds_with (hF : HAndOk 16) (n : Int) (a : List Nd) (A : Option Addr) (c : Nat) (x : Int) (b : List Nd) (B : Option Addr) (d : Nat) (y : Int) (w : World) (hm : a.length ≤ maxLen) (hcp : a.length ≤ c) (hr : Row w A (nodesC a)) (hm2 : b.length ≤ maxLen) (hcp2 : b.length ≤ d) (hr2 : Row w B (nodesC b)) (hX : Laid w) :
    Calls Try.prog 5 #[.int .i64 n, .slice A a.length c, .int .i64 x, .slice B b.length d, .int .i64 y] w fun e w' => e = .returned (.bool true) ∧ Below w.heap.size w w' := by
  have key := hF n a A c x b B d y w hm hcp hr hm2 hcp2 hr2 hX
  have hma : a.length < 9223372036854775808 := by unfold maxLen at hm; omega
  have hmb : b.length < 9223372036854775808 := by unfold maxLen at hm2; omega
  have tA := fun w' hb => treeCode_any n a A c x w' hm (hr.below hb)
  have tB := fun w' hb => treeCode_any n b B d y w' hm2 (hr2.below hb)
  by_cases hL : LargeD n a.length
  · have e1 : codeA n a x b y = 1 := by unfold codeA; rw [if_pos (.inl hL)]
    have e2 : codeD n a x = 1 := by unfold codeD; rw [if_pos hL]
    rw [e1, if_neg (by decide)] at key
    rw [e2] at tA
    clear hL e1 e2
    go_enter Try.func5, Try.ntmps5
    go_wp2_with fail
    refine key.mono ?_
    rintro e w1 ⟨A1, c1, l, k, rfl, hlk, hr1, hb1, hk1⟩
    obtain ⟨rfl, rfl⟩ : l = [] ∧ k = 0 := by simpa using hlk
    go_wp2_with fail
    refine (tA w1 hb1).mono ?_
    rintro e w2 ⟨rfl, hb2⟩
    have hb12 := hb1.trans (hb2.mono hb1.size)
    clear hb2
    go_wp2
    go_ret
    exact ⟨rfl, hb12⟩
  · have e2 : codeD n a x = codeB n a x := by unfold codeD; rw [if_neg hL]
    have hn1 := codeB_one n a x
    rw [e2] at tA
    by_cases hbl : 20 < b.length
    · have e1 : codeA n a x b y = 1 := by unfold codeA; rw [if_pos (.inr hbl)]
      rw [e1, if_neg (by decide)] at key
      generalize codeB n a x = q at tA hn1
      have hqq : (q != 1) = true := by simpa using hn1
      clear hL e1 e2
      go_enter Try.func5, Try.ntmps5
      go_wp2_with fail
      refine key.mono ?_
      rintro e w1 ⟨A1, c1, l, k, rfl, hlk, hr1, hb1, hk1⟩
      obtain ⟨rfl, rfl⟩ : l = [] ∧ k = 0 := by simpa using hlk
      go_wp2_with fail
      refine (tA w1 hb1).mono ?_
      rintro e w2 ⟨rfl, hb2⟩
      have hb12 := hb1.trans (hb2.mono hb1.size)
      clear hb2
      go_wp2
      go_ret
      exact ⟨rfl, hb12⟩
    · have hLA : ¬ (LargeD n a.length ∨ 20 < b.length) := by rintro (h | h); exact hL h; exact hbl h
      have e3 : codeD n b y = codeB n b y := by unfold codeD; rw [if_neg (by unfold LargeD at hL ⊢; omega)]
      rw [e3] at tB
      by_cases hq : codeB n a x = 0
      · have e1 : codeA n a x b y = codeB n b y := by unfold codeA; rw [if_neg hLA, if_neg (by simpa using hq)]
        rw [e1] at key
        rw [hq] at tA
        by_cases hq2 : codeB n b y = 0
        · have hz : codeA n a x b y = 0 := by rw [e1, hq2]
          obtain ⟨k, rfl, hk, ⟨ha1, ha2, ha3, ha4⟩, ⟨hb1', hb2', hb3', hb4'⟩⟩ := codeA_zero hz
          rw [hq2, if_pos rfl, Int.toNat_natCast] at key
          rw [hq2] at tB
          have h16 := one_le_16 hk
          have h1p := one_pos k
          clear hL hLA e1 e2 e3 hq hq2 hz hn1 hbl
          go_enter Try.func5, Try.ntmps5
          go_wp2_with fail
          refine key.mono ?_
          rintro e w1 ⟨A1, c1, l, r, rfl, hlr, hr1, hb1, hk1⟩
          have HLR := Lib.hid hlr
          have hll : l.length ≤ 15 := by have := (small_code hk (fun s => tell a x s && tell b y s)).2; rw [← hlr] at this; exact this
          clear hlr key
          go_wp2_with fail
          refine (tA w1 hb1).mono ?_
          rintro e w2 ⟨rfl, hb2⟩
          have hb12 := hb1.trans (hb2.mono hb1.size)
          go_wp2_with fail
          refine (tB w2 hb12).mono ?_
          rintro e w3 ⟨rfl, hb3⟩
          have hb13 := hb12.trans (hb3.mono hb12.size)
          have hr3 := (hr1.below hb2).below hb3
          clear hb2 hb3 tA tB hr1
          go_wp2_with fail
          refine (refRead_any k hk a A c x _ ha1 (hr.below hb13) ha2 ha3 ha4).mono ?_
          rintro e w4 ⟨v4, rfl, hown4, hb4⟩
          obtain ⟨g, cp, rfl, hg1, hg2, hown⟩ := hown4.full h1p
          have hb14 := hb13.trans (hb4.mono hb13.size)
          clear hown4
          go_wp2_with fail
          refine (refRead_any k hk b B d y _ hb1' (hr2.below hb14) hb2' hb3' hb4').mono ?_
          rintro e w5 ⟨v5, rfl, hown5, hb5⟩
          obtain ⟨g5, cp5, rfl, hg51, hg52, hown55⟩ := hown5.full h1p
          have hr55 := Row.of_own hown55
          have hb35 := hb4.trans (hb5.mono hb4.size)
          have HO0 := Lib.hid (own_below hown hb5)
          clear hown5 hown55 hown hb4 hb5
          go_wp2
          go_loopw [70] (fun sv wr => ∃ s : Nat, sv = .int .i64 s ∧ s ≤ one k ∧ wr.ownsRow w3.heap.size 4 1 (.slice (some ⟨g, 0, none⟩) (one k) cp) (one k) (boolsC (tabB (one k) (halfA (tell a x) (tell b y) s))) ∧ Row wr (some ⟨g5, 0, none⟩) (boolsC (tabB (one k) (tell b y))) ∧ Below w3.heap.size w3 wr) (fun sv _ => one k - (intOf sv).toNat)
          case atStart => exact ⟨0, rfl, Nat.zero_le _, by rw [halfA_zero]; exact HO0.out, hr55, hb35⟩
          case round =>
            clear HO0 hr55
            obtain ⟨s, rfl, hs, hown, hrow5, hbel⟩ := hrel
            have HO := Lib.hid hown
            by_cases hlt : s < one k
            · have q1 := (World.ownsRow.cellAt hown s (by omega)).trans (boolsC_at (tabB_get (halfA (tell a x) (tell b y) s) hlt))
              rw [halfA_at] at q1
              have fz := World.ownsRow.frozenAt hown s
              obtain ⟨b5, o5, he, q2⟩ := atB_cell hrow5 (show s < (tabB (one k) (tell b y)).length by simpa using hlt)
              simp only [Option.some.injEq, Addr.mk.injEq, and_true] at he
              obtain ⟨rfl, rfl⟩ := he
              rw [atB_tabB _ hlt, Nat.zero_add] at q2
              have HN := Lib.hid (show ∀ z, z = (tell a x s && tell b y s) → (wr.setCell ⟨g, s, none⟩ (.bool z)).ownsRow w3.heap.size 4 1 (.slice (some ⟨g, 0, none⟩) (one k) cp) (one k) (boolsC (tabB (one k) (halfA (tell a x) (tell b y) (s + 1)))) from fun z hz => by
                have h := (World.ownsRow.stored hown s (.bool z)).1
                subst hz
                rw [tabB_set, tabB_congr (fun i _ => halfA_succ (tell a x) (tell b y) s i)] at h
                exact h)
              have HR5 := Lib.hid (fun z => Row.setFar (u := .bool z) (a := s) hrow5 (g := g) (by intro b off h; simp at h; omega))
              clear hown hrow5
              generalize tell a x s = p at q1 HN
              generalize tell b y s = z at q2 HN
              cases p
              all_goals
                go_wp2
                go_roundw
                case rel => exact ⟨s + 1, by go_num, by omega, HN.out _ (by simp), HR5.out _, hbel.setCell hg1 _⟩
                case measure => simp [intOf]; omega
            · obtain rfl : s = one k := by omega
              obtain ⟨Af, cf, hv, hrowf⟩ := own_row hown
              simp only [Value.slice.injEq, true_and] at hv
              obtain ⟨rfl, rfl⟩ := hv
              have hbb := hb13.trans (hbel.mono hb13.size)
              have hg := Grow_any k hk (tabB (one k) (halfA (tell a x) (tell b y) (one k))) (some ⟨g, 0, none⟩) cp wr (by simp) hrowf
              rw [tabB_length] at hg
              have hsm : small k (atB (tabB (one k) (halfA (tell a x) (tell b y) (one k)))) = small k (fun s => tell a x s && tell b y s) := small_congr fun i hi => by rw [atB_tabB _ hi]; simp [halfA, hi]
              have HSm := Lib.hid hsm
              clear hown hsm HO hrow5 hrowf
              go_wp2_with fail
              refine hg.mono ?_
              rintro e w7 ⟨A7, c7, l7, r7, rfl, hlr7, hr7, hb7⟩
              obtain ⟨z1, z2⟩ : l = l7 ∧ r = r7 := by
                have := (HLR.out.trans HSm.out.symm).trans (show small k (atB (tabB (one k) (halfA (tell a x) (tell b y) (one k)))) = (l7, r7) from hlr7.symm)
                simpa using this
              subst z1 z2
              have hrl : Row w7 A1 (nodesC l) := (hr3.below hbel).below hb7
              have hbo := Branches_any l l A1 A7 c1 c7 w7 hrl hr7 (by unfold maxLen; omega) (by unfold maxLen; omega)
              rw [decide_eq_true rfl] at hbo
              have hb17 := hbb.trans (hb7.mono hbb.size)
              clear hb7 hlr7
              go_wp2_with fail
              refine hbo.mono ?_
              rintro e w8 ⟨rfl, d8, rfl⟩
              go_wp2
              go_ret
              exact ⟨rfl, below_drewN hb17 _⟩
        · generalize codeB n b y = q at *
          rw [if_neg hq2] at key
          have hqq : (q != 0) = true := by simpa using hq2
          clear hL hLA e1 e2 e3 hq hn1
          go_enter Try.func5, Try.ntmps5
          go_wp2_with fail
          refine key.mono ?_
          rintro e w1 ⟨A1, c1, l, k, rfl, hlk, hr1, hb1, hk1⟩
          obtain ⟨rfl, rfl⟩ : l = [] ∧ k = 0 := by simpa using hlk
          go_wp2_with fail
          refine (tA w1 hb1).mono ?_
          rintro e w2 ⟨rfl, hb2⟩
          have hb12 := hb1.trans (hb2.mono hb1.size)
          clear hb2
          go_wp2_with fail
          refine (tB w2 hb12).mono ?_
          rintro e w3 ⟨rfl, hb3⟩
          have hb13 := hb12.trans (hb3.mono hb12.size)
          clear hb3
          go_wp2
          go_ret
          exact ⟨rfl, hb13⟩
      · have e1 : codeA n a x b y = codeB n a x := by unfold codeA; rw [if_neg hLA, if_pos hq]
        rw [e1, if_neg hq] at key
        generalize codeB n a x = q at *
        have hqq : (q == 0) = false := by simpa using hq
        have hqq2 : (q != 0) = true := by simpa using hq
        have hqq1 : (q != 1) = true := by simpa using hn1
        clear hL hLA e1 e2 e3
        go_enter Try.func5, Try.ntmps5
        go_wp2_with fail
        refine key.mono ?_
        rintro e w1 ⟨A1, c1, l, k, rfl, hlk, hr1, hb1, hk1⟩
        obtain ⟨rfl, rfl⟩ : l = [] ∧ k = 0 := by simpa using hlk
        go_wp2_with fail
        refine (tA w1 hb1).mono ?_
        rintro e w2 ⟨rfl, hb2⟩
        have hb12 := hb1.trans (hb2.mono hb1.size)
        clear hb2
        go_wp2
        go_ret
        exact ⟨rfl, hb12⟩

end Go.Proofs.Ytnoehmokaeegeaa
