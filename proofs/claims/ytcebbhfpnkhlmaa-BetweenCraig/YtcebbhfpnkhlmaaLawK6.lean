/- The law BetweenCraig. -/
import Derived.Test.YtcebbhfpnkhlmaaLawK4
namespace Go.Proofs.Ytcebbhfpnkhlmaa
open Go.RowKit

theorem least_at {f : List Bool} {keep s : Nat} (h : s < f.length) : atB (leastL f keep) s = someP (atB f) keep s f.length := by unfold leastL; rw [atB_tabB _ h]
theorem most_at {f : List Bool} {keep s : Nat} (h : s < f.length) : atB (mostL f keep) s = allP (atB f) keep s f.length := by unfold mostL; rw [atB_tabB _ h]
theorem mostL_len (f : List Bool) (sh : Nat) : (mostL f sh).length = f.length := by unfold mostL; simp
theorem least_twice (f : List Bool) (keep : Nat) : leastL (leastL f keep) keep = leastL f keep := by
  have h1 := leastL_len f keep
  rw [show leastL (leastL f keep) keep = tabB (leastL f keep).length (fun s => someP (atB (leastL f keep)) keep s (leastL f keep).length) from rfl, h1]
  refine (tabB_congr fun s hs => ?_).trans (show tabB f.length (fun s => someP (atB f) keep s f.length) = leastL f keep from rfl)
  rw [some_congr (G := fun t => someP (atB f) keep t f.length) (fun t ht => least_at ht), some_twice hs]
/-- What Follows and Between are to answer there. -/
theorem craigL {n : Nat} {f g : List Bool} {own other : Nat} (hf : f.length = one n) (hg : g.length = one n) :
    folB (atB (leastL f own)) (atB (mostL g other)) (leastL f own).length =
      folB (fun s => someP (atB (leastL f own)) (own &&& other) s (leastL f own).length) (atB (mostL g other)) (leastL f own).length := by
  rw [leastL_len, hf]
  have a1 : ∀ s, s < one n → atB (leastL f own) s = someP (atB f) own s (one n) := fun s hs => by rw [least_at (by omega), hf]
  have a2 : ∀ s, s < one n → atB (mostL g other) s = allP (atB g) other s (one n) := fun s hs => by rw [most_at (by omega), hg]
  rw [fol_congr a1 a2, fol_congr (F' := fun s => someP (fun t => someP (atB f) own t (one n)) (own &&& other) s (one n)) (fun s _ => some_congr a1) a2]
  exact craig
theorem least_fol (f : List Bool) (keep : Nat) : folB (atB f) (atB (leastL f keep)) f.length = true :=
  fol_iff.2 fun s hs h => by rw [least_at hs]; exact some_own hs h
theorem codeK_small {n : Nat} {lf lg keep : Nat} (hn : n ≤ 4) (h1 : lf = one n) (h2 : lg = one n) (h3 : keep < one n) : codeK n lf lg keep = 0 := by
  subst h1 h2
  exact codeK_ok (codeT_ok hn) (codeT_ok hn) h3

set_option maxHeartbeats 2000000 in
theorem BetweenCraig_with (hF : KLeastOk 14) (hG : KMostOk 16) (hH : KFollowsOk 11) (hB : KBetweenOk 17) (n : Int) (f : List Bool) (A : Option Addr) (c : Nat) (g : List Bool) (A2 : Option Addr) (c2 own other : Nat) (w : World) (ho : own < 4294967296) (ht : other < 4294967296) (hm : f.length ≤ maxLen) (hr : Row w A (boolsC f)) (hm2 : g.length ≤ maxLen) (hr2 : Row w A2 (boolsC g)) (hX : Laid w) :
    Calls Try.prog 8 #[.int .i64 n, .slice A f.length c, .slice A2 g.length c2, .int .u32 own, .int .u32 other] w fun e w' => e = .returned (.bool true) ∧ Below w.heap.size w w' := by
  have key := hF n f A c own w ho hm hr hX
  have key2 := fun W (hb : Below w.heap.size w W) => hG n g A2 c2 other W ht hm2 (hr2.below hb) (hX.below hb)
  have hst := fun W => stated_any n f A c W hm
  have hst2 := fun W => stated_any n g A2 c2 W hm2
  have hor := u32_or_nat own other ho ht
  by_cases h1 : codeT n f.length = 0
  · rw [h1] at hst
    by_cases h2 : codeT n g.length = 0
    · rw [h2] at hst2
      obtain ⟨n, rfl, hn, hlf⟩ := codeT_zero h1
      obtain ⟨n', e, _, hlg⟩ := codeT_zero h2
      have : n = n' := by omega
      subst this
      have hfit := fun W => Fits_any n (own ||| other) (by omega) W
      have h16 := one_le_16 hn
      by_cases h3 : own ||| other < one n
      · obtain ⟨ho1, ht1⟩ := or_lt_iff.1 h3
        rw [decide_eq_true h3] at hfit
        rw [codeK_small hn hlf hlf ho1, if_pos rfl] at key
        rw [codeK_small hn hlg hlg ht1, if_pos rfl] at key2
        obtain ⟨sh, hsh⟩ : ∃ sh, own &&& other = sh := ⟨_, rfl⟩
        have hsh1 : sh < one n := by rw [← hsh]; exact Nat.lt_of_le_of_lt Nat.and_le_left ho1
        have hand := u32_and_nat own other ho ht
        rw [hsh] at hand
        have hcr := craigL (own := own) (other := other) hlf hlg
        rw [hsh] at hcr
        obtain ⟨la, hla⟩ : ∃ la, leastL f own = la := ⟨_, rfl⟩
        obtain ⟨lb, hlb⟩ : ∃ lb, mostL g other = lb := ⟨_, rfl⟩
        have lal : la.length = one n := by rw [← hla, leastL_len, hlf]
        have lbl : lb.length = one n := by rw [← hlb, mostL_len, hlg]
        rw [hla] at key hcr
        rw [hlb] at key2 hcr
        obtain ⟨fb, hfb⟩ : ∃ fb, folB (atB la) (atB lb) la.length = fb := ⟨_, rfl⟩
        rw [hfb] at hcr
        have hc0 : codeK n la.length lb.length 0 = 0 := codeK_small hn lal lbl (one_pos n)
        have hcs : codeK n la.length lb.length sh = 0 := codeK_small hn lal lbl hsh1
        have KF := Lib.hid (fun (Aa Ab : Option Addr) (ca cb : Nat) (W : World) (hra : Row W Aa (boolsC la)) (hrb : Row W Ab (boolsC lb)) (hXW : Laid W) => hH n la Aa ca lb Ab cb W (by rw [lal]; unfold maxLen; omega) hra (by rw [lbl]; unfold maxLen; omega) hrb hXW)
        rw [hc0, hfb, show (((0 : Int) == 0) && fb) = fb from rfl] at KF
        have KB := Lib.hid (fun (Aa Ab : Option Addr) (ca cb : Nat) (W : World) (hra : Row W Aa (boolsC la)) (hrb : Row W Ab (boolsC lb)) (hXW : Laid W) => hB n la Aa ca lb Ab cb sh W (by omega) (by rw [lal]; unfold maxLen; omega) hra (by rw [lbl]; unfold maxLen; omega) hrb hXW)
        have HLal := Lib.hid lal
        have HLbl := Lib.hid lbl
        cases fb with
        | false =>
          rw [codeB_none hcs hcr.symm, if_neg (by decide)] at KB
          clear h1 h2 e hlf hlg h3 hsh hcr hla hlb lal lbl hfb hc0 hcs
          go_enter Try.func8, Try.ntmps8
          go_wp2_with fail
          refine key.mono ?_
          rintro e w1 ⟨Aa, ca, l1, rfl, rfl, hrowa, hb1⟩
          clear key
          go_wp2_with fail
          refine (key2 _ hb1).mono ?_
          rintro e w2 ⟨Ab, cb, l2, rfl, rfl, hrowb, hb2⟩
          have hb12 := hb1.trans (hb2.mono hb1.size)
          have hrowa2 := hrowa.below hb2
          clear key2 hrowa hb2 hb1
          go_wp2_with fail
          refine (hst _).mono ?_
          rintro e w3 ⟨rfl, rfl⟩
          go_wp2_with fail
          refine (hst2 _).mono ?_
          rintro e w3 ⟨rfl, rfl⟩
          go_wp2_with fail
          refine (hfit _).mono ?_
          rintro e w3 ⟨rfl, rfl⟩
          clear hst hst2 hfit
          have kF := KF.out Aa Ab ca cb w2 hrowa2 hrowb (hX.below hb12)
          go_wp2_with fail
          refine kF.mono ?_
          rintro e w4 ⟨rfl, hb4⟩
          have hb14 := hb12.trans (hb4.mono hb12.size)
          have kB := KB.out Aa Ab ca cb w4 (hrowa2.below hb4) (hrowb.below hb4) (hX.below hb14)
          clear kF hb4 hb12 hrowa2 hrowb
          go_wp2_with fail
          refine kB.mono ?_
          rintro e w5 ⟨A3, c3, l3, rfl, rfl, hrow3, hb5⟩
          have hb15 := hb14.trans (hb5.mono hb14.size)
          clear kB hb5 hb14
          go_wp2
          go_ret
          exact ⟨rfl, hb15⟩
        | true =>
          rw [codeB_ok hcs hcr.symm, if_pos rfl] at KB
          obtain ⟨lc, hlc⟩ : ∃ lc, leastL la sh = lc := ⟨_, rfl⟩
          have lcl : lc.length = one n := by rw [← hlc, leastL_len, lal]
          have hyes : folB (atB lc) (atB lb) lc.length = true := by
            rw [← hlc, leastL_len]
            rw [fol_congr (F' := fun s => someP (atB la) sh s la.length) (fun s hs => least_at hs) (fun _ _ => rfl)]
            exact hcr.symm
          have hxes : folB (atB la) (atB lc) la.length = true := by rw [← hlc]; exact least_fol la sh
          have hdd : leastL lc sh = lc := by rw [← hlc]; exact least_twice la sh
          rw [hlc] at KB
          have KL := Lib.hid (fun (Ac : Option Addr) (cc : Nat) (W : World) (hrc : Row W Ac (boolsC lc)) (hXW : Laid W) => hF n lc Ac cc sh W (by omega) (by rw [lcl]; unfold maxLen; omega) hrc hXW)
          rw [codeK_small hn lcl lcl hsh1, if_pos rfl, hdd] at KL
          have KX := Lib.hid (fun (Aa Ac : Option Addr) (ca cc : Nat) (W : World) (hra : Row W Aa (boolsC la)) (hrc : Row W Ac (boolsC lc)) (hXW : Laid W) => hH n la Aa ca lc Ac cc W (by rw [lal]; unfold maxLen; omega) hra (by rw [lcl]; unfold maxLen; omega) hrc hXW)
          rw [codeK_small hn lal lcl (one_pos n), hxes] at KX
          have KY := Lib.hid (fun (Ac Ab : Option Addr) (cc cb : Nat) (W : World) (hrc : Row W Ac (boolsC lc)) (hrb : Row W Ab (boolsC lb)) (hXW : Laid W) => hH n lc Ac cc lb Ab cb W (by rw [lcl]; unfold maxLen; omega) hrc (by rw [lbl]; unfold maxLen; omega) hrb hXW)
          rw [codeK_small hn lcl lbl (one_pos n), hyes] at KY
          have hlc16 : lc.length ≤ 16 := by omega
          clear h1 h2 e hlf hlg h3 hsh hcr hla hlb lal lbl hfb hc0 hcs hyes hxes hdd lcl hlc
          go_enter Try.func8, Try.ntmps8
          go_wp2_with fail
          refine key.mono ?_
          rintro e w1 ⟨Aa, ca, l1, rfl, rfl, hrowa, hb1⟩
          clear key
          go_wp2_with fail
          refine (key2 _ hb1).mono ?_
          rintro e w2 ⟨Ab, cb, l2, rfl, rfl, hrowb, hb2⟩
          have hb12 := hb1.trans (hb2.mono hb1.size)
          have hrowa2 := hrowa.below hb2
          clear key2 hrowa hb2 hb1
          go_wp2_with fail
          refine (hst _).mono ?_
          rintro e w3 ⟨rfl, rfl⟩
          go_wp2_with fail
          refine (hst2 _).mono ?_
          rintro e w3 ⟨rfl, rfl⟩
          go_wp2_with fail
          refine (hfit _).mono ?_
          rintro e w3 ⟨rfl, rfl⟩
          clear hst hst2 hfit
          have kF := KF.out Aa Ab ca cb w2 hrowa2 hrowb (hX.below hb12)
          go_wp2_with fail
          refine kF.mono ?_
          rintro e w4 ⟨rfl, hb4⟩
          have hb14 := hb12.trans (hb4.mono hb12.size)
          have hrowa4 := hrowa2.below hb4
          have hrowb4 := hrowb.below hb4
          have kB := KB.out Aa Ab ca cb w4 hrowa4 hrowb4 (hX.below hb14)
          clear kF hb4 hb12 hrowa2 hrowb
          go_wp2_with fail
          refine kB.mono ?_
          rintro e w5 ⟨Ac, cc, l3, rfl, rfl, hrowc, hb5⟩
          have hb15 := hb14.trans (hb5.mono hb14.size)
          have hrowa5 := hrowa4.below hb5
          have hrowb5 := hrowb4.below hb5
          have kL := KL.out Ac cc w5 hrowc (hX.below hb15)
          clear kB hb5 hb14 hrowa4 hrowb4
          go_wp2_with fail
          refine kL.mono ?_
          rintro e w6 ⟨Ad, cd, l4, rfl, rfl, hrowd, hb6⟩
          have hb16 := hb15.trans (hb6.mono hb15.size)
          have hrowa6 := hrowa5.below hb6
          have hrowb6 := hrowb5.below hb6
          have hrowc6 := hrowc.below hb6
          have kX := KX.out Aa Ac ca cc w6 hrowa6 hrowc6 (hX.below hb16)
          clear kL hb6 hb15 hrowa5 hrowb5 hrowc
          go_wp2_with fail
          refine kX.mono ?_
          rintro e w7 ⟨rfl, hb7⟩
          have hb17 := hb16.trans (hb7.mono hb16.size)
          have hrowb7 := hrowb6.below hb7
          have hrowc7 := hrowc6.below hb7
          have hrowd7 := hrowd.below hb7
          have kY := KY.out Ac Ab cc cb w7 hrowc7 hrowb7 (hX.below hb17)
          clear kX hb7 hb16 hrowa6 hrowb6 hrowc6 hrowd
          go_wp2_with fail
          refine kY.mono ?_
          rintro e w8 ⟨rfl, hb8⟩
          have hb18 := hb17.trans (hb8.mono hb17.size)
          have kZ := Bools_any l4 l4 Ac Ad cc cd w8 (hrowc7.below hb8) (hrowd7.below hb8) (by omega) (by omega)
          rw [decide_eq_true rfl] at kZ
          clear kY hb8 hb17 hrowb7 hrowc7 hrowd7
          go_wp2_with fail
          refine kZ.mono ?_
          rintro e w9 ⟨rfl, d, rfl⟩
          go_wp2
          go_ret
          exact ⟨rfl, below_drewN hb18 d⟩
      · rw [decide_eq_false h3] at hfit
        have hbad : ¬ own < one n ∨ ¬ other < one n := by
          apply Classical.byContradiction
          intro k
          exact h3 (or_lt_iff.2 ⟨Decidable.not_not.1 (fun a => k (.inl a)), Decidable.not_not.1 (fun a => k (.inr a))⟩)
        have HNZ := Lib.hid (show codeK n f.length f.length own ≠ 0 ∨ codeK n g.length g.length other ≠ 0 by
          rcases hbad with hx | hx
          · left; rw [codeK_bad h1 h1 hx]; decide
          · right; rw [codeK_bad h2 h2 hx]; decide)
        generalize codeK n f.length f.length own = k1 at *
        generalize codeK n g.length g.length other = k2 at *
        clear h1 h2 e hlf hlg h3 hbad
        go_enter Try.func8, Try.ntmps8
        go_wp2_with fail
        refine key.mono ?_
        rintro e w1 ⟨Aa, ca, l1, rfl, hx1, hrowa, hb1⟩
        clear hx1
        clear key
        go_wp2_with fail
        refine (key2 _ hb1).mono ?_
        rintro e w2 ⟨Ab, cb, l2, rfl, hx2, hrowb, hb2⟩
        clear hx2
        have hb12 := hb1.trans (hb2.mono hb1.size)
        clear key2 hrowa hb2 hb1
        go_wp2_with fail
        refine (hst _).mono ?_
        rintro e w3 ⟨rfl, rfl⟩
        go_wp2_with fail
        refine (hst2 _).mono ?_
        rintro e w3 ⟨rfl, rfl⟩
        go_wp2_with fail
        refine (hfit _).mono ?_
        rintro e w3 ⟨rfl, rfl⟩
        by_cases hk1 : k1 = 0
        · have hk2 : k2 ≠ 0 := by rcases HNZ.out with hx | hx; exact absurd hk1 hx; exact hx
          have q2 : (k2 != 0) = true := by simpa using hk2
          subst hk1
          clear hk2
          go_wp2
          go_ret
          exact ⟨ret_bool (by simp), hb12⟩
        · have q1 : (k1 != 0) = true := by simpa using hk1
          clear hk1
          go_wp2
          go_ret
          exact ⟨ret_bool (by simp), hb12⟩
    · rw [show (codeT n g.length == 0) = false from by simpa using h2] at hst2
      have hc : codeK n g.length g.length other ≠ 0 := by rw [codeK_first h2]; exact h2
      generalize codeK n f.length f.length own = k1 at *
      generalize codeK n g.length g.length other = k2 at *
      have q2 : (k2 != 0) = true := by simpa using hc
      clear h1 h2 hc
      go_enter Try.func8, Try.ntmps8
      go_wp2_with fail
      refine key.mono ?_
      rintro e w1 ⟨Aa, ca, l1, rfl, hx1, hrowa, hb1⟩
      clear hx1
      clear key
      go_wp2_with fail
      refine (key2 _ hb1).mono ?_
      rintro e w2 ⟨Ab, cb, l2, rfl, hx2, hrowb, hb2⟩
      clear hx2
      have hb12 := hb1.trans (hb2.mono hb1.size)
      clear key2 hrowa hb2 hb1
      go_wp2_with fail
      refine (hst _).mono ?_
      rintro e w3 ⟨rfl, rfl⟩
      go_wp2_with fail
      refine (hst2 _).mono ?_
      rintro e w3 ⟨rfl, rfl⟩
      by_cases hk1 : k1 = 0
      · subst hk1
        go_wp2
        go_ret
        exact ⟨ret_bool (by simp), hb12⟩
      · have q1 : (k1 != 0) = true := by simpa using hk1
        clear hk1
        go_wp2
        go_ret
        exact ⟨ret_bool (by simp), hb12⟩
  · rw [show (codeT n f.length == 0) = false from by simpa using h1] at hst
    have hc : codeK n f.length f.length own ≠ 0 := by rw [codeK_first h1]; exact h1
    generalize codeK n f.length f.length own = k1 at *
    generalize codeK n g.length g.length other = k2 at *
    have q1 : (k1 != 0) = true := by simpa using hc
    clear h1 hc
    go_enter Try.func8, Try.ntmps8
    go_wp2_with fail
    refine key.mono ?_
    rintro e w1 ⟨Aa, ca, l1, rfl, hx1, hrowa, hb1⟩
    clear hx1
    clear key
    go_wp2_with fail
    refine (key2 _ hb1).mono ?_
    rintro e w2 ⟨Ab, cb, l2, rfl, hx2, hrowb, hb2⟩
    clear hx2
    have hb12 := hb1.trans (hb2.mono hb1.size)
    clear key2 hrowa hb2 hb1
    go_wp2_with fail
    refine (hst _).mono ?_
    rintro e w3 ⟨rfl, rfl⟩
    go_wp2
    go_ret
    exact ⟨ret_bool (by simp), hb12⟩

end Go.Proofs.Ytcebbhfpnkhlmaa
