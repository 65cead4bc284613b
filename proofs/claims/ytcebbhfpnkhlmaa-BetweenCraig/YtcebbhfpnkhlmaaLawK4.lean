/- The law BetweenDual. -/
import Derived.Test.YtcebbhfpnkhlmaaLawK3
namespace Go.Proofs.Ytcebbhfpnkhlmaa
open Go.RowKit

theorem codeK_parts {n : Int} {lf keep : Nat} (h : codeK n lf lf keep ≠ 0) : codeT n lf ≠ 0 ∨ (codeT n lf = 0 ∧ ∃ k : Nat, n = k ∧ k ≤ 4 ∧ ¬ keep < one k) := by
  by_cases h1 : codeT n lf = 0
  · right
    obtain ⟨k, rfl, hk, _⟩ := codeT_zero h1
    exact ⟨h1, k, rfl, hk, fun h3 => h (codeK_ok h1 h1 h3)⟩
  · exact .inl h1
theorem codeK_state {n : Int} {lf lg keep : Nat} (h : codeK n lf lg keep = 0) : codeT n lf = 0 ∧ codeT n lg = 0 := by
  obtain ⟨k, rfl, hk, rfl, rfl, _⟩ := codeK_zero h
  exact ⟨codeT_ok hk, codeT_ok hk⟩
/-- What is not so. -/
def notL (f : List Bool) : List Bool := f.map fun x => !x
theorem notL_len (f : List Bool) : (notL f).length = f.length := by simp [notL]
theorem notL_at {f : List Bool} {s : Nat} (h : s < f.length) : atB (notL f) s = !atB f s := by
  unfold notL atB
  rw [List.getElem?_map, List.getElem?_eq_getElem h]
  rfl
theorem notL_take {f : List Bool} {k : Nat} (h : k < f.length) : notL (f.take (k + 1)) = notL (f.take k) ++ [!atB f k] := by
  unfold notL
  rw [List.take_add_one, atB_get h]
  simp

set_option maxHeartbeats 2000000 in
theorem BetweenDual_with (hF : KLeastOk 14) (hG : KMostOk 16) (n : Int) (f : List Bool) (A : Option Addr) (c keep : Nat) (w : World) (hk : keep < 4294967296) (hm : f.length ≤ maxLen) (hr : Row w A (boolsC f)) (hX : Laid w) :
    Calls Try.prog 9 #[.int .i64 n, .slice A f.length c, .int .u32 keep] w fun e w' => e = .returned (.bool true) ∧ Below w.heap.size w w' := by
  have key := hF n f A c keep w hk hm hr hX
  have key2 := fun W (hb : Below w.heap.size w W) => hG n f A c keep W hk hm (hr.below hb) (hX.below hb)
  have hst := fun W => stated_any n f A c W hm
  by_cases hc : codeK n f.length f.length keep = 0
  · rw [hc, if_pos rfl] at key
    rw [hc, if_pos rfl] at key2
    rw [show (codeT n f.length == 0) = true from by rw [(codeK_state hc).1]; rfl] at hst
    have HC := Lib.hid hc
    obtain ⟨n, rfl, hn, hl, hl2, hkn⟩ := codeK_zero hc
    have h16 := one_le_16 hn
    have hf16 : f.length ≤ 16 := by omega
    have hfit := fun W => Fits_any n keep (by omega) W
    rw [decide_eq_true hkn] at hfit
    obtain ⟨i0, hi0, hz0, hz1, hz2⟩ := info_parts infoB
    have HI := Lib.hid (And.intro hi0 (And.intro hz0 (And.intro hz1 hz2)))
    clear hc hl hl2 hi0 hz0 hz1 hz2
    go_enter Try.func9, Try.ntmps9
    go_wp2_with fail
    refine key.mono ?_
    rintro e w1 ⟨Aa, ca, la, rfl, hla, hrowa, hb1⟩
    have HLA := Lib.hid hla
    have hlal : la.length = f.length := by rw [hla]; unfold leastL; simp
    have HLAl := Lib.hid hlal
    have hla16 : la.length ≤ 16 := by omega
    have hqa : ((la.length : Int) != (f.length : Int)) = false := by rw [hlal]; simp
    clear key hla hlal
    go_wp2_with fail
    refine (key2 _ hb1).mono ?_
    rintro e w2 ⟨Ab, cb, lb, rfl, hlb, hrowb, hb2⟩
    have HLB := Lib.hid hlb
    have hlbl : lb.length = f.length := by rw [hlb]; unfold mostL; simp
    have HLBl := Lib.hid hlbl
    have hlb16 : lb.length ≤ 16 := by omega
    have hqb : ((lb.length : Int) != (f.length : Int)) = false := by rw [hlbl]; simp
    have hb12 := hb1.trans (hb2.mono hb1.size)
    have hrowa2 := hrowa.below hb2
    clear key2 hlb hlbl hrowa hb2 hb1
    go_wp2_with fail
    refine (hst _).mono ?_
    rintro e w3 ⟨rfl, rfl⟩
    go_wp2_with fail
    refine (hfit _).mono ?_
    rintro e w3 ⟨rfl, rfl⟩
    clear hst hfit
    go_wp2
    go_loopw [11, 49] (fun v kv wr => ∃ k : Nat, kv = .int .i64 k ∧ k ≤ f.length ∧ (∃ u : List Bool, u = notL (f.take k) ∧ OwnX wr w2.heap.size v u) ∧ Below w2.heap.size w2 wr) (fun _ kv _ => f.length - (intOf kv).toNat)
    case atStart => exact ⟨0, rfl, Nat.zero_le _, ⟨[], rfl, World.ownsRow_nil _ _ _ _⟩, Below.refl _ _⟩
    case round =>
      obtain ⟨k, rfl, hks, ⟨u, hu, hown⟩, hbel⟩ := hrel
      have hul : u.length ≤ 16 := by rw [hu, notL_len, List.length_take]; omega
      have hbw := hb12.trans (hbel.mono hb12.size)
      have HU := Lib.hid hu
      have HO := Lib.hid (show _root_.Go.World.ownsRow _ w2.heap.size 4 1 _ u.length (boolsC u) from hown)
      have hsz := hbel.size
      clear hu hown
      by_cases hlt : k < f.length
      · obtain ⟨b, off, rfl, d1⟩ := atB_cell (hr.below hbw) hlt
        have HStep := Lib.hid (notL_take hlt)
        rw [← HU.out] at HStep
        generalize atB f k = x at *
        obtain ⟨hi0, hz0, hz1, hz2⟩ := HI.out
        go_wp2_with (first | (at_builtin; refine wpList_append_lies _ rfl _ _ 22 rfl w2.heap.size 4 i0 (.bool false) 1 1 Try.underlying22 hi0 hz0 hz1 hz2 rfl (by decide) _ _ _ rfl (World.ownsRow.alloc HO.out _) ⟨_, 0, none⟩ 1 1 [.bool (!x)] rfl rfl (cell_one_new _ _ _) ?c1 (by decide) ?c2 ?c3 ?c4 _ rfl ?c6))
        case c1 => intro u hu; simp at hu; subst hu; rfl
        case c2 => unfold maxLen; omega
        case c3 => omega
        case c4 => simp; omega
        case c6 =>
          intro g4 cap4 w4 hown4 hgrow4 hat4 hlt4
          have HG4 := Lib.hid hgrow4
          have HO4 := Lib.hid hown4
          clear hown4 hgrow4 hat4 hi0 hz0 hz1 hz2
          go_wp2
          go_roundw
          case rel =>
            have hlt := fun k hk => (World.ownsRow.lt HO.out k hk).1
            refine ⟨k + 1, by go_num, by omega, ⟨u ++ [!x], HStep.out.symm, ?_⟩, ?_⟩
            · unfold OwnX
              rw [boolsC_append, List.length_append]
              exact HO4.out
            · exact (hbel.alloc hsz _).grown HG4.out (by simp; omega) hlt
          case measure => simp [intOf]; omega
      · obtain rfl : k = f.length := by omega
        have HU2 := Lib.hid (show u = notL f by rw [HU.out, List.take_length])
        have hulen : u.length = f.length := by rw [HU2.out, notL_len]
        obtain ⟨A5, c5, rfl, hrow5, _⟩ := OwnX.row HO.out
        have kL := hF n u A5 c5 keep wr hk (by unfold maxLen; omega) hrow5 (hX.below hbw)
        have hcu : codeK n u.length u.length keep = 0 := by rw [hulen]; exact HC.out
        rw [hcu, if_pos rfl] at kL
        have HUl := Lib.hid hulen
        clear hcu hulen
        go_wp2_with fail
        refine kL.mono ?_
        rintro e w5 ⟨Ac, cc, lc, rfl, hlc, hrowc, hb5⟩
        have HLC := Lib.hid hlc
        have hlcl : lc.length = f.length := by rw [hlc, ← HUl.out]; unfold leastL; simp
        have HLCl := Lib.hid hlcl
        have hlc16 : lc.length ≤ 16 := by omega
        have hqc : ((lc.length : Int) != (f.length : Int)) = false := by rw [hlcl]; simp
        have hb25 := hbel.trans (hb5.mono hbel.size)
        have hbw5 := hb12.trans (hb25.mono hb12.size)
        have hrowa5 := hrowa2.below hb25
        have hrowb5 := hrowb.below hb25
        have hrowf5 := hr.below hbw5
        clear kL hlc hlcl hb5
        go_wp2
        go_loopw [16] (fun sv wq => ∃ s d : Nat, sv = .int .i64 s ∧ s ≤ f.length ∧ wq = w5.drewN d) (fun sv _ => f.length - (intOf sv).toNat)
        case atStart => exact ⟨0, 0, rfl, Nat.zero_le _, rfl⟩
        case round =>
          obtain ⟨s, d, rfl, hs, rfl⟩ := hrel
          by_cases hlt2 : s < f.length
          · obtain ⟨gf, of, rfl, df⟩ := atB_cell (hrowf5.drewN d) hlt2
            obtain ⟨ga, oa, rfl, da⟩ := atB_cell (hrowa5.drewN d) (show s < la.length by rw [HLAl.out]; exact hlt2)
            obtain ⟨gb, ob, rfl, db⟩ := atB_cell (hrowb5.drewN d) (show s < lb.length by rw [HLBl.out]; exact hlt2)
            obtain ⟨gc, oc, rfl, dc⟩ := atB_cell (hrowc.drewN d) (show s < lc.length by rw [HLCl.out]; exact hlt2)
            have ea : atB la s = someP (atB f) keep s f.length := by rw [HLA.out]; unfold leastL; rw [atB_tabB _ hlt2]
            have eb : atB lb s = allP (atB f) keep s f.length := by rw [HLB.out]; unfold mostL; rw [atB_tabB _ hlt2]
            have ec : atB lc s = !allP (atB f) keep s f.length := by
              rw [HLC.out]
              unfold leastL
              rw [HUl.out, atB_tabB _ hlt2, ← some_not]
              exact some_congr fun t ht => by rw [HU2.out, notL_at ht]
            have h1 := fun h => all_own (F := atB f) (keep := keep) hlt2 h
            have h2 := fun h => some_own (F := atB f) (keep := keep) hlt2 h
            rw [ea] at da
            rw [eb] at db
            rw [ec] at dc
            generalize someP (atB f) keep s f.length = x at *
            generalize allP (atB f) keep s f.length = y at *
            generalize atB f s = z at *
            have la1 : s < la.length := by rw [HLAl.out]; exact hlt2
            have lb1 : s < lb.length := by rw [HLBl.out]; exact hlt2
            have lc1 : s < lc.length := by rw [HLCl.out]; exact hlt2
            generalize hw6 : w5.drewN d = w6 at *
            have HW6 := Lib.hid hw6
            clear ea eb ec hw6
            cases x <;> cases y <;> cases z
            all_goals first
              | exact absurd (h1 rfl) (by decide)
              | exact absurd (h2 rfl) (by decide)
              | (clear h1 h2
                 go_wp2
                 go_quiet (fail)
                 go_wp2
                 go_roundw
                 case rel => exact ⟨s + 1, d + nq, by go_num, by omega, by rw [← HW6.out, World.drewN_drewN]⟩
                 case measure => simp [intOf]; omega)
          · go_wp2
            go_ret
            exact ⟨rfl, below_drewN hbw5 d⟩
  · rw [if_neg hc] at key
    rw [if_neg hc] at key2
    have hparts := codeK_parts hc
    generalize codeK n f.length f.length keep = k at *
    have hk2 : (k != 0) = true := by simpa using hc
    clear hc
    rcases hparts with hT | ⟨hT, n, rfl, hn, hkn⟩
    · rw [show (codeT n f.length == 0) = false from by simpa using hT] at hst
      clear hT
      go_enter Try.func9, Try.ntmps9
      go_wp2_with fail
      refine key.mono ?_
      rintro e w1 ⟨Aa, ca, la, rfl, rfl, hrowa, hb1⟩
      clear key
      go_wp2_with fail
      refine (key2 _ hb1).mono ?_
      rintro e w2 ⟨Ab, cb, lb, rfl, rfl, hrowb, hb2⟩
      have hb12 := hb1.trans (hb2.mono hb1.size)
      clear key2 hb2 hb1
      go_wp2_with fail
      refine (hst _).mono ?_
      rintro e w3 ⟨rfl, rfl⟩
      go_wp2
      go_ret
      exact ⟨ret_bool (by simp), hb12⟩
    · rw [hT] at hst
      have hfit := fun W => Fits_any n keep (by omega) W
      rw [decide_eq_false hkn] at hfit
      clear hT hkn
      go_enter Try.func9, Try.ntmps9
      go_wp2_with fail
      refine key.mono ?_
      rintro e w1 ⟨Aa, ca, la, rfl, rfl, hrowa, hb1⟩
      clear key
      go_wp2_with fail
      refine (key2 _ hb1).mono ?_
      rintro e w2 ⟨Ab, cb, lb, rfl, rfl, hrowb, hb2⟩
      have hb12 := hb1.trans (hb2.mono hb1.size)
      clear key2 hb2 hb1
      go_wp2_with fail
      refine (hst _).mono ?_
      rintro e w3 ⟨rfl, rfl⟩
      go_wp2_with fail
      refine (hfit _).mono ?_
      rintro e w3 ⟨rfl, rfl⟩
      go_wp2
      go_ret
      exact ⟨ret_bool (by simp), hb12⟩

end Go.Proofs.Ytcebbhfpnkhlmaa
