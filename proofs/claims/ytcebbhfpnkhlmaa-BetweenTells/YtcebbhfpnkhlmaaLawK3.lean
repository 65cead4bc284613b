/- The law BetweenTells. -/
import Derived.Test.YtcebbhfpnkhlmaaKSpec
import Derived.Test.YtcebbhfpnkhlmaaWK1
namespace Go.Proofs.Ytcebbhfpnkhlmaa
open Go.RowKit

theorem tabB_more (s : Nat) (h : Nat → Bool) : tabB (s + 1) h = tabB s h ++ [h s] := by simp [tabB, List.range_succ]
theorem codeB_err {n : Int} {f g : List Bool} {sh : Nat} (h : codeK n f.length g.length sh ≠ 0) : codeB n f g sh = codeK n f.length g.length sh := by unfold codeB; rw [if_neg h]
theorem codeB_ok {n : Int} {f g : List Bool} {sh : Nat} (h : codeK n f.length g.length sh = 0) (k : folB (fun s => someP (atB f) sh s f.length) (atB g) f.length = true) : codeB n f g sh = 0 := by unfold codeB; rw [if_pos h, if_pos k]
theorem codeB_none {n : Int} {f g : List Bool} {sh : Nat} (h : codeK n f.length g.length sh = 0) (k : folB (fun s => someP (atB f) sh s f.length) (atB g) f.length = false) : codeB n f g sh = 5 := by unfold codeB; rw [if_pos h, if_neg (by rw [k]; decide)]
theorem leastL_len (f : List Bool) (sh : Nat) : (leastL f sh).length = f.length := by unfold leastL; simp

set_option maxHeartbeats 2000000 in
theorem BetweenTells_with (hF : KBetweenOk 17) (n : Int) (f : List Bool) (A : Option Addr) (c : Nat) (g : List Bool) (A2 : Option Addr) (c2 sh : Nat) (w : World) (hs32 : sh < 4294967296) (hm : f.length ≤ maxLen) (hr : Row w A (boolsC f)) (hm2 : g.length ≤ maxLen) (hr2 : Row w A2 (boolsC g)) (hX : Laid w) :
    Calls Try.prog 6 #[.int .i64 n, .slice A f.length c, .slice A2 g.length c2, .int .u32 sh] w fun e w' => e = .returned (.bool true) ∧ Below w.heap.size w w' := by
  have key := hF n f A c g A2 c2 sh w hs32 hm hr hm2 hr2 hX
  have hcode := fun W => tablesCode_any n f g A A2 c c2 sh W hm hm2
  by_cases hc : codeK n f.length g.length sh = 0
  · rw [hc] at hcode
    obtain ⟨n, rfl, hn, hl, hl2, _⟩ := codeK_zero hc
    have h16 := one_le_16 hn
    have hf16 : f.length ≤ 16 := by omega
    have hg16 : g.length ≤ 16 := by omega
    have hfg : f.length ≤ g.length := by omega
    obtain ⟨fb, hfb⟩ : ∃ fb, folB (fun s => someP (atB f) sh s f.length) (atB g) f.length = fb := ⟨_, rfl⟩
    have HFB := Lib.hid hfb
    obtain ⟨ke, hke⟩ : ∃ ke, codeB n f g sh = ke := ⟨_, rfl⟩
    have HKE := Lib.hid (show ke = if fb = true then 0 else 5 by
      rw [← hke]
      cases fb with
      | true => rw [codeB_ok hc hfb]; rfl
      | false => rw [codeB_none hc hfb]; rfl)
    rw [hke] at key
    obtain ⟨i0, hi0, hz0, hz1, hz2⟩ := info_parts infoB
    have HI := Lib.hid (And.intro hi0 (And.intro hz0 (And.intro hz1 hz2)))
    clear hc hl hl2 hfb hke hi0 hz0 hz1 hz2
    go_enter Try.func6, Try.ntmps6
    go_wp2_with fail
    refine key.mono ?_
    rintro e w1 ⟨A3, c3, l, rfl, hL, hrow, hb1⟩
    have HL := Lib.hid hL
    have hll : l.length ≤ 16 := by rw [hL]; split <;> simp [leastL_len]; omega
    clear key hL
    go_wp2_with fail
    refine (hcode _).mono ?_
    rintro e w2 ⟨rfl, rfl⟩
    go_wp2
    go_loopw [12, 13] (fun v sv wr => ∃ s : Nat, sv = .int .i64 s ∧ s ≤ f.length ∧ (∃ u : List Bool, u = tabB s (fun t => someP (atB f) sh t f.length) ∧ OwnX wr w1.heap.size v u) ∧ Below w1.heap.size w1 wr) (fun _ sv _ => f.length - (intOf sv).toNat)
    case atStart => exact ⟨0, rfl, Nat.zero_le _, ⟨[], rfl, World.ownsRow_nil _ _ _ _⟩, Below.refl _ _⟩
    case round =>
      obtain ⟨s, rfl, hs, ⟨u, hu, hown⟩, hbel⟩ := hrel
      have hul : u.length ≤ 16 := by rw [hu]; simp; omega
      have hbw := hb1.trans (hbel.mono hb1.size)
      have HU := Lib.hid hu
      have HO := Lib.hid (show _root_.Go.World.ownsRow _ w1.heap.size 4 1 _ u.length (boolsC u) from hown)
      have hsz := hbel.size
      clear hu hown
      by_cases hlt : s < f.length
      · have kS := Some_any f A c sh s wr (hr.below hbw) hf16 hs32 (by omega)
        have HStep := Lib.hid (tabB_more s (fun t => someP (atB f) sh t f.length))
        rw [← HU.out] at HStep
        try simp only at HStep
        generalize someP (atB f) sh s f.length = x at *
        generalize allP (atB f) sh s f.length = y at *
        obtain ⟨hi0, hz0, hz1, hz2⟩ := HI.out
        go_wp2_with fail
        refine kS.mono ?_
        rintro e w3 ⟨rfl, rfl⟩
        go_wp2_with (first | (at_builtin; refine wpList_append_lies _ rfl _ _ 22 rfl w1.heap.size 4 i0 (.bool false) 1 1 Try.underlying22 hi0 hz0 hz1 hz2 rfl (by decide) _ _ _ rfl (World.ownsRow.alloc HO.out _) ⟨_, 0, none⟩ 1 1 [.bool x] rfl rfl (cell_one_new _ _ _) ?c1 (by decide) ?c2 ?c3 ?c4 _ rfl ?c6))
        case c1 => intro u hu; simp at hu; subst hu; rfl
        case c2 => unfold maxLen; omega
        case c3 => omega
        case c4 => simp; omega
        case c6 =>
          intro g4 cap4 w4 hown4 hgrow4 hat4 hlt4
          have HG4 := Lib.hid hgrow4
          have HO4 := Lib.hid hown4
          clear hown4 hgrow4 hat4 hi0 hz0 hz1 hz2
          go_wp2
          go_roundw
          case rel =>
            have hlt := fun k hk => (World.ownsRow.lt HO.out k hk).1
            refine ⟨s + 1, by go_num, by omega, ⟨u ++ [x], HStep.out.symm, ?_⟩, ?_⟩
            · unfold OwnX
              rw [boolsC_append, List.length_append]
              exact HO4.out
            · exact (hbel.alloc hsz _).grown HG4.out (by simp; omega) hlt
          case measure => simp [intOf]; omega
      · obtain rfl : s = f.length := by omega
        have HU2 := Lib.hid (show u = leastL f sh from HU.out)
        have hulen : u.length = f.length := by rw [HU.out]; simp
        obtain ⟨A5, c5, rfl, hrow5, _⟩ := OwnX.row HO.out
        have kF := refFollows_any u g A5 A2 c5 c2 wr hrow5 (hr2.below hbw) (by omega) (by omega)
        have hfe : folB (atB u) (atB g) u.length = fb := by
          rw [← HFB.out, hulen]
          exact fol_congr (fun t ht => by rw [HU.out, atB_tabB _ ht]) (fun _ _ => rfl)
        rw [hfe] at kF
        clear hfe hulen
        cases fb with
        | false =>
          have hke5 : ke = 5 := HKE.out
          subst hke5
          obtain rfl : l = [] := by rw [HL.out]; rfl
          go_wp2_with fail
          refine kF.mono ?_
          rintro e w5 ⟨rfl, rfl⟩
          go_wp2
          go_ret
          exact ⟨rfl, hbw⟩
        | true =>
          have hke0 : ke = 0 := HKE.out
          subst hke0
          have hlu : l = u := by rw [HL.out, HU2.out]; rfl
          have kB := Bools_any l u A3 A5 c3 c5 wr (hrow.below hbel) hrow5 (by omega) (by omega)
          rw [decide_eq_true hlu] at kB
          clear hlu
          go_wp2_with fail
          refine kF.mono ?_
          rintro e w5 ⟨rfl, rfl⟩
          go_wp2_with fail
          refine kB.mono ?_
          rintro e w6 ⟨rfl, d, rfl⟩
          go_wp2
          go_ret
          exact ⟨rfl, below_drewN hbw d⟩
  · rw [codeB_err hc, if_neg hc] at key
    generalize codeK n f.length g.length sh = k at *
    have hk2 : (k != 0) = true := by simpa using hc
    clear hc
    go_enter Try.func6, Try.ntmps6
    go_wp2_with fail
    refine key.mono ?_
    rintro e w1 ⟨A3, c3, l, rfl, rfl, hrow, hb1⟩
    clear key
    go_wp2_with fail
    refine (hcode _).mono ?_
    rintro e w2 ⟨rfl, rfl⟩
    go_wp2
    go_ret
    exact ⟨ret_bool (by simp), hb1⟩

end Go.Proofs.Ytcebbhfpnkhlmaa
