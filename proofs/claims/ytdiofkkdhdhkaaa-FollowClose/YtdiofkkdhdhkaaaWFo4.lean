/- follow.Close, follow.Does, follow.Closed. -/
import Derived.Test.YtdiofkkdhdhkaaaWFo3
import Derived.Test.YtdiofkkdhdhkaaaOwnU
import Derived.Test.YtdiofkkdhdhkaaaPop
namespace Go.Proofs.Ytdiofkkdhdhkaaa
open Go.RowKit

set_option maxHeartbeats 1000000 in
theorem Close_ok : CloseOk 12 := by
  intro n rs A c s w hs h32 hm hr hX
  have hrow := row_new w w.heap.size rfl (words [s]) 23
  have hb0 : Below w.heap.size w (w.alloc (.cells (words [s]).toArray 23)) := (Below.refl _ _).alloc (Nat.le_refl _) _
  have key := fwCheck_any n rs A c [s] _ 1 _ (hr.below hb0) h32 hm hrow (by simpa using hs) (by simp)
  rw [show orL [s] = s from by simp [orL]] at key
  have HB0 := Lib.hid hb0
  by_cases hc : codeR n rs s = 0
  · rw [hc] at key
    rw [hc, if_pos rfl]
    obtain ⟨n, rfl, hn1, hn6, hl, hf, hk⟩ := codeR_zero hc
    rw [Int.toNat_natCast]
    clear hc hrow hb0
    go_enter Try.func12, Try.ntmps12
    go_wp2_with fail
    refine key.mono ?_
    rintro e w1 ⟨rfl, hb1⟩
    have hb01 := HB0.out.trans (hb1.mono HB0.out.size)
    clear hb1
    go_wp2_with fail
    refine (fwGrow_any n hn6 rs A c s _ (hr.below hb01) hf (by omega) hk).mono ?_
    rintro e w2 ⟨rfl, hb2⟩
    go_wp2
    go_ret2
    exact ⟨rfl, hb01.trans (hb2.mono hb01.size)⟩
  · rw [if_neg hc]
    generalize codeR n rs s = k at *
    clear hrow hb0
    go_enter Try.func12, Try.ntmps12
    go_wp2_with fail
    refine key.mono ?_
    rintro e w1 ⟨rfl, hb1⟩
    have hb01 := HB0.out.trans (hb1.mono HB0.out.size)
    clear hb1
    go_wp2
    go_ret2
    exact ⟨rfl, hb01⟩

set_option maxHeartbeats 1000000 in
theorem Does_ok : DoesOk 15 := by
  intro n rs A c a b w ha hb h32 hm hr hX
  have hbx : Below w.heap.size w (w.alloc (.cells #[.int .u32 (a : Int), .int .u32 (b : Int)] 31)) := (Below.refl _ _).alloc (Nat.le_refl _) _
  have hR0 := RuleAt.made w a b 31
  have hrow := row_new (w.alloc (.cells #[.int .u32 (a : Int), .int .u32 (b : Int)] 31)) (w.heap.size + 1) (by simp) (words [a, b]) 23
  have hb0 : Below w.heap.size w ((w.alloc (.cells #[.int .u32 (a : Int), .int .u32 (b : Int)] 31)).alloc (.cells (words [a, b]).toArray 23)) := hbx.alloc hbx.size _
  have key := fwCheck_any n rs A c [a, b] _ 2 _ (hr.below hb0) h32 hm hrow (by simp; omega) (by simp)
  have HR0 := Lib.hid (hR0.below ((Below.refl _ _).alloc (Nat.le_refl _) (.cells (words [a, b]).toArray 23)))
  rw [show orL [a, b] = a ||| b from by simp [orL]] at key
  have HB0 := Lib.hid hb0
  by_cases hc : codeR n rs (a ||| b) = 0
  · rw [hc] at key
    rw [hc]
    obtain ⟨n, rfl, hn1, hn6, hl, hf, hk⟩ := codeR_zero hc
    have h64 := one_le_64 hn6
    rw [or_lt_iff] at hk
    rw [Int.toNat_natCast, show (((0 : Int) == 0) && sub b (closeW n rs a)) = sub b (closeW n rs a) from rfl]
    have KEY := Lib.hid key
    clear hc hrow hb0 hbx hR0 key
    go_enter Try.func15, Try.ntmps15
    go_wp2_with fail
    refine KEY.out.mono ?_
    rintro e w1 ⟨rfl, hb1⟩
    have hb01 := HB0.out.trans (hb1.mono HB0.out.size)
    obtain ⟨c0, c1⟩ := HR0.out.below hb1
    clear hb1 KEY
    go_wp2_with fail
    refine (fwFol_any n hn6 rs A c a b _ (hr.below hb01) hf (by omega) hk.1 hb).mono ?_
    rintro e w2 ⟨rfl, hb2⟩
    go_wp2
    go_ret2
    exact ⟨rfl, hb01.trans (hb2.mono hb01.size)⟩
  · have hkf : (codeR n rs (a ||| b) == 0) = false := by simpa using hc
    rw [hkf, Bool.false_and]
    clear hkf
    generalize codeR n rs (a ||| b) = k at *
    have KEY := Lib.hid key
    clear hrow hb0 hbx hR0 key HR0
    go_enter Try.func15, Try.ntmps15
    go_wp2_with fail
    refine KEY.out.mono ?_
    rintro e w1 ⟨rfl, hb1⟩
    have hb01 := HB0.out.trans (hb1.mono HB0.out.size)
    clear hb1
    go_wp2
    go_ret2
    exact ⟨rfl, hb01⟩

theorem OwnU.cap {w : World} {B : Nat} {v : Value} {xs : List Nat} (h : OwnU w B v xs) : ∃ A c, v = .slice A xs.length c ∧ xs.length ≤ c ∧ Row w A (words xs) := by
  rcases h.2 with ⟨hv, hn⟩ | ⟨g, cap, cur, hv, hg, hh, h1, h2, h3, h4⟩
  · have : xs = [] := List.eq_nil_of_length_eq_zero hn
    subst this
    exact ⟨none, 0, hv, Nat.le_refl _, .inl rfl⟩
  · subst hv
    exact ⟨some ⟨g, 0, none⟩, cap, rfl, by omega, Row.of_own h⟩

/-- How far a list of the first sets has come. -/
def SetsP (p : Nat → Bool) (n : Nat) (w : World) (v sv : Value) (wr : World) : Prop :=
  ∃ k : Nat, sv = .int .u32 k ∧ k ≤ one n ∧ (∃ u, u = (List.range k).filter p ∧ OwnU wr w.heap.size v u) ∧ Below w.heap.size w wr

set_option maxHeartbeats 2000000 in
theorem Closed_ok : ClosedOk 17 := by
  intro n rs A c w h32 hm hr hX
  have key := fwCheck_any n rs A c [] none 0 w hr h32 hm (.inl rfl) (by simp) (by simp)
  rw [show orL [] = 0 from rfl] at key
  by_cases hc : codeR n rs 0 = 0
  · rw [hc] at key
    rw [hc, if_pos rfl]
    obtain ⟨n, rfl, hn1, hn6, hl, hf, hk⟩ := codeR_zero hc
    rw [Int.toNat_natCast]
    obtain ⟨i0, hi, hz0, hz1, hz2⟩ := info_parts info29
    have HI := Lib.hid (And.intro hi (And.intro hz0 (And.intro hz1 hz2)))
    have h64 := one_le_64 hn6
    have h1n : ((full n : Nat) + 1 : Int) % 4294967296 = (one n : Int) := by have := one_pos n; unfold full; omega
    clear hc hi hz0 hz1 hz2
    go_enter Try.func17, Try.ntmps17
    go_wp2_with fail
    refine key.mono ?_
    rintro e w1 ⟨rfl, hb1⟩
    clear key
    go_wp2_with fail
    refine (fwAll_any n hn6 _).mono ?_
    rintro e w2 ⟨rfl, rfl⟩
    go_wp2
    rw [h1n]
    clear h1n
    go_loopw [7, 18] (fun v sv wr => SetsP (closedB rs) n w v sv wr) (fun _ sv _ => one n - (intOf sv).toNat)
    case atStart => exact ⟨0, rfl, Nat.zero_le _, ⟨[], rfl, World.ownsRow_nil _ _ _ _⟩, hb1⟩
    case round =>
      clear hb1
      obtain ⟨k, rfl, hk, ⟨u, hu, hown⟩, hbel⟩ := hrel
      have hul : u.length ≤ 64 := by rw [hu]; have := filter_len (closedB rs) k; omega
      have HU := Lib.hid hu
      have HO := Lib.hid (show _root_.Go.World.ownsRow _ w.heap.size 23 1 _ u.length (words u) from hown)
      clear hu hown
      by_cases hlt : k < one n
      · have hcw := closeW_lt n rs k
        cases hd : closedB rs k with
        | true =>
          have HS := Lib.hid (filter_yes hd)
          have hne : ((closeW n rs k : Int) == (k : Int)) = true := by rw [close_own hlt hd]; simp
          clear hd
          obtain ⟨hi, hz0, hz1, hz2⟩ := HI.out
          go_wp2_with fail
          refine (fwGrow_any n hn6 rs A c k _ (hr.below hbel) hf (by omega) hlt).mono ?_
          rintro e w3 ⟨rfl, hb3⟩
          have hbel3 := hbel.trans (hb3.mono hbel.size)
          have hsz3 := hbel3.size
          have HO3 := Lib.hid (ownU_below HO.out hb3)
          clear hb3
          go_wp2_with (first | (at_builtin; refine wpList_append_lies _ rfl _ _ 36 rfl w.heap.size 23 i0 (.int .u32 0) 1 4 Try.underlying36 hi hz0 hz1 hz2 rfl (by decide) _ _ _ rfl (World.ownsRow.alloc HO3.out _) ⟨_, 0, none⟩ 1 1 [.int .u32 k] rfl rfl (cell_one_new _ _ _) ?c1 (by decide) ?c2 ?c3 ?c4 _ rfl ?c6))
          case c1 => intro u hu; simp at hu; subst hu; rfl
          case c2 => unfold maxLen; omega
          case c3 => omega
          case c4 => simp; omega
          case c6 =>
            intro g3 cap3 w4 hown4 hgrow4 hat4 hlt4
            have HG4 := Lib.hid hgrow4
            have HO4 := Lib.hid hown4
            clear hown4 hgrow4 hat4 hi hz0 hz1 hz2
            go_wp2
            go_roundw
            case rel =>
              have hlt := fun k hk => (World.ownsRow.lt HO3.out k hk).1
              refine ⟨k + 1, by go_num, by omega, ⟨u ++ [k], by rw [HS.out, HU.out], ?_⟩, ?_⟩
              · unfold OwnU
                rw [words_append, List.length_append]
                exact HO4.out
              · exact (hbel3.alloc (by omega) _).grown HG4.out (by simp; omega) (fun k hk => by have := hlt k hk; omega)
            case measure => simp [intOf]; omega
        | false =>
          have HS := Lib.hid (filter_no hd)
          have hne : ((closeW n rs k : Int) == (k : Int)) = false := by
            rw [beq_eq_false_iff_ne]
            intro e
            rw [(closed_iff_own hf hlt).1 (by omega)] at hd
            cases hd
          clear hd
          go_wp2_with fail
          refine (fwGrow_any n hn6 rs A c k _ (hr.below hbel) hf (by omega) hlt).mono ?_
          rintro e w3 ⟨rfl, hb3⟩
          have hbel3 := hbel.trans (hb3.mono hbel.size)
          have HO3 := Lib.hid (ownU_below HO.out hb3)
          clear hb3
          go_wp2
          go_roundw
          case rel => exact ⟨k + 1, by go_num, by omega, ⟨u, by rw [HS.out, HU.out], HO3.out⟩, hbel3⟩
          case measure => simp [intOf]; omega
      · obtain rfl : k = one n := by omega
        obtain ⟨A2, c2, rfl, hrow, _⟩ := OwnU.row HO.out
        have HR := Lib.hid hrow
        clear hrow
        go_wp2
        go_ret2
        exact ⟨A2, c2, u, rfl, HU.out, HR.out, hbel⟩
  · rw [if_neg hc]
    generalize codeR n rs 0 = k at *
    go_enter Try.func17, Try.ntmps17
    go_wp2_with fail
    refine key.mono ?_
    rintro e w1 ⟨rfl, hb1⟩
    clear key
    go_wp2
    go_ret2
    exact ⟨none, 0, [], rfl, rfl, .inl rfl, hb1⟩

end Go.Proofs.Ytdiofkkdhdhkaaa
