/- The law on Closed, by the document's answer. -/
import Derived.Test.YtdiofkkdhdhkaaaFSpec
import Derived.Test.YtdiofkkdhdhkaaaW9
import Derived.Test.YtdiofkkdhdhkaaaOwnU
namespace Go.Proofs.Ytdiofkkdhdhkaaa
open Go.RowKit

/-- The loop that lays the wanted list. -/
def CdRel (n : Nat) (p : Nat → Bool) (w w2 : World) (v sv : Value) (wr : World) : Prop :=
  ∃ k : Nat, sv = .int .u32 k ∧ k ≤ one n ∧ (∃ l, l = (List.range k).filter p ∧ OwnU wr w2.heap.size v l) ∧ Below w2.heap.size w2 wr ∧ Below w.heap.size w wr

set_option maxHeartbeats 2000000 in
theorem FollowCloseds_with (hJ : ClosedOk 17) (n : Int) (rs : List (Nat × Nat)) (A : Option Addr) (c : Nat) (w : World) (h32 : W32 rs) (hm : rs.length ≤ maxLen) (hr : Row w A (rulesC rs)) (hX : Laid w) :
    Calls Try.prog 5 #[.int .i64 n, .slice A rs.length c] w fun e w' => e = .returned (.bool true) ∧ Below w.heap.size w w' := by
  have key := hJ n rs A c w h32 hm hr hX
  by_cases hc : codeR n rs 0 = 0
  · obtain ⟨n, rfl, hn1, hn6, hl, hf, _⟩ := codeR_zero hc
    obtain ⟨i0, hi, hz0, hz1, hz2⟩ := info_parts info29
    have HI := Lib.hid (And.intro hi (And.intro hz0 (And.intro hz1 hz2)))
    have HC := Lib.hid hc
    rw [hc, if_pos rfl, Int.toNat_natCast] at key
    have h64 := one_le_64 hn6
    have h1n := one_int n (by omega)
    clear hc hi hz0 hz1 hz2
    go_enter Try.func5, Try.ntmps5
    go_wp2_with fail
    refine key.mono ?_
    rintro e w1 ⟨A2, c2, l, rfl, hle, hrow, hb1⟩
    have HLe := Lib.hid hle
    have HR := Lib.hid hrow
    have hll : l.length ≤ 64 := by rw [hle]; have := filter_len (closedB rs) (one n); omega
    clear hle hrow
    go_wp2_with fail
    refine (RulesCheck_any n rs A c 0 _ (hr.below hb1)).mono ?_
    rintro e w2 ⟨rfl, hb2⟩
    rw [HC.out]
    have hb02 := hb1.trans (hb2.mono hb1.size)
    have HR2 := Lib.hid (HR.out.below hb2)
    have hsz2 := hb02.size
    clear hb1 hb2 key HR
    go_wp2
    go_loopw [8, 9] (fun v sv wr => CdRel n (closedB rs) w w2 v sv wr) (fun _ sv _ => one n - (intOf sv).toNat)
    case atStart => exact ⟨0, rfl, Nat.zero_le _, ⟨[], rfl, World.ownsRow_nil _ _ _ _⟩, Below.refl _ _, hb02⟩
    case round =>
      clear hb02
      obtain ⟨k, rfl, hk, ⟨u, hu, hown⟩, hb2, hbel⟩ := hrel
      have hul : u.length ≤ 64 := by rw [hu]; have := filter_len (closedB rs) k; omega
      have HU := Lib.hid hu
      have HO := Lib.hid hown
      clear hu hown
      by_cases hlt : k < one n
      · go_wp2_with fail
        refine (Closed_any rs A c k _ (hr.below hbel) h32 (by omega) (by omega)).mono ?_
        rintro e w3 ⟨rfl, hb3⟩
        have hbel3 := hbel.trans (hb3.mono hbel.size)
        have hb23 := hb2.trans (hb3.mono hb2.size)
        have HO3 := Lib.hid (show w3.ownsRow w2.heap.size 23 1 _ u.length (words u) from ownU_below HO.out hb3)
        have hsz3 := hb23.size
        clear hb3 HO hb2 hbel
        cases hd : closedB rs k with
        | true =>
          have HS := Lib.hid (filter_yes hd)
          clear hd
          obtain ⟨hi, hz0, hz1, hz2⟩ := HI.out
          go_wp2_with (first | (at_builtin; refine wpList_append_lies _ rfl _ _ 36 rfl w2.heap.size 23 i0 (.int .u32 0) 1 4 Try.underlying36 hi hz0 hz1 hz2 rfl (by decide) _ _ _ rfl (HO3.out.alloc _) ⟨w3.heap.size, 0, none⟩ 1 1 [.int .u32 k] rfl rfl (cell_one_new _ _ _) ?c1 (by decide) ?c2 ?c3 ?c4 _ rfl ?c6))
          case c1 => intro u hu; simp at hu; subst hu; rfl
          case c2 => unfold maxLen; omega
          case c3 => omega
          case c4 => simp; omega
          case c6 =>
            intro g3 cap3 w4 hown4 hgrow4 hat4 hlt4
            have HG4 := Lib.hid hgrow4
            have HO4 := Lib.hid hown4
            clear hown4 hgrow4 hat4 hi hz0 hz1 hz2
            go_wp2
            go_roundw
            case rel =>
              have hlt := fun k hk => (World.ownsRow.lt HO3.out k hk).1
              refine ⟨k + 1, by go_num, by omega, ⟨u ++ [k], by rw [HS.out, HU.out], ?_⟩, ?_, ?_⟩
              · unfold OwnU
                rw [words_append, List.length_append]
                exact HO4.out
              · exact (hb23.alloc hsz3 _).grown HG4.out (by simp; omega) hlt
              · exact (hbel3.alloc (by omega) _).grown HG4.out (by simp; omega) (fun k hk => by have := hlt k hk; omega)
            case measure => simp [intOf]; omega
        | false =>
          have HS := Lib.hid (filter_no hd)
          clear hd
          go_wp2
          go_roundw
          case rel => exact ⟨k + 1, by go_num, by omega, ⟨u, by rw [HS.out, HU.out], HO3.out⟩, hb23, hbel3⟩
          case measure => simp [intOf]; omega
      · have hke : k = one n := by omega
        subst hke
        obtain ⟨A5, c5, rfl, hrow5, _⟩ := OwnU.row HO.out
        have HR5 := Lib.hid hrow5
        clear HO hrow5
        go_wp2_with fail
        refine (Words_any l u A2 A5 c2 c5 _ (HR2.out.below hb2) HR5.out (by omega) (by omega)).mono ?_
        rintro e w4 ⟨rfl, d, rfl⟩
        rw [show decide (l = u) = true from by rw [decide_eq_true_iff, HLe.out, HU.out]]
        have HB := Lib.hid (below_drewN hbel d)
        clear hb2 hbel
        go_wp2
        go_ret
        exact ⟨rfl, HB.out⟩
  · rw [if_neg hc] at key
    go_enter Try.func5, Try.ntmps5
    go_wp2_with fail
    refine key.mono ?_
    rintro e w1 ⟨A2, c2, l, rfl, rfl, hrow, hb1⟩
    go_wp2_with fail
    refine (RulesCheck_any n rs A c 0 _ (hr.below hb1)).mono ?_
    rintro e w2 ⟨rfl, hb2⟩
    have HB := Lib.hid (hb1.trans (hb2.mono hb1.size))
    clear key hrow hb1 hb2
    generalize codeR n rs 0 = k at *
    have hk : (k == 0) = false := by simpa using hc
    have hk2 : (k != 0) = true := by simpa using hc
    clear hc
    go_wp2
    go_ret
    exact ⟨rfl, HB.out⟩
end Go.Proofs.Ytdiofkkdhdhkaaa
