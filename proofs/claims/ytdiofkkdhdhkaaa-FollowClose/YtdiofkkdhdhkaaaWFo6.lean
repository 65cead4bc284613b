/- follow.Keys. -/
import Derived.Test.YtdiofkkdhdhkaaaWFo5
namespace Go.Proofs.Ytdiofkkdhdhkaaa
open Go.RowKit

set_option maxHeartbeats 4000000 in
theorem Keys_ok : KeysOk 20 := by
  intro n rs A c w h32 hm hr hX
  have key := fwCheck_any n rs A c [] none 0 w hr h32 hm (.inl rfl) (by simp) (by simp)
  rw [show orL [] = 0 from rfl] at key
  by_cases hc : codeR n rs 0 = 0
  · rw [hc] at key
    rw [hc, if_pos rfl]
    obtain ⟨n, rfl, hn1, hn6, hl, hf, hk⟩ := codeR_zero hc
    rw [Int.toNat_natCast]
    obtain ⟨i0, hi, hz0, hz1, hz2⟩ := info_parts info29
    have HI := Lib.hid (And.intro hi (And.intro hz0 (And.intro hz1 hz2)))
    have h64 := one_le_64 hn6
    have h1n : ((full n : Nat) + 1 : Int) % 4294967296 = (one n : Int) := by have := one_pos n; unfold full; omega
    clear hc hi hz0 hz1 hz2
    go_enter Try.func20, Try.ntmps20
    go_wp2_with fail
    refine key.mono ?_
    rintro e w1 ⟨rfl, hb1⟩
    clear key
    go_wp2_with fail
    refine (fwAll_any n hn6 _).mono ?_
    rintro e w2 ⟨rfl, rfl⟩
    go_wp2
    rw [h1n]
    clear h1n
    go_loopw [7, 19] (fun v sv wr => SetsP (keyB n rs) n w v sv wr) (fun _ sv _ => one n - (intOf sv).toNat)
    case atStart => exact ⟨0, rfl, Nat.zero_le _, ⟨[], rfl, World.ownsRow_nil _ _ _ _⟩, hb1⟩
    case round =>
      clear hb1
      have hfu := full_u32 hn6
      obtain ⟨k, rfl, hk, ⟨u, hu, hown⟩, hbel⟩ := hrel
      have hul : u.length ≤ 64 := by rw [hu]; have := filter_len (keyB n rs) k; omega
      have HU := Lib.hid hu
      have HO := Lib.hid (show _root_.Go.World.ownsRow _ w.heap.size 23 1 _ u.length (words u) from hown)
      clear hu hown
      by_cases hlt : k < one n
      · have HB0 := Lib.hid (hbel.alloc hbel.size (.cells #[.int .u32 (k : Int), .int .u32 ((full n : Nat) : Int)] 31)).drew
        have HR0 := Lib.hid (show RuleAt (wr.alloc (.cells #[.int .u32 (k : Int), .int .u32 ((full n : Nat) : Int)] 31)).drew wr.heap.size k (full n) from RuleAt.made wr k (full n) 31)
        have HO0 := Lib.hid (show _root_.Go.World.ownsRow (wr.alloc (.cells #[.int .u32 (k : Int), .int .u32 ((full n : Nat) : Int)] 31)).drew w.heap.size 23 1 _ u.length (words u) from World.ownsRow.alloc HO.out _)
        have hkey := key_short hn6 hf hlt
        generalize hw0 : (wr.alloc (.cells #[.int .u32 (k : Int), .int .u32 ((full n : Nat) : Int)] 31)) = w0 at *
        generalize hgb : wr.heap.size = gb at *
        cases h1 : fol n rs (full n) k with
        | false =>
          rw [h1, Bool.false_and] at hkey
          have HS := Lib.hid (filter_no hkey)
          clear hkey
          go_wp2_with fail
          refine (fwAll_any n hn6 _).mono ?_
          rintro e w2 ⟨rfl, rfl⟩
          go_wp2
          obtain ⟨q0, q1⟩ := HR0.out
          have q0' : w0.cell? ⟨gb, 0, none⟩ = some (.int .u32 (k : Int)) := q0
          have q1' : w0.cell? ⟨gb, 1, none⟩ = some (.int .u32 ((full n : Nat) : Int)) := q1
          first | (go_region_with (first
            | (go_at_call 28
               refine (fwFol_any n hn6 rs A c k (full n) _ (hr.below HB0.out) hf (by omega) hlt hfu).mono ?_
               rintro e w3 ⟨rfl, hb3⟩
               have HB3 := Lib.hid (HB0.out.trans (hb3.mono HB0.out.size))
               have HO3 := Lib.hid (ownU_below HO0.out hb3)
               rw [show sub (full n) (closeW n rs k) = false from h1]
               clear hb3))) | fail
          all_goals
            subst hgb
            go_wp2
            go_roundw
            case rel => exact ⟨k + 1, by go_num, by omega, ⟨u, by rw [HS.out, HU.out], HO3.out⟩, HB3.out⟩
            case measure => simp [intOf]; omega
        | true =>
          rw [h1, Bool.true_and] at hkey
          have hsl : shortW n rs (full n) k ≤ k := shortP_le _ _ _ _ 6
          cases h2 : (shortW n rs (full n) k == k) with
          | false =>
            rw [h2] at hkey
            have HS := Lib.hid (filter_no hkey)
            have hne : ((shortW n rs (full n) k : Int) == (k : Int)) = false := by
              rw [beq_eq_false_iff_ne] at h2 ⊢
              omega
            clear hkey h2
            go_wp2_with fail
            refine (fwAll_any n hn6 _).mono ?_
            rintro e w2 ⟨rfl, rfl⟩
            go_wp2
            go_region_held3 (fun w' => w'.cell? ⟨gb, 0, none⟩ = some (.int .u32 (k : Int)) ∧ w'.cell? ⟨gb, 1, none⟩ = some (.int .u32 ((full n : Nat) : Int))) (first | exact HR0.out | exact HR3.out | exact HR4.out)
              (first
              | (go_at_call 28
                 refine (fwFol_any n hn6 rs A c k (full n) _ (hr.below HB0.out) hf (by omega) hlt hfu).mono ?_
                 rintro e w3 ⟨rfl, hb3⟩
                 have HR3 := Lib.hid (HR0.out.below hb3)
                 have HB3 := Lib.hid (HB0.out.trans (hb3.mono HB0.out.size))
                 have HO3 := Lib.hid (ownU_below HO0.out hb3)
                 rw [show sub (full n) (closeW n rs k) = true from h1]
                 clear hb3)
              | (go_at_call 30
                 refine (fwShort_any n hn6 rs A c k (full n) _ (hr.below HB3.out) hf (by omega) hlt hfu).mono ?_
                 rintro e w4 ⟨rfl, hb4⟩
                 have HR4 := Lib.hid (HR3.out.below hb4)
                 have HB4 := Lib.hid (HB3.out.trans (hb4.mono HB3.out.size))
                 have HO4 := Lib.hid (ownU_below HO3.out hb4)
                 clear hb4))
            subst hgb

            go_wp2
            go_roundw
            case rel => exact ⟨k + 1, by go_num, by omega, ⟨u, by rw [HS.out, HU.out], HO4.out⟩, HB4.out⟩
            case measure => simp [intOf]; omega
          | true =>
            rw [h2] at hkey
            have HS := Lib.hid (filter_yes hkey)
            have hne : ((shortW n rs (full n) k : Int) == (k : Int)) = true := by
              rw [beq_iff_eq] at h2 ⊢
              omega
            clear hkey h2
            obtain ⟨hi, hz0, hz1, hz2⟩ := HI.out
            go_wp2_with fail
            refine (fwAll_any n hn6 _).mono ?_
            rintro e w2 ⟨rfl, rfl⟩
            go_wp2
            go_region_held3 (fun w' => w'.cell? ⟨gb, 0, none⟩ = some (.int .u32 (k : Int)) ∧ w'.cell? ⟨gb, 1, none⟩ = some (.int .u32 ((full n : Nat) : Int))) (first | exact HR0.out | exact HR3.out | exact HR4.out)
              (first
              | (go_at_call 28
                 refine (fwFol_any n hn6 rs A c k (full n) _ (hr.below HB0.out) hf (by omega) hlt hfu).mono ?_
                 rintro e w3 ⟨rfl, hb3⟩
                 have HR3 := Lib.hid (HR0.out.below hb3)
                 have HB3 := Lib.hid (HB0.out.trans (hb3.mono HB0.out.size))
                 have HO3 := Lib.hid (ownU_below HO0.out hb3)
                 rw [show sub (full n) (closeW n rs k) = true from h1]
                 clear hb3)
              | (go_at_call 30
                 refine (fwShort_any n hn6 rs A c k (full n) _ (hr.below HB3.out) hf (by omega) hlt hfu).mono ?_
                 rintro e w4 ⟨rfl, hb4⟩
                 have HR4 := Lib.hid (HR3.out.below hb4)
                 have HB4 := Lib.hid (HB3.out.trans (hb4.mono HB3.out.size))
                 have HO4 := Lib.hid (ownU_below HO3.out hb4)
                 clear hb4))
            subst hgb
            have hsz4 := HB4.out.size
            go_wp2_with (first | (at_builtin; refine wpList_append_lies _ rfl _ _ 36 rfl w.heap.size 23 i0 (.int .u32 0) 1 4 Try.underlying36 hi hz0 hz1 hz2 rfl (by decide) _ _ _ rfl (World.ownsRow.alloc HO4.out _) ⟨_, 0, none⟩ 1 1 [.int .u32 k] rfl rfl (cell_one_new _ _ _) ?c1 (by decide) ?c2 ?c3 ?c4 _ rfl ?c6))
            case c1 => intro u hu; simp at hu; subst hu; rfl
            case c2 => unfold maxLen; omega
            case c3 => omega
            case c4 => simp; omega
            case c6 =>
              intro g3 cap3 w5 hown5 hgrow5 hat5 hlt5
              have HG5 := Lib.hid hgrow5
              have HO5 := Lib.hid hown5
              clear hown5 hgrow5 hat5 hi hz0 hz1 hz2
              go_wp2
              go_roundw
              case rel =>
                have hlt := fun k hk => (World.ownsRow.lt HO4.out k hk).1
                refine ⟨k + 1, by go_num, by omega, ⟨u ++ [k], by rw [HS.out, HU.out], ?_⟩, ?_⟩
                · unfold OwnU
                  rw [words_append, List.length_append]
                  exact HO5.out
                · exact (HB4.out.alloc (by omega) _).grown HG5.out (by simp; omega) (fun k hk => by have := hlt k hk; omega)
              case measure => simp [intOf]; omega
      · obtain rfl : k = one n := by omega
        obtain ⟨A2, c2, rfl, hcap, hrow⟩ := OwnU.cap HO.out
        have HR := Lib.hid hrow
        clear hrow
        go_wp2
        go_ret2
        exact ⟨A2, c2, u, rfl, HU.out, hcap, HR.out, hbel⟩
  · rw [if_neg hc]
    generalize codeR n rs 0 = k at *
    go_enter Try.func20, Try.ntmps20
    go_wp2_with fail
    refine key.mono ?_
    rintro e w1 ⟨rfl, hb1⟩
    clear key
    go_wp2
    go_ret2
    exact ⟨none, 0, [], rfl, rfl, Nat.le_refl _, .inl rfl, hb1⟩

end Go.Proofs.Ytdiofkkdhdhkaaa
