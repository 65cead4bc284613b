/- The small functions of package downs, and downs.reverse. -/
import Derived.Test.YtmlggmopkelcfaaDoorW7
import Derived.Test.YtmlggmopkelcfaaDoorDownSpec
namespace Go.Proofs.YtmlggmopkelcfaaDoor
open Go.RowKit

set_option maxHeartbeats 400000 in
theorem dnOnly_any (k : Nat) (hk : k < 32) (w : World) :
    Calls Tryd.prog 28 #[.int .i64 k] w fun e w' => e = .returned (.int .u32 (one k)) ∧ w = w' := by
  go_enter Tryd.func28, Tryd.ntmps28
  go_wp2
  go_ret
  exact ⟨ret_int (one_int k hk), rfl⟩

theorem dnOnly_still (k : Nat) (hk : k < 32) (w : World) : Calls Tryd.prog 28 #[.int .i64 k] w fun e w' => e = .returned (.int .u32 (one k)) ∧ w' = w :=
  (dnOnly_any k hk w).mono fun _ _ ⟨he, hw⟩ => ⟨he, hw.symm⟩

set_option maxHeartbeats 400000 in
theorem dnHas_any (s k : Nat) (hk : k < 32) (hs : s < 4294967296) (w : World) :
    Calls Tryd.prog 27 #[.int .u32 s, .int .i64 k] w fun e w' => e = .returned (.bool (s.testBit k)) ∧ w = w' := by
  go_enter Tryd.func27, Tryd.ntmps27
  go_wp2_with fail
  refine (dnOnly_any k hk _).mono ?_
  rintro e w' ⟨rfl, rfl⟩
  go_wp2
  go_ret
  exact ⟨ret_bool (by rw [← u32_has s k hs hk]), rfl⟩

theorem dnHas_still {b : Bool} (s k : Nat) (h : s.testBit k = b) (hk : k < 32) (hs : s < 4294967296) (w : World) : Calls Tryd.prog 27 #[.int .u32 s, .int .i64 k] w fun e w' => e = .returned (.bool b) ∧ w' = w :=
  (dnHas_any s k hk hs w).mono fun _ _ ⟨he, hw⟩ => ⟨by rw [he, h], hw.symm⟩

set_option maxHeartbeats 1000000 in
theorem dnReverse_any (n : Nat) (f : Nat → Nat) (A : Option Addr) (c : Nat) (w : World) (hr : Tab w A n f) (hn1 : 1 ≤ n) (hn6 : n ≤ 6) (hf : ∀ a, a < n → f a < 4294967296) :
    Calls Tryd.prog 20 #[.slice A n c] w fun e w' => e = .returned (.slice (some ⟨w.heap.size, 0, none⟩) n n) ∧ Own w' w.heap.size w.heap.size n (rev n f) ∧ Below w.heap.size w w' := by
  obtain ⟨i0, hi, hz0, hz1, hz2⟩ := info_parts info29
  have HI := Lib.hid (And.intro hi (And.intro hz0 (And.intro hz1 hz2)))
  have HF := Lib.hid hf
  clear hi hz0 hz1 hz2 hf
  go_enter Tryd.func20, Tryd.ntmps20
  go_wp2_with (at_make; refine wpList_make_full _ rfl _ _ 36 rfl w.heap.size 27 i0 (.int .u32 0) 1 Tryd.underlying36 HI.out.1 HI.out.2.1 HI.out.2.2.1 .i64 .i64 n n n rfl rfl rfl rfl ?b2 ?b3 (Nat.le_refl _) ?c5)
  case b2 => rw [HI.out.2.2.2]; omega
  case b3 => unfold maxLen; omega
  case c5 =>
    intro w1 hown hgrow
    have HO := Lib.hid (own_made hown)
    have HB := Lib.hid ((Below.refl w.heap.size w).grown hgrow (Nat.le_refl _) (by intro k hk; cases hk))
    clear hown hgrow
    go_wp2
    go_loopw [11] (fun v wr => RevA n f w v wr) (fun v _ => n - (intOf v).toNat)
    case atStart => exact ⟨0, rfl, Nat.zero_le _, HO.out.congr (revP_zero n f), HB.out⟩
    case round =>
      clear HO HB
      obtain ⟨a, rfl, ha, hown, hbel⟩ := hrel
      have HO := Lib.hid hown
      clear hown
      by_cases hlt : a < n
      · go_wp2
        go_loopw [16] (fun v wr => RevB n f w a v wr) (fun v _ => n - (intOf v).toNat)
        case atStart => exact ⟨0, rfl, Nat.zero_le _, HO.out, hbel⟩
        case round =>
          clear HO hbel
          obtain ⟨b, rfl, hb, hown, hbel⟩ := hrel
          have HO := Lib.hid hown
          by_cases hbl : b < n
          · obtain ⟨g, off, rfl, hcell⟩ := (hr.below hbel).cell (by omega)
            have hca := hcell a hlt
            have hcb := hown.cell hbl
            have hff := hown.free b
            have hfa := HF.out a hlt
            have hrl : revP n f a b b < 4294967296 := by
              have h1 : revP n f a b b < one n := wordOf_lt _ _
              have h2 := one_le_64 hn6
              omega
            have h1a : one a < 4294967296 := one_lt (by omega)
            clear hown hcell
            cases hbit : (f a).testBit b with
            | true =>
              go_wp2_with (go_at_call 27; refine (dnHas_any (f a) b (by omega) hfa _).mono ?_; rintro e w' ⟨rfl, rfl⟩)
              refine wp_region_still_tail 8 (by kernel_rfl) (by kernel_rfl) ?_
              simp only [List.take_succ_cons, List.take_zero, List.drop_succ_cons, List.drop_zero]
              iterate 5 still_step
              still_call (dnOnly_still a (by omega) _)
              iterate 2 still_step
              refine wpStill_nil ?_
              go_wp2
              go_roundw
              case rel => exact ⟨b + 1, by go_num, by omega, by rw [← revP_yes hlt hbit]; exact HO.out.orAt hrl h1a, (hbel.setCell (Nat.le_refl _) _).drew⟩
              case measure => simp [intOf]; omega
            | false =>
              go_wp2_with (go_at_call 27; refine (dnHas_any (f a) b (by omega) hfa _).mono ?_; rintro e w' ⟨rfl, rfl⟩)
              go_roundw
              case rel => exact ⟨b + 1, by go_num, by omega, by rw [← revP_no hbit]; exact HO.out, hbel⟩
              case measure => simp [intOf]; omega
          · obtain rfl : b = n := by omega
            clear hown
            go_wp2
            go_roundw
            case rel => exact ⟨a + 1, by go_num, by omega, HO.out.congr (revP_next b f a), hbel⟩
            case measure => simp [intOf]; omega
      · obtain rfl : a = n := by omega
        go_wp2
        go_ret
        exact ⟨rfl, HO.out.congr (revP_all a f), hbel⟩

end Go.Proofs.YtmlggmopkelcfaaDoor
