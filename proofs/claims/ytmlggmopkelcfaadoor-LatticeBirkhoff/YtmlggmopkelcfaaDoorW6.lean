/- order.reverse, order.hasCycle, order.Table. -/
import Derived.Test.YtmlggmopkelcfaaDoorW5
namespace Go.Proofs.YtmlggmopkelcfaaDoor
open Go.RowKit

/-- Of the reversed table: what the first a rows give, and the first b of row a. -/
def revP (n : Nat) (f : Nat → Nat) (a b : Nat) : Nat → Nat := fun x => wordOf n fun y => (decide (y < a) || (decide (y = a) && decide (x < b))) && (f y).testBit x
/-- The reversed table. -/
def rev (n : Nat) (f : Nat → Nat) : Nat → Nat := fun x => wordOf n fun y => (f y).testBit x

theorem revP_zero (n : Nat) (f : Nat → Nat) : tab n (fun _ => 0) = tab n (revP n f 0 0) :=
  tab_congr fun i _ => wordOf_of (one_pos n) fun k _ => by simp
theorem revP_yes {n : Nat} {f : Nat → Nat} {a b : Nat} (ha : a < n) (h : (f a).testBit b = true) : upd (revP n f a b) b (revP n f a b b ||| one a) = revP n f a (b + 1) := by
  funext x
  by_cases e : x = b
  · subst e
    rw [upd_same]
    refine wordOf_of (or_lt_one (wordOf_lt _ _) (one_lt_one ha)) fun i hi => ?_
    rw [Nat.testBit_or, one_testBit, revP, testBit_wordOf]
    by_cases e2 : i = a
    · subst e2; simp [h]
    · simp [hi, e2, show ¬ a = i from fun e => e2 e.symm]
  · rw [upd_other e]
    refine wordOf_congr fun i _ => ?_
    have : decide (x < b) = decide (x < b + 1) := by rw [decide_eq_decide]; omega
    rw [this]
theorem revP_no {n : Nat} {f : Nat → Nat} {a b : Nat} (h : (f a).testBit b = false) : revP n f a b = revP n f a (b + 1) := by
  funext x
  refine wordOf_congr fun i _ => ?_
  by_cases e : x = b
  · subst e
    by_cases e2 : i = a
    · subst e2; simp [h]
    · simp [e2]
  · have : decide (x < b) = decide (x < b + 1) := by rw [decide_eq_decide]; omega
    rw [this]
theorem revP_next (n : Nat) (f : Nat → Nat) (a : Nat) : tab n (revP n f a n) = tab n (revP n f (a + 1) 0) :=
  tab_congr fun x hx => wordOf_congr fun i _ => by
    have : (decide (i < a) || (decide (i = a) && decide (x < n))) = (decide (i < a + 1) || (decide (i = a + 1) && decide (x < 0))) := by
      rw [Bool.eq_iff_iff]; simp; omega
    rw [this]
theorem revP_all (n : Nat) (f : Nat → Nat) : tab n (revP n f n 0) = tab n (rev n f) :=
  tab_congr fun x _ => wordOf_congr fun i hi => by simp [hi]

def RevA (n : Nat) (f : Nat → Nat) (w : World) (v : Value) (wr : World) : Prop :=
  ∃ a : Nat, v = .int .i64 a ∧ a ≤ n ∧ Own wr w.heap.size w.heap.size n (revP n f a 0) ∧ Below w.heap.size w wr
def RevB (n : Nat) (f : Nat → Nat) (w : World) (a : Nat) (v : Value) (wr : World) : Prop :=
  ∃ b : Nat, v = .int .i64 b ∧ b ≤ n ∧ Own wr w.heap.size w.heap.size n (revP n f a b) ∧ Below w.heap.size w wr

/-- A table that is only read. -/
def Tab (w : World) (A : Option Addr) (n : Nat) (f : Nat → Nat) : Prop := Row w A (words (tab n f))
theorem Tab.cell {w : World} {A : Option Addr} {n : Nat} {f : Nat → Nat} (h : Tab w A n f) (hn : 0 < n) : ∃ g off, A = some ⟨g, off, none⟩ ∧ ∀ a, a < n → w.cell? ⟨g, off + a, none⟩ = some (.int .u32 (f a : Nat)) := by
  obtain ⟨g, off, e, hc⟩ := Row.at h (k := 0) (by simp; omega)
  exact ⟨g, off, e, fun a ha => hc a _ (words_at (tab_at f ha))⟩
theorem Tab.below {w w' : World} {A : Option Addr} {n : Nat} {f : Nat → Nat} (h : Tab w A n f) (hb : Below w.heap.size w w') : Tab w' A n f := Row.below h hb
theorem Own.tab {w : World} {B g n : Nat} {f : Nat → Nat} (h : Own w B g n f) : Tab w (some ⟨g, 0, none⟩) n f := h.row

set_option maxHeartbeats 1000000 in
theorem reverse_any (n : Nat) (f : Nat → Nat) (A : Option Addr) (c : Nat) (w : World) (hr : Tab w A n f) (hn1 : 1 ≤ n) (hn6 : n ≤ 6) (hf : ∀ a, a < n → f a < 4294967296) :
    Calls Tryd.prog 31 #[.slice A n c] w fun e w' => e = .returned (.slice (some ⟨w.heap.size, 0, none⟩) n n) ∧ Own w' w.heap.size w.heap.size n (rev n f) ∧ Below w.heap.size w w' := by
  obtain ⟨i0, hi, hz0, hz1, hz2⟩ := info_parts info29
  have HI := Lib.hid (And.intro hi (And.intro hz0 (And.intro hz1 hz2)))
  have HF := Lib.hid hf
  clear hi hz0 hz1 hz2 hf
  go_enter Tryd.func31, Tryd.ntmps31
  go_wp2_with (at_make; refine wpList_make_full _ rfl _ _ 36 rfl w.heap.size 27 i0 (.int .u32 0) 1 Tryd.underlying36 HI.out.1 HI.out.2.1 HI.out.2.2.1 .i64 .i64 n n n rfl rfl rfl rfl ?b2 ?b3 (Nat.le_refl _) ?c5)
  case b2 => rw [HI.out.2.2.2]; omega
  case b3 => unfold maxLen; omega
  case c5 =>
    intro w1 hown hgrow
    have HO := Lib.hid (own_made hown)
    have HB := Lib.hid ((Below.refl w.heap.size w).grown hgrow (Nat.le_refl _) (by intro k hk; cases hk))
    clear hown hgrow
    go_wp2
    go_loopw [11] (fun v wr => RevA n f w v wr) (fun v _ => n - (intOf v).toNat)
    case atStart => exact ⟨0, rfl, Nat.zero_le _, HO.out.congr (revP_zero n f), HB.out⟩
    case round =>
      clear HO HB
      obtain ⟨a, rfl, ha, hown, hbel⟩ := hrel
      have HO := Lib.hid hown
      clear hown
      by_cases hlt : a < n
      · go_wp2
        go_loopw [16] (fun v wr => RevB n f w a v wr) (fun v _ => n - (intOf v).toNat)
        case atStart => exact ⟨0, rfl, Nat.zero_le _, HO.out, hbel⟩
        case round =>
          clear HO hbel
          obtain ⟨b, rfl, hb, hown, hbel⟩ := hrel
          have HO := Lib.hid hown
          by_cases hbl : b < n
          · obtain ⟨g, off, rfl, hcell⟩ := (hr.below hbel).cell (by omega)
            have hca := hcell a hlt
            have hcb := hown.cell hbl
            have hff := hown.free b
            have hfa := HF.out a hlt
            have hrl : revP n f a b b < 4294967296 := by
              have h1 : revP n f a b b < one n := wordOf_lt _ _
              have h2 := one_le_64 hn6
              omega
            have h1a : one a < 4294967296 := one_lt (by omega)
            clear hown hcell
            cases hbit : (f a).testBit b with
            | true =>
              go_wp2_with (go_at_call 30; refine (has_any (f a) b (by omega) hfa _).mono ?_; rintro e w' ⟨rfl, rfl⟩)
              refine wp_region_still_tail 8 (by kernel_rfl) (by kernel_rfl) ?_
              simp only [List.take_succ_cons, List.take_zero, List.drop_succ_cons, List.drop_zero]
              iterate 5 still_step
              still_call (only_still a (by omega) _)
              iterate 2 still_step
              refine wpStill_nil ?_
              go_wp2
              go_roundw
              case rel => exact ⟨b + 1, by go_num, by omega, by rw [← revP_yes hlt hbit]; exact HO.out.orAt hrl h1a, (hbel.setCell (Nat.le_refl _) _).drew⟩
              case measure => simp [intOf]; omega
            | false =>
              go_wp2_with (go_at_call 30; refine (has_any (f a) b (by omega) hfa _).mono ?_; rintro e w' ⟨rfl, rfl⟩)
              go_roundw
              case rel => exact ⟨b + 1, by go_num, by omega, by rw [← revP_no hbit]; exact HO.out, hbel⟩
              case measure => simp [intOf]; omega
          · obtain rfl : b = n := by omega
            clear hown
            go_wp2
            go_roundw
            case rel => exact ⟨a + 1, by go_num, by omega, HO.out.congr (revP_next b f a), hbel⟩
            case measure => simp [intOf]; omega
      · obtain rfl : a = n := by omega
        go_wp2
        go_ret
        exact ⟨rfl, HO.out.congr (revP_all a f), hbel⟩

/-- Two different things of a table are below each other. -/
def cycB (n : Nat) (f : Nat → Nat) (k : Nat) : Bool := (List.range k).any fun a => f a &&& rev n f a != one a
theorem cycB_succ (n : Nat) (f : Nat → Nat) (k : Nat) : cycB n f (k + 1) = (cycB n f k || (f k &&& rev n f k != one k)) := by
  simp [cycB, List.range_succ]
theorem u32_neq {a b c : Nat} (ha : a < 4294967296) (hb : b < 4294967296) : (bits .and .u32 (a : Int) (b : Int) != (c : Int)) = (a &&& b != c) := by
  rw [u32_and_nat a b ha hb, Bool.eq_iff_iff]
  simp only [bne_iff_ne, ne_eq]
  omega

set_option maxHeartbeats 1000000 in
theorem hasCycle_any (n : Nat) (f : Nat → Nat) (A : Option Addr) (c : Nat) (w : World) (hr : Tab w A n f) (hn1 : 1 ≤ n) (hn6 : n ≤ 6) (hf : ∀ a, a < n → f a < 4294967296) :
    Calls Tryd.prog 24 #[.slice A n c] w fun e w' => e = .returned (.bool (cycB n f n)) ∧ Below w.heap.size w w' := by
  have HF := Lib.hid hf
  clear hf
  go_enter Tryd.func24, Tryd.ntmps24
  go_wp2_with fail
  refine (reverse_any n f A c _ hr hn1 hn6 HF.out).mono ?_
  rintro e w1 ⟨rfl, hown, hbel1⟩
  have HO := Lib.hid hown
  clear hown
  go_wp2
  go_loopw [9] (fun v wr => ∃ a : Nat, v = .int .i64 a ∧ a ≤ n ∧ cycB n f a = false ∧ ∃ k, wr = w1.drewN k) (fun v _ => n - (intOf v).toNat)
  case atStart => exact ⟨0, rfl, Nat.zero_le _, rfl, 0, rfl⟩
  case round =>
    obtain ⟨a, rfl, ha, hno, k, rfl⟩ := hrel
    have HN := Lib.hid hno
    clear hno
    by_cases hlt : a < n
    · obtain ⟨g, off, rfl, hcell⟩ := (hr.below hbel1).cell (by omega)
      have hca : (w1.drewN k).cell? ⟨g, off + a, none⟩ = some (.int .u32 (f a : Nat)) := hcell a hlt
      have hcb : (w1.drewN k).cell? ⟨w.heap.size, a, none⟩ = some (.int .u32 (rev n f a : Nat)) := HO.out.cell hlt
      have hrl : rev n f a < 4294967296 := by
        have h1 : rev n f a < one n := wordOf_lt _ _
        have h2 := one_le_64 hn6
        omega
      have HD := Lib.hid (u32_neq (c := one a) (HF.out a hlt) hrl)
      generalize hw3 : w1.drewN k = w3 at *
      have HW3 := Lib.hid hw3
      clear hcell hw3
      cases hd : (f a &&& rev n f a != one a) with
      | true =>
        have hd2 : (bits .and .u32 (f a : Int) (rev n f a : Int) != (one a : Int)) = true := HD.out.trans hd
        have HC := Lib.hid (show cycB n f n = true by
          unfold cycB
          rw [List.any_eq_true]
          exact ⟨a, by simpa using hlt, hd⟩)
        clear hd
        go_wp2
        go_quiet ((go_at_call 29; exact only_quiet a (by omega) _ _))
        go_wp2
        go_ret
        exact ⟨ret_bool HC.out.symm, by rw [← HW3.out]; exact below_drewN (below_drewN hbel1 _) _⟩
      | false =>
        have hd2 : (bits .and .u32 (f a : Int) (rev n f a : Int) != (one a : Int)) = false := HD.out.trans hd
        have HC := Lib.hid (show cycB n f (a + 1) = false by rw [cycB_succ, HN.out, hd]; rfl)
        clear hd
        go_wp2
        go_quiet ((go_at_call 29; exact only_quiet a (by omega) _ _))
        go_wp2
        go_roundw
        case rel => exact ⟨a + 1, by go_num, by omega, HC.out, k + nq, by rw [← HW3.out, World.drewN_drewN]⟩
        case measure => simp [intOf]; omega
    · obtain rfl : a = n := by omega
      go_wp2
      go_ret
      exact ⟨ret_bool HN.out.symm, below_drewN hbel1 k⟩

end Go.Proofs.YtmlggmopkelcfaaDoor
