/- lattice.bound. -/
import Derived.Test.YtmlggmopkelcfaaDoorLatT
import Derived.Test.YtmlggmopkelcfaaDoorWCh
import Derived.BigRegion
namespace Go.Proofs.YtmlggmopkelcfaaDoor
open Go.RowKit

set_option maxHeartbeats 1000000 in
theorem bound1_any (n : Nat) (f : Nat → Nat) (A : Option Addr) (c x com p q : Nat) (w : World) (h1 : w.cell? ⟨p, 0, none⟩ = some (.slice A n c)) (h2 : w.cell? ⟨q, 0, none⟩ = some (.int .u32 com)) (hr : Tab w A n f) (hx : x < n) (hn6 : n ≤ 6) :
    Calls Tryd.prog 36 #[.int .i64 x, .pointer (some ⟨p, 0, none⟩), .pointer (some ⟨q, 0, none⟩)] w fun e w' => e = .returned (.bool (f x == com)) ∧ ∃ k, w' = w.drewN k := by
  obtain ⟨g, off, rfl, hcell⟩ := hr.cell (by omega)
  have hcx := hcell x hx
  clear hcell
  go_enter Tryd.func36, Tryd.ntmps36
  go_wp2
  go_quiet (fail)
  go_wp2
  go_ret
  exact ⟨ret_bool (by rw [Bool.eq_iff_iff, beq_iff_eq, beq_iff_eq]; omega), _, rfl⟩

theorem bound1_pred (n : Nat) (f : Nat → Nat) (A : Option Addr) (c com p q : Nat) (w : World) (h1 : w.cell? ⟨p, 0, none⟩ = some (.slice A n c)) (h2 : w.cell? ⟨q, 0, none⟩ = some (.int .u32 com)) (hr : Tab w A n f) (hn6 : n ≤ 6) :
    ∀ (x : Nat) (W : World), x < n → Below w.heap.size w W → Calls Tryd.prog 36 (#[.int .i64 x] ++ #[.pointer (some ⟨p, 0, none⟩), .pointer (some ⟨q, 0, none⟩)]) W fun e W' => e = .returned (.bool (f x == com)) ∧ Below w.heap.size w W' := by
  intro x W hx hW
  have e : (#[Value.int .i64 x] ++ #[.pointer (some ⟨p, 0, none⟩), .pointer (some ⟨q, 0, none⟩)] : Array Value) = #[.int .i64 x, .pointer (some ⟨p, 0, none⟩), .pointer (some ⟨q, 0, none⟩)] := rfl
  rw [e]
  exact (bound1_any n f A c x com p q W ((hW.cell (p := ⟨p, 0, none⟩) (block_lt_of_cell h1)).trans h1) ((hW.cell (p := ⟨q, 0, none⟩) (block_lt_of_cell h2)).trans h2) (hr.below hW) hx hn6).mono
    fun _ _ ⟨he, k, hw⟩ => ⟨he, by rw [hw]; exact below_drewN hW k⟩
theorem bound1_enters (args : Array Value) (w : World) : (callFunc 36 args).run Tryd.prog w = .ok (.enter 36 args) w := enters_of Tryd.func36 (by kernel_rfl) rfl args w

set_option maxHeartbeats 2000000 in
theorem bound_ok (n : Nat) (ps : List (Int × Int)) (A : Option Addr) (c : Nat) (a b : Int) (w : World) (hr : Tab w A n (upT n ps)) (hT : Laid w) (hc : code n ps = 0) :
    Calls Tryd.prog 32 #[.slice A n c, .int .i64 a, .int .i64 b] w fun e w' => e = .returned (.tuple #[.int .i64 (bndV joined n ps a b), .int .i64 (bndC joined n ps a b)]) ∧ Below w.heap.size w w' := by
  obtain ⟨h2, h3, h4⟩ := code_zero hc
  obtain ⟨hn1, hn6, hl⟩ : 1 ≤ n ∧ n ≤ 6 ∧ ps.length ≤ 20 := by unfold Large at h2; omega
  have HC := Lib.hid hc
  have HY := Lib.hid h4
  clear h2 h3 h4 hc
  by_cases ho : Off n a b
  · obtain ⟨h5, h6⟩ := bnd_off (f := joined) HC.out ho
    rw [h5, h6]
    clear h5 h6
    unfold Off at ho
    by_cases o1 : a < 0 ∨ (n : Int) ≤ a
    · clear ho
      go_enter Tryd.func32, Tryd.ntmps32
      go_wp2_with (go_at_call 35; refine (isThing_no _ _ _ _ _ o1).mono ?_; rintro e w' ⟨rfl, rfl⟩)
      go_ret2
      exact ⟨rfl, (Below.refl _ _).alloc (Nat.le_refl _) _⟩
    · obtain ⟨a, rfl⟩ := Int.eq_ofNat_of_zero_le (show 0 ≤ a by omega)
      have o2 : a < n := by omega
      have o3 : b < 0 ∨ (n : Int) ≤ b := by omega
      clear ho o1
      go_enter Tryd.func32, Tryd.ntmps32
      go_wp2_with fail
      refine (isThing_yes _ _ _ _ _ o2).mono ?_
      rintro e w' ⟨rfl, rfl⟩
      go_wp2_with fail
      refine (isThing_no _ _ _ _ _ o3).mono ?_
      rintro e w' ⟨rfl, rfl⟩
      go_wp2
      go_ret2
      exact ⟨rfl, (Below.refl _ _).alloc (Nat.le_refl _) _⟩
  · have HO := Lib.hid ho
    obtain ⟨a, rfl⟩ := Int.eq_ofNat_of_zero_le (show 0 ≤ a by unfold Off at ho; omega)
    obtain ⟨b, rfl⟩ := Int.eq_ofNat_of_zero_le (show 0 ≤ b by unfold Off at ho; omega)
    obtain ⟨han, hbn⟩ : a < n ∧ b < n := by unfold Off at ho; omega
    clear ho
    have hua := upT_u32 hn6 ps a
    have hub := upT_u32 hn6 ps b
    go_enter Tryd.func32, Tryd.ntmps32
    go_wp2_with fail
    refine (isThing_yes _ _ _ _ _ han).mono ?_
    rintro e w' ⟨rfl, rfl⟩
    go_wp2_with fail
    refine (isThing_yes _ _ _ _ _ hbn).mono ?_
    rintro e w' ⟨rfl, rfl⟩
    go_wp2
    have hb1 := (Below.refl w.heap.size w).alloc (Nat.le_refl _) (.cells #[.slice A n c] 36)
    have hbox : (w.alloc (.cells #[.slice A n c] 36)).cell? ⟨w.heap.size, 0, none⟩ = some (.slice A n c) := by simp
    have hsz : (w.alloc (.cells #[.slice A n c] 36)).heap.size = w.heap.size + 1 := by simp
    have hr1 := hr.below hb1
    have hT1 := hT.below hb1
    generalize w.alloc (.cells #[.slice A n c] 36) = w1 at *
    obtain ⟨s, hs⟩ : ∃ s, s = w.heap.size := ⟨_, rfl⟩
    rw [← hs] at hbox hb1 hsz
    have HS := Lib.hid hs
    have HZ := Lib.hid hsz
    have HT := Lib.hid hT1
    rw [← hs]
    obtain ⟨g, off, rfl, hcell⟩ := hr1.cell (by omega)
    have hca := hcell a han
    have hcb := hcell b hbn
    have hlt1 : s < w1.heap.size := by omega
    have hA1 : ∀ o, (w1.alloc o).cell? ⟨s, 0, none⟩ = some (.slice (some ⟨g, off, none⟩) n c) := fun o => (((Below.refl w1.heap.size w1).alloc (Nat.le_refl _) o).cell (p := ⟨s, 0, none⟩) hlt1).trans hbox
    have hA2 : ∀ o, (w1.alloc o).cell? ⟨g, off + a, none⟩ = some (.int .u32 (upT n ps a : Nat)) := fun o => (((Below.refl w1.heap.size w1).alloc (Nat.le_refl _) o).cell (p := ⟨g, off + a, none⟩) (block_lt_of_cell hca)).trans hca
    have hA3 : ∀ o, (w1.alloc o).cell? ⟨g, off + b, none⟩ = some (.int .u32 (upT n ps b : Nat)) := fun o => (((Below.refl w1.heap.size w1).alloc (Nat.le_refl _) o).cell (p := ⟨g, off + b, none⟩) (block_lt_of_cell hcb)).trans hcb
    have HB1 := Lib.hid hb1
    clear hcell hs hsz hT hr hT1 hb1 hlt1
    go_region
    go_wp2_with fail
    have hcom : (w1.alloc (.cells #[.int .u32 (bits .and .u32 (upT n ps a : Int) (upT n ps b : Int))] 27)).drew.cell? ⟨w1.heap.size, 0, none⟩ = some (.int .u32 (upT n ps a &&& upT n ps b : Nat)) := by
      rw [u32_and_nat _ _ hua hub]
      show World.cell? (w1.alloc _) _ = _
      simp
    have hb2 : Below w1.heap.size w1 (w1.alloc (.cells #[.int .u32 (bits .and .u32 (upT n ps a : Int) (upT n ps b : Int))] 27)).drew := ((Below.refl w1.heap.size w1).alloc (Nat.le_refl _) _).drew
    have hbox3 : (w1.alloc (.cells #[.int .u32 (bits .and .u32 (upT n ps a : Int) (upT n ps b : Int))] 27)).drew.cell? ⟨s, 0, none⟩ = some (.slice (some ⟨g, off, none⟩) n c) := hA1 _
    generalize (w1.alloc (.cells #[.int .u32 (bits .and .u32 (upT n ps a : Int) (upT n ps b : Int))] 27)).drew = w2 at *
    have hr2 := hr1.below hb2
    have hb02 := HB1.out.trans (hb2.mono (by rw [HZ.out]; omega))
    clear hA1 hA2 hA3 hbox hca hcb
    have key := choose_any (fun W => Below w2.heap.size w2 W) n 36 #[.pointer (some ⟨s, 0, none⟩), .pointer (some ⟨w1.heap.size, 0, none⟩)] (fun c => upT n ps c == upT n ps a &&& upT n ps b) w2 (by omega) (Below.refl _ _) bound1_enters
      (bound1_pred n (upT n ps) _ c _ s w1.heap.size w2 hbox3 hcom hr2 hn6)
    with_reducible refine key.mono ?_
    rintro e w3 ⟨rfl, hb3⟩
    rw [show wordOf n (fun c => upT n ps c == upT n ps a &&& upT n ps b) = foundW n ps a b from rfl]
    have HB := Lib.hid (show Below w.heap.size w w3 by rw [← HS.out]; exact hb02.trans (hb3.mono (by rw [HS.out]; exact hb02.size)))
    have HT3 := Lib.hid ((HT.out.below hb2).below hb3)
    clear hb02 hb3 hb2 hr2 hr1 hbox3 hcom HZ key
    by_cases hneg : joined n ps a b < 0
    · obtain ⟨h5, h6⟩ := bnd_none (f := joined) HC.out HO.out hneg
      rw [found_none hneg]
      have H5 := Lib.hid (And.intro h5 h6)
      clear h5 h6
      go_wp2
      go_ret2
      exact ⟨by rw [H5.out.1, H5.out.2]; rfl, HB.out⟩
    · obtain ⟨h5, h6⟩ := bnd_ok (f := joined) HC.out HO.out hneg
      obtain ⟨d, hdn, h7, h8⟩ := found_some HY.out hneg
      rw [Int.toNat_natCast, Int.toNat_natCast, Int.toNat_natCast, h7] at h6
      rw [h8]
      have H5 := Lib.hid (And.intro h5 h6)
      have h9 : (((one d : Nat) : Int) == 0) = false := by have := one_pos d; simp; omega
      have HD := Lib.hid (ctz_one (c := d) (by omega))
      clear h5 h6 h7 h8 hneg
      go_wp2_with fail
      refine (tz_any (one d) (by have := one_pos d; omega) (one_lt (by omega)) _ HT3.out).mono ?_
      rintro e w' ⟨rfl, rfl⟩
      rw [HD.out]
      go_wp2
      go_ret2
      exact ⟨by rw [H5.out.1, H5.out.2]; rfl, HB.out⟩

end Go.Proofs.YtmlggmopkelcfaaDoor
