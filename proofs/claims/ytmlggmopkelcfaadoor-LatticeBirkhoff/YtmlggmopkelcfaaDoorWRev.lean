/- lattice.reverse. -/
import Derived.Test.YtmlggmopkelcfaaDoorWCh
import Derived.Test.YtmlggmopkelcfaaDoorMem
import Derived.BigRegion
namespace Go.Proofs.YtmlggmopkelcfaaDoor
open Go.RowKit

set_option maxHeartbeats 1000000 in
theorem rev1_any (n : Nat) (f : Nat → Nat) (A : Option Addr) (c x b p q : Nat) (w : World) (h1 : w.cell? ⟨p, 0, none⟩ = some (.slice A n c)) (h2 : w.cell? ⟨q, 0, none⟩ = some (.int .i64 b)) (hr : Tab w A n f) (hx : x < n) (hb : b < n) (hn6 : n ≤ 6) (hf : f x < 4294967296) :
    Calls Tryd.prog 33 #[.int .i64 x, .pointer (some ⟨p, 0, none⟩), .pointer (some ⟨q, 0, none⟩)] w fun e w' => e = .returned (.bool ((f x).testBit b)) ∧ ∃ k, w' = w.drewN k := by
  obtain ⟨g, off, rfl, hcell⟩ := hr.cell (by omega)
  have hcx := hcell x hx
  clear hcell
  go_enter Tryd.func33, Tryd.ntmps33
  go_wp2
  go_quiet ((go_at_call 34; exact Calls.quiet_of_same (lhas_still _ _ rfl (by omega) hf _)))
  go_wp2
  go_ret
  exact ⟨rfl, _, rfl⟩
theorem rev1_pred (n : Nat) (f : Nat → Nat) (A : Option Addr) (c b p q : Nat) (w : World) (h1 : w.cell? ⟨p, 0, none⟩ = some (.slice A n c)) (h2 : w.cell? ⟨q, 0, none⟩ = some (.int .i64 b)) (hr : Tab w A n f) (hb : b < n) (hn6 : n ≤ 6) (hf : ∀ a, a < n → f a < 4294967296) :
    ∀ (x : Nat) (W : World), x < n → (∃ k, W = w.drewN k) → Calls Tryd.prog 33 (#[.int .i64 x] ++ #[.pointer (some ⟨p, 0, none⟩), .pointer (some ⟨q, 0, none⟩)]) W fun e W' => e = .returned (.bool ((f x).testBit b)) ∧ ∃ k, W' = w.drewN k := by
  rintro x W hx ⟨k, rfl⟩
  have e : (#[Value.int .i64 x] ++ #[.pointer (some ⟨p, 0, none⟩), .pointer (some ⟨q, 0, none⟩)] : Array Value) = #[.int .i64 x, .pointer (some ⟨p, 0, none⟩), .pointer (some ⟨q, 0, none⟩)] := rfl
  rw [e]
  exact (rev1_any n f A c x b p q (w.drewN k) h1 h2 hr hx hb hn6 (hf x hx)).mono
    fun _ _ ⟨he, j, hw⟩ => ⟨he, k + j, by rw [hw, World.drewN_drewN]⟩
theorem rev1_enters (args : Array Value) (w : World) : (callFunc 33 args).run Tryd.prog w = .ok (.enter 33 args) w := enters_of Tryd.func33 (by kernel_rfl) rfl args w
/-- choose, as reverse calls it. -/
theorem choose_rev (n : Nat) (f : Nat → Nat) (A : Option Addr) (c b p q : Nat) (w : World) (h1 : w.cell? ⟨p, 0, none⟩ = some (.slice A n c)) (h2 : w.cell? ⟨q, 0, none⟩ = some (.int .i64 b)) (hr : Tab w A n f) (hb : b < n) (hn6 : n ≤ 6) (hf : ∀ a, a < n → f a < 4294967296) :
    Calls Tryd.prog 12 #[.int .i64 n, .func (.func 33) #[] #[.pointer (some ⟨p, 0, none⟩), .pointer (some ⟨q, 0, none⟩)]] w fun e w' => e = .returned (.int .u32 (rev n f b : Nat)) ∧ ∃ k, w' = w.drewN k :=
  choose_any (fun W => ∃ k, W = w.drewN k) n 33 _ (fun x => (f x).testBit b) w (by omega) ⟨0, rfl⟩ rev1_enters (rev1_pred n f A c b p q w h1 h2 hr hb hn6 hf)

/-- The first b rows are done. -/
def revTo (n : Nat) (f : Nat → Nat) (b : Nat) : Nat → Nat := fun x => if x < b then rev n f x else 0
theorem revTo_step (n : Nat) (f : Nat → Nat) (b : Nat) : upd (revTo n f b) b (rev n f b) = revTo n f (b + 1) := by
  funext x
  by_cases e : x = b
  · subst e; rw [upd_same]; simp [revTo]
  · rw [upd_other e]; simp only [revTo]
    have : (x < b) = (x < b + 1) := by apply propext; omega
    simp only [this]
theorem revTo_all (n : Nat) (f : Nat → Nat) : tab n (revTo n f n) = tab n (rev n f) := tab_congr fun i hi => by simp [revTo, hi]
def RevL (n : Nat) (f : Nat → Nat) (w : World) (A : Option Addr) (c s g : Nat) (v : Value) (wr : World) : Prop :=
  ∃ b : Nat, v = .int .i64 b ∧ b ≤ n ∧ Own wr w.heap.size g n (revTo n f b) ∧ wr.cell? ⟨s, 0, none⟩ = some (.slice A n c) ∧ Below w.heap.size w wr

set_option maxHeartbeats 2000000 in
theorem lreverse_any (n : Nat) (f : Nat → Nat) (A : Option Addr) (c : Nat) (w : World) (hr : Tab w A n f) (hn1 : 1 ≤ n) (hn6 : n ≤ 6) (hf : ∀ a, a < n → f a < 4294967296) :
    Calls Tryd.prog 26 #[.slice A n c] w fun e w' => ∃ g, e = .returned (.slice (some ⟨g, 0, none⟩) n n) ∧ Own w' w.heap.size g n (rev n f) ∧ Below w.heap.size w w' := by
  obtain ⟨i0, hi, hz0, hz1, hz2⟩ := info_parts info29
  have HI := Lib.hid (And.intro hi (And.intro hz0 (And.intro hz1 hz2)))
  have HF := Lib.hid hf
  clear hi hz0 hz1 hz2 hf
  go_enter Tryd.func26, Tryd.ntmps26
  go_wp2_with (at_make; refine wpList_make_full _ rfl _ _ 36 rfl w.heap.size 27 i0 (.int .u32 0) 1 Tryd.underlying36 HI.out.1 HI.out.2.1 HI.out.2.2.1 .i64 .i64 n n n rfl rfl rfl rfl ?b2 ?b3 (by simp) ?c5)
  case b2 => rw [HI.out.2.2.2]; omega
  case b3 => unfold maxLen; omega
  case c5 =>
    intro w1 hown hgrow
    have hb0 := (Below.refl w.heap.size w).alloc (Nat.le_refl _) (.cells #[.slice A n c] 36)
    have hbox : (w.alloc (.cells #[.slice A n c] 36)).cell? ⟨w.heap.size, 0, none⟩ = some (.slice A n c) := by simp
    have hb1 := hb0.grown hgrow hb0.size (by intro k hk; cases hk)
    have hk : w1.cell? ⟨w.heap.size, 0, none⟩ = (w.alloc (.cells #[.slice A n c] 36)).cell? ⟨w.heap.size, 0, none⟩ := by
      have := (Below.refl (w.alloc (.cells #[.slice A n c] 36)).heap.size _).grown hgrow (Nat.le_refl _) (by intro k hk; cases hk)
      exact this.cell (p := ⟨w.heap.size, 0, none⟩) (by simp)
    have HX := Lib.hid (hk.trans hbox)
    have HO := Lib.hid (own_made hown)
    have HB := Lib.hid hb1
    clear hown hgrow hb0 hbox hb1 hk
    go_wp2
    go_loopw [10] (fun v wr => RevL n f w A c w.heap.size (w.heap.size + 1) v wr) (fun v _ => n - (intOf v).toNat)
    case atStart => exact ⟨0, rfl, Nat.zero_le _, HO.out.congr (tab_congr fun i _ => by simp [revTo]), HX.out, HB.out⟩
    case round =>
      clear HO HB HX
      obtain ⟨b, rfl, hb, hown, hbox, hbel⟩ := hrel
      have HO := Lib.hid hown
      have HX := Lib.hid hbox
      have HB := Lib.hid hbel
      clear hown hbox hbel
      by_cases hlt : b < n
      · go_wp2
        have hb2 := (Below.refl wr.heap.size wr).alloc (Nat.le_refl _) (.cells #[.int .i64 b] 3)
        have hq : (wr.alloc (.cells #[.int .i64 b] 3)).cell? ⟨wr.heap.size, 0, none⟩ = some (.int .i64 b) := by simp
        have hx := (hb2.cell (p := ⟨w.heap.size, 0, none⟩) (block_lt_of_cell HX.out)).trans HX.out
        have hown2 := HO.out.alloc (.cells #[.int .i64 b] 3)
        have HB2 := Lib.hid (HB.out.alloc HB.out.size (.cells #[.int .i64 b] 3))
        have hr2 := hr.below HB2.out
        obtain ⟨s, hs⟩ : ∃ s, s = w.heap.size := ⟨_, rfl⟩
        obtain ⟨q, hqe⟩ : ∃ q, q = wr.heap.size := ⟨_, rfl⟩
        generalize wr.alloc (.cells #[.int .i64 b] 3) = w2 at *
        have HS := Lib.hid hs
        rw [← hqe] at hq ⊢
        rw [← hs] at hx hown2 ⊢
        have HO2 := Lib.hid hown2
        have hcb := hown2.cell hlt
        have hff := hown2.free b
        have key : Calls Tryd.prog 12 #[.int .i64 n, .func (.func 33) #[] #[.pointer (some ⟨s, 0, none⟩), .pointer (some ⟨q, 0, none⟩)]] w2.drew fun e w' => e = .returned (.int .u32 (rev n f b : Nat)) ∧ ∃ k, w' = w2.drewN k :=
          (choose_rev n f A c b s q w2.drew hx hq hr2 hlt hn6 HF.out).mono fun _ _ ⟨he, k, hw⟩ => ⟨he, 1 + k, by rw [hw]; exact (World.drewN_drewN w2 1 k)⟩
        clear hs hqe hown2 hb2 HO HX HB
        go_region_with ((go_at_call 12; refine key.mono ?_; rintro e w3 ⟨rfl, k, rfl⟩))
        all_goals
          have hs := HS.out
          subst hs
          go_wp2
          go_roundw
          case rel => exact ⟨b + 1, by go_num, by omega, by rw [← revTo_step]; exact (HO2.out.drewN k).stored b (rev n f b), cell_far (ad_block (by omega)) hx, ((below_drewN HB2.out k).setCell (Nat.le_succ _) _)⟩
          case measure => simp [intOf]; omega
      · obtain rfl : b = n := by omega
        go_wp2
        go_ret
        exact ⟨_, rfl, HO.out.congr (revTo_all b f), HB.out⟩

end Go.Proofs.YtmlggmopkelcfaaDoor
