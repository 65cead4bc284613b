/- order.extend: the table of what is above each thing. -/
import Derived.Test.YtmlggmopkelcfaaDoorW4
import Derived.Test.YtmlggmopkelcfaaDoorTable
namespace Go.Proofs.YtmlggmopkelcfaaDoor
open Go.RowKit

theorem info29 : (Tryd.prog.info? 27).map (fun i => (i.zero, i.size, i.bytes)) = some (some (.int .u32 0), 1, 4) := by kernel_rfl

/-- A table of the call's own, in block g. -/
def Own (w : World) (B g n : Nat) (f : Nat → Nat) : Prop := w.ownsRow B 27 1 (.slice (some ⟨g, 0, none⟩) n n) n (words (tab n f))

theorem Own.cell {w : World} {B g n : Nat} {f : Nat → Nat} (h : Own w B g n f) {a : Nat} (ha : a < n) : w.cell? ⟨g, a, none⟩ = some (.int .u32 (f a : Nat)) :=
  (World.ownsRow.cellAt h a (by omega)).trans (words_at (tab_at f ha))
theorem Own.free {w : World} {B g n : Nat} {f : Nat → Nat} (h : Own w B g n f) (a : Nat) : w.frozen? ⟨g, a, none⟩ = false := World.ownsRow.frozenAt h a
theorem Own.stored {w : World} {B g n : Nat} {f : Nat → Nat} (h : Own w B g n f) (a v : Nat) : Own (w.setCell ⟨g, a, none⟩ (.int .u32 (v : Nat))) B g n (upd f a v) := by
  have := (World.ownsRow.stored h a (.int .u32 (v : Int))).1
  unfold Own
  rw [← tab_set]
  exact this
theorem Own.base {w : World} {B g n : Nat} {f : Nat → Nat} (h : Own w B g n f) : B ≤ g := (World.ownsRow.lt h g rfl).1
theorem Own.lt {w : World} {B g n : Nat} {f : Nat → Nat} (h : Own w B g n f) : g < w.heap.size := (World.ownsRow.lt h g rfl).2
theorem Own.congr {w : World} {B g n : Nat} {f f' : Nat → Nat} (h : Own w B g n f) (e : tab n f = tab n f') : Own w B g n f' := by unfold Own; rw [← e]; exact h
theorem Own.alloc {w : World} {B g n : Nat} {f : Nat → Nat} (h : Own w B g n f) (o : Obj) : Own (w.alloc o) B g n f := World.ownsRow.alloc h o
theorem Own.drewN {w : World} {B g n : Nat} {f : Nat → Nat} (h : Own w B g n f) (k : Nat) : Own (w.drewN k) B g n f := h
theorem Own.drew {w : World} {B g n : Nat} {f : Nat → Nat} (h : Own w B g n f) : Own w.drew B g n f := h
theorem Own.row {w : World} {B g n : Nat} {f : Nat → Nat} (h : Own w B g n f) : Row w (some ⟨g, 0, none⟩) (words (tab n f)) := Row.of_own h
theorem Own.below {w w' : World} {B g n : Nat} {f : Nat → Nat} (h : Own w B g n f) (hb : Below w.heap.size w w') : Own w' B g n f := own_below h hb
theorem Own.rebase {w : World} {B B' g n : Nat} {f : Nat → Nat} (h : Own w B g n f) (hb : B' ≤ B) : Own w B' g n f := own_rebase h hb
theorem own_made {w : World} {B g n : Nat} (h : w.ownsRow B 27 1 (.slice (some ⟨g, 0, none⟩) n n) n (madeCells #[Value.int .u32 0] n).toList) : Own w B g n fun _ => 0 := by
  unfold Own
  have e : (madeCells #[Value.int .u32 0] n).toList = words (tab n fun _ => 0) := by
    rw [toList_madeCells_one]
    apply List.ext_getElem?
    intro i
    by_cases hi : i < n <;> simp [words, tab, hi]
  rw [← e]
  exact h

theorem Own.orAt {w : World} {B g n : Nat} {f : Nat → Nat} (h : Own w B g n f) {a x y : Nat} (hx : x < 4294967296) (hy : y < 4294967296) :
    Own (w.setCell ⟨g, a, none⟩ (.int .u32 (bits .or .u32 (x : Int) (y : Int)))) B g n (upd f a (x ||| y)) := by
  rw [u32_or_nat x y hx hy]
  exact h.stored a (x ||| y)

def ones (a : Nat) : Nat → Nat := fun x => if x < a then one x else 0
theorem ones_step (a : Nat) : upd (ones a) a (one a) = ones (a + 1) := by
  funext x
  by_cases e : x = a
  · subst e; rw [upd_same]; simp [ones]
  · rw [upd_other e]; simp only [ones]
    have : (x < a) = (x < a + 1) := by apply propext; omega
    simp only [this]
theorem ones_all (n : Nat) : tab n (ones n) = tab n one := tab_congr fun i hi => by simp [ones, hi]

def ExtOnes (n : Nat) (w : World) (v : Value) (wr : World) : Prop :=
  ∃ a : Nat, v = .int .i64 a ∧ a ≤ n ∧ Own wr w.heap.size w.heap.size n (ones a) ∧ Below w.heap.size w wr
def ExtPairs (n : Nat) (ps : List (Int × Int)) (w : World) (v : Value) (wr : World) : Prop :=
  ∃ (j : Nat) (f : Nat → Nat), v = .int .i64 j ∧ j ≤ ps.length ∧ Grows n ps f j ∧ Own wr w.heap.size w.heap.size n f ∧ Below w.heap.size w wr
def ExtMid (n : Nat) (ps : List (Int × Int)) (w : World) (v : Value) (wr : World) : Prop :=
  ∃ (m : Nat) (f : Nat → Nat), v = .int .i64 m ∧ m ≤ n ∧ Mids n ps f m ∧ Own wr w.heap.size w.heap.size n f ∧ Below w.heap.size w wr
def ExtPart (n m : Nat) (f : Nat → Nat) (w : World) (v : Value) (wr : World) : Prop :=
  ∃ a : Nat, v = .int .i64 a ∧ a ≤ n ∧ Own wr w.heap.size w.heap.size n (part m f a) ∧ Below w.heap.size w wr

set_option maxHeartbeats 1000000 in
theorem extend_any (n : Nat) (ps : List (Int × Int)) (A : Option Addr) (c : Nat) (w : World) (hr : Row w A (pairsC ps)) (hn1 : 1 ≤ n) (hn6 : n ≤ 6) (hl : ps.length ≤ 20) (hgood : Good n ps) :
    Calls Tryd.prog 23 #[.int .i64 n, .slice A ps.length c] w fun e w' => e = .returned (.slice (some ⟨w.heap.size, 0, none⟩) n n) ∧ Own w' w.heap.size w.heap.size n (upT n ps) ∧ Below w.heap.size w w' := by
  obtain ⟨i0, hi, hz0, hz1, hz2⟩ := info_parts info29
  have HI := Lib.hid (And.intro hi (And.intro hz0 (And.intro hz1 hz2)))
  have HG := Lib.hid hgood
  clear hi hz0 hz1 hz2 hgood
  go_enter Tryd.func23, Tryd.ntmps23
  go_wp2_with (at_make; refine wpList_make_full _ rfl _ _ 36 rfl w.heap.size 27 i0 (.int .u32 0) 1 Tryd.underlying36 HI.out.1 HI.out.2.1 HI.out.2.2.1 .i64 .i64 n n n rfl rfl rfl rfl ?b2 ?b3 (Nat.le_refl _) ?c5)
  case b2 => rw [HI.out.2.2.2]; omega
  case b3 => unfold maxLen; omega
  case c5 =>
    intro w1 hown hgrow
    have HO := Lib.hid (own_made hown)
    have HB := Lib.hid ((Below.refl w.heap.size w).grown hgrow (Nat.le_refl _) (by intro k hk; cases hk))
    clear hown hgrow
    go_wp2
    go_loopw [15] (fun v wr => ExtOnes n w v wr) (fun v _ => n - (intOf v).toNat)
    case atStart => exact ⟨0, rfl, Nat.zero_le _, HO.out.congr (tab_congr fun i _ => by simp [ones]), HB.out⟩
    case round =>
      clear HO HB
      obtain ⟨a, rfl, ha, hown, hbel⟩ := hrel
      have HO := Lib.hid hown
      by_cases hlt : a < n
      · have hc := hown.cell hlt
        have hf := hown.free a
        clear hown
        go_wp2_with (go_at_call 29; refine (only_any a (by omega) _).mono ?_; rintro e w' ⟨rfl, rfl⟩)
        go_roundw
        case rel => exact ⟨a + 1, by go_num, by omega, by rw [← ones_step]; exact HO.out.stored a (one a), hbel.setCell (Nat.le_refl _) _⟩
        case measure => simp [intOf]; omega
      · obtain rfl : a = n := by omega
        clear hown
        go_wp2
        go_loopw [26] (fun v wr => ExtPairs a ps w v wr) (fun v _ => ps.length - (intOf v).toNat)
        case atStart => exact ⟨0, one, rfl, Nat.zero_le _, Grows.init a ps, HO.out.congr (ones_all a), hbel⟩
        case round =>
          clear HO hbel
          obtain ⟨j, f, rfl, hj, hgr, hown, hbel⟩ := hrel
          have HO := Lib.hid hown
          have HGr := Lib.hid hgr
          by_cases hjl : j < ps.length
          · obtain ⟨p, hp⟩ := get_some hjl
            obtain ⟨p1, p2⟩ := p
            obtain ⟨o1, o2, o3, o4⟩ := HG.out _ (List.mem_of_getElem? hp)
            simp only at o1 o2 o3 o4
            obtain ⟨x, rfl⟩ := Int.eq_ofNat_of_zero_le o1
            obtain ⟨y, rfl⟩ := Int.eq_ofNat_of_zero_le o3
            have hx : x < a := by omega
            have hy : y < a := by omega
            obtain ⟨bp, op, rfl, hpc⟩ := (hr.below hbel).at (k := j * 2) (by rw [pairsC_length]; omega)
            have hp1 := hpc _ _ (pairsC_at0 hp)
            have hp2 : wr.cell? ⟨bp, op + j * 2 + 1, none⟩ = some (.int .i64 (y : Nat)) := by rw [Nat.add_assoc]; exact hpc _ _ (pairsC_at1 hp)
            have HP := Lib.hid hp
            have hc := hown.cell hx
            have hf := hown.free x
            clear hpc hp hown hgr o1 o2 o3 o4
            go_wp2
            have hq1 : (wr.alloc (.cells #[.int .i64 x, .int .i64 y] 26)).cell? ⟨wr.heap.size, 0, none⟩ = some (.int .i64 x) := by simp
            have hq2 : (wr.alloc (.cells #[.int .i64 x, .int .i64 y] 26)).cell? ⟨wr.heap.size, 1, none⟩ = some (.int .i64 y) := by simp
            have hown2 := HO.out.alloc (.cells #[.int .i64 x, .int .i64 y] 26)
            have HB2 := Lib.hid (hbel.alloc hbel.size (.cells #[.int .i64 x, .int .i64 y] 26))
            have hc2 := hown2.cell hx
            have hf2 := hown2.free x
            have HO2 := Lib.hid hown2
            clear hown2 HO hbel hc hf hp1 hp2
            generalize wr.heap.size = sz at *
            generalize wr.alloc (.cells #[.int .i64 x, .int .i64 y] 26) = w2 at *
            refine wp_region_still_tail 10 (by kernel_rfl) (by kernel_rfl) ?_
            simp only [List.take_succ_cons, List.take_zero, List.drop_succ_cons, List.drop_zero]
            iterate 7 still_step
            still_call (only_still y (by omega) _)
            iterate 2 still_step
            refine wpStill_nil ?_
            go_wp2
            have hfx : f x < 4294967296 := by have h1 := HGr.out.lt x hx; have h2 := one_le_64 hn6; omega
            have h1y : one y < 4294967296 := one_lt (by omega)
            go_roundw
            case rel => exact ⟨j + 1, _, by go_num, by omega, HGr.out.add HP.out hy hx, HO2.out.orAt hfx h1y, (HB2.out.setCell (Nat.le_refl _) _).drew⟩
            case measure => simp [intOf]; omega
          · obtain rfl : j = ps.length := by omega
            clear hown hgr
            go_wp2
            go_loopw [43] (fun v wr => ExtMid a ps w v wr) (fun v _ => a - (intOf v).toNat)
            case atStart => exact ⟨0, f, rfl, Nat.zero_le _, Mids.init HGr.out, HO.out, hbel⟩
            case round =>
              clear HO HGr hbel
              obtain ⟨m, f2, rfl, hm, hmid, hown, hbel⟩ := hrel
              have HO := Lib.hid hown
              have HM := Lib.hid hmid
              clear hown hmid
              by_cases hml : m < a
              · go_wp2
                go_loopw [48] (fun v wr => ExtPart a m f2 w v wr) (fun v _ => a - (intOf v).toNat)
                case atStart => exact ⟨0, rfl, Nat.zero_le _, by rw [part_zero]; exact HO.out, hbel⟩
                case round =>
                  clear HO hbel
                  obtain ⟨b, rfl, hb, hown, hbel⟩ := hrel
                  have HO := Lib.hid hown
                  by_cases hbl : b < a
                  · have hfb : f2 b < 4294967296 := by have h1 := HM.out.grows.lt b hbl; have h2 := one_le_64 hn6; omega
                    have hfm : f2 m < 4294967296 := by have h1 := HM.out.grows.lt m hml; have h2 := one_le_64 hn6; omega
                    have hcb := hown.cell hbl
                    have hcm := hown.cell hml
                    have hff := hown.free b
                    rw [part_at] at hcb
                    rw [part_mid] at hcm
                    clear hown
                    cases hbit : (f2 b).testBit m with
                    | true =>
                      go_wp2_with (go_at_call 30; refine (has_any (f2 b) m (by omega) hfb _).mono ?_; rintro e w' ⟨rfl, rfl⟩)
                      go_still_tail 10, (by kernel_rfl)
                      go_wp2
                      go_roundw
                      case rel => exact ⟨b + 1, by go_num, by omega, by rw [← part_yes hbit]; exact HO.out.orAt hfb hfm, (hbel.setCell (Nat.le_refl _) _).drew⟩
                      case measure => simp [intOf]; omega
                    | false =>
                      go_wp2_with (go_at_call 30; refine (has_any (f2 b) m (by omega) hfb _).mono ?_; rintro e w' ⟨rfl, rfl⟩)
                      go_roundw
                      case rel => exact ⟨b + 1, by go_num, by omega, by rw [← part_no hbit]; exact HO.out, hbel⟩
                      case measure => simp [intOf]; omega
                  · obtain rfl : b = a := by omega
                    clear hown
                    go_wp2
                    go_roundw
                    case rel => exact ⟨m + 1, stp m f2, by go_num, by omega, HM.out.step hml, HO.out.congr part_all, hbel⟩
                    case measure => simp [intOf]; omega
              · obtain rfl : m = a := by omega
                go_wp2
                go_ret
                exact ⟨rfl, HO.out.congr (HM.out.all HG.out), hbel⟩
end Go.Proofs.YtmlggmopkelcfaaDoor
