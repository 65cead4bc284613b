/- lattice.build, lattice.read. -/
import Derived.Test.YtmlggmopkelcfaaDoorWBnds
import Derived.Test.YtmlggmopkelcfaaDoorWRev
namespace Go.Proofs.YtmlggmopkelcfaaDoor
open Go.RowKit

theorem lat_all {n : Nat} {ps : List (Int × Int)} : latB n ps = true ↔ AllJ n ps n 0 ∧ AllJ n (turned ps) n 0 := by
  rw [latB_iff]
  exact ⟨fun h => ⟨fun a b hab => (h a b hab).1, fun a b hab => (h a b hab).2⟩, fun h a b hab => ⟨h.1 a b hab, h.2 a b hab⟩⟩
/-- What build hands back. -/
def BuildPost (n : Nat) (ps : List (Int × Int)) (w : World) (U : Value) (e : Ending) (w' : World) : Prop :=
  (latB n ps = true ∧ ∃ Vj Vm, e = .returned (.tuple #[.agg #[U, Vj, Vm], .int .i64 0]) ∧ MatR w' w.heap.size Vj n (jn n ps) ∧ MatR w' w.heap.size Vm n (mt n ps) ∧ Below w.heap.size w w') ∨
  (latB n ps = false ∧ e = .returned (.tuple #[.agg #[.slice none 0 0, .slice none 0 0, .slice none 0 0], .int .i64 3]) ∧ Below w.heap.size w w')
/-- A block of three cells of the call's own. -/
structure Three (w : World) (s : Nat) (x y z : Value) : Prop where
  lt : s < w.heap.size
  c0 : w.cell? ⟨s, 0, none⟩ = some x
  c1 : w.cell? ⟨s, 1, none⟩ = some y
  c2 : w.cell? ⟨s, 2, none⟩ = some z
  free : ∀ i, w.frozen? ⟨s, i, none⟩ = false
theorem Three.below {w w' : World} {s : Nat} {x y z : Value} (h : Three w s x y z) (hb : Below w.heap.size w w') : Three w' s x y z :=
  ⟨Nat.lt_of_lt_of_le h.lt hb.size, cell_below hb h.lt h.c0, cell_below hb h.lt h.c1, cell_below hb h.lt h.c2, fun i => (hb.frozen (p := ⟨s, i, none⟩) h.lt).trans (h.free i)⟩
theorem three_new (w : World) (x y z : Value) (t : TypeId) : Three (w.alloc (.cells #[x, y, z] t)) w.heap.size x y z :=
  ⟨by simp, by simp, by simp, by simp, fun i => by simp⟩

set_option maxHeartbeats 2000000 in
theorem build_any (n : Nat) (ps : List (Int × Int)) (A : Option Addr) (c : Nat) (w : World) (hr : Tab w A n (upT n ps)) (hT : Laid w) (hc : code n ps = 0) :
    Calls Tryd.prog 19 #[.slice A n c] w (BuildPost n ps w (.slice A n c)) := by
  obtain ⟨h2, h3, h4⟩ := code_zero hc
  obtain ⟨hn1, hn6, hl⟩ : 1 ≤ n ∧ n ≤ 6 ∧ ps.length ≤ 20 := by unfold Large at h2; omega
  have HC := Lib.hid hc
  clear h2 h3 h4 hc
  go_enter Tryd.func19, Tryd.ntmps19
  go_wp2_with fail
  have hb1 := (Below.refl w.heap.size w).alloc (Nat.le_refl _) (.cells #[.slice none 0 0, .slice none 0 0, .slice none 0 0] 39)
  have h3 := three_new w (.slice none 0 0) (.slice none 0 0) (.slice none 0 0) 39
  have hsz : (w.alloc (.cells #[.slice none 0 0, .slice none 0 0, .slice none 0 0] 39)).heap.size = w.heap.size + 1 := by simp
  generalize w.alloc (.cells #[.slice none 0 0, .slice none 0 0, .slice none 0 0] 39) = w1 at *
  have HZ := Lib.hid hsz
  have HB1 := Lib.hid hb1
  have H3 := Lib.hid h3
  have HR1 := Lib.hid (hr.below hb1)
  have HT1 := Lib.hid (hT.below hb1)
  clear hb1 h3 hsz hr hT
  refine (bounds_any n ps A c w1 HR1.out HT1.out HC.out).mono ?_
  rintro e w2 (⟨hJ, Vj, rfl, hmj, hb2⟩ | ⟨hJ, rfl, hb2⟩)
  · obtain ⟨gj, rfl⟩ := hmj.shape
    have HJ := Lib.hid hJ
    have HMj := Lib.hid hmj
    have HZj := Lib.hid (show w.heap.size < w1.heap.size by have := HZ.out; omega)
    have HZj2 := Lib.hid (show w.heap.size < w2.heap.size by have := HZ.out; have := hb2.size; omega)
    have HR2 := Lib.hid (HR1.out.below hb2)
    have HT2 := Lib.hid (HT1.out.below hb2)
    have H32 := Lib.hid (H3.out.below hb2)
    have HB2 := Lib.hid (HB1.out.trans (hb2.mono HB1.out.size))
    clear hJ hmj hb2 HR1 HT1 H3 HB1
    go_wp2_with fail
    refine (lreverse_any n (upT n ps) A c w2 HR2.out hn1 hn6 (fun a _ => upT_u32 hn6 ps a)).mono ?_
    rintro e w3 ⟨g, rfl, hown, hb3⟩
    have HZm := Lib.hid (show w.heap.size < w3.heap.size by have := hb3.size; have := HZj2.out; omega)
    have HR3 := Lib.hid (show Tab w3 (some ⟨g, 0, none⟩) n (upT n (turned ps)) from (hown.congr (rev_up n ps)).tab)
    have HT3 := Lib.hid (HT2.out.below hb3)
    have H33 := Lib.hid (H32.out.below hb3)
    have HMj3 := Lib.hid (HMj.out.below hb3)
    have HB3 := Lib.hid (HB2.out.trans (hb3.mono HB2.out.size))
    clear hown hb3 HR2 HT2 H32 HMj HB2
    go_wp2_with fail
    refine (bounds_any n (turned ps) (some ⟨g, 0, none⟩) n w3 HR3.out HT3.out (turned_code HC.out)).mono ?_
    rintro e w4 (⟨hM, Vm, rfl, hmm, hb4⟩ | ⟨hM, rfl, hb4⟩)
    · obtain ⟨gm, rfl⟩ := hmm.shape
      have HM := Lib.hid hM
      have HMm := Lib.hid hmm
      have HMj4 := Lib.hid (HMj3.out.below hb4)
      have HB4 := Lib.hid (HB3.out.trans (hb4.mono HB3.out.size))
      have h34 := H33.out.below hb4
      have hc0 := h34.c0
      have hc1 := h34.c1
      have hc2 := h34.c2
      have hf := h34.free
      clear hM hmm hb4 HR3 HT3 H33 HMj3 HB3 h34
      have HL := Lib.hid (lat_all.2 ⟨HJ.out, HM.out⟩)
      have HZ2 := Lib.hid HZm.out
      go_wp2
      refine bodyPost_ret (v := .tuple #[.agg #[.slice A n c, .slice (some ⟨gj, 0, none⟩) n n, .slice (some ⟨gm, 0, none⟩) n n], .int .i64 0]) (by simp [results, Tryd.results19, go_sem, hc0, hc1, hc2]) rfl ?_
      have hw : ∀ x y z, Below w.heap.size w (((w4.setCell ⟨w.heap.size, 0, none⟩ x).setCell ⟨w.heap.size, 1, none⟩ y).setCell ⟨w.heap.size, 2, none⟩ z) := fun x y z => ((HB4.out.setCell (Nat.le_refl _) _).setCell (Nat.le_refl _) _).setCell (Nat.le_refl _) _
      have hset : ∀ {V : Value} {F : Nat → Nat → Nat} {B : Nat}, w.heap.size < B → MatR w4 B V n F → ∀ x y z, MatR (((w4.setCell ⟨w.heap.size, 0, none⟩ x).setCell ⟨w.heap.size, 1, none⟩ y).setCell ⟨w.heap.size, 2, none⟩ z) w.heap.size V n F := fun hB h x y z => (((h.set hB _).set hB _).set hB _).mono (Nat.le_of_lt hB)
      exact .inl ⟨HL.out, _, _, rfl, hset HZj.out HMj4.out _ _ _, hset HZ2.out HMm.out _ _ _, hw _ _ _⟩
    · have HL := Lib.hid (show latB n ps = false by rw [Bool.eq_false_iff]; exact fun h => hM (lat_all.1 h).2)
      have HB4 := Lib.hid (HB3.out.trans (hb4.mono HB3.out.size))
      have h34 := H33.out.below hb4
      have hc0 := h34.c0
      have hc1 := h34.c1
      have hc2 := h34.c2
      have hf := h34.free
      clear hM hb4 HR3 HT3 H33 HMj3 HB3 h34
      go_wp2
      refine bodyPost_ret (v := .tuple #[.agg #[.slice none 0 0, .slice none 0 0, .slice none 0 0], .int .i64 3]) (by simp [results, Tryd.results19, go_sem, hc0, hc1, hc2]) rfl ?_
      exact .inr ⟨HL.out, rfl, ((HB4.out.setCell (Nat.le_refl _) _).setCell (Nat.le_refl _) _).setCell (Nat.le_refl _) _⟩
  · have HL := Lib.hid (show latB n ps = false by rw [Bool.eq_false_iff]; exact fun h => hJ (lat_all.1 h).1)
    have HB2 := Lib.hid (HB1.out.trans (hb2.mono HB1.out.size))
    have h32 := H3.out.below hb2
    have hc0 := h32.c0
    have hc1 := h32.c1
    have hc2 := h32.c2
    have hf := h32.free
    clear hJ hb2 HR1 HT1 H3 HB1 h32
    go_wp2
    refine bodyPost_ret (v := .tuple #[.agg #[.slice none 0 0, .slice none 0 0, .slice none 0 0], .int .i64 3]) (by simp [results, Tryd.results19, go_sem, hc0, hc1, hc2]) rfl ?_
    exact .inr ⟨HL.out, rfl, ((HB2.out.setCell (Nat.le_refl _) _).setCell (Nat.le_refl _) _).setCell (Nat.le_refl _) _⟩

end Go.Proofs.YtmlggmopkelcfaaDoor
