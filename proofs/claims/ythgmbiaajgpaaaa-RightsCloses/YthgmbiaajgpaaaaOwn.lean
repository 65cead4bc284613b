/- Tables of words of a call's own. -/
import Derived.Test.YthgmbiaajgpaaaaProg
import Derived.Test.YthgmbiaajgpaaaaTable
namespace Go.Proofs.Ythgmbiaajgpaaaa
open Go.RowKit

theorem info3 : (Try.prog.info? 3).map (fun i => (i.zero, i.size, i.bytes)) = some (some (.int .i64 0), 1, 8) := by kernel_rfl
theorem info29 : (Try.prog.info? 33).map (fun i => (i.zero, i.size, i.bytes)) = some (some (.int .u32 0), 1, 4) := by kernel_rfl

/-- A table of the call's own, in block g. -/
def Own (w : World) (B g n : Nat) (f : Nat → Nat) : Prop := w.ownsRow B 33 1 (.slice (some ⟨g, 0, none⟩) n n) n (words (tab n f))

theorem Own.cell {w : World} {B g n : Nat} {f : Nat → Nat} (h : Own w B g n f) {a : Nat} (ha : a < n) : w.cell? ⟨g, a, none⟩ = some (.int .u32 (f a : Nat)) :=
  (World.ownsRow.cellAt h a (by omega)).trans (words_at (tab_at f ha))
theorem Own.free {w : World} {B g n : Nat} {f : Nat → Nat} (h : Own w B g n f) (a : Nat) : w.frozen? ⟨g, a, none⟩ = false := World.ownsRow.frozenAt h a
theorem Own.stored {w : World} {B g n : Nat} {f : Nat → Nat} (h : Own w B g n f) (a v : Nat) : Own (w.setCell ⟨g, a, none⟩ (.int .u32 (v : Nat))) B g n (upd f a v) := by
  have := (World.ownsRow.stored h a (.int .u32 (v : Int))).1
  unfold Own
  rw [← tab_set]
  exact this
theorem Own.base {w : World} {B g n : Nat} {f : Nat → Nat} (h : Own w B g n f) : B ≤ g := (World.ownsRow.lt h g rfl).1
theorem Own.lt {w : World} {B g n : Nat} {f : Nat → Nat} (h : Own w B g n f) : g < w.heap.size := (World.ownsRow.lt h g rfl).2
theorem Own.congr {w : World} {B g n : Nat} {f f' : Nat → Nat} (h : Own w B g n f) (e : tab n f = tab n f') : Own w B g n f' := by unfold Own; rw [← e]; exact h
theorem Own.alloc {w : World} {B g n : Nat} {f : Nat → Nat} (h : Own w B g n f) (o : Obj) : Own (w.alloc o) B g n f := World.ownsRow.alloc h o
theorem Own.drewN {w : World} {B g n : Nat} {f : Nat → Nat} (h : Own w B g n f) (k : Nat) : Own (w.drewN k) B g n f := h
theorem Own.drew {w : World} {B g n : Nat} {f : Nat → Nat} (h : Own w B g n f) : Own w.drew B g n f := h
theorem Own.row {w : World} {B g n : Nat} {f : Nat → Nat} (h : Own w B g n f) : Row w (some ⟨g, 0, none⟩) (words (tab n f)) := Row.of_own h
theorem Own.below {w w' : World} {B g n : Nat} {f : Nat → Nat} (h : Own w B g n f) (hb : Below w.heap.size w w') : Own w' B g n f := own_below h hb
theorem Own.rebase {w : World} {B B' g n : Nat} {f : Nat → Nat} (h : Own w B g n f) (hb : B' ≤ B) : Own w B' g n f := own_rebase h hb
theorem own_made {w : World} {B g n : Nat} (h : w.ownsRow B 33 1 (.slice (some ⟨g, 0, none⟩) n n) n (madeCells #[Value.int .u32 0] n).toList) : Own w B g n fun _ => 0 := by
  unfold Own
  have e : (madeCells #[Value.int .u32 0] n).toList = words (tab n fun _ => 0) := by
    rw [toList_madeCells_one]
    apply List.ext_getElem?
    intro i
    by_cases hi : i < n <;> simp [words, tab, hi]
  rw [← e]
  exact h

theorem Own.orAt {w : World} {B g n : Nat} {f : Nat → Nat} (h : Own w B g n f) {a x y : Nat} (hx : x < 4294967296) (hy : y < 4294967296) :
    Own (w.setCell ⟨g, a, none⟩ (.int .u32 (bits .or .u32 (x : Int) (y : Int)))) B g n (upd f a (x ||| y)) := by
  rw [u32_or_nat x y hx hy]
  exact h.stored a (x ||| y)

end Go.Proofs.Ythgmbiaajgpaaaa
