/- Small facts on cells. -/
import Derived.Test.YtmlggmopkelcfaaDoorBase
namespace Go.Proofs.YtmlggmopkelcfaaDoor
open Go.RowKit

theorem cell_same {w : World} {a : Addr} {u : Value} (v : Value) (h : w.cell? a = some u) : (w.setCell a v).cell? a = some v := World.cell?_setCell_same w a v h
theorem cell_far {w : World} {p a : Addr} {u v : Value} (hne : p ≠ a) (h : w.cell? a = some u) : (w.setCell p v).cell? a = some u := (World.cell?_setCell_other w p a v hne).trans h
theorem cell_below {w w' : World} {a : Addr} {u : Value} (hb : Below w.heap.size w w') (ha : a.block < w.heap.size) (h : w.cell? a = some u) : w'.cell? a = some u := (hb.cell ha).trans h
theorem ad_block {b c i j : Nat} (h : b ≠ c) : (⟨b, i, none⟩ : Addr) ≠ ⟨c, j, none⟩ := by intro e; cases e; exact h rfl
theorem ad_off {b c i j : Nat} (h : i ≠ j) : (⟨b, i, none⟩ : Addr) ≠ ⟨c, j, none⟩ := by intro e; cases e; exact h rfl
theorem heap_setCell (w : World) (a : Addr) (v : Value) : (w.setCell a v).heap.size = w.heap.size := by simp [World.setCell]

/-- A matrix of the call's own, on the way: block g holds n slices; the first r are made, in the blocks bl, and hold F. -/
structure MatM (w : World) (B g n r : Nat) (bl : Nat → Nat) (F : Nat → Nat → Int) : Prop where
  base : B ≤ g
  lt : g < w.heap.size
  free : ∀ i, w.frozen? ⟨g, i, none⟩ = false
  made : ∀ i, i < r → w.cell? ⟨g, i, none⟩ = some (.slice (some ⟨bl i, 0, none⟩) n n)
  todo : ∀ i, r ≤ i → i < n → w.cell? ⟨g, i, none⟩ = some (.slice none 0 0)
  rows : ∀ i, i < r → B ≤ bl i ∧ bl i < w.heap.size ∧ bl i ≠ g
  inj : ∀ i j, i < r → j < r → bl i = bl j → i = j
  rfree : ∀ i, i < r → ∀ j, w.frozen? ⟨bl i, j, none⟩ = false
  cells : ∀ i, i < r → ∀ j, j < n → w.cell? ⟨bl i, j, none⟩ = some (.int .i64 (F i j))
theorem MatM.below {w w' : World} {B g n r : Nat} {bl : Nat → Nat} {F : Nat → Nat → Int} (h : MatM w B g n r bl F) (hb : Below w.heap.size w w') : MatM w' B g n r bl F where
  base := h.base
  lt := Nat.lt_of_lt_of_le h.lt hb.size
  free i := (hb.frozen (p := ⟨g, i, none⟩) h.lt).trans (h.free i)
  made i hi := cell_below hb h.lt (h.made i hi)
  todo i hi hn := cell_below hb h.lt (h.todo i hi hn)
  rows i hi := ⟨(h.rows i hi).1, Nat.lt_of_lt_of_le (h.rows i hi).2.1 hb.size, (h.rows i hi).2.2⟩
  inj := h.inj
  rfree i hi j := (hb.frozen (p := ⟨bl i, j, none⟩) (h.rows i hi).2.1).trans (h.rfree i hi j)
  cells i hi j hj := cell_below hb (h.rows i hi).2.1 (h.cells i hi j hj)
/-- What is stored at (i, j). -/
def updF (F : Nat → Nat → Int) (i j : Nat) (v : Int) : Nat → Nat → Int := fun x y => if x = i ∧ y = j then v else F x y
theorem MatM.put {w : World} {B g n r : Nat} {bl : Nat → Nat} {F : Nat → Nat → Int} (h : MatM w B g n r bl F) {i j : Nat} (hi : i < r) (hj : j < n) (v : Int) : MatM (w.setCell ⟨bl i, j, none⟩ (.int .i64 v)) B g n r bl (updF F i j v) where
  base := h.base
  lt := by rw [heap_setCell]; exact h.lt
  free k := by rw [World.frozen?_setCell]; exact h.free k
  made k hk := cell_far (ad_block (h.rows i hi).2.2) (h.made k hk)
  todo k hk hn := cell_far (ad_block (h.rows i hi).2.2) (h.todo k hk hn)
  rows k hk := by rw [heap_setCell]; exact h.rows k hk
  inj := h.inj
  rfree k hk l := by rw [World.frozen?_setCell]; exact h.rfree k hk l
  cells k hk l hl := by
    by_cases e : k = i ∧ l = j
    · obtain ⟨rfl, rfl⟩ := e
      rw [show updF F k l v k l = v from by simp [updF]]
      exact cell_same _ (h.cells k hk l hl)
    · rw [show updF F i j v k l = F k l from by simp [updF, e]]
      refine cell_far ?_ (h.cells k hk l hl)
      by_cases e1 : k = i
      · exact ad_off fun e2 => e ⟨e1, e2.symm⟩
      · exact ad_block fun e2 => e1 (h.inj i k hi hk e2).symm
/-- One row more, in a new block. -/
theorem MatM.more {w w1 : World} {B g n r : Nat} {bl : Nat → Nat} {F : Nat → Nat → Int} (h : MatM w B g n r bl F) (hr : r < n) (hB : B ≤ w.heap.size) (hb : Below w.heap.size w w1) (hlt : w.heap.size < w1.heap.size)
    (hfr : ∀ j, w1.frozen? ⟨w.heap.size, j, none⟩ = false) (hz : ∀ j, j < n → w1.cell? ⟨w.heap.size, j, none⟩ = some (.int .i64 0)) :
    MatM (w1.setCell ⟨g, r, none⟩ (.slice (some ⟨w.heap.size, 0, none⟩) n n)) B g n (r + 1) (fun x => if x = r then w.heap.size else bl x) (fun x y => if x = r then 0 else F x y) := by
  have k := h.below hb
  have hg := h.lt
  refine ⟨h.base, by rw [heap_setCell]; exact k.lt, fun i => by rw [World.frozen?_setCell]; exact k.free i, fun i hi => ?_, fun i hi hn => ?_, fun i hi => ?_, fun i j hi hj e => ?_, fun i hi j => ?_, fun i hi j hj => ?_⟩
  · by_cases e : i = r
    · subst e; simp only [if_pos]; exact cell_same _ (k.todo i (Nat.le_refl _) hr)
    · simp only [if_neg e]; exact cell_far (ad_off fun e2 => e e2.symm) (k.made i (by omega))
  · exact cell_far (ad_off (by omega)) (k.todo i (by omega) hn)
  · rw [heap_setCell]
    by_cases e : i = r
    · subst e; simp only [if_pos]; exact ⟨hB, hlt, by omega⟩
    · simp only [if_neg e]; exact k.rows i (by omega)
  · by_cases e1 : i = r <;> by_cases e2 : j = r
    · omega
    · have := (h.rows j (by omega)).2.1; simp only [if_pos e1, if_neg e2] at e; omega
    · have := (h.rows i (by omega)).2.1; simp only [if_neg e1, if_pos e2] at e; omega
    · simp only [if_neg e1, if_neg e2] at e; exact h.inj i j (by omega) (by omega) e
  · rw [World.frozen?_setCell]
    by_cases e : i = r
    · simp only [if_pos e]; exact hfr j
    · simp only [if_neg e]; exact k.rfree i (by omega) j
  · by_cases e : i = r
    · simp only [if_pos e]; exact cell_far (ad_block (by omega)) (hz j hj)
    · simp only [if_neg e]
      have := (h.rows i (by omega)).2.2
      exact cell_far (ad_block fun e2 => this e2.symm) (k.cells i (by omega) j hj)
theorem MatM.congr {w : World} {B g n r : Nat} {bl : Nat → Nat} {F G : Nat → Nat → Int} (h : MatM w B g n r bl F) (e : ∀ i j, i < r → j < n → F i j = G i j) : MatM w B g n r bl G :=
  ⟨h.base, h.lt, h.free, h.made, h.todo, h.rows, h.inj, h.rfree, fun i hi j hj => by rw [← e i j hi hj]; exact h.cells i hi j hj⟩

/-- A matrix of naturals that is only read, in blocks from B on. -/
def MatR (w : World) (B : Nat) (V : Value) (n : Nat) (F : Nat → Nat → Nat) : Prop :=
  ∃ (g : Nat) (bl : Nat → Nat), V = .slice (some ⟨g, 0, none⟩) n n ∧ B ≤ g ∧ (∀ i, i < n → B ≤ bl i) ∧ (∀ i, i < n → w.cell? ⟨g, i, none⟩ = some (.slice (some ⟨bl i, 0, none⟩) n n)) ∧ ∀ i j, i < n → j < n → w.cell? ⟨bl i, j, none⟩ = some (.int .i64 (F i j : Nat))
theorem MatR.below {w w' : World} {B : Nat} {V : Value} {n : Nat} {F : Nat → Nat → Nat} (h : MatR w B V n F) (hb : Below w.heap.size w w') : MatR w' B V n F := by
  obtain ⟨g, bl, e, b1, b2, h1, h2⟩ := h
  exact ⟨g, bl, e, b1, b2, fun i hi => cell_below hb (block_lt_of_cell (h1 i hi)) (h1 i hi), fun i j hi hj => cell_below hb (block_lt_of_cell (h2 i j hi hj)) (h2 i j hi hj)⟩
theorem MatR.shape {w : World} {B : Nat} {V : Value} {n : Nat} {F : Nat → Nat → Nat} (h : MatR w B V n F) : ∃ g, V = .slice (some ⟨g, 0, none⟩) n n := by
  obtain ⟨g, _, e, _⟩ := h
  exact ⟨g, e⟩
theorem MatR.mono {w : World} {B B' : Nat} {V : Value} {n : Nat} {F : Nat → Nat → Nat} (h : MatR w B V n F) (hB : B' ≤ B) : MatR w B' V n F := by
  obtain ⟨g, bl, e, b1, b2, h1, h2⟩ := h
  exact ⟨g, bl, e, Nat.le_trans hB b1, fun i hi => Nat.le_trans hB (b2 i hi), h1, h2⟩
theorem MatR.set {w : World} {B : Nat} {V : Value} {n : Nat} {F : Nat → Nat → Nat} (h : MatR w B V n F) {p : Addr} (hp : p.block < B) (v : Value) : MatR (w.setCell p v) B V n F := by
  obtain ⟨g, bl, e, b1, b2, h1, h2⟩ := h
  refine ⟨g, bl, e, b1, b2, fun i hi => cell_far (fun e => ?_) (h1 i hi), fun i j hi hj => cell_far (fun e => ?_) (h2 i j hi hj)⟩
  · rw [e] at hp; simp at hp; omega
  · have := b2 i hi; rw [e] at hp; simp at hp; omega
theorem MatM.read {w : World} {B g n : Nat} {bl : Nat → Nat} {F : Nat → Nat → Int} {G : Nat → Nat → Nat} (h : MatM w B g n n bl F) (e : ∀ i j, i < n → j < n → F i j = G i j) : MatR w B (.slice (some ⟨g, 0, none⟩) n n) n G :=
  ⟨g, bl, rfl, h.base, fun i hi => (h.rows i hi).1, h.made, fun i j hi hj => by rw [← e i j hi hj]; exact h.cells i hi j hj⟩

end Go.Proofs.YtmlggmopkelcfaaDoor
