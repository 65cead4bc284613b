/- A map from numbers to words, and rows beside it. -/
import Derived.Test.YtlpjpnlfmjehnaaRm
import Derived.Test.YtlpjpnlfmjehnaaMk
import Derived.Maps.OwnSet
import Derived.Maps.Views
namespace Go.Proofs.Ytlpjpnlfmjehnaa
open Go.RowKit
open Go.ChangeMaps (setBlock)

/-! ## The map -/
/-- Block b is a map that has f k for each k below n: what is not in it reads as zero. It has at most m entries. -/
def KnM (w : World) (b n m : Nat) (f : Nat → Nat) : Prop :=
  ∃ D : DataW Unit, w.ownsMap Try.prog 3 (plainElem Try.prog 35) b m D ∧ Maps.IsMap D ∧ ∀ k, k < n → D.atKey (.int .i64 (k : Nat)) (.lit (.int .u32 0)) = .lit (.int .u32 (f k : Nat))
theorem blkSet_same {w : World} {b : Nat} (h : b < w.heap.size) (o : Obj) : (setBlock w b o).heap[b]? = some o := by simp [setBlock, h]
theorem blkSet_other {w : World} {b i : Nat} (o : Obj) (h : i ≠ b) : (setBlock w b o).heap[i]? = w.heap[i]? := by
  unfold setBlock
  rw [Array.getElem?_setIfInBounds_ne (fun e => h e.symm)]
theorem blkSet_size (w : World) (b : Nat) (o : Obj) : (setBlock w b o).heap.size = w.heap.size := by simp [setBlock]
theorem blkSet_below {B b : Nat} {w0 w : World} (h : Below B w0 w) (hb : B ≤ b) (o : Obj) : Below B w0 (setBlock w b o) :=
  ⟨h.os, h.tape, h.output, by rw [blkSet_size]; exact h.size, fun i hi => by rw [blkSet_other o (by omega)]; exact h.block i hi⟩
theorem intLit {k : Nat} (hk : k < 1000) : (Lit.int .i64 (k : Nat)).wf = true := by
  have h1 : IntKind.i64.min = -9223372036854775808 := by decide
  have h2 : IntKind.i64.max = 9223372036854775807 := by decide
  simp only [Lit.wf, h1, h2, Bool.and_eq_true, decide_eq_true_iff]
  omega
theorem wordLit {x : Nat} (hx : x < 4294967296) : (Lit.int .u32 (x : Nat)).wf = true := by
  have h1 : IntKind.u32.min = 0 := by decide
  have h2 : IntKind.u32.max = 4294967295 := by decide
  simp only [Lit.wf, h1, h2, Bool.and_eq_true, decide_eq_true_iff]
  omega
theorem keyLit {k : Nat} (hk : k < 1000) : keyOf Try.prog 3 (.int .i64 (k : Nat)) = some (.int .i64 (k : Nat)) := Maps.keyOf_int_mk Try.underlying3 (intLit hk)
section
variable {w w' : World} {b n m : Nat} {f : Nat → Nat}
theorem KnM.lt (h : KnM w b n m f) : b < w.heap.size := by
  obtain ⟨D, h, _⟩ := h
  exact h.lt
theorem KnM.same (h : KnM w b n m f) (e : w'.heap[b]? = w.heap[b]?) : KnM w' b n m f := by
  obtain ⟨D, ⟨es, clock, hb, r⟩, h2⟩ := h
  exact ⟨D, ⟨es, clock, e.trans hb, r⟩, h2⟩
theorem KnM.below (h : KnM w b n m f) (hb : Below w.heap.size w w') : KnM w' b n m f := h.same (hb.block b h.lt)
theorem knM_new (w : World) (n : Nat) : KnM (w.alloc (.map #[] 0)) w.heap.size n 0 fun _ => 0 :=
  ⟨_, World.ownsMap_made w Try.prog 3 _, Maps.isMap_empty, fun _ _ => rfl⟩
end

/-! ## Rows beside it -/
/-- These rows are the call's own since w0, and beside them the map in block b. -/
structure RowsK (w0 : World) (rs : List Rw) (b n m : Nat) (f : Nat → Nat) (w : World) : Prop where
  rows : RowsM w0 rs w
  map : KnM w b n m f
  ge : w0.heap.size ≤ b
  off : ∀ r ∈ rs, r.v.ownBlock ≠ some b
section
variable {w0 w w' : World} {rs : List Rw} {b n m : Nat} {f : Nat → Nat}
theorem RowsM.far (h : RowsM w0 rs w) {b : Nat} (hb : w.heap.size ≤ b) : ∀ r ∈ rs, r.v.ownBlock ≠ some b := by
  intro r hr e
  obtain ⟨i, hi⟩ := List.getElem?_of_mem hr
  have := (World.ownsRow.lt (h.at_ i r hi) b e).2
  omega
theorem RowsM.mapNew (h : RowsM w0 rs w) (n : Nat) : RowsK w0 rs w.heap.size n 0 (fun _ => 0) (w.alloc (.map #[] 0)) :=
  ⟨h.grow ((Below.refl _ _).alloc (Nat.le_refl _) _), knM_new w n, h.below.size, h.far (Nat.le_refl _)⟩
theorem RowsK.grow (h : RowsK w0 rs b n m f w) (hb : Below w.heap.size w w') : RowsK w0 rs b n m f w' := ⟨h.rows.grow hb, h.map.below hb, h.ge, h.off⟩
theorem RowsK.drewN (h : RowsK w0 rs b n m f w) (k : Nat) : RowsK w0 rs b n m f (w.drewN k) := ⟨h.rows.drewN k, h.map.same rfl, h.ge, h.off⟩
theorem RowsK.drew (h : RowsK w0 rs b n m f w) : RowsK w0 rs b n m f w.drew := h.drewN 1
theorem RowsK.new {r : Rw} (h : RowsK w0 rs b n m f w) (hb : Below w.heap.size w w') (hr : r.at w0.heap.size w') (hn : ∀ g, r.v.ownBlock = some g → w.heap.size ≤ g) : RowsK w0 (rs ++ [r]) b n m f w' := by
  refine ⟨h.rows.new hb hr hn, h.map.below hb, h.ge, fun s hs e => ?_⟩
  rcases List.mem_append.1 hs with hs | hs
  · exact h.off s hs e
  · rw [List.mem_singleton] at hs
    subst hs
    have h1 := hn b e
    have h2 := h.map.lt
    omega
theorem RowsK.made {e : TypeId} {size k g : Nat} {xs : List Value} (h : RowsK w0 rs b n m f w) (ho : w'.ownsRow w0.heap.size e size (.slice (Option.some ⟨g, 0, none⟩) k k) k xs) (hg : w.grownBy w' none) (hs : w.heap.size ≤ g) :
    RowsK w0 (rs ++ [⟨e, size, .slice (Option.some ⟨g, 0, none⟩) k k, k, xs⟩]) b n m f w' :=
  h.new ((Below.refl _ _).grown hg (Nat.le_refl _) (by intro k hk; cases hk)) ho (fun g e => by simp [Value.ownBlock] at e; omega)
theorem RowsK.with {rs' : List Rw} (h : RowsK w0 rs b n m f w) (h' : RowsM w0 rs' w) (hs : ∀ r ∈ rs', r ∈ rs) : RowsK w0 rs' b n m f w := ⟨h', h.map, h.ge, fun r hr => h.off r (hs r hr)⟩
theorem RowsK.box {cs : Array Value} {t : TypeId} (h : RowsK w0 rs b n m f w) (size : Nat) (hs : cs.size = size) :
    RowsK w0 (⟨t, size, .slice (some ⟨w.heap.size, 0, none⟩) 1 1, 1, cs.toList⟩ :: rs) b n m f (w.alloc (.cells cs t)) := by
  have hb : Below w.heap.size w (w.alloc (.cells cs t)) := (Below.refl _ _).alloc (Nat.le_refl _) _
  refine ⟨h.rows.box size hs, h.map.below hb, h.ge, fun r hr e => ?_⟩
  rw [List.mem_cons] at hr
  rcases hr with rfl | hr
  · simp [Value.ownBlock] at e
    have := h.map.lt
    omega
  · exact h.off r hr e
theorem RowsK.tail {r : Rw} (h : RowsK w0 (r :: rs) b n m f w) : RowsK w0 rs b n m f w := h.with h.rows.tail fun _ hs => List.mem_cons_of_mem _ hs
theorem RowsK.store {k g j c : Nat} {e : TypeId} {size : Nat} {xs : List Value} (h : RowsK w0 rs b n m f w) (hr : rs[k]? = some ⟨e, size, .slice (some ⟨g, 0, none⟩) j c, j, xs⟩) (i : Nat) (u : Value) :
    RowsK w0 (rs.set k ⟨e, size, .slice (some ⟨g, 0, none⟩) j c, j, xs.set i u⟩) b n m f (w.setCell ⟨g, i, none⟩ u) := by
  have hg : g ≠ b := fun e => h.off _ (List.mem_of_getElem? hr) (by simp [Value.ownBlock, e])
  refine ⟨h.rows.store hr i u, h.map.same (Below.heap_setCell _ _ _ _ (fun e => hg e.symm)), h.ge, fun r hr2 e2 => ?_⟩
  rcases List.mem_or_eq_of_mem_set hr2 with h1 | rfl
  · exact h.off r h1 e2
  · exact h.off _ (List.mem_of_getElem? hr) e2
theorem RowsK.cell {k g j c i : Nat} {e : TypeId} {size : Nat} {xs : List Value} {u : Value} (h : RowsK w0 rs b n m f w) (hr : rs[k]? = some ⟨e, size, .slice (some ⟨g, 0, none⟩) j c, j, xs⟩) (hj : xs[i]? = some u) : w.cell? ⟨g, i, none⟩ = some u := h.rows.cell hr hj
theorem RowsK.free {k g j c : Nat} {e : TypeId} {size : Nat} {xs : List Value} (h : RowsK w0 rs b n m f w) (hr : rs[k]? = some ⟨e, size, .slice (some ⟨g, 0, none⟩) j c, j, xs⟩) (i : Nat) : w.frozen? ⟨g, i, none⟩ = false := h.rows.free hr i
theorem RowsM.turned {o : Obj} (h : RowsM w0 rs w) (hb : w0.heap.size ≤ b) (hoff : ∀ r ∈ rs, r.v.ownBlock ≠ some b) : RowsM w0 rs (setBlock w b o) :=
  ⟨fun i r hr => World.ownsRow.kept (h.at_ i r hr) (row := some b) ⟨rfl, rfl, rfl, by rw [blkSet_size]; exact Nat.le_refl _, fun k _ hk => blkSet_other o (fun e => hk (by rw [e]))⟩ (.inr (hoff r (List.mem_of_getElem? hr))), h.off, blkSet_below h.below hb o⟩
/-- Two lists of rows in the other order. -/
theorem RowsM.swap {A B : List Rw} (h : RowsM w0 (A ++ B) w) : RowsM w0 (B ++ A) w :=
  h.sub (fun i => if i < B.length then A.length + i else i - B.length) (fun i j hi hj e => by
    rw [List.length_append] at hi hj
    split at e <;> split at e <;> omega) fun i r hr => by
    by_cases hi : i < B.length
    · rw [List.getElem?_append_left hi] at hr
      rw [if_pos hi, List.getElem?_append_right (by omega), Nat.add_sub_cancel_left]
      exact hr
    · rw [List.getElem?_append_right (by omega)] at hr
      have hl := (List.getElem?_eq_some_iff.1 hr).1
      rw [if_neg hi, List.getElem?_append_left (by omega)]
      exact hr
theorem RowsK.swap {A B : List Rw} (h : RowsK w0 (A ++ B) b n m f w) : RowsK w0 (B ++ A) b n m f w :=
  h.with h.rows.swap fun r hr => by rw [List.mem_append] at hr ⊢; exact hr.symm
theorem RowsM.beside {r : Rw} (h : RowsM w0 rs w) (h' : RowsM w [r] w') : RowsM w0 (rs ++ [r]) w' :=
  h.new h'.below (rw_rebase (h'.at_ 0 r rfl) h.below.size) fun g e => (World.ownsRow.lt (h'.at_ 0 r rfl) g e).1
theorem RowsK.beside {r : Rw} (h : RowsK w0 rs b n m f w) (h' : RowsM w [r] w') : RowsK w0 (rs ++ [r]) b n m f w' :=
  h.new h'.below (rw_rebase (h'.at_ 0 r rfl) h.rows.below.size) fun g e => (World.ownsRow.lt (h'.at_ 0 r rfl) g e).1
theorem RowsM.flip {r s : Rw} (h : RowsM w0 (r :: s :: rs) w) : RowsM w0 (s :: r :: rs) w :=
  h.sub (fun i => if i = 0 then 1 else if i = 1 then 0 else i) (fun i j _ _ e => by
    split at e <;> split at e <;> (try split at e) <;> (try split at e) <;> omega) fun i u hu => by
    match i with
    | 0 => exact hu
    | 1 => exact hu
    | i + 2 => exact hu
theorem RowsK.flip {r s : Rw} (h : RowsK w0 (r :: s :: rs) b n m f w) : RowsK w0 (s :: r :: rs) b n m f w :=
  h.with h.rows.flip fun u hu => by simp only [List.mem_cons] at hu ⊢; rcases hu with h | h | h <;> simp [h]
end

end Go.Proofs.Ytlpjpnlfmjehnaa
