/- A state of a marked script in memory. -/
import Derived.Test.YtdiaglaokgehbaaWM1b
import Derived.Test.YtdiaglaokgehbaaOwn
import Derived.Deep.RegionHeld3
namespace Go.Proofs.Ytdiaglaokgehbaa
open Go.RowKit

theorem start_mk {w0 w1 : World} {t : TypeId} (ht : t = 27) (h : w1.heap[w0.heap.size]? = some (.cells #[.slice none 0 0, .slice none 0 0, .slice none 0 0] t (0, 0))) (hb : Below w0.heap.size w0 w1) :
    MkW w0 w0.heap.size (.slice none 0 0) (.slice none 0 0) (.slice none 0 0) (.slice none 0 0) [] [] [] [] w1 := by
  subst ht
  exact ⟨h, World.ownsRow_nil _ _ _ _, World.ownsRow_nil _ _ _ _, World.ownsRow_nil _ _ _ _, World.ownsRow_nil _ _ _ _, fun b e => by simp [Value.ownBlock] at e, hb, Nat.le_refl _⟩

/-- What a call on a mark and a thing's label reads. -/
def LabS (g sz gm b g2 o2 t n cm : Nat) (who tgt : Int) (m l : Lab) (w : World) : Prop :=
  w.cell? ⟨g, 1, none⟩ = some (.slice (some ⟨gm, 0, none⟩) n cm) ∧ w.cell? ⟨sz, 1, none⟩ = some (.int .i64 who) ∧ w.cell? ⟨sz, 2, none⟩ = some (.int .i64 tgt) ∧ w.cell? ⟨gm, b * 2, none⟩ = some (.int .i64 m.1) ∧
    w.cell? ⟨gm, b * 2 + 1, none⟩ = some (.int .u32 (m.2 : Int)) ∧ w.cell? ⟨g2, o2 + t * 2, none⟩ = some (.int .i64 l.1) ∧ w.cell? ⟨g2, o2 + t * 2 + 1, none⟩ = some (.int .u32 (l.2 : Int))
theorem cellKeep {w w' : World} {b o : Nat} {v : Value} (hb : Below w.heap.size w w') (h : w.cell? ⟨b, o, none⟩ = some v) : w'.cell? ⟨b, o, none⟩ = some v :=
  (hb.cell (p := ⟨b, o, none⟩) (block_lt_of_cell h)).trans h
theorem LabS.below {g sz gm b g2 o2 t n cm : Nat} {who tgt : Int} {m l : Lab} {w w' : World} (h : LabS g sz gm b g2 o2 t n cm who tgt m l w) (hb : Below w.heap.size w w') : LabS g sz gm b g2 o2 t n cm who tgt m l w' :=
  ⟨cellKeep hb h.1, cellKeep hb h.2.1, cellKeep hb h.2.2.1, cellKeep hb h.2.2.2.1, cellKeep hb h.2.2.2.2.1, cellKeep hb h.2.2.2.2.2.1, cellKeep hb h.2.2.2.2.2.2⟩
theorem twoFacts {w w' : World} {g : Nat} {x y : Value} {t : TypeId} (hb : Below w.heap.size w w') (h : w.heap[g]? = some (.cells #[x, y] t (0, 0))) :
    w'.heap[g]? = some (.cells #[x, y] t (0, 0)) ∧ w'.frozen? ⟨g, 0, none⟩ = false ∧ w'.frozen? ⟨g, 1, none⟩ = false ∧ w'.cell? ⟨g, 0, none⟩ = some x ∧ w'.cell? ⟨g, 1, none⟩ = some y := by
  have h' := lblk_keep hb h
  exact ⟨h', by simp [World.frozen?, h'], by simp [World.frozen?, h'], (ltwo_cells h').1, (ltwo_cells h').2⟩
theorem okW_up (a b : Lab) : okW true a b = underL a b := rfl
theorem okW_low (a b : Lab) : okW false a b = underL b a := rfl
theorem nextL_up (a b : Lab) : nextL true a b = joinL a b := rfl
theorem nextL_low (a b : Lab) : nextL false a b = meetL a b := rfl
theorem row_two {w : World} {b off : Nat} {l : List Lab} (h : Row w (some ⟨b, off, none⟩) (labsC l)) {k : Nat} {a : Lab} (ha : l[k]? = some a) :
    w.cell? ⟨b, off + k * 2, none⟩ = some (.int .i64 a.1) ∧ w.cell? ⟨b, off + k * 2 + 1, none⟩ = some (.int .u32 (a.2 : Int)) := by
  obtain ⟨b', off', e, h1, h2⟩ := RowL.cells h ha
  simp only [Option.some.injEq, Addr.mk.injEq, and_true] at e
  obtain ⟨rfl, rfl⟩ := e
  exact ⟨h1, h2⟩
theorem own_low {w : World} {B e size n k : Nat} {v : Value} {xs : List Value} (h : w.ownsRow B e size v n xs) (hk : k < B) : v.ownBlock ≠ some k := fun e => by have := (World.ownsRow.lt h k e).1; omega
/-- A deed lies in a block. -/
def DdAt (w : World) (g : Nat) (d : Dd) : Prop := w.heap[g]? = some (.cells #[.int .i64 d.kind, .int .i64 d.who, .int .i64 d.tgt, .int .i64 d.lev, .int .u32 (d.parts : Int), .int .i64 d.val] 62 (0, 0))
theorem DdAt.cells {w : World} {g : Nat} {d : Dd} (h : DdAt w g d) : w.cell? ⟨g, 0, none⟩ = some (.int .i64 d.kind) ∧ w.cell? ⟨g, 1, none⟩ = some (.int .i64 d.who) ∧ w.cell? ⟨g, 2, none⟩ = some (.int .i64 d.tgt) :=
  ⟨cell_of_row w g 0 _ _ _ h, cell_of_row w g 1 _ _ _ h, cell_of_row w g 2 _ _ _ h⟩
theorem DdAt.below {w w' : World} {g : Nat} {d : Dd} (h : DdAt w g d) (hb : Below w.heap.size w w') : DdAt w' g d := lblk_keep hb h
/-- What the first k deeds do. -/
def stM (up : Bool) (cs ts : List Lab) (ds : List Dd) (k : Nat) : List Int × Ms := runM up (atL cs) (atL ts) cs.length ts.length (ds.take k)
theorem stM_succ {up : Bool} {cs ts : List Lab} {ds : List Dd} {k : Nat} {d : Dd} (h : ds[k]? = some d) : stM up cs ts ds (k + 1) = ((stM up cs ts ds k).1 ++ [(stepM up (atL cs) (atL ts) cs.length ts.length (stM up cs ts ds k).2 d).1], (stepM up (atL cs) (atL ts) cs.length ts.length (stM up cs ts ds k).2 d).2) := run_succ h
theorem stM_fine {up : Bool} {cs ts : List Lab} {ds : List Dd} {k : Nat} (hc : ∀ b, b < cs.length → LabOk (atL cs b)) (ht : ∀ b, b < ts.length → LabOk (atL ts b)) : Fine cs.length ts.length (stM up cs ts ds k).2 := fine_run hc ht _
/-- The memory of a state. -/
def MkS (w0 : World) (g : Nat) (vc vm vf vk : Value) (codes : List Int) (nc nt : Nat) (s : Ms) (w : World) : Prop := MkW w0 g vc vm vf vk codes (tabA nc s.mar) (tabA nt s.fr) (tabA nc s.kn) w

section
variable {w0 w : World} {g gm cm gq cf nc nt ck : Nat} {Af : Option Addr} {vc : Value} {codes : List Int} {s : Ms}
theorem MkS.setMark (h : MkS w0 g vc (.slice (some ⟨gm, 0, none⟩) nc cm) (.slice Af nt cf) (.slice (some ⟨gq, 0, none⟩) nc ck) codes nc nt s w) (b : Nat) (a : Lab) :
    MkS w0 g vc (.slice (some ⟨gm, 0, none⟩) nc cm) (.slice Af nt cf) (.slice (some ⟨gq, 0, none⟩) nc ck) codes nc nt ⟨updA s.mar b a, s.fr, s.kn⟩ ((w.setCell ⟨gm, b * 2, none⟩ (.int .i64 a.1)).setCell ⟨gm, b * 2 + 1, none⟩ (.int .u32 (a.2 : Int))) := by
  have h1 : MkW w0 g vc (.slice (some ⟨gm, 0, none⟩) (tabA nc s.mar).length cm) (.slice Af nt cf) (.slice (some ⟨gq, 0, none⟩) nc ck) codes (tabA nc s.mar) (tabA nt s.fr) (tabA nc s.kn) w := by rw [tabA_length]; exact h
  have h2 := h1.setMark b a
  rw [tabA_set, tabA_length] at h2
  exact h2
theorem MkS.setKnow (h : MkS w0 g vc (.slice (some ⟨gm, 0, none⟩) nc cm) (.slice Af nt cf) (.slice (some ⟨gq, 0, none⟩) nc ck) codes nc nt s w) (b x : Nat) :
    MkS w0 g vc (.slice (some ⟨gm, 0, none⟩) nc cm) (.slice Af nt cf) (.slice (some ⟨gq, 0, none⟩) nc ck) codes nc nt ⟨s.mar, s.fr, updA s.kn b x⟩ (w.setCell ⟨gq, b, none⟩ (.int .u32 (x : Int))) := by
  have h1 : MkW w0 g vc (.slice (some ⟨gm, 0, none⟩) nc cm) (.slice Af nt cf) (.slice (some ⟨gq, 0, none⟩) (tabA nc s.kn).length ck) codes (tabA nc s.mar) (tabA nt s.fr) (tabA nc s.kn) w := by rw [tabA_length]; exact h
  have h2 := h1.setKnow b x
  rw [tabA_set, tabA_length] at h2
  exact h2
theorem MkS.setFrom {gf : Nat} (h : MkS w0 g vc (.slice (some ⟨gm, 0, none⟩) nc cm) (.slice (some ⟨gf, 0, none⟩) nt cf) (.slice (some ⟨gq, 0, none⟩) nc ck) codes nc nt s w) (t x : Nat) :
    MkS w0 g vc (.slice (some ⟨gm, 0, none⟩) nc cm) (.slice (some ⟨gf, 0, none⟩) nt cf) (.slice (some ⟨gq, 0, none⟩) nc ck) codes nc nt ⟨s.mar, updA s.fr t x, s.kn⟩ (w.setCell ⟨gf, t, none⟩ (.int .u32 (x : Int))) := by
  have h1 : MkW w0 g vc (.slice (some ⟨gm, 0, none⟩) nc cm) (.slice (some ⟨gf, 0, none⟩) (tabA nt s.fr).length cf) (.slice (some ⟨gq, 0, none⟩) nc ck) codes (tabA nc s.mar) (tabA nt s.fr) (tabA nc s.kn) w := by rw [tabA_length]; exact h
  have h2 := h1.setFrom t x
  rw [tabA_set, tabA_length] at h2
  exact h2
theorem MkS.markAt (h : MkS w0 g vc (.slice (some ⟨gm, 0, none⟩) nc cm) (.slice Af nt cf) (.slice (some ⟨gq, 0, none⟩) nc ck) codes nc nt s w) {b : Nat} (hb : b < nc) :
    w.cell? ⟨gm, b * 2, none⟩ = some (.int .i64 (s.mar b).1) ∧ w.cell? ⟨gm, b * 2 + 1, none⟩ = some (.int .u32 ((s.mar b).2 : Int)) ∧ (∀ j, w.frozen? ⟨gm, j, none⟩ = false) := by
  have h1 := MkW.om h
  rw [tabA_length] at h1
  exact ⟨(World.ownsRow.cellAt h1 (b * 2) (by omega)).trans (labsC_at0 (tabA_get _ hb)), (World.ownsRow.cellAt h1 (b * 2 + 1) (by omega)).trans (labsC_at1 (tabA_get _ hb)), World.ownsRow.frozenAt h1⟩
theorem MkS.knowAt (h : MkS w0 g vc (.slice (some ⟨gm, 0, none⟩) nc cm) (.slice Af nt cf) (.slice (some ⟨gq, 0, none⟩) nc ck) codes nc nt s w) {b : Nat} (hb : b < nc) :
    w.cell? ⟨gq, b, none⟩ = some (.int .u32 (s.kn b : Int)) ∧ (∀ j, w.frozen? ⟨gq, j, none⟩ = false) := by
  have h1 := MkW.ok h
  rw [tabA_length] at h1
  exact ⟨(World.ownsRow.cellAt h1 b (by omega)).trans (words_at (tabA_get _ hb)), World.ownsRow.frozenAt h1⟩
theorem MkS.fromAt {gf : Nat} (h : MkS w0 g vc (.slice (some ⟨gm, 0, none⟩) nc cm) (.slice (some ⟨gf, 0, none⟩) nt cf) (.slice (some ⟨gq, 0, none⟩) nc ck) codes nc nt s w) {t : Nat} (ht : t < nt) :
    w.cell? ⟨gf, t, none⟩ = some (.int .u32 (s.fr t : Int)) ∧ (∀ j, w.frozen? ⟨gf, j, none⟩ = false) := by
  have h1 := MkW.of h
  rw [tabA_length] at h1
  exact ⟨(World.ownsRow.cellAt h1 t (by omega)).trans (words_at (tabA_get _ ht)), World.ownsRow.frozenAt h1⟩
theorem MkS.apart (h : MkS w0 g vc (.slice (some ⟨gm, 0, none⟩) nc cm) (.slice Af nt cf) (.slice (some ⟨gq, 0, none⟩) nc ck) codes nc nt s w) {sz : Nat} {d : Dd} (hd : DdAt w sz d) : sz ≠ gm ∧ sz ≠ gq ∧ (∀ gf o, Af = some ⟨gf, 0, o⟩ → sz ≠ gf) :=
  ⟨fun e => own_block (MkW.om h) hd (by decide) (by rw [e]; rfl), fun e => own_block (MkW.ok h) hd (by decide) (by rw [e]; rfl), fun gf o ea e => own_block (MkW.of h) hd (by decide) (by rw [ea, e]; rfl)⟩
theorem DdAt.set {sz b o : Nat} {u : Value} {d : Dd} (h : DdAt w sz d) (hn : sz ≠ b) : DdAt (w.setCell ⟨b, o, none⟩ u) sz d := (Below.heap_setCell _ _ _ _ hn).trans h
end

end Go.Proofs.Ytdiaglaokgehbaa
