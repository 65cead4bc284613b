/- syllogistref.LabelCheck, Below, Both, Common; law.labelsCode. -/
import Derived.Test.YtdiaglaokgehbaaLb
import Derived.OneCell
namespace Go.Proofs.Ytdiaglaokgehbaa
open Go.RowKit

theorem lblk_keep {w w' : World} {g : Nat} {o : Obj} (hb : Below w.heap.size w w') (h : w.heap[g]? = some o) : w'.heap[g]? = some o := (hb.block g (lt_of_block h)).trans h
theorem lblk_alloc {w : World} {g : Nat} {o : Obj} (h : w.heap[g]? = some o) (o2 : Obj) : (w.alloc o2).heap[g]? = some o := lblk_keep ((Below.refl _ _).alloc (Nat.le_refl _) _) h
theorem ltwo_cells {w : World} {g : Nat} {x y : Value} {t : TypeId} {fl : Nat × Nat} (h : w.heap[g]? = some (.cells #[x, y] t fl)) : w.cell? ⟨g, 0, none⟩ = some x ∧ w.cell? ⟨g, 1, none⟩ = some y := by
  constructor <;> simp [World.cell?, h]
/-- A label lies in a block. -/
def LabAt (w : World) (g : Nat) (a : Lab) : Prop := w.cell? ⟨g, 0, none⟩ = some (.int .i64 a.1) ∧ w.cell? ⟨g, 1, none⟩ = some (.int .u32 (a.2 : Int))
theorem LabAt.below {w w' : World} {g : Nat} {a : Lab} (h : LabAt w g a) (hb : Below w.heap.size w w') : LabAt w' g a :=
  ⟨(hb.cell (p := ⟨g, 0, none⟩) (block_lt_of_cell h.1)).trans h.1, (hb.cell (p := ⟨g, 1, none⟩) (block_lt_of_cell h.2)).trans h.2⟩
theorem LabAt.new (w : World) (a : Lab) (t : TypeId) : LabAt (w.alloc (.cells #[.int .i64 a.1, .int .u32 (a.2 : Int)] t)) w.heap.size a := ltwo_cells (heap_alloc_new w _)

set_option maxHeartbeats 1000000 in
theorem LabelCheck_any (l : Int) (p : Nat) (w : World) :
    Calls Try.prog 39 #[.agg #[.int .i64 l, .int .u32 p]] w fun e w' => e = .returned (.int .i64 (codeL (l, p))) ∧ Below w.heap.size w w' := by
  have hb := (Below.refl w.heap.size w).alloc (Nat.le_refl _) (.cells #[.int .i64 l, .int .u32 (p : Int)] 40)
  obtain ⟨c0, c1⟩ := LabAt.new w (l, p) 40
  simp only at c0 c1
  by_cases h0 : l < 0
  · have HC := Lib.hid (codeL_bad (a := (l, p)) fun h => by have := h.1; simp only at this; omega)
    go_enter Try.func39, Try.ntmps39
    go_wp2
    go_ret
    exact ⟨ret_int HC.out.symm, hb⟩
  · by_cases h1 : 3 < l
    · have HC := Lib.hid (codeL_bad (a := (l, p)) fun h => by have := h.2.1; simp only at this; omega)
      go_enter Try.func39, Try.ntmps39
      go_wp2
      go_ret
      exact ⟨ret_int HC.out.symm, hb⟩
    · have kF := fun W => Fits_any 5 p (by decide) W
      by_cases h2 : p < 32
      · have HC := Lib.hid (codeL_ok (a := (l, p)) ⟨by simp only; omega, by simp only; omega, h2⟩)
        rw [decide_eq_true (show p < one 5 from h2)] at kF
        clear h2
        go_enter Try.func39, Try.ntmps39
        go_wp2_with fail
        refine (kF _).mono ?_
        rintro e w1 ⟨rfl, rfl⟩
        go_wp2
        go_ret
        exact ⟨ret_int HC.out.symm, hb⟩
      · have HC := Lib.hid (codeL_bad (a := (l, p)) fun h => h2 h.2.2)
        rw [decide_eq_false (show ¬ p < one 5 from h2)] at kF
        clear h2
        go_enter Try.func39, Try.ntmps39
        go_wp2_with fail
        refine (kF _).mono ?_
        rintro e w1 ⟨rfl, rfl⟩
        go_wp2
        go_ret
        exact ⟨ret_int HC.out.symm, hb⟩

/-- Two labels were boxed. -/
structure TwoBox (a b : Lab) (w w2 : World) : Prop where
  a0 : w2.heap[w.heap.size]? = some (.cells #[.int .i64 a.1, .int .u32 (a.2 : Int)] 40 (0, 0))
  b0 : w2.heap[w.heap.size + 1]? = some (.cells #[.int .i64 b.1, .int .u32 (b.2 : Int)] 40 (0, 0))
  bel : Below w.heap.size w w2
  size : w2.heap.size = w.heap.size + 1 + 1
theorem twoBox (a b : Lab) (w : World) : TwoBox a b w ((w.alloc (.cells #[.int .i64 a.1, .int .u32 (a.2 : Int)] 40)).alloc (.cells #[.int .i64 b.1, .int .u32 (b.2 : Int)] 40)) := by
  have h1 := (Below.refl w.heap.size w).alloc (Nat.le_refl _) (.cells #[.int .i64 a.1, .int .u32 (a.2 : Int)] 40)
  have k2 := heap_alloc_new (w.alloc (.cells #[.int .i64 a.1, .int .u32 (a.2 : Int)] 40)) (.cells #[.int .i64 b.1, .int .u32 (b.2 : Int)] 40)
  simp only [World.size_alloc] at k2
  exact ⟨lblk_alloc (heap_alloc_new w _) _, k2, h1.alloc h1.size _, by simp⟩
theorem TwoBox.atA {a b : Lab} {w w2 : World} (h : TwoBox a b w w2) : LabAt w2 w.heap.size a := ltwo_cells h.a0
theorem TwoBox.atB {a b : Lab} {w w2 : World} (h : TwoBox a b w w2) : LabAt w2 (w.heap.size + 1) b := ltwo_cells h.b0

set_option maxHeartbeats 1000000 in
theorem refBelow_any (l1 l2 : Int) (p1 p2 : Nat) (w : World) (h1 : p1 < 4294967296) (h2 : p2 < 4294967296) :
    Calls Try.prog 20 #[.agg #[.int .i64 l1, .int .u32 p1], .agg #[.int .i64 l2, .int .u32 p2]] w fun e w' => e = .returned (.bool (underL (l1, p1) (l2, p2))) ∧ Below w.heap.size w w' := by
  have hT := twoBox (l1, p1) (l2, p2) w
  obtain ⟨a0, a1⟩ := hT.atA
  obtain ⟨b0, b1⟩ := hT.atB
  have hb := hT.bel
  simp only at a0 a1 b0 b1 hb
  have HR := Lib.hid (show underL (l1, p1) (l2, p2) = (decide (l1 ≤ l2) && sub p1 p2) from rfl)
  clear hT
  by_cases hl : l1 ≤ l2
  · rw [decide_eq_true hl, Bool.true_and] at HR
    go_enter Try.func20, Try.ntmps20
    go_wp2_with fail
    refine (In_any p1 p2 h1 h2 _).mono ?_
    rintro e w1 ⟨rfl, rfl⟩
    go_wp2
    go_ret
    exact ⟨ret_bool (by rw [HR.out]; first | rfl | simp [sub, hl]), hb⟩
  · rw [decide_eq_false hl, Bool.false_and] at HR
    go_enter Try.func20, Try.ntmps20
    go_wp2
    go_ret
    exact ⟨ret_bool (by first | (rw [HR.out]; done) | (rw [HR.out]; simp [hl])), hb⟩

theorem ltwo_set0 {w : World} {g : Nat} {x y u : Value} {t : TypeId} (h : w.heap[g]? = some (.cells #[x, y] t (0, 0))) :
    (w.setCell ⟨g, 0, none⟩ u).heap[g]? = some (.cells #[u, y] t (0, 0)) := by
  have hlt := lt_of_block h
  have h' : w.heap[g] = .cells #[x, y] t (0, 0) := by simpa [Array.getElem?_eq_getElem hlt] using h
  show (w.heap.modify g _)[g]? = _
  rw [Array.getElem?_eq_getElem (by simpa using hlt), Array.getElem_modify_self, h']
  rfl
theorem ltwo_set1 {w : World} {g : Nat} {x y u : Value} {t : TypeId} (h : w.heap[g]? = some (.cells #[x, y] t (0, 0))) :
    (w.setCell ⟨g, 1, none⟩ u).heap[g]? = some (.cells #[x, u] t (0, 0)) := by
  have hlt := lt_of_block h
  have h' : w.heap[g] = .cells #[x, y] t (0, 0) := by simpa [Array.getElem?_eq_getElem hlt] using h
  show (w.heap.modify g _)[g]? = _
  rw [Array.getElem?_eq_getElem (by simpa using hlt), Array.getElem_modify_self, h']
  rfl
theorem lother {w : World} {g g' o : Nat} {ob : Obj} {v : Value} (h : w.heap[g']? = some ob) (hg : g' ≠ g) : (w.setCell ⟨g, o, none⟩ v).heap[g']? = some ob := (Below.heap_setCell _ _ _ _ hg).trans h
theorem TwoBox.three {a b : Lab} {w w2 : World} (h : TwoBox a b w w2) : (w2.alloc (.cells #[.int .i64 0, .int .u32 0] 40)).heap[w.heap.size]? = some (.cells #[.int .i64 a.1, .int .u32 (a.2 : Int)] 40 (0, 0)) ∧
    (w2.alloc (.cells #[.int .i64 0, .int .u32 0] 40)).heap[w.heap.size + 1]? = some (.cells #[.int .i64 b.1, .int .u32 (b.2 : Int)] 40 (0, 0)) ∧
    (w2.alloc (.cells #[.int .i64 0, .int .u32 0] 40)).heap[w.heap.size + 1 + 1]? = some (.cells #[.int .i64 0, .int .u32 0] 40 (0, 0)) ∧ Below w.heap.size w (w2.alloc (.cells #[.int .i64 0, .int .u32 0] 40)) := by
  refine ⟨lblk_alloc h.a0 _, lblk_alloc h.b0 _, ?_, h.bel.alloc h.bel.size _⟩
  rw [← h.size]
  exact heap_alloc_new w2 _

set_option maxHeartbeats 1000000 in
theorem Both_any (l1 l2 : Int) (p1 p2 : Nat) (w : World) (h1 : p1 < 4294967296) (h2 : p2 < 4294967296) :
    Calls Try.prog 41 #[.agg #[.int .i64 l1, .int .u32 p1], .agg #[.int .i64 l2, .int .u32 p2]] w fun e w' => e = .returned (labV (joinL (l1, p1) (l2, p2))) ∧ Below w.heap.size w w' := by
  have hT := twoBox (l1, p1) (l2, p2) w
  have hT3 := hT.three
  simp only at hT3
  obtain ⟨a0, b0, z0, hbel⟩ := hT3
  have hop := u32_or_nat p1 p2 h1 h2
  have HB := Lib.hid hbel
  obtain ⟨q, hq⟩ : ∃ q, p1 ||| p2 = q := ⟨_, rfl⟩
  rw [hq] at hop
  generalize hw3 : (((w.alloc (.cells #[.int .i64 l1, .int .u32 (p1 : Int)] 40)).alloc (.cells #[.int .i64 l2, .int .u32 (p2 : Int)] 40)).alloc (.cells #[.int .i64 0, .int .u32 0] 40)) = w3 at *
  have HA := Lib.hid a0
  have HBb := Lib.hid b0
  have HZ := Lib.hid z0
  obtain ⟨ca0, ca1⟩ := ltwo_cells a0
  obtain ⟨cb0, cb1⟩ := ltwo_cells b0
  have fa0 : w3.frozen? ⟨w.heap.size, 0, none⟩ = false := by simp [World.frozen?, a0]
  have fa1 : w3.frozen? ⟨w.heap.size, 1, none⟩ = false := by simp [World.frozen?, a0]
  clear hbel hT a0 b0 z0
  by_cases hl : l1 < l2
  · have HR := Lib.hid (show labV (joinL (l1, p1) (l2, p2)) = .agg #[.int .i64 l2, .int .u32 (q : Int)] by unfold labV joinL; simp only; rw [if_pos hl, hq])
    have e1 := ltwo_set0 (u := .int .i64 l2) HA.out
    have e2 := ltwo_set1 (u := .int .u32 (q : Int)) e1
    have e3 := lother (v := .int .u32 (q : Int)) (o := 1) (lother (v := .int .i64 l2) (o := 0) HZ.out (show w.heap.size + 1 + 1 ≠ w.heap.size by omega)) (show w.heap.size + 1 + 1 ≠ w.heap.size by omega)
    have hfin := ltwo_cells (ltwo_set1 (u := .int .u32 (q : Int)) (ltwo_set0 (u := .int .i64 l2) e3))
    have k1 := (ltwo_cells e1).2
    have kb := (ltwo_cells (lother (v := .int .i64 l2) (o := 0) HBb.out (show w.heap.size + 1 ≠ w.heap.size by omega))).2
    have g1 : (w3.setCell ⟨w.heap.size, 0, none⟩ (.int .i64 l2)).frozen? ⟨w.heap.size, 1, none⟩ = false := by simp [World.frozen?, e1]
    obtain ⟨k2, k3⟩ := ltwo_cells e2
    obtain ⟨z1, z2⟩ := ltwo_cells e3
    have f1 : ((w3.setCell ⟨w.heap.size, 0, none⟩ (.int .i64 l2)).setCell ⟨w.heap.size, 1, none⟩ (.int .u32 (q : Int))).frozen? ⟨w.heap.size + 1 + 1, 0, none⟩ = false := by simp [World.frozen?, e3]
    have f2 : ((w3.setCell ⟨w.heap.size, 0, none⟩ (.int .i64 l2)).setCell ⟨w.heap.size, 1, none⟩ (.int .u32 (q : Int))).frozen? ⟨w.heap.size + 1 + 1, 1, none⟩ = false := by simp [World.frozen?, e3]
    have HF := Lib.hid hfin
    clear e1 e2 e3 hfin
    go_enter Try.func41, Try.ntmps41
    go_wp2
    refine bodyPost_ret (v := .agg #[.int .i64 l2, .int .u32 (q : Int)]) (by simp [results, Try.results41, go_sem, HF.out.1, HF.out.2]) rfl ?_
    exact ⟨by rw [HR.out], (((HB.out.setCell (by simp) _).setCell (by simp) _).setCell (by simp; omega) _).setCell (by simp; omega) _⟩
  · have HR := Lib.hid (show labV (joinL (l1, p1) (l2, p2)) = .agg #[.int .i64 l1, .int .u32 (q : Int)] by unfold labV joinL; simp only; rw [if_neg hl, hq])
    have e2 := ltwo_set1 (u := .int .u32 (q : Int)) HA.out
    have e3 := lother (v := .int .u32 (q : Int)) (o := 1) HZ.out (show w.heap.size + 1 + 1 ≠ w.heap.size by omega)
    have hfin := ltwo_cells (ltwo_set1 (u := .int .u32 (q : Int)) (ltwo_set0 (u := .int .i64 l1) e3))
    obtain ⟨k2, k3⟩ := ltwo_cells e2
    obtain ⟨z1, z2⟩ := ltwo_cells e3
    have f1 : (w3.setCell ⟨w.heap.size, 1, none⟩ (.int .u32 (q : Int))).frozen? ⟨w.heap.size + 1 + 1, 0, none⟩ = false := by simp [World.frozen?, e3]
    have f2 : (w3.setCell ⟨w.heap.size, 1, none⟩ (.int .u32 (q : Int))).frozen? ⟨w.heap.size + 1 + 1, 1, none⟩ = false := by simp [World.frozen?, e3]
    have HF := Lib.hid hfin
    clear e2 e3 hfin
    go_enter Try.func41, Try.ntmps41
    go_wp2
    refine bodyPost_ret (v := .agg #[.int .i64 l1, .int .u32 (q : Int)]) (by simp [results, Try.results41, go_sem, HF.out.1, HF.out.2]) rfl ?_
    exact ⟨by rw [HR.out], ((HB.out.setCell (by simp) _).setCell (by simp; omega) _).setCell (by simp; omega) _⟩

set_option maxHeartbeats 1000000 in
theorem Common_any (l1 l2 : Int) (p1 p2 : Nat) (w : World) (h1 : p1 < 4294967296) (h2 : p2 < 4294967296) :
    Calls Try.prog 40 #[.agg #[.int .i64 l1, .int .u32 p1], .agg #[.int .i64 l2, .int .u32 p2]] w fun e w' => e = .returned (labV (meetL (l1, p1) (l2, p2))) ∧ Below w.heap.size w w' := by
  have hT := twoBox (l1, p1) (l2, p2) w
  have hT3 := hT.three
  simp only at hT3
  obtain ⟨a0, b0, z0, hbel⟩ := hT3
  have hop := u32_and_nat p1 p2 h1 h2
  have HB := Lib.hid hbel
  obtain ⟨q, hq⟩ : ∃ q, p1 &&& p2 = q := ⟨_, rfl⟩
  rw [hq] at hop
  generalize hw3 : (((w.alloc (.cells #[.int .i64 l1, .int .u32 (p1 : Int)] 40)).alloc (.cells #[.int .i64 l2, .int .u32 (p2 : Int)] 40)).alloc (.cells #[.int .i64 0, .int .u32 0] 40)) = w3 at *
  have HA := Lib.hid a0
  have HBb := Lib.hid b0
  have HZ := Lib.hid z0
  obtain ⟨ca0, ca1⟩ := ltwo_cells a0
  obtain ⟨cb0, cb1⟩ := ltwo_cells b0
  have fa0 : w3.frozen? ⟨w.heap.size, 0, none⟩ = false := by simp [World.frozen?, a0]
  have fa1 : w3.frozen? ⟨w.heap.size, 1, none⟩ = false := by simp [World.frozen?, a0]
  clear hbel hT a0 b0 z0
  by_cases hl : l2 < l1
  · have HR := Lib.hid (show labV (meetL (l1, p1) (l2, p2)) = .agg #[.int .i64 l2, .int .u32 (q : Int)] by unfold labV meetL; simp only; rw [if_pos hl, hq])
    have e1 := ltwo_set0 (u := .int .i64 l2) HA.out
    have e2 := ltwo_set1 (u := .int .u32 (q : Int)) e1
    have e3 := lother (v := .int .u32 (q : Int)) (o := 1) (lother (v := .int .i64 l2) (o := 0) HZ.out (show w.heap.size + 1 + 1 ≠ w.heap.size by omega)) (show w.heap.size + 1 + 1 ≠ w.heap.size by omega)
    have hfin := ltwo_cells (ltwo_set1 (u := .int .u32 (q : Int)) (ltwo_set0 (u := .int .i64 l2) e3))
    have k1 := (ltwo_cells e1).2
    have kb := (ltwo_cells (lother (v := .int .i64 l2) (o := 0) HBb.out (show w.heap.size + 1 ≠ w.heap.size by omega))).2
    have g1 : (w3.setCell ⟨w.heap.size, 0, none⟩ (.int .i64 l2)).frozen? ⟨w.heap.size, 1, none⟩ = false := by simp [World.frozen?, e1]
    obtain ⟨k2, k3⟩ := ltwo_cells e2
    obtain ⟨z1, z2⟩ := ltwo_cells e3
    have f1 : ((w3.setCell ⟨w.heap.size, 0, none⟩ (.int .i64 l2)).setCell ⟨w.heap.size, 1, none⟩ (.int .u32 (q : Int))).frozen? ⟨w.heap.size + 1 + 1, 0, none⟩ = false := by simp [World.frozen?, e3]
    have f2 : ((w3.setCell ⟨w.heap.size, 0, none⟩ (.int .i64 l2)).setCell ⟨w.heap.size, 1, none⟩ (.int .u32 (q : Int))).frozen? ⟨w.heap.size + 1 + 1, 1, none⟩ = false := by simp [World.frozen?, e3]
    have HF := Lib.hid hfin
    clear e1 e2 e3 hfin
    go_enter Try.func40, Try.ntmps40
    go_wp2
    refine bodyPost_ret (v := .agg #[.int .i64 l2, .int .u32 (q : Int)]) (by simp [results, Try.results40, go_sem, HF.out.1, HF.out.2]) rfl ?_
    exact ⟨by rw [HR.out], (((HB.out.setCell (by simp) _).setCell (by simp) _).setCell (by simp; omega) _).setCell (by simp; omega) _⟩
  · have HR := Lib.hid (show labV (meetL (l1, p1) (l2, p2)) = .agg #[.int .i64 l1, .int .u32 (q : Int)] by unfold labV meetL; simp only; rw [if_neg hl, hq])
    have e2 := ltwo_set1 (u := .int .u32 (q : Int)) HA.out
    have e3 := lother (v := .int .u32 (q : Int)) (o := 1) HZ.out (show w.heap.size + 1 + 1 ≠ w.heap.size by omega)
    have hfin := ltwo_cells (ltwo_set1 (u := .int .u32 (q : Int)) (ltwo_set0 (u := .int .i64 l1) e3))
    obtain ⟨k2, k3⟩ := ltwo_cells e2
    obtain ⟨z1, z2⟩ := ltwo_cells e3
    have f1 : (w3.setCell ⟨w.heap.size, 1, none⟩ (.int .u32 (q : Int))).frozen? ⟨w.heap.size + 1 + 1, 0, none⟩ = false := by simp [World.frozen?, e3]
    have f2 : (w3.setCell ⟨w.heap.size, 1, none⟩ (.int .u32 (q : Int))).frozen? ⟨w.heap.size + 1 + 1, 1, none⟩ = false := by simp [World.frozen?, e3]
    have HF := Lib.hid hfin
    clear e2 e3 hfin
    go_enter Try.func40, Try.ntmps40
    go_wp2
    refine bodyPost_ret (v := .agg #[.int .i64 l1, .int .u32 (q : Int)]) (by simp [results, Try.results40, go_sem, HF.out.1, HF.out.2]) rfl ?_
    exact ⟨by rw [HR.out], ((HB.out.setCell (by simp) _).setCell (by simp; omega) _).setCell (by simp; omega) _⟩

end Go.Proofs.Ytdiaglaokgehbaa
