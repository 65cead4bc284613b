/- syllogistref.Resolve. -/
import Derived.Test.YtjbefclfhehhaaaWI1
import Derived.Test.YtjbefclfhehhaaaAppAny
import Derived.Laws.StructEq
import Derived.OneCell
namespace Go.Proofs.Ytjbefclfhehhaaa
open Go.RowKit

/-- What Resolve answers. -/
def resT (a b : Cla) : Value := .tuple #[.agg #[.int .u32 (((resv a b).getD (0, 0)).1 : Nat), .int .u32 (((resv a b).getD (0, 0)).2 : Nat)], .bool (resv a b).isSome]

theorem blk_keep {w w' : World} {g : Nat} {o : Obj} (hb : Below w.heap.size w w') (h : w.heap[g]? = some o) : w'.heap[g]? = some o := (hb.block g (lt_of_block h)).trans h
theorem blk_alloc {w : World} {g : Nat} {o : Obj} (h : w.heap[g]? = some o) (o2 : Obj) : (w.alloc o2).heap[g]? = some o := blk_keep ((Below.refl _ _).alloc (Nat.le_refl _) _) h
theorem two_cells {w : World} {g : Nat} {x y : Value} {t : TypeId} {fl : Nat × Nat} (h : w.heap[g]? = some (.cells #[x, y] t fl)) : w.cell? ⟨g, 0, none⟩ = some x ∧ w.cell? ⟨g, 1, none⟩ = some y := by
  constructor <;> simp [World.cell?, h]
theorem twoC_set0 {w : World} {g : Nat} {x y u : Value} {t : TypeId} (h : w.heap[g]? = some (.cells #[x, y] t (0, 0))) :
    (w.setCell ⟨g, 0, none⟩ u).heap[g]? = some (.cells #[u, y] t (0, 0)) := by
  have hlt := lt_of_block h
  have h' : w.heap[g] = .cells #[x, y] t (0, 0) := by simpa [Array.getElem?_eq_getElem hlt] using h
  show (w.heap.modify g _)[g]? = _
  rw [Array.getElem?_eq_getElem (by simpa using hlt), Array.getElem_modify_self, h']
  rfl
theorem twoC_set1 {w : World} {g : Nat} {x y u : Value} {t : TypeId} (h : w.heap[g]? = some (.cells #[x, y] t (0, 0))) :
    (w.setCell ⟨g, 1, none⟩ u).heap[g]? = some (.cells #[x, u] t (0, 0)) := by
  have hlt := lt_of_block h
  have h' : w.heap[g] = .cells #[x, y] t (0, 0) := by simpa [Array.getElem?_eq_getElem hlt] using h
  show (w.heap.modify g _)[g]? = _
  rw [Array.getElem?_eq_getElem (by simpa using hlt), Array.getElem_modify_self, h']
  rfl
theorem twoC_setCell {w : World} {g : Nat} {x y u v : Value} {t : TypeId} (h : w.heap[g]? = some (.cells #[x, y] t (0, 0))) :
    ((w.setCell ⟨g, 0, none⟩ u).setCell ⟨g, 1, none⟩ v).heap[g]? = some (.cells #[u, v] t (0, 0)) := twoC_set1 (twoC_set0 h)
/-- Where the two clauses and the answer lie. -/
structure ResW (a b : Cla) (w w3 : World) : Prop where
  a1 : w3.cell? ⟨w.heap.size, 0, none⟩ = some (.int .u32 (a.1 : Int))
  a2 : w3.cell? ⟨w.heap.size, 1, none⟩ = some (.int .u32 (a.2 : Int))
  b1 : w3.cell? ⟨w.heap.size + 1, 0, none⟩ = some (.int .u32 (b.1 : Int))
  b2 : w3.cell? ⟨w.heap.size + 1, 1, none⟩ = some (.int .u32 (b.2 : Int))
  z : w3.heap[w.heap.size + 1 + 1]? = some (.cells #[.int .u32 0, .int .u32 0] 32 (0, 0))
  bel : Below w.heap.size w w3
theorem resW (a b : Cla) (w : World) : ResW a b w (((w.alloc (.cells #[.int .u32 (a.1 : Int), .int .u32 (a.2 : Int)] 32)).alloc (.cells #[.int .u32 (b.1 : Int), .int .u32 (b.2 : Int)] 32)).alloc (.cells #[.int .u32 0, .int .u32 0] 32)) := by
  have h1 := (Below.refl w.heap.size w).alloc (Nat.le_refl _) (.cells #[.int .u32 (a.1 : Int), .int .u32 (a.2 : Int)] 32)
  have h2 := h1.alloc h1.size (.cells #[.int .u32 (b.1 : Int), .int .u32 (b.2 : Int)] 32)
  have h3 := h2.alloc h2.size (.cells #[.int .u32 0, .int .u32 0] 32)
  have k1 := heap_alloc_new w (.cells #[.int .u32 (a.1 : Int), .int .u32 (a.2 : Int)] 32)
  have k2 := heap_alloc_new (w.alloc (.cells #[.int .u32 (a.1 : Int), .int .u32 (a.2 : Int)] 32)) (.cells #[.int .u32 (b.1 : Int), .int .u32 (b.2 : Int)] 32)
  have k3 := heap_alloc_new ((w.alloc (.cells #[.int .u32 (a.1 : Int), .int .u32 (a.2 : Int)] 32)).alloc (.cells #[.int .u32 (b.1 : Int), .int .u32 (b.2 : Int)] 32)) (.cells #[.int .u32 0, .int .u32 0] 32)
  have m1 := blk_alloc (blk_alloc k1 (.cells #[.int .u32 (b.1 : Int), .int .u32 (b.2 : Int)] 32)) (.cells #[.int .u32 0, .int .u32 0] 32)
  have m2 := blk_alloc k2 (.cells #[.int .u32 0, .int .u32 0] 32)
  simp only [World.size_alloc] at m2 k3
  exact ⟨(two_cells m1).1, (two_cells m1).2, (two_cells m2).1, (two_cells m2).2, k3, h3⟩

set_option maxHeartbeats 1000000 in
theorem Resolve_any (a b : Cla) (w : World) (ha : a.1 < 4294967296 ∧ a.2 < 4294967296) (hb : b.1 < 4294967296 ∧ b.2 < 4294967296) :
    Calls Try.prog 18 #[.agg #[.int .u32 a.1, .int .u32 a.2], .agg #[.int .u32 b.1, .int .u32 b.2]] w fun e w' => e = .returned (resT a b) ∧ Below w.heap.size w w' := by
  obtain ⟨a1, a2⟩ := a
  obtain ⟨b1, b2⟩ := b
  obtain ⟨ha1, ha2⟩ := ha
  obtain ⟨hb1, hb2⟩ := hb
  simp only at ha1 ha2 hb1 hb2 ⊢
  have hW := resW (a1, a2) (b1, b2) w
  simp only at hW
  have HW := Lib.hid hW
  clear hW
  go_enter Try.func18, Try.ntmps18
  go_wp2
  generalize (((w.alloc (.cells #[.int .u32 (a1 : Int), .int .u32 (a2 : Int)] 32)).alloc (.cells #[.int .u32 (b1 : Int), .int .u32 (b2 : Int)] 32)).alloc (.cells #[.int .u32 0, .int .u32 0] 32)) = w3 at *
  go_loopw [6] (fun vv wr => ∃ v : Nat, vv = .int .i64 v ∧ v ≤ 32 ∧ (∀ u, u < v → resAt (a1, a2) (b1, b2) u = false) ∧ w3 = wr) (fun vv _ => 32 - (intOf vv).toNat)
  case atStart => exact ⟨0, rfl, Nat.zero_le _, fun t ht => absurd ht (Nat.not_lt_zero _), rfl⟩
  case round =>
    obtain ⟨v, rfl, hv, hno, rfl⟩ := hrel
    have HN := Lib.hid hno
    clear hno
    by_cases hlt : v < 32
    · have e1 := HW.out.a1
      have e2 := HW.out.a2
      have e3 := HW.out.b1
      have e4 := HW.out.b2
      cases h1 : a1.testBit v with
      | false =>
        have HS := Lib.hid (show ∀ u, u < v + 1 → resAt (a1, a2) (b1, b2) u = false from fun u hu => by
          by_cases e : u = v
          · subst e; unfold resAt; rw [h1]; rfl
          · exact HN.out u (by omega))
        go_wp2_with fail
        refine (Bit_any a1 v hlt ha1 _).mono ?_
        rintro e w4 ⟨rfl, rfl⟩
        rw [h1]
        clear h1
        go_wp2
        go_roundw
        case rel => exact ⟨v + 1, by go_num, by omega, HS.out, trivial⟩
        case measure => simp [intOf]; omega
      | true =>
        cases h2 : b2.testBit v with
        | false =>
          have HS := Lib.hid (show ∀ u, u < v + 1 → resAt (a1, a2) (b1, b2) u = false from fun u hu => by
            by_cases e : u = v
            · subst e; unfold resAt; rw [h1]; exact h2
            · exact HN.out u (by omega))
          go_wp2_with fail
          refine (Bit_any a1 v hlt ha1 _).mono ?_
          rintro e w4 ⟨rfl, rfl⟩
          rw [h1]
          clear h1
          go_wp2_with fail
          refine (Bit_any b2 v hlt hb2 _).mono ?_
          rintro e w4 ⟨rfl, rfl⟩
          rw [h2]
          clear h2
          go_wp2
          go_roundw
          case rel => exact ⟨v + 1, by go_num, by omega, HS.out, trivial⟩
          case measure => simp [intOf]; omega
        | true =>
          have HS := Lib.hid (resv_some (a := (a1, a2)) (b := (b1, b2)) hlt (by unfold resAt; rw [h1]; exact h2) HN.out)
          have h1v := one_int v hlt
          have hov := one_lt hlt
          have l1 := Nat.lt_of_le_of_lt (wo_le a1 (one v)) ha1
          have l2 := Nat.lt_of_le_of_lt (wo_le b2 (one v)) hb2
          have q1 := u32_wo ha1 hov
          have q2 := u32_wo hb2 hov
          have q3 := u32_or_nat (wo a1 (one v)) b1 l1 hb1
          have q4 := u32_or_nat a2 (wo b2 (one v)) ha2 l2
          have hz := HW.out.z
          have f0 : w3.frozen? ⟨w.heap.size + 1 + 1, 0, none⟩ = false := by simp [World.frozen?, hz]
          have f1 : w3.frozen? ⟨w.heap.size + 1 + 1, 1, none⟩ = false := by simp [World.frozen?, hz]
          have d0 := (two_cells hz).1
          have d1 := (two_cells hz).2
          have hh := two_cells (twoC_setCell (u := .int .u32 ((wo a1 (one v) ||| b1 : Nat) : Int)) (v := .int .u32 ((a2 ||| wo b2 (one v) : Nat) : Int)) hz)
          have R := Lib.hid hh
          clear hh hz
          go_wp2_with fail
          refine (Bit_any a1 v hlt ha1 _).mono ?_
          rintro e w4 ⟨rfl, rfl⟩
          rw [h1]
          clear h1
          go_wp2_with fail
          refine (Bit_any b2 v hlt hb2 _).mono ?_
          rintro e w4 ⟨rfl, rfl⟩
          rw [h2]
          clear h2
          go_wp2
          refine bodyPost_ret (v := .tuple #[.agg #[.int .u32 ((wo a1 (one v) ||| b1 : Nat) : Int), .int .u32 ((a2 ||| wo b2 (one v) : Nat) : Int)], .bool true]) (by simp [results, Try.results18, go_sem, R.out.1, R.out.2]) rfl ?_
          exact ⟨by unfold resT; rw [HS.out]; rfl, (HW.out.bel.setCell (by simp; omega) _).setCell (by simp; omega) _⟩
    · have HS := Lib.hid (resv_none (a := (a1, a2)) (b := (b1, b2)) fun u hu => HN.out u (by omega))
      have hz := HW.out.z
      have f0 : w3.frozen? ⟨w.heap.size + 1 + 1, 0, none⟩ = false := by simp [World.frozen?, hz]
      have f1 : w3.frozen? ⟨w.heap.size + 1 + 1, 1, none⟩ = false := by simp [World.frozen?, hz]
      have d0 := (two_cells hz).1
      have d1 := (two_cells hz).2
      have hh := two_cells (twoC_setCell (u := .int .u32 0) (v := .int .u32 0) hz)
      have R := Lib.hid hh
      clear hh hz
      go_wp2
      refine bodyPost_ret (v := .tuple #[.agg #[.int .u32 0, .int .u32 0], .bool false]) (by simp [results, Try.results18, go_sem, R.out.1, R.out.2]) rfl ?_
      exact ⟨by unfold resT; rw [HS.out]; rfl, (HW.out.bel.setCell (by simp; omega) _).setCell (by simp; omega) _⟩

end Go.Proofs.Ytjbefclfhehhaaa
