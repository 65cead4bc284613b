/- syllogistref.Said (this text is written by wip/mkTwS.py). -/
import Derived.Test.YtekeeodnjlebcaaTwA
namespace Go.Proofs.Ytekeeodnjlebcaa
open Go.RowKit

theorem cell_kp' {w w' : World} {b o : Nat} {v : Value} (hb : Below w.heap.size w w') (h : w.cell? ⟨b, o, none⟩ = some v) : w'.cell? ⟨b, o, none⟩ = some v :=
  (hb.cell (p := ⟨b, o, none⟩) (block_lt_of_cell h)).trans h
theorem natB (a b : Nat) : ((a : Int) == (b : Int)) = (a == b) := by
  rw [Bool.eq_iff_iff, beq_iff_eq, beq_iff_eq]
  omega
theorem len_two {L : List Nat} (h : L.length = 2) : ∃ a b, L = [a, b] := by
  match L, h with
  | [a, b], _ => exact ⟨a, b, rfl⟩
theorem litsK_bits {n : Nat} {c : Cla} {k : Nat} {x y : Bool} (hx : c.1.testBit k = x) (hy : c.2.testBit k = y) : litsK n c (k + 1) = litsK n c k ++ ((if x = true then [k] else []) ++ (if y = true then [k + n] else [])) := by
  rw [litsK_succ, hx, hy]
theorem litsK_short (n : Nat) (c : Cla) : ∀ k, (litsK n c k).length ≤ 2 * k
  | 0 => by simp [litsK]
  | k + 1 => by
    have := litsK_short n c k
    rw [litsK_succ, List.length_append, List.length_append]
    cases c.1.testBit k <;> cases c.2.testBit k <;> simp <;> omega

end Go.Proofs.Ytekeeodnjlebcaa
