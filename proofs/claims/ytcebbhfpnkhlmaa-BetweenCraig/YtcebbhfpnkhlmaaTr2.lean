/- Plain mathematics of Post's classes. -/
import Derived.Test.YtcebbhfpnkhlmaaTB
import Derived.Test.YtcebbhfpnkhlmaaPop
namespace Go.Proofs.Ytcebbhfpnkhlmaa
open Go.RowKit

/-- Is a table its own dual? -/
def selfB (n : Nat) (F : Nat → Bool) : Bool := (List.range (one n)).all fun s => F s == dualF n F s
/-- Does it rise from a to each of the first b sets? -/
def riseR (F : Nat → Bool) (a b : Nat) : Bool := (List.range b).all fun t => !(sub a t && F a && !F t)
/-- Does it rise from each of the first a sets? -/
def riseP (n : Nat) (F : Nat → Bool) (a : Nat) : Bool := (List.range a).all fun s => riseR F s (one n)
/-- Is no product of two or more, of the first k sets, in its sums? -/
def straP (M : Nat → Bool) (k : Nat) : Bool := (List.range k).all fun s => !(decide (1 < pop s) && M s)
theorem riseR_succ (F : Nat → Bool) (a b : Nat) : riseR F a (b + 1) = (riseR F a b && !(sub a b && F a && !F b)) := by simp [riseR, List.range_succ]
theorem riseP_succ (n : Nat) (F : Nat → Bool) (a : Nat) : riseP n F (a + 1) = (riseP n F a && riseR F a (one n)) := by simp [riseP, List.range_succ]
theorem straP_succ (M : Nat → Bool) (k : Nat) : straP M (k + 1) = (straP M k && !(decide (1 < pop k) && M k)) := by simp [straP, List.range_succ]
/-- Five answers, as a word. -/
def cls (a b c d e : Bool) : Nat := a.toNat + 2 * b.toNat + 4 * c.toNat + 8 * d.toNat + 16 * e.toNat
/-- The class of a table. -/
def classF (n : Nat) (F : Nat → Bool) : Nat := cls (!F 0) (F (full n)) (selfB n F) (riseP n F (one n)) (straP (mob n F) (one n))
theorem cls_lt (a b c d e : Bool) : cls a b c d e < 32 := by cases a <;> cases b <;> cases c <;> cases d <;> cases e <;> decide
theorem class_lt (n : Nat) (F : Nat → Bool) : classF n F < 32 := cls_lt _ _ _ _ _
theorem cls_bit0 (a b c d e : Bool) : (cls a b c d e).testBit 0 = a := by cases a <;> cases b <;> cases c <;> cases d <;> cases e <;> decide
theorem cls_bit1 (a b c d e : Bool) : (cls a b c d e).testBit 1 = b := by cases a <;> cases b <;> cases c <;> cases d <;> cases e <;> decide
theorem cls_bit2 (a b c d e : Bool) : (cls a b c d e).testBit 2 = c := by cases a <;> cases b <;> cases c <;> cases d <;> cases e <;> decide
theorem cls_bit3 (a b c d e : Bool) : (cls a b c d e).testBit 3 = d := by cases a <;> cases b <;> cases c <;> cases d <;> cases e <;> decide
theorem cls_bit4 (a b c d e : Bool) : (cls a b c d e).testBit 4 = e := by cases a <;> cases b <;> cases c <;> cases d <;> cases e <;> decide
theorem self_dec {n : Nat} {f : List Bool} (h : f.length = one n) : decide (f = tabB (one n) (dualF n (atB f))) = selfB n (atB f) := by
  rw [Bool.eq_iff_iff, decide_eq_true_iff, selfB, List.all_eq_true]
  constructor
  · intro e s hs
    rw [List.mem_range] at hs
    have h1 := atB_get (f := f) (show s < f.length by rw [h]; exact hs)
    rw [e, tabB_get _ hs, ← e] at h1
    simp only [Option.some.injEq] at h1
    rw [beq_iff_eq, h1]
  · intro e
    have h2 := tabB_self f
    rw [h] at h2
    rw [← h2]
    have h3 : tabB (one n) (atB f) = tabB (one n) (dualF n (atB f)) := tabB_congr fun k hk => by
      have := e k (List.mem_range.2 hk)
      rwa [beq_iff_eq] at this
    rw [h3] at h2 ⊢
    rw [h2, ← h3]
    rw [h3, h2]

end Go.Proofs.Ytcebbhfpnkhlmaa
