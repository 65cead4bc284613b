/- Lists of cells, k an element. -/
import Derived.Test.YthgmbiaajgpaaaaBase
namespace Go.Proofs.Ythgmbiaajgpaaaa
open Go.RowKit

theorem flat_get {α : Type} (enc : α → List Value) (k : Nat) (hk : ∀ x, (enc x).length = k) (h0 : 0 < k) : ∀ (l : List α) (j : Nat), (l.flatMap enc)[j]? = (l[j / k]?).bind fun x => (enc x)[j % k]?
  | [], j => by simp
  | x :: l, j => by
    rw [List.flatMap_cons]
    by_cases hj : j < k
    · rw [List.getElem?_append_left (by rw [hk]; exact hj), Nat.div_eq_of_lt hj, Nat.mod_eq_of_lt hj]
      simp
    · rw [List.getElem?_append_right (by rw [hk]; omega), hk, flat_get enc k hk h0 l (j - k)]
      have e1 : j / k = (j - k) / k + 1 := by rw [← Nat.add_div_right _ h0]; congr 1; omega
      have e2 : (j - k) % k = j % k := (Nat.mod_eq_sub_mod (by omega)).symm
      rw [e1, e2]
      simp
theorem flat_one {α : Type} (g : α → Value) (l : List α) : (l.flatMap fun y => [g y]) = l.map g := by
  induction l with
  | nil => rfl
  | cons y l ih => rw [List.flatMap_cons, ih]; rfl

end Go.Proofs.Ythgmbiaajgpaaaa
