/- A row that the library's sort has left: as a row of cells, and what lies below it. -/
import Derived.Test.YtcokpjffgeihbaaFlat
import Derived.Shelf.SlSortCmp.NoneTotal
namespace Go.Proofs.Ytcokpjffgeihbaa
open Go.RowKit Go.Sort

theorem holdsK_of {α : Type} [Inhabited α] {enc : α → List Value} {k : Nat} (hk : ∀ x, (enc x).length = k) (h0 : 0 < k) {w : World} {g : Nat} {l : List α}
    (hc : ∀ j v, (l.flatMap enc)[j]? = some v → w.cell? ⟨g, j, none⟩ = some v) (hf : ∀ j, w.frozen? ⟨g, j, none⟩ = false) : HoldsK enc k w g 0 l.toArray := by
  intro j hj
  rw [size_flatK] at hj
  rw [get_flatK _ _ _ j hj, Nat.zero_add]
  refine ⟨hc j _ ?_, hf j⟩
  have hj2 : j < k * l.length := by rw [Nat.mul_comm]; simpa using hj
  have h1 : j / k < l.length := Nat.div_lt_of_lt_mul hj2
  have h2 : j % k < k := Nat.mod_lt _ h0
  rw [flat_get enc k hk h0]
  simp only [id]
  have e1 : (l.toArray)[j / k]! = l[j / k] := by rw [getElem!_pos _ _ (by simpa using h1)]; simp
  rw [e1, List.getElem?_eq_getElem h1]
  simp only [Option.bind_some]
  rw [List.getElem?_eq_getElem (by rw [hk]; exact h2), getElem!_pos _ _ (by rw [hk]; exact h2)]
theorem row_of_holdsK {α : Type} [Inhabited α] {enc : α → List Value} {k : Nat} (hk : ∀ x, (enc x).length = k) (h0 : 0 < k) {w : World} {g : Nat} {l : List α}
    (h : HoldsK enc k w g 0 l.toArray) : Row w (some ⟨g, 0, none⟩) (l.flatMap enc) := by
  refine .inr ⟨g, 0, rfl, fun j v hv => ?_⟩
  rw [flat_get enc k hk h0] at hv
  cases hx : l[j / k]? with
  | none => rw [hx] at hv; simp at hv
  | some x =>
    rw [hx] at hv
    simp only [Option.bind_some] at hv
    obtain ⟨h1, e1⟩ := List.getElem?_eq_some_iff.1 hx
    obtain ⟨h2, e2⟩ := List.getElem?_eq_some_iff.1 hv
    rw [hk] at h2
    have hj : j < l.length * k := (Nat.div_lt_iff_lt_mul h0).1 h1
    have := (h j (by rw [size_flatK]; simpa using hj)).1
    rw [this, get_flatK _ _ _ j (by simpa using hj)]
    have e3 : (l.toArray)[j / k]! = x := by rw [getElem!_pos _ _ (by simpa using h1)]; simpa using e1
    rw [e3]
    simp only [id]
    rw [getElem!_pos _ _ (by rw [hk]; exact h2)]
    exact congrArg some e2
theorem below_sortK {α : Type} [Inhabited α] (enc : α → List Value) (k : Nat) (w : World) {B blk : Nat} (off m : Nat) (dk : Array α) (os : Array Obj) (hB : B ≤ blk) (hlt : blk < w.heap.size) :
    Below B w (sortWorldK enc k w blk off m dk os) := by
  refine ⟨rfl, rfl, rfl, size_sortWorldK_c enc k w blk off m dk os, fun i hi => ?_⟩
  unfold sortWorldK grow putRowK putRow mapBlock Sort.ahead
  simp only
  rw [Array.getElem?_append_left (by simp; omega), Array.getElem?_modify, if_neg (by omega)]

theorem lt_nat (x y : Nat) : ltOf (fun a b : Nat => Lib.compareInt (a : Int) (b : Int)) x y = decide (x < y) := by
  unfold ltOf Lib.compareInt
  by_cases h1 : x < y
  · simp [h1]
  · by_cases h2 : y < x <;> simp [h1, h2]
theorem swo_nat : SWO (ltOf fun a b : Nat => Lib.compareInt (a : Int) (b : Int)) where
  irrefl x := by rw [lt_nat]; simp
  trans x y z h1 h2 := by rw [lt_nat] at *; simp at *; omega
  ntrans x y z h1 h2 := by rw [lt_nat] at *; simp at *; omega
theorem tot_nat (x y : Nat) (h1 : ltOf (fun a b : Nat => Lib.compareInt (a : Int) (b : Int)) x y = false) (h2 : ltOf (fun a b : Nat => Lib.compareInt (a : Int) (b : Int)) y x = false) : x = y := by
  rw [lt_nat] at *; simp at *; omega
theorem merge_nat {l k : List Nat} (hl : l.Nodup) (hk : k.Pairwise (· < ·)) (h : ∀ a, a ∈ l ↔ a ∈ k) : (l.mergeSort fun x y => !(ltOf (fun a b : Nat => Lib.compareInt (a : Int) (b : Int))) y x) = k := by
  have hn : k.Nodup := hk.imp fun h => Nat.ne_of_lt h
  refine List.Perm.eq_of_pairwise (le := fun a b => (!(ltOf (fun a b : Nat => Lib.compareInt (a : Int) (b : Int))) b a) = true) (fun a b _ _ h1 h2 => ?_) (List.pairwise_mergeSort ?_ ?_ _) (hk.imp fun {a b} h => ?_) ((List.mergeSort_perm _ _).trans ((List.perm_ext_iff_of_nodup hl hn).2 h))
  · rw [lt_nat] at h1 h2; simp at h1 h2; omega
  · intro a b c h1 h2; rw [lt_nat] at *; simp at *; omega
  · intro a b; rw [lt_nat, lt_nat]; simp; omega
  · rw [lt_nat]; simp; omega

end Go.Proofs.Ytcokpjffgeihbaa
