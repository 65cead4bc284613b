/- Matrices of rights: rounds, and what they come to. -/
import Derived.Test.YthgmbiaajgpaaaaRl
import Derived.Test.YthgmbiaajgpaaaaSetW
import Derived.Test.YthgmbiaajgpaaaaPop
import Derived.Test.YthgmbiaajgpaaaaBase
namespace Go.Proofs.Ythgmbiaajgpaaaa
open Go.RowKit

/-- A matrix, and one in memory. -/
abbrev Mat := List (List Nat)
abbrev MRow := List Nat × Option Addr × Nat
def rowV (y : MRow) : Value := .slice y.2.1 y.1.length y.2.2
def MRow.at (w : World) (y : MRow) : Prop := (∀ x ∈ y.1, x < 4294967296) ∧ y.1.length ≤ maxLen ∧ y.1.length ≤ y.2.2 ∧ Row w y.2.1 (words y.1)
def Mats (w : World) (A : Option Addr) (m : Mat) : Prop := ∃ ys : List MRow, m = ys.map (·.1) ∧ Row w A (ys.map rowV) ∧ ∀ y ∈ ys, y.at w
theorem MRow.at.below {w w' : World} {y : MRow} (h : y.at w) (hb : Below w.heap.size w w') : y.at w' := ⟨h.1, h.2.1, h.2.2.1, h.2.2.2.below hb⟩
theorem Mats.below {w w' : World} {A : Option Addr} {m : Mat} (h : Mats w A m) (hb : Below w.heap.size w w') : Mats w' A m := by
  obtain ⟨ys, h1, h2, h3⟩ := h
  exact ⟨ys, h1, h2.below hb, fun y hy => (h3 y hy).below hb⟩
theorem Mats.row {w : World} {A : Option Addr} {m : Mat} (h : Mats w A m) {i : Nat} {r : List Nat} (hi : m[i]? = some r) :
    ∃ b off A' c', A = some ⟨b, off, none⟩ ∧ w.cell? ⟨b, off + i, none⟩ = some (.slice A' r.length c') ∧ (∀ x ∈ r, x < 4294967296) ∧ r.length ≤ maxLen ∧ r.length ≤ c' ∧ Row w A' (words r) := by
  obtain ⟨ys, rfl, h2, h3⟩ := h
  rw [List.getElem?_map] at hi
  cases hy : ys[i]? with
  | none => rw [hy] at hi; cases hi
  | some y =>
    rw [hy] at hi
    simp at hi
    subst hi
    have hlt := (List.getElem?_eq_some_iff.1 hy).1
    obtain ⟨b, off, rfl, hc⟩ := h2.at (k := i) (by simpa using hlt)
    obtain ⟨k1, k2, k3, k4⟩ := h3 y (List.mem_of_getElem? hy)
    exact ⟨b, off, y.2.1, y.2.2, rfl, hc i _ (by rw [List.getElem?_map, hy]; rfl), k1, k2, k3, k4⟩
/-- A rule. -/
structure Chn where
  a : Nat
  b : Nat
  c : Nat
def chC (h : Chn) : List Value := [.int .u32 (h.a : Int), .int .u32 (h.b : Int), .int .u32 (h.c : Int)]
def chnsC (l : List Chn) : List Value := l.flatMap chC
def C32 (l : List Chn) : Prop := ∀ h ∈ l, h.a < 4294967296 ∧ h.b < 4294967296 ∧ h.c < 4294967296
def SqM (n : Int) (m : Mat) : Prop := (m.length : Int) = n ∧ ∀ r ∈ m, (r.length : Int) = n
instance (n : Int) (m : Mat) : Decidable (SqM n m) := by unfold SqM; infer_instance
def codeX (n : Int) (m : Mat) (nc : Nat) : Int := if n < 1 ∨ 6 < n ∨ 10 < nc then 1 else if SqM n m then 0 else 3
theorem codeX_large {n : Int} {m : Mat} {nc : Nat} (h : n < 1 ∨ 6 < n ∨ 10 < nc) : codeX n m nc = 1 := if_pos h
theorem codeX_ok {n : Int} {m : Mat} {nc : Nat} (h : ¬ (n < 1 ∨ 6 < n ∨ 10 < nc)) (k : SqM n m) : codeX n m nc = 0 := by rw [codeX, if_neg h, if_pos k]
theorem codeX_bad {n : Int} {m : Mat} {nc : Nat} (h : ¬ (n < 1 ∨ 6 < n ∨ 10 < nc)) (k : ¬ SqM n m) : codeX n m nc = 3 := by rw [codeX, if_neg h, if_neg k]
theorem codeX_zero {n : Int} {m : Mat} {nc : Nat} (h : codeX n m nc = 0) : 1 ≤ n ∧ n ≤ 6 ∧ nc ≤ 10 ∧ SqM n m := by
  unfold codeX at h
  split at h
  · cases h
  · split at h
    · rename_i h2; exact ⟨by omega, by omega, by omega, h2⟩
    · cases h
/-- The code of a matrix and a cell. -/
def codeXC (n : Int) (m : Mat) (nc : Nat) (x y : Int) : Int := if codeX n m nc ≠ 0 then codeX n m nc else if x < 0 ∨ n ≤ x ∨ y < 0 ∨ n ≤ y then 2 else 0

/-! ## Rounds -/
def atM (m : Mat) (i j : Nat) : Nat := (m[i]?.getD [])[j]?.getD 0
/-- What a rule adds at i, k over j. -/
def addX (F : Nat → Nat → Nat) (i k j : Nat) (h : Chn) : Nat := if (sub h.a (F i j) && sub h.b (F j k)) = true then h.c else 0
/-- What the rules add over j; over the first so many. -/
def addJ (F : Nat → Nat → Nat) (i k j : Nat) (l : List Chn) : Nat := orL (l.map (addX F i k j))
def addN (F : Nat → Nat → Nat) (i k n : Nat) (l : List Chn) : Nat := orL ((List.range n).map fun j => addJ F i k j l)
def roundX (n : Nat) (l : List Chn) (F : Nat → Nat → Nat) (i k : Nat) : Nat := F i k ||| addN F i k n l
def iterX (n : Nat) (l : List Chn) (F : Nat → Nat → Nat) : Nat → Nat → Nat → Nat
  | 0 => F
  | t + 1 => roundX n l (iterX n l F t)
theorem orL_app (xs ys : List Nat) : orL (xs ++ ys) = orL xs ||| orL ys := by
  induction xs with
  | nil => simp [orL]
  | cons x xs ih => show x ||| orL (xs ++ ys) = (x ||| orL xs) ||| orL ys; rw [ih, Nat.or_assoc]
theorem orL_one (x : Nat) : orL [x] = x := by simp [orL]
theorem addJ_take {F : Nat → Nat → Nat} {i k j t : Nat} {l : List Chn} {h : Chn} (ht : l[t]? = some h) : addJ F i k j (l.take (t + 1)) = addJ F i k j (l.take t) ||| addX F i k j h := by
  unfold addJ
  rw [List.take_add_one, ht, List.map_append, orL_app]
  simp [orL]
theorem addN_succ (F : Nat → Nat → Nat) (i k j : Nat) (l : List Chn) : addN F i k (j + 1) l = addN F i k j l ||| addJ F i k j l := by
  unfold addN
  rw [List.range_succ, List.map_append, orL_app]
  simp [orL]
theorem orL_u32 {xs : List Nat} (h : ∀ x ∈ xs, x < 4294967296) : orL xs < 4294967296 := by
  induction xs with
  | nil => simp [orL]
  | cons x xs ih => exact or_lt_iff (n := 32) |>.2 ⟨h x (by simp), ih fun y hy => h y (List.mem_cons_of_mem _ hy)⟩
theorem addX_u32 {F : Nat → Nat → Nat} {i k j : Nat} {h : Chn} (hc : h.c < 4294967296) : addX F i k j h < 4294967296 := by unfold addX; split <;> first | exact hc | decide
theorem addJ_u32 {F : Nat → Nat → Nat} {i k j : Nat} {l : List Chn} (hc : C32 l) : addJ F i k j l < 4294967296 := orL_u32 fun x hx => by
  rw [List.mem_map] at hx
  obtain ⟨h, hh, rfl⟩ := hx
  exact addX_u32 (hc h hh).2.2
theorem addN_u32 {F : Nat → Nat → Nat} {i k n : Nat} {l : List Chn} (hc : C32 l) : addN F i k n l < 4294967296 := orL_u32 fun x hx => by
  rw [List.mem_map] at hx
  obtain ⟨j, _, rfl⟩ := hx
  exact addJ_u32 hc
def U2 (F : Nat → Nat → Nat) : Prop := ∀ i j, F i j < 4294967296
theorem roundX_u32 {n : Nat} {l : List Chn} {F : Nat → Nat → Nat} (hF : U2 F) (hc : C32 l) : U2 (roundX n l F) := fun i k => or_lt_iff (n := 32) |>.2 ⟨hF i k, addN_u32 hc⟩
theorem iterX_u32 {n : Nat} {l : List Chn} {F : Nat → Nat → Nat} (hF : U2 F) (hc : C32 l) (t : Nat) : U2 (iterX n l F t) := by
  induction t with
  | zero => exact hF
  | succ t ih => exact roundX_u32 ih hc
/-- As far as n goes. -/
def SameX (n : Nat) (F G : Nat → Nat → Nat) : Prop := ∀ i j, i < n → j < n → F i j = G i j
theorem SameX.round {n : Nat} {l : List Chn} {F G : Nat → Nat → Nat} (h : SameX n F G) : SameX n (roundX n l F) (roundX n l G) := fun i k hi hk => by
  unfold roundX addN addJ addX
  rw [h i k hi hk]
  congr 2
  refine List.map_congr_left fun j hj => ?_
  rw [List.mem_range] at hj
  congr 1
  refine List.map_congr_left fun c _ => ?_
  rw [h i j hi hj, h j k hj hk]
theorem SameX.iter {n : Nat} {l : List Chn} {F G : Nat → Nat → Nat} (h : SameX n F G) (t : Nat) : SameX n (iterX n l F t) (iterX n l G t) := by
  induction t with
  | zero => exact h
  | succ t ih => exact ih.round
theorem SameX.symm {n : Nat} {F G : Nat → Nat → Nat} (h : SameX n F G) : SameX n G F := fun i j hi hj => (h i j hi hj).symm
theorem SameX.trans {n : Nat} {F G H : Nat → Nat → Nat} (h : SameX n F G) (k : SameX n G H) : SameX n F H := fun i j hi hj => (h i j hi hj).trans (k i j hi hj)
/-- Less everywhere. -/
def LeX (n : Nat) (F G : Nat → Nat → Nat) : Prop := ∀ i j, i < n → j < n → sub (F i j) (G i j) = true
theorem LeX.refl (n : Nat) (F : Nat → Nat → Nat) : LeX n F F := fun _ _ _ _ => sub_refl _
theorem LeX.trans {n : Nat} {F G H : Nat → Nat → Nat} (h : LeX n F G) (k : LeX n G H) : LeX n F H := fun i j hi hj => sub_trans (h i j hi hj) (k i j hi hj)
theorem le_round (n : Nat) (l : List Chn) (F : Nat → Nat → Nat) : LeX n F (roundX n l F) := fun i k _ _ => sub_iff.2 fun t ht => by unfold roundX; rw [Nat.testBit_or, ht, Bool.true_or]
theorem addN_bit {F : Nat → Nat → Nat} {i k n t : Nat} {l : List Chn} : (addN F i k n l).testBit t = true ↔ ∃ j, j < n ∧ ∃ h ∈ l, sub h.a (F i j) = true ∧ sub h.b (F j k) = true ∧ h.c.testBit t = true := by
  have orL_bit : ∀ xs : List Nat, (orL xs).testBit t = true ↔ ∃ x ∈ xs, x.testBit t = true := by
    intro xs
    induction xs with
    | nil => simp [orL]
    | cons x xs ih =>
      show (x ||| orL xs).testBit t = true ↔ _
      rw [Nat.testBit_or, Bool.or_eq_true_iff, ih]
      simp
  unfold addN addJ
  rw [orL_bit]
  simp only [List.mem_map, List.mem_range]
  constructor
  · rintro ⟨_, ⟨j, hj, rfl⟩, hx⟩
    rw [orL_bit] at hx
    obtain ⟨_, hx, hb⟩ := hx
    rw [List.mem_map] at hx
    obtain ⟨h, hh, rfl⟩ := hx
    unfold addX at hb
    split at hb
    · rename_i hc
      rw [Bool.and_eq_true_iff] at hc
      exact ⟨j, hj, h, hh, hc.1, hc.2, hb⟩
    · simp at hb
  · rintro ⟨j, hj, h, hh, h1, h2, h3⟩
    refine ⟨_, ⟨j, hj, rfl⟩, ?_⟩
    rw [orL_bit]
    refine ⟨_, List.mem_map.2 ⟨h, hh, rfl⟩, ?_⟩
    unfold addX
    rw [if_pos (by rw [h1, h2]; rfl)]
    exact h3
theorem LeX.round {n : Nat} {l : List Chn} {F G : Nat → Nat → Nat} (h : LeX n F G) : LeX n (roundX n l F) (roundX n l G) := fun i k hi hk => sub_iff.2 fun t ht => by
  unfold roundX at *
  rw [Nat.testBit_or, Bool.or_eq_true_iff] at *
  rcases ht with ht | ht
  · exact .inl (sub_iff.1 (h i k hi hk) t ht)
  · rw [addN_bit] at ht ⊢
    obtain ⟨j, hj, c, hc, h1, h2, h3⟩ := ht
    exact .inr ⟨j, hj, c, hc, sub_trans h1 (h i j hi hj), sub_trans h2 (h j k hj hk), h3⟩
theorem LeX.iter {n : Nat} {l : List Chn} {F G : Nat → Nat → Nat} (h : LeX n F G) (t : Nat) : LeX n (iterX n l F t) (iterX n l G t) := by
  induction t with
  | zero => exact h
  | succ t ih => exact ih.round
theorem iter_le {n : Nat} {l : List Chn} {F : Nat → Nat → Nat} {s t : Nat} (h : s ≤ t) : LeX n (iterX n l F s) (iterX n l F t) := by
  induction t with
  | zero => obtain rfl : s = 0 := by omega
            exact LeX.refl _ _
  | succ t ih =>
    by_cases e : s = t + 1
    · subst e; exact LeX.refl _ _
    · exact (ih (by omega)).trans (le_round _ _ _)
theorem LeX.anti {n : Nat} {F G : Nat → Nat → Nat} (h : LeX n F G) (k : LeX n G F) : SameX n F G := fun i j hi hj =>
  Nat.eq_of_testBit_eq fun t => Bool.eq_iff_iff.2 ⟨sub_iff.1 (h i j hi hj) t, sub_iff.1 (k i j hi hj) t⟩
/-- No rule adds anything. -/
def ClosedX (n : Nat) (l : List Chn) (F : Nat → Nat → Nat) : Prop := SameX n (roundX n l F) F
theorem closed_stay {n : Nat} {l : List Chn} {F : Nat → Nat → Nat} (h : ClosedX n l F) (t : Nat) : SameX n (iterX n l F t) F := by
  induction t with
  | zero => exact fun _ _ _ _ => rfl
  | succ t ih => exact ih.round.trans h
/-- The rounds stay below whatever closed matrix has it all. -/
theorem iter_below {n : Nat} {l : List Chn} {F G : Nat → Nat → Nat} (h : LeX n F G) (k : ClosedX n l G) (t : Nat) : LeX n (iterX n l F t) G := by
  have h1 := h.iter (l := l) t
  exact fun i j hi hj => by rw [← closed_stay k t i j hi hj]; exact h1 i j hi hj

/-! ## They end -/
def gapX (n : Nat) (F : Nat → Nat → Nat) : Nat := ((List.range n).map fun i => ((List.range n).map fun j => 32 - pop (F i j)).sum).sum
theorem sum_le {α : Type} {xs : List α} {f g : α → Nat} (h : ∀ x ∈ xs, f x ≤ g x) : (xs.map f).sum ≤ (xs.map g).sum := by
  induction xs with
  | nil => simp
  | cons x xs ih =>
    have := h x (by simp)
    have := ih fun y hy => h y (List.mem_cons_of_mem _ hy)
    simp only [List.map_cons, List.sum_cons]
    omega
theorem sum_lt {α : Type} {xs : List α} {f g : α → Nat} (h : ∀ x ∈ xs, f x ≤ g x) {y : α} (hy : y ∈ xs) (hl : f y < g y) : (xs.map f).sum < (xs.map g).sum := by
  induction xs with
  | nil => simp at hy
  | cons x xs ih =>
    have h1 := h x (by simp)
    have h2 := sum_le (fun z hz => h z (List.mem_cons_of_mem x hz))
    simp only [List.map_cons, List.sum_cons]
    rw [List.mem_cons] at hy
    rcases hy with rfl | hy
    · omega
    · have := ih (fun z hz => h z (List.mem_cons_of_mem _ hz)) hy
      omega

end Go.Proofs.Ythgmbiaajgpaaaa
