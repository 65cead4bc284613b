/- Tables of truth values: as cells, of a call's own; their code. -/
import Derived.Test.YtcebbhfpnkhlmaaTr
import Derived.Test.YtcebbhfpnkhlmaaOwn
namespace Go.Proofs.Ytcebbhfpnkhlmaa
open Go.RowKit

def boolsC (f : List Bool) : List Value := f.map Value.bool
@[simp] theorem boolsC_length (f : List Bool) : (boolsC f).length = f.length := by simp [boolsC]
theorem boolsC_at {f : List Bool} {k : Nat} {b : Bool} (h : f[k]? = some b) : (boolsC f)[k]? = some (.bool b) := by simp [boolsC, h]
theorem boolsC_append (f g : List Bool) : boolsC (f ++ g) = boolsC f ++ boolsC g := by simp [boolsC]
theorem boolsC_oneCell (f : List Bool) : ∀ u ∈ boolsC f, u.oneCell' = true := by
  intro u hu
  simp only [boolsC, List.mem_map] at hu
  obtain ⟨b, _, rfl⟩ := hu
  rfl
/-- The value for a set. -/
def atB (f : List Bool) (s : Nat) : Bool := f[s]?.getD false
theorem atB_get {f : List Bool} {s : Nat} (h : s < f.length) : f[s]? = some (atB f s) := by
  unfold atB
  rw [List.getElem?_eq_getElem h]; rfl
def tabB (n : Nat) (h : Nat → Bool) : List Bool := (List.range n).map h
@[simp] theorem tabB_length (n : Nat) (h : Nat → Bool) : (tabB n h).length = n := by simp [tabB]
theorem tabB_get {n k : Nat} (h : Nat → Bool) (hk : k < n) : (tabB n h)[k]? = some (h k) := by simp [tabB, hk]
theorem atB_tabB {n k : Nat} (h : Nat → Bool) (hk : k < n) : atB (tabB n h) k = h k := by unfold atB; rw [tabB_get h hk]; rfl
theorem tabB_congr {n : Nat} {h g : Nat → Bool} (e : ∀ k, k < n → h k = g k) : tabB n h = tabB n g := List.map_congr_left fun k hk => e k (List.mem_range.1 hk)
theorem tabB_self (f : List Bool) : tabB f.length (atB f) = f := by
  apply List.ext_getElem?
  intro i
  rcases Nat.lt_or_ge i f.length with h | h
  · rw [tabB_get _ h, atB_get h]
  · rw [List.getElem?_eq_none (by simpa using h), List.getElem?_eq_none h]
def updB (h : Nat → Bool) (a : Nat) (b : Bool) : Nat → Bool := fun x => if x = a then b else h x
theorem updB_same (h : Nat → Bool) (a : Nat) (b : Bool) : updB h a b a = b := by simp [updB]
theorem updB_other {h : Nat → Bool} {a x : Nat} {b : Bool} (e : x ≠ a) : updB h a b x = h x := by simp [updB, e]
theorem tabB_set (n : Nat) (h : Nat → Bool) (a : Nat) (b : Bool) : (boolsC (tabB n h)).set a (.bool b) = boolsC (tabB n (updB h a b)) := by
  apply List.ext_getElem?
  intro i
  rw [List.getElem?_set]
  by_cases hi : i < n
  · rw [boolsC_at (tabB_get (updB h a b) hi)]
    by_cases e : a = i
    · subst e; rw [if_pos rfl, updB_same]; simp [hi]
    · rw [if_neg e, boolsC_at (tabB_get h hi), updB_other (fun x => e x.symm)]
  · rw [List.getElem?_eq_none (l := boolsC (tabB n (updB h a b))) (by simpa using hi)]
    by_cases e : a = i
    · subst e; simp [hi]
    · rw [if_neg e, List.getElem?_eq_none (by simpa using hi)]
theorem infoB : (Try.prog.info? 4).map (fun i => (i.zero, i.size, i.bytes)) = some (some (.bool false), 1, 1) := by kernel_rfl
/-- A table of the call's own, in block g. -/
def OwnB (w : World) (B g n : Nat) (h : Nat → Bool) : Prop := w.ownsRow B 4 1 (.slice (some ⟨g, 0, none⟩) n n) n (boolsC (tabB n h))
theorem OwnB.cell {w : World} {B g n : Nat} {h : Nat → Bool} (o : OwnB w B g n h) {a : Nat} (ha : a < n) : w.cell? ⟨g, a, none⟩ = some (.bool (h a)) :=
  (World.ownsRow.cellAt o a (by omega)).trans (boolsC_at (tabB_get h ha))
theorem OwnB.free {w : World} {B g n : Nat} {h : Nat → Bool} (o : OwnB w B g n h) (a : Nat) : w.frozen? ⟨g, a, none⟩ = false := World.ownsRow.frozenAt o a
theorem OwnB.stored {w : World} {B g n : Nat} {h : Nat → Bool} (o : OwnB w B g n h) (a : Nat) (b : Bool) : OwnB (w.setCell ⟨g, a, none⟩ (.bool b)) B g n (updB h a b) := by
  have := (World.ownsRow.stored o a (.bool b)).1
  unfold OwnB
  rw [← tabB_set]
  exact this
theorem OwnB.base {w : World} {B g n : Nat} {h : Nat → Bool} (o : OwnB w B g n h) : B ≤ g := (World.ownsRow.lt o g rfl).1
theorem OwnB.lt {w : World} {B g n : Nat} {h : Nat → Bool} (o : OwnB w B g n h) : g < w.heap.size := (World.ownsRow.lt o g rfl).2
theorem OwnB.congr {w : World} {B g n : Nat} {h h' : Nat → Bool} (o : OwnB w B g n h) (e : ∀ k, k < n → h k = h' k) : OwnB w B g n h' := by unfold OwnB; rw [← tabB_congr e]; exact o
theorem OwnB.row {w : World} {B g n : Nat} {h : Nat → Bool} (o : OwnB w B g n h) : Row w (some ⟨g, 0, none⟩) (boolsC (tabB n h)) := Row.of_own o
theorem OwnB.below {w w' : World} {B g n : Nat} {h : Nat → Bool} (o : OwnB w B g n h) (hb : Below w.heap.size w w') : OwnB w' B g n h := own_below o hb
theorem ownB_made {w : World} {B g n : Nat} (o : w.ownsRow B 4 1 (.slice (some ⟨g, 0, none⟩) n n) n (madeCells #[Value.bool false] n).toList) : OwnB w B g n fun _ => false := by
  unfold OwnB
  have e : (madeCells #[Value.bool false] n).toList = boolsC (tabB n fun _ => false) := by
    rw [toList_madeCells_one]
    apply List.ext_getElem?
    intro i
    by_cases hi : i < n <;> simp [boolsC, tabB, hi]
  rw [← e]
  exact o

/-! ## The code -/
def LargeT (n : Int) : Prop := n < 0 ∨ 4 < n
open Classical in
noncomputable def codeT (n : Int) (len : Nat) : Int := if LargeT n then 1 else if len = one n.toNat then 0 else 3
theorem codeT_large {n : Int} {len : Nat} (h : LargeT n) : codeT n len = 1 := by simp [codeT, h]
theorem codeT_ok {n : Nat} (h : n ≤ 4) : codeT n (one n) = 0 := by
  have : ¬ LargeT n := by unfold LargeT; omega
  simp [codeT, this]
theorem codeT_bad {n len : Nat} (h : n ≤ 4) (h2 : len ≠ one n) : codeT n len = 3 := by
  have : ¬ LargeT n := by unfold LargeT; omega
  simp [codeT, this, h2]
theorem codeT_zero {n : Int} {len : Nat} (h : codeT n len = 0) : ∃ k : Nat, n = k ∧ k ≤ 4 ∧ len = one k := by
  by_cases h1 : LargeT n
  · rw [codeT_large h1] at h; omega
  · obtain ⟨k, rfl⟩ := Int.eq_ofNat_of_zero_le (show 0 ≤ n by unfold LargeT at h1; omega)
    have hk : k ≤ 4 := by unfold LargeT at h1; omega
    by_cases h2 : len = one k
    · exact ⟨k, rfl, hk, h2⟩
    · rw [codeT_bad hk h2] at h; omega
theorem one_le_16 {n : Nat} (h : n ≤ 4) : one n ≤ 16 := Nat.pow_le_pow_right (by decide) h
theorem one_i64 (n : Nat) : (2 : Int) ^ n = (one n : Int) := by unfold one; norm_cast

/-- The dual. -/
def dualF (n : Nat) (F : Nat → Bool) (s : Nat) : Bool := !F (full n - s)
/-- All variables but those of s, of the first v. -/
def compP (s v : Nat) : Nat := full v - s % one v
theorem compP_succ (s v : Nat) : compP s (v + 1) = compP s v + (if s.testBit v = true then 0 else one v) := by
  unfold compP full
  have h1 : s % one (v + 1) = s % one v + one v * (s.testBit v).toNat := by
    unfold one
    rw [Nat.mod_pow_succ, Nat.testBit_eq_decide_div_mod_eq]
    have : s / 2 ^ v % 2 < 2 := Nat.mod_lt _ (by decide)
    by_cases e : s / 2 ^ v % 2 = 1
    · simp [e]
    · have : s / 2 ^ v % 2 = 0 := by omega
      simp [this]
  have h2 := one_succ v
  have h3 := one_pos v
  have h4 : s % one v < one v := Nat.mod_lt _ h3
  cases e : s.testBit v with
  | true => rw [h1, e]; simp; omega
  | false => rw [h1, e]; simp; omega
theorem compP_all {s n : Nat} (h : s < one n) : compP s n = full n - s := by unfold compP; rw [Nat.mod_eq_of_lt h]
theorem compP_le (s v : Nat) : compP s v ≤ full v := Nat.sub_le _ _

/-- Truth values of the call's own, in a list that grows. -/
def OwnX (w : World) (B : Nat) (v : Value) (l : List Bool) : Prop := w.ownsRow B 4 1 v l.length (boolsC l)
theorem OwnX.row {w : World} {B : Nat} {v : Value} {l : List Bool} (h : OwnX w B v l) : ∃ A c, v = .slice A l.length c ∧ Row w A (boolsC l) ∧ l.length ≤ maxLen := by
  rcases h.2 with ⟨hv, hn⟩ | ⟨g, cap, cur, hv, hg, hh, h1, h2, h3, h4⟩
  · have : l = [] := List.eq_nil_of_length_eq_zero hn
    subst this
    exact ⟨none, 0, hv, .inl rfl, by simp [maxLen]⟩
  · subst hv
    exact ⟨some ⟨g, 0, none⟩, cap, rfl, Row.of_own h, by omega⟩
theorem tabB_succ (s : Nat) (F : Nat → Bool) : tabB (s + 1) F = tabB s F ++ [F s] := by simp [tabB, List.range_succ]
theorem atB_cell {w : World} {A : Option Addr} {f : List Bool} {k : Nat} (hr : Row w A (boolsC f)) (hk : k < f.length) : ∃ b off, A = some ⟨b, off, none⟩ ∧ w.cell? ⟨b, off + k, none⟩ = some (.bool (atB f k)) := by
  obtain ⟨b, off, rfl, hc⟩ := hr.at (k := k) (by simpa using hk)
  exact ⟨b, off, rfl, hc k _ (boolsC_at (atB_get hk))⟩

end Go.Proofs.Ytcebbhfpnkhlmaa
