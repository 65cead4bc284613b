/- Plain mathematics of diagrams: their codes, what they tell, and how the small one grows. -/
import Derived.Test.YtnoehmokaeegeaaTB
import Derived.Test.YtnoehmokaeegeaaFlat
namespace Go.Proofs.Ytnoehmokaeegeaa
open Go.RowKit

/-- A node: its variable, and where it goes. -/
abbrev Nd := Int × Int × Int
def ndC (b : Nd) : List Value := [.int .i64 b.1, .int .i64 b.2.1, .int .i64 b.2.2]
def nodesC (l : List Nd) : List Value := l.flatMap ndC
theorem nodesC_append (a b : List Nd) : nodesC (a ++ b) = nodesC a ++ nodesC b := by simp [nodesC]
theorem nodesC_length (l : List Nd) : (nodesC l).length = 3 * l.length := by
  induction l with
  | nil => rfl
  | cons x l ih => simp only [nodesC, List.flatMap_cons, List.length_append, ndC, List.length_cons, List.length_nil] at *; omega
theorem nodesC_oneCell (l : List Nd) : ∀ u ∈ nodesC l, u.oneCell' = true := by
  intro u hu
  simp only [nodesC, List.mem_flatMap, ndC] at hu
  obtain ⟨r, _, hu⟩ := hu
  simp at hu
  rcases hu with rfl | rfl | rfl <;> rfl
theorem nodesC_at {l : List Nd} {k j : Nat} {b : Nd} (h : l[k]? = some b) (hj : j < 3) : (nodesC l)[k * 3 + j]? = (ndC b)[j]? := by
  unfold nodesC
  rw [flat_get ndC 3 (fun _ => rfl) (by decide)]
  have e1 : (k * 3 + j) / 3 = k := by omega
  have e2 : (k * 3 + j) % 3 = j := by omega
  rw [e1, e2, h]
  rfl
/-- The node at a place. -/
def nd (l : List Nd) (k : Int) : Nd := l.getD (k - 2).toNat (0, 0, 0)
theorem nd_at {l : List Nd} {k : Int} (h2 : 2 ≤ k) (hk : k < l.length + 2) : l[(k - 2).toNat]? = some (nd l k) := by
  unfold nd
  rw [List.getD_eq_getElem?_getD, List.getElem?_eq_getElem (by omega)]
  rfl
/-- May the node i, of the variable v, go to c? -/
def kidOk (l : List Nd) (i : Nat) (v c : Int) : Prop := 0 ≤ c ∧ c < i + 2 ∧ (2 ≤ c → v < (nd l c).1)
instance (l : List Nd) (i : Nat) (v c : Int) : Decidable (kidOk l i v c) := by unfold kidOk; infer_instance
/-- The code of the node i. -/
def nodeC (n : Int) (l : List Nd) (i : Nat) (b : Nd) : Int := if b.1 < 0 ∨ n ≤ b.1 then 4 else if kidOk l i b.1 b.2.1 ∧ kidOk l i b.1 b.2.2 then 0 else 3
/-- The code of the first of the first k nodes that has one. -/
def firstC (n : Int) (l : List Nd) : Nat → Int
  | 0 => 0
  | k + 1 => if firstC n l k ≠ 0 then firstC n l k else match l[k]? with | some b => nodeC n l k b | none => 0
theorem firstC_stay {n : Int} {l : List Nd} {k : Nat} (h : firstC n l k ≠ 0) : ∀ m, k ≤ m → firstC n l m = firstC n l k
  | 0, hm => by rw [Nat.le_zero.1 hm]
  | m + 1, hm => by
    rcases Nat.eq_or_lt_of_le hm with e | e
    · rw [e]
    · have ih := firstC_stay h m (by omega)
      rw [firstC, if_pos (by rw [ih]; exact h), ih]
theorem firstC_next {n : Int} {l : List Nd} {k : Nat} {b : Nd} (h : firstC n l k = 0) (hb : l[k]? = some b) : firstC n l (k + 1) = nodeC n l k b := by
  rw [firstC, if_neg (by simpa using h), hb]
def codeB (n : Int) (l : List Nd) (root : Int) : Int := if firstC n l l.length ≠ 0 then firstC n l l.length else if 0 ≤ root ∧ root < l.length + 2 then 0 else 2
def LargeD (n : Int) (k : Nat) : Prop := n < 0 ∨ 4 < n ∨ 20 < k
instance (n : Int) (k : Nat) : Decidable (LargeD n k) := by unfold LargeD; infer_instance
def codeD (n : Int) (l : List Nd) (root : Int) : Int := if LargeD n l.length then 1 else codeB n l root
/-- Are all nodes as they should be? -/
def GoodD (n : Int) (l : List Nd) : Prop := ∀ i b, l[i]? = some b → 0 ≤ b.1 ∧ b.1 < n ∧ kidOk l i b.1 b.2.1 ∧ kidOk l i b.1 b.2.2
theorem nodeC_zero {n : Int} {l : List Nd} {i : Nat} {b : Nd} : nodeC n l i b = 0 ↔ 0 ≤ b.1 ∧ b.1 < n ∧ kidOk l i b.1 b.2.1 ∧ kidOk l i b.1 b.2.2 := by
  unfold nodeC
  split
  · constructor
    · intro h; omega
    · rintro ⟨h1, h2, _⟩; omega
  · split
    · next h1 h2 => exact ⟨fun _ => ⟨by omega, by omega, h2.1, h2.2⟩, fun _ => rfl⟩
    · next h1 h2 => exact ⟨fun h => by omega, fun h => absurd h.2.2 h2⟩
theorem firstC_zero {n : Int} {l : List Nd} : ∀ k, firstC n l k = 0 ↔ ∀ i b, i < k → l[i]? = some b → nodeC n l i b = 0
  | 0 => ⟨fun _ i b hi => by omega, fun _ => rfl⟩
  | k + 1 => by
    constructor
    · intro h i b hi hb
      have hk : firstC n l k = 0 := by
        by_cases h0 : firstC n l k = 0
        · exact h0
        · rw [firstC, if_pos h0] at h; exact absurd h h0
      by_cases e : i = k
      · subst e; rw [firstC_next hk hb] at h; exact h
      · exact (firstC_zero k).1 hk i b (by omega) hb
    · intro h
      have hk := (firstC_zero (n := n) (l := l) k).2 fun i b hi hb => h i b (by omega) hb
      cases hb : l[k]? with
      | none => rw [firstC, if_neg (by simpa using hk), hb]
      | some b => rw [firstC_next hk hb]; exact h k b (by omega) hb
theorem good_iff {n : Int} {l : List Nd} : firstC n l l.length = 0 ↔ GoodD n l := by
  rw [firstC_zero]
  constructor
  · intro h i b hb; exact nodeC_zero.1 (h i b (List.getElem?_eq_some_iff.1 hb).1 hb)
  · intro h i b _ hb; exact nodeC_zero.2 (h i b hb)
theorem codeB_zero {n : Int} {l : List Nd} {root : Int} : codeB n l root = 0 ↔ GoodD n l ∧ 0 ≤ root ∧ root < l.length + 2 := by
  unfold codeB
  rw [← good_iff]
  split
  · next h => exact ⟨fun e => absurd e h, fun e => absurd e.1 h⟩
  · next h =>
    have h' : firstC n l l.length = 0 := by simpa using h
    split
    · next h2 => exact ⟨fun _ => ⟨h', h2⟩, fun _ => rfl⟩
    · next h2 => exact ⟨fun e => by omega, fun e => absurd e.2 h2⟩
theorem GoodD.node {n : Int} {l : List Nd} (h : GoodD n l) {k : Int} (h2 : 2 ≤ k) (hk : k < l.length + 2) :
    0 ≤ (nd l k).1 ∧ (nd l k).1 < n ∧ kidOk l (k - 2).toNat (nd l k).1 (nd l k).2.1 ∧ kidOk l (k - 2).toNat (nd l k).1 (nd l k).2.2 := h _ _ (nd_at h2 hk)

/-! ## What a diagram tells -/
def tellT (l : List Nd) : Nat → Int → Nat → Bool
  | 0, k, _ => k == 1
  | fuel + 1, k, s => if k < 2 then k == 1 else if s.testBit (nd l k).1.toNat then tellT l fuel (nd l k).2.2 s else tellT l fuel (nd l k).2.1 s
def tell (l : List Nd) (k : Int) (s : Nat) : Bool := tellT l k.toNat k s
theorem tell_leaf {l : List Nd} {k : Int} {s : Nat} (h : k < 2) : tell l k s = (k == 1) := by
  unfold tell
  cases k.toNat with
  | zero => rfl
  | succ m => rw [tellT, if_pos h]
theorem tell_fuel {n : Int} {l : List Nd} (hg : GoodD n l) (s : Nat) : ∀ (fuel : Nat) (k : Int), k.toNat ≤ fuel → k < l.length + 2 → tellT l fuel k s = tell l k s
  | 0, k, hf, hk => (tell_leaf (show k < 2 by omega)).symm
  | fuel + 1, k, hf, hk => by
    by_cases h2 : k < 2
    · rw [tellT, if_pos h2, tell_leaf h2]
    · obtain ⟨_, _, k1, k2⟩ := hg.node (by omega) hk
      obtain ⟨a1, a2, _⟩ := k1
      obtain ⟨b1, b2, _⟩ := k2
      unfold tell
      obtain ⟨m, hm⟩ : ∃ m, k.toNat = m + 1 := ⟨k.toNat - 1, by omega⟩
      rw [hm, tellT, tellT, if_neg h2, if_neg h2]
      rw [tell_fuel hg s fuel _ (by omega) (by omega), tell_fuel hg s fuel _ (by omega) (by omega), tell_fuel hg s m _ (by omega) (by omega), tell_fuel hg s m _ (by omega) (by omega)]
theorem tell_step {n : Int} {l : List Nd} (hg : GoodD n l) {k : Int} (h2 : 2 ≤ k) (hk : k < l.length + 2) (s : Nat) :
    tell l k s = if s.testBit (nd l k).1.toNat then tell l (nd l k).2.2 s else tell l (nd l k).2.1 s := by
  obtain ⟨_, _, k1, k2⟩ := hg.node h2 hk
  obtain ⟨a1, a2, _⟩ := k1
  obtain ⟨b1, b2, _⟩ := k2
  obtain ⟨m, hm⟩ : ∃ m, k.toNat = m + 1 := ⟨k.toNat - 1, by omega⟩
  rw [show tell l k s = tellT l k.toNat k s from rfl, hm, tellT, if_neg (by omega), tell_fuel hg s m _ (by omega) (by omega), tell_fuel hg s m _ (by omega) (by omega)]

/-! ## How the small one grows -/
/-- A node, put behind or found. -/
def addN (l : List Nd) (b : Nd) : List Nd × Int := if b ∈ l then (l, (l.idxOf b : Int) + 2) else (l ++ [b], (l.length : Int) + 2)
def growT (n : Nat) (F : Nat → Bool) : Nat → Nat → List Nd → List Nd × Int
  | 0, fixed, l => (l, if F fixed then 1 else 0)
  | d + 1, fixed, l =>
    let r1 := growT n F d fixed l
    let r2 := growT n F d (fixed ||| one (n - (d + 1))) r1.1
    if r1.2 = r2.2 then (r2.1, r1.2) else addN r2.1 (((n - (d + 1) : Nat) : Int), r1.2, r2.2)
theorem addN_pre (l : List Nd) (b : Nd) : l <+: (addN l b).1 := by
  unfold addN
  split
  · exact List.prefix_refl _
  · exact List.prefix_append _ _
theorem addN_len (l : List Nd) (b : Nd) : (addN l b).1.length ≤ l.length + 1 := by
  unfold addN
  split <;> simp
theorem growT_pre (n : Nat) (F : Nat → Bool) : ∀ (d fixed : Nat) (l : List Nd), l <+: (growT n F d fixed l).1
  | 0, _, l => List.prefix_refl _
  | d + 1, fixed, l => by
    have h1 := growT_pre n F d fixed l
    have h2 := growT_pre n F d (fixed ||| one (n - (d + 1))) (growT n F d fixed l).1
    rw [growT]
    split
    · exact h1.trans h2
    · exact (h1.trans h2).trans (addN_pre _ _)
theorem growT_len (n : Nat) (F : Nat → Bool) : ∀ (d fixed : Nat) (l : List Nd), (growT n F d fixed l).1.length + 1 ≤ l.length + one d
  | 0, _, l => by simp [growT, one]
  | d + 1, fixed, l => by
    have h1 := growT_len n F d fixed l
    have h2 := growT_len n F d (fixed ||| one (n - (d + 1))) (growT n F d fixed l).1
    have h3 := one_succ d
    have h4 := one_pos d
    rw [growT]
    split
    · simp only; omega
    · have := addN_len (growT n F d (fixed ||| one (n - (d + 1))) (growT n F d fixed l).1).1 (((n - (d + 1) : Nat) : Int), (growT n F d fixed l).2, (growT n F d (fixed ||| one (n - (d + 1))) (growT n F d fixed l).1).2)
      omega
theorem growT_congr {n : Nat} {F G : Nat → Bool} (h : ∀ i, i < one n → F i = G i) : ∀ (d fixed : Nat) (l : List Nd), d ≤ n → fixed < one n → growT n F d fixed l = growT n G d fixed l
  | 0, fixed, l, _, hf => by rw [growT, growT, h fixed hf]
  | d + 1, fixed, l, hd, hf => by
    have e1 := growT_congr h d fixed l (by omega) hf
    have hf2 : fixed ||| one (n - (d + 1)) < one n := or_lt_one hf (one_lt_one (by omega))
    have e2 := growT_congr h d (fixed ||| one (n - (d + 1))) (growT n G d fixed l).1 (by omega) hf2
    rw [growT, growT, e1, e2]
/-- A diagram tells the same where more nodes stand behind. -/
theorem nd_pre {l m : List Nd} (h : l <+: m) {k : Int} (h2 : 2 ≤ k) (hk : k < l.length + 2) : nd m k = nd l k := by
  obtain ⟨t, rfl⟩ := h
  unfold nd
  rw [List.getD_eq_getElem?_getD, List.getD_eq_getElem?_getD, List.getElem?_append_left (by omega)]
theorem tell_pre {n : Int} {l m : List Nd} (h : l <+: m) (hg : GoodD n l) (hm : GoodD n m) (s : Nat) : ∀ (q : Nat) (k : Int), k.toNat ≤ q → k < l.length + 2 → tell m k s = tell l k s
  | 0, k, hq, hk => by rw [tell_leaf (by omega), tell_leaf (by omega)]
  | q + 1, k, hq, hk => by
    by_cases h2 : k < 2
    · rw [tell_leaf h2, tell_leaf h2]
    · have hl := h.length_le
      obtain ⟨_, _, ⟨a1, a2, _⟩, ⟨b1, b2, _⟩⟩ := hg.node (by omega) hk
      rw [tell_step hm (by omega) (by omega), tell_step hg (by omega) hk, nd_pre h (by omega) hk, tell_pre h hg hm s q _ (by omega) (by omega), tell_pre h hg hm s q _ (by omega) (by omega)]
theorem kid_pre {l m : List Nd} (h : l <+: m) {i : Nat} {v c : Int} (hi : i ≤ l.length) (hk : kidOk l i v c) : kidOk m i v c := by
  obtain ⟨h1, h2, h3⟩ := hk
  exact ⟨h1, h2, fun hc => by rw [nd_pre h hc (by omega)]; exact h3 hc⟩
/-- The variable from which a place reads on. -/
def fromV (l : List Nd) (v : Nat) (k : Int) : Prop := 0 ≤ k ∧ k < l.length + 2 ∧ (2 ≤ k → (v : Int) ≤ (nd l k).1)
theorem fromV_pre {l m : List Nd} (h : l <+: m) {v : Nat} {k : Int} (hk : fromV l v k) : fromV m v k := by
  obtain ⟨h1, h2, h3⟩ := hk
  have := h.length_le
  exact ⟨h1, by omega, fun hc => by rw [nd_pre h hc h2]; exact h3 hc⟩
theorem good_add {n : Nat} {l : List Nd} {v : Nat} {lo hi : Int} (hg : GoodD n l) (hv : v < n) (h1 : fromV l (v + 1) lo) (h2 : fromV l (v + 1) hi) : GoodD n (l ++ [((v : Int), lo, hi)]) := by
  intro i b hb
  have hp : l <+: l ++ [((v : Int), lo, hi)] := List.prefix_append _ _
  rcases Nat.lt_or_ge i l.length with h | h
  · rw [List.getElem?_append_left h] at hb
    obtain ⟨a1, a2, a3, a4⟩ := hg i b hb
    exact ⟨a1, a2, kid_pre hp (by omega) a3, kid_pre hp (by omega) a4⟩
  · have hi' : i = l.length := by
      have := (List.getElem?_eq_some_iff.1 hb).1
      simp at this; omega
    subst hi'
    simp at hb
    subst hb
    refine ⟨by simp, by simp; omega, ?_, ?_⟩
    · obtain ⟨c1, c2, c3⟩ := h1
      exact ⟨c1, by simpa using c2, fun hc => by rw [nd_pre hp hc c2]; have := c3 hc; simp only; omega⟩
    · obtain ⟨c1, c2, c3⟩ := h2
      exact ⟨c1, by simpa using c2, fun hc => by rw [nd_pre hp hc c2]; have := c3 hc; simp only; omega⟩
theorem good_addN {n : Nat} {l : List Nd} {v : Nat} {lo hi : Int} (hg : GoodD n l) (hv : v < n) (h1 : fromV l (v + 1) lo) (h2 : fromV l (v + 1) hi) : GoodD n (addN l ((v : Int), lo, hi)).1 := by
  unfold addN
  split
  · exact hg
  · exact good_add hg hv h1 h2
/-- The node that was put behind, or found. -/
theorem addN_nd (l : List Nd) (b : Nd) : 2 ≤ (addN l b).2 ∧ (addN l b).2 < (addN l b).1.length + 2 ∧ nd (addN l b).1 (addN l b).2 = b := by
  unfold addN nd
  split
  · next h =>
    have hi := List.idxOf_lt_length_iff.2 h
    refine ⟨by simp only; omega, by simp only; omega, ?_⟩
    simp only
    rw [show ((l.idxOf b : Int) + 2 - 2).toNat = l.idxOf b by omega, List.getD_eq_getElem?_getD, List.getElem?_eq_getElem hi]
    simp
  · refine ⟨by simp only; omega, by simp; omega, ?_⟩
    simp only
    rw [show ((l.length : Int) + 2 - 2).toNat = l.length by omega]
    simp
/-- s, but for the first v variables, which are as fixed has them. -/
def mix (v fixed s : Nat) : Nat := fixed ||| (s / one v * one v)
theorem mix_bit {v fixed s i : Nat} : (mix v fixed s).testBit i = (fixed.testBit i || (decide (v ≤ i) && s.testBit i)) := by
  unfold mix one
  rw [Nat.testBit_or, Nat.testBit_mul_two_pow, Nat.testBit_div_two_pow]
  by_cases h : v ≤ i
  · simp [h, Nat.sub_add_cancel h]
  · simp [h]
theorem mix_all {v fixed s : Nat} (hs : s < one v) : mix v fixed s = fixed := by
  unfold mix
  rw [Nat.div_eq_of_lt hs]
  simp
theorem mix_zero (s : Nat) : mix 0 0 s = s := by simp [mix, one]
theorem mix_step {v fixed s : Nat} : mix v fixed s = if s.testBit v then mix (v + 1) (fixed ||| one v) s else mix (v + 1) fixed s := by
  apply Nat.eq_of_testBit_eq
  intro i
  cases hb : s.testBit v with
  | true =>
    simp only [if_true]
    rw [mix_bit, mix_bit, Nat.testBit_or, one_testBit]
    by_cases h : v = i
    · subst h; simp [hb]
    · have : (v ≤ i) = (v + 1 ≤ i) := by apply propext; omega
      simp [h, this]
  | false =>
    simp only [Bool.false_eq_true, if_false]
    rw [mix_bit, mix_bit]
    by_cases h : v = i
    · subst h; simp [hb]
    · have : (v ≤ i) = (v + 1 ≤ i) := by apply propext; omega
      simp [this]
/-- The small diagram is one, and tells the table. -/
theorem growT_ok (n : Nat) (F : Nat → Bool) : ∀ (d fixed : Nat) (l : List Nd), d ≤ n → GoodD n l →
    GoodD n (growT n F d fixed l).1 ∧ fromV (growT n F d fixed l).1 (n - d) (growT n F d fixed l).2 ∧ ∀ s, s < one n → tell (growT n F d fixed l).1 (growT n F d fixed l).2 s = F (mix (n - d) fixed s)
  | 0, fixed, l, _, hg => by
    refine ⟨hg, ?_, fun s hs => ?_⟩
    · simp only [growT]
      split <;> exact ⟨by omega, by omega, fun h => by omega⟩
    · simp only [growT]
      rw [Nat.sub_zero, mix_all hs, tell_leaf (by split <;> omega)]
      cases F fixed <;> rfl
  | d + 1, fixed, l, hd, hg => by
    obtain ⟨g1, f1, t1⟩ := growT_ok n F d fixed l (by omega) hg
    obtain ⟨g2, f2, t2⟩ := growT_ok n F d (fixed ||| one (n - (d + 1))) (growT n F d fixed l).1 (by omega) g1
    have hp := growT_pre n F d (fixed ||| one (n - (d + 1))) (growT n F d fixed l).1
    rw [growT]
    generalize growT n F d fixed l = r1 at *
    generalize growT n F d (fixed ||| one (n - (d + 1))) r1.1 = r2 at *
    have f1' := fromV_pre hp f1
    have hv : n - d = n - (d + 1) + 1 := by omega
    have t1' : ∀ s, s < one n → tell r2.1 r1.2 s = F (mix (n - d) fixed s) := fun s hs => by
      rw [tell_pre hp g1 g2 s _ _ (Nat.le_refl _) f1.2.1]; exact t1 s hs
    split
    · next e =>
      refine ⟨g2, ⟨f1'.1, f1'.2.1, fun h => by have := f1'.2.2 h; simp only at this ⊢; omega⟩, fun s hs => ?_⟩
      simp only
      rw [mix_step, ← hv, t1' s hs]
      have e2 := t2 s hs
      rw [← e, t1' s hs] at e2
      split
      · exact e2
      · rfl
    · next e =>
      have hvn : n - (d + 1) < n := by omega
      rw [hv] at f1' f2
      have hga := good_addN g2 hvn f1' f2
      obtain ⟨p1, p2, p3⟩ := addN_nd r2.1 (((n - (d + 1) : Nat) : Int), r1.2, r2.2)
      have hpa := addN_pre r2.1 (((n - (d + 1) : Nat) : Int), r1.2, r2.2)
      refine ⟨hga, ⟨by omega, p2, fun _ => by rw [p3]; exact Int.le_refl _⟩, fun s hs => ?_⟩
      rw [tell_step hga p1 p2, p3]
      simp only [Int.toNat_natCast]
      rw [tell_pre hpa g2 hga s _ _ (Nat.le_refl _) f2.2.1, tell_pre hpa g2 hga s _ _ (Nat.le_refl _) f1'.2.1, t1' s hs, t2 s hs, mix_step (v := n - (d + 1)), ← hv]
      split <;> rfl
theorem good_nil (n : Int) : GoodD n [] := fun i b h => by simp at h
/-- The small diagram of a table. -/
def small (n : Nat) (F : Nat → Bool) : List Nd × Int := growT n F n 0 []
theorem small_tell {n : Nat} {F : Nat → Bool} {s : Nat} (hs : s < one n) : tell (small n F).1 (small n F).2 s = F s := by
  have := (growT_ok n F n 0 [] (Nat.le_refl _) (good_nil _)).2.2 s hs
  rw [Nat.sub_self, mix_zero] at this
  exact this
theorem small_code {n : Nat} (hn : n ≤ 4) (F : Nat → Bool) : codeB n (small n F).1 (small n F).2 = 0 ∧ (small n F).1.length ≤ 15 := by
  obtain ⟨h1, h2, _⟩ := growT_ok n F n 0 [] (Nat.le_refl _) (good_nil _)
  have h3 := growT_len n F n 0 []
  have h4 := one_le_16 hn
  refine ⟨codeB_zero.2 ⟨h1, h2.1, h2.2.1⟩, ?_⟩
  unfold small
  simp at h3
  omega
theorem small_congr {n : Nat} {F G : Nat → Bool} (h : ∀ i, i < one n → F i = G i) : small n F = small n G := growT_congr h n 0 [] (Nat.le_refl _) (one_pos n)

end Go.Proofs.Ytnoehmokaeegeaa
