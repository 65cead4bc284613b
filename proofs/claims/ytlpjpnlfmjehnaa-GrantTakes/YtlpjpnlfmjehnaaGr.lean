/- The take-grant model: edges, what one has over another, what a script does. -/
import Derived.Test.YtlpjpnlfmjehnaaMk
import Derived.Test.YtlpjpnlfmjehnaaFlat
import Derived.Test.YtlpjpnlfmjehnaaPop
import Derived.Test.YtlpjpnlfmjehnaaSetW
namespace Go.Proofs.Ytlpjpnlfmjehnaa
open Go.RowKit

/-- An edge: from, to, rights. -/
abbrev Ed := Int × Int × Nat
def edC (e : Ed) : List Value := [.int .i64 e.1, .int .i64 e.2.1, .int .u32 (e.2.2 : Int)]
def edgesC (l : List Ed) : List Value := l.flatMap edC
theorem edgesC_length (l : List Ed) : (edgesC l).length = 3 * l.length := by
  induction l with
  | nil => rfl
  | cons d l ih => simp only [edgesC, List.flatMap_cons, List.length_append, List.length_cons, edC, List.length_nil] at *; omega
theorem edgesC_append (l r : List Ed) : edgesC (l ++ r) = edgesC l ++ edgesC r := by simp [edgesC]
theorem edgesC_at {l : List Ed} {k : Nat} {e : Ed} (h : l[k]? = some e) {j : Nat} (hj : j < 3) : (edgesC l)[k * 3 + j]? = (edC e)[j]? := by
  unfold edgesC
  rw [flat_get edC 3 (fun _ => rfl) (by decide), show (k * 3 + j) / 3 = k by omega, show (k * 3 + j) % 3 = j by omega, h]
  rfl
theorem edgesC_set (l : List Ed) (k : Nat) (f t : Int) (r r' : Nat) (h : l[k]? = some (f, t, r)) : (edgesC l).set (k * 3 + 2) (.int .u32 (r' : Int)) = edgesC (l.set k (f, t, r')) := by
  induction l generalizing k with
  | nil => simp at h
  | cons q l ih =>
    cases k with
    | zero => simp at h; subst h; simp [edgesC, edC]
    | succ k =>
      have := ih k (by simpa using h)
      unfold edgesC at this ⊢
      rw [List.flatMap_cons, List.set_cons_succ, List.flatMap_cons, ← this, show (k + 1) * 3 + 2 = (k * 3 + 2) + 3 by omega]
      rfl
def E32 (l : List Ed) : Prop := ∀ e ∈ l, e.2.2 < 4294967296

/-! ## What one has over another -/
def overL : List Ed → Int → Int → Nat
  | [], _, _ => 0
  | e :: l, a, b => (if e.1 = a ∧ e.2.1 = b then e.2.2 else 0) ||| overL l a b
theorem overL_bit {l : List Ed} {a b : Int} {i : Nat} : (overL l a b).testBit i = true ↔ ∃ e ∈ l, e.1 = a ∧ e.2.1 = b ∧ e.2.2.testBit i = true := by
  induction l with
  | nil => simp [overL]
  | cons e l ih =>
    rw [overL, Nat.testBit_or, Bool.or_eq_true_iff, ih]
    simp only [List.mem_cons, exists_eq_or_imp]
    by_cases h : e.1 = a ∧ e.2.1 = b
    · rw [if_pos h]; simp [h]
    · rw [if_neg h]
      simp only [Nat.zero_testBit, Bool.false_eq_true, false_or]
      exact ⟨fun k => .inr k, fun k => k.resolve_left fun ⟨h1, h2, _⟩ => h ⟨h1, h2⟩⟩
theorem bits_eq {a b : Nat} (h : ∀ i, a.testBit i = true ↔ b.testBit i = true) : a = b := Nat.eq_of_testBit_eq fun i => Bool.eq_iff_iff.2 (h i)
theorem overL_append (l r : List Ed) (a b : Int) : overL (l ++ r) a b = overL l a b ||| overL r a b := by
  apply bits_eq
  intro i
  rw [Nat.testBit_or, Bool.or_eq_true_iff, overL_bit, overL_bit, overL_bit]
  simp only [List.mem_append]
  constructor
  · rintro ⟨e, h | h, k⟩
    · exact .inl ⟨e, h, k⟩
    · exact .inr ⟨e, h, k⟩
  · rintro (⟨e, h, k⟩ | ⟨e, h, k⟩)
    · exact ⟨e, .inl h, k⟩
    · exact ⟨e, .inr h, k⟩
theorem overL_take {l : List Ed} {k : Nat} {e : Ed} (h : l[k]? = some e) (a b : Int) : overL (l.take (k + 1)) a b = if e.1 = a ∧ e.2.1 = b then overL (l.take k) a b ||| e.2.2 else overL (l.take k) a b := by
  rw [List.take_add_one, h, overL_append]
  simp only [Option.toList, overL]
  split <;> simp
theorem overL_u32 {l : List Ed} (h : E32 l) (a b : Int) : overL l a b < 4294967296 := by
  induction l with
  | nil => simp [overL]
  | cons e l ih =>
    rw [overL]
    have h1 := ih fun x hx => h x (List.mem_cons_of_mem _ hx)
    have h2 := h e (by simp)
    refine or_lt_iff (n := 32) |>.2 ⟨?_, h1⟩
    split
    · exact h2
    · exact Nat.pow_pos (by decide)
theorem E32.app {l : List Ed} (h : E32 l) {e : Ed} (k : e.2.2 < 4294967296) : E32 (l ++ [e]) := fun x hx => by
  rw [List.mem_append, List.mem_singleton] at hx
  rcases hx with hx | rfl
  · exact h x hx
  · exact k
/-- Rights are dropped. -/
def dropL (l : List Ed) (a b : Int) (r : Nat) : List Ed := l.map fun e => if e.1 = a ∧ e.2.1 = b then (e.1, e.2.1, wo e.2.2 r) else e
theorem dropL_over {l : List Ed} (h : E32 l) {r : Nat} (hr : r < 4294967296) (a b x y : Int) : overL (dropL l a b r) x y = if x = a ∧ y = b then wo (overL l a b) r else overL l x y := by
  apply bits_eq
  intro i
  have key : (overL (dropL l a b r) x y).testBit i = true ↔ ∃ e ∈ l, e.1 = x ∧ e.2.1 = y ∧ (if e.1 = a ∧ e.2.1 = b then wo e.2.2 r else e.2.2).testBit i = true := by
    rw [overL_bit]
    unfold dropL
    simp only [List.mem_map]
    constructor
    · rintro ⟨_, ⟨e, he, rfl⟩, h1, h2, h3⟩
      by_cases hc : e.1 = a ∧ e.2.1 = b
      · rw [if_pos hc] at h1 h2 h3; exact ⟨e, he, h1, h2, by rw [if_pos hc]; exact h3⟩
      · rw [if_neg hc] at h1 h2 h3; exact ⟨e, he, h1, h2, by rw [if_neg hc]; exact h3⟩
    · rintro ⟨e, he, h1, h2, h3⟩
      by_cases hc : e.1 = a ∧ e.2.1 = b
      · exact ⟨_, ⟨e, he, rfl⟩, by rw [if_pos hc]; exact h1, by rw [if_pos hc]; exact h2, by rw [if_pos hc] at h3 ⊢; exact h3⟩
      · exact ⟨_, ⟨e, he, rfl⟩, by rw [if_neg hc]; exact h1, by rw [if_neg hc]; exact h2, by rw [if_neg hc] at h3 ⊢; exact h3⟩
  rw [key]
  by_cases hxy : x = a ∧ y = b
  · obtain ⟨rfl, rfl⟩ := hxy
    rw [if_pos ⟨rfl, rfl⟩, show wo (overL l x y) r = overL l x y &&& (4294967295 - r) from rfl, and_not_bit hr (overL_u32 h x y), Bool.and_eq_true_iff, overL_bit]
    constructor
    · rintro ⟨e, he, h1, h2, h3⟩
      rw [if_pos ⟨h1, h2⟩, show wo e.2.2 r = e.2.2 &&& (4294967295 - r) from rfl, and_not_bit hr (h e he), Bool.and_eq_true_iff] at h3
      exact ⟨⟨e, he, h1, h2, h3.1⟩, h3.2⟩
    · rintro ⟨⟨e, he, h1, h2, h3⟩, h4⟩
      refine ⟨e, he, h1, h2, ?_⟩
      rw [if_pos ⟨h1, h2⟩, show wo e.2.2 r = e.2.2 &&& (4294967295 - r) from rfl, and_not_bit hr (h e he), Bool.and_eq_true_iff]
      exact ⟨h3, h4⟩
  · rw [if_neg hxy, overL_bit]
    constructor
    · rintro ⟨e, he, h1, h2, h3⟩
      rw [if_neg (fun k => hxy ⟨h1.symm.trans k.1, h2.symm.trans k.2⟩)] at h3
      exact ⟨e, he, h1, h2, h3⟩
    · rintro ⟨e, he, h1, h2, h3⟩
      exact ⟨e, he, h1, h2, by rw [if_neg (fun k => hxy ⟨h1.symm.trans k.1, h2.symm.trans k.2⟩)]; exact h3⟩
theorem dropL_E32 {l : List Ed} (h : E32 l) (a b : Int) (r : Nat) : E32 (dropL l a b r) := by
  intro e he
  unfold dropL at he
  rw [List.mem_map] at he
  obtain ⟨x, hx, rfl⟩ := he
  split
  · exact Nat.lt_of_le_of_lt (wo_le _ _) (h x hx)
  · exact h x hx

/-! ## The edges that are given -/
def EdgeOk (n : Int) (e : Ed) : Prop := 0 ≤ e.1 ∧ e.1 < n ∧ 0 ≤ e.2.1 ∧ e.2.1 < n ∧ e.1 ≠ e.2.1
instance (n : Int) (e : Ed) : Decidable (EdgeOk n e) := by unfold EdgeOk; infer_instance
def codeE (n : Int) (es : List Ed) : Int := if n < 1 ∨ 6 < n ∨ 20 < es.length then 1 else if ∀ e ∈ es, EdgeOk n e then 0 else 2
theorem codeE_large {n : Int} {es : List Ed} (h : n < 1 ∨ 6 < n ∨ 20 < es.length) : codeE n es = 1 := if_pos h
theorem codeE_ok {n : Int} {es : List Ed} (h : ¬ (n < 1 ∨ 6 < n ∨ 20 < es.length)) (k : ∀ e ∈ es, EdgeOk n e) : codeE n es = 0 := by rw [codeE, if_neg h, if_pos k]
theorem codeE_bad {n : Int} {es : List Ed} (h : ¬ (n < 1 ∨ 6 < n ∨ 20 < es.length)) (k : ¬ ∀ e ∈ es, EdgeOk n e) : codeE n es = 2 := by rw [codeE, if_neg h, if_neg k]
theorem codeE_zero {n : Int} {es : List Ed} (h : codeE n es = 0) : 1 ≤ n ∧ n ≤ 6 ∧ es.length ≤ 20 ∧ ∀ e ∈ es, EdgeOk n e := by
  unfold codeE at h
  split at h
  · cases h
  · rename_i h1
    split at h
    · rename_i h2; exact ⟨by omega, by omega, by omega, h2⟩
    · cases h
/-- The code of Play. -/
def codeGP (n : Int) (es : List Ed) (nd : Nat) : Int := if 30 < nd then 1 else codeE n es
/-- The code of Can, and of Way as far as it goes. -/
def codeGC (n : Int) (es : List Ed) (x y : Int) (r : Nat) : Int :=
  if codeE n es ≠ 0 then codeE n es else if x < 0 ∨ n ≤ x ∨ y < 0 ∨ n ≤ y ∨ x = y then 2 else if pop r ≠ 1 then 4 else 0
theorem codeGC_zero {n : Int} {es : List Ed} {x y : Int} {r : Nat} (h : codeGC n es x y r = 0) : codeE n es = 0 ∧ 0 ≤ x ∧ x < n ∧ 0 ≤ y ∧ y < n ∧ x ≠ y ∧ pop r = 1 := by
  unfold codeGC at h
  split at h
  · rename_i h1; exact absurd h h1
  · rename_i h1
    split at h
    · cases h
    · split at h
      · cases h
      · rename_i h2 h3
        exact ⟨Decidable.of_not_not h1, by omega, by omega, by omega, by omega, by omega, Decidable.of_not_not h3⟩

/-! ## A script -/
structure Gs where
  n : Nat
  ov : Nat → Nat → Nat
def updO (f : Nat → Nat → Nat) (a b v : Nat) : Nat → Nat → Nat := fun x y => if x = a ∧ y = b then v else f x y
def BadG (n : Nat) (d : Dd) : Prop :=
  d.who < 0 ∨ (n : Int) ≤ d.who ∨ (d.kind ≠ 3 ∧ (d.tgt < 0 ∨ (n : Int) ≤ d.tgt ∨ d.tgt = d.who)) ∨ ((d.kind = 1 ∨ d.kind = 2) ∧ (d.lev < 0 ∨ (n : Int) ≤ d.lev)) ∨ (d.kind = 1 ∧ d.lev = d.who) ∨ (d.kind = 2 ∧ d.lev = d.tgt)
instance (n : Nat) (d : Dd) : Decidable (BadG n d) := by unfold BadG; infer_instance
/-- b comes to have the rights r of a over o, if the right k of whom lets it. -/
def giveG (s : Gs) (o p : Nat) (may : Bool) (from_ r : Nat) : Int × Gs :=
  if (may && sub r (s.ov from_ o)) = true then (0, { s with ov := updO s.ov p o (s.ov p o ||| r) }) else (7, s)
def stepG (s : Gs) (d : Dd) : Int × Gs :=
  if d.kind < 1 ∨ 4 < d.kind then (6, s)
  else if BadG s.n d then (2, s)
  else if d.kind = 1 then giveG s d.lev.toNat d.who.toNat ((s.ov d.who.toNat d.tgt.toNat).testBit 0) d.tgt.toNat d.parts
  else if d.kind = 2 then giveG s d.lev.toNat d.tgt.toNat ((s.ov d.who.toNat d.tgt.toNat).testBit 1) d.who.toNat d.parts
  else if d.kind = 3 then (if 14 ≤ s.n then (1, s) else (0, ⟨s.n + 1, updO s.ov d.who.toNat s.n (s.ov d.who.toNat s.n ||| 3)⟩))
  else (0, { s with ov := updO s.ov d.who.toNat d.tgt.toNat (wo (s.ov d.who.toNat d.tgt.toNat) d.parts) })
def startG (n : Nat) (es : List Ed) : Gs := ⟨n, fun a b => overL es a b⟩
def runG (n : Nat) (es : List Ed) (l : List Dd) : List Int × Gs :=
  l.foldl (fun a d => (a.1 ++ [(stepG a.2 d).1], (stepG a.2 d).2)) ([], startG n es)
theorem runG_succ {n : Nat} {es : List Ed} {l : List Dd} {k : Nat} {d : Dd} (h : l[k]? = some d) :
    runG n es (l.take (k + 1)) = ((runG n es (l.take k)).1 ++ [(stepG (runG n es (l.take k)).2 d).1], (stepG (runG n es (l.take k)).2 d).2) := by
  unfold runG
  rw [List.take_add_one, h, List.foldl_append]
  rfl
theorem runG_app (n : Nat) (es : List Ed) (l : List Dd) (d : Dd) : runG n es (l ++ [d]) = ((runG n es l).1 ++ [(stepG (runG n es l).2 d).1], (stepG (runG n es l).2 d).2) := by
  unfold runG
  rw [List.foldl_append]
  rfl
theorem snoc_ind {α : Type} {P : List α → Prop} (h0 : P []) (hs : ∀ l d, P l → P (l ++ [d])) (l : List α) : P l := by
  have key : ∀ k, P (l.take k) := by
    intro k
    induction k with
    | zero => simpa using h0
    | succ k ih =>
      rw [List.take_add_one]
      cases h : l[k]? with
      | none => simpa using ih
      | some d => exact hs _ d ih
  have := key l.length
  rwa [List.take_length] at this
theorem exists_bit {a : Nat} (h : a ≠ 0) : ∃ i, a.testBit i = true := by
  refine Classical.byContradiction fun k => h (Nat.eq_of_testBit_eq fun i => ?_)
  rw [Nat.zero_testBit]
  cases e : a.testBit i with
  | false => rfl
  | true => exact absurd ⟨i, e⟩ k
theorem runG_length (n : Nat) (es : List Ed) (l : List Dd) : (runG n es l).1.length = l.length := by
  refine snoc_ind (P := fun l => (runG n es l).1.length = l.length) rfl (fun l d ih => ?_) l
  rw [runG_app]; simp [ih]
theorem runG_inv {P : Gs → Prop} {n : Nat} {es : List Ed} (h0 : P (startG n es)) (l : List Dd) (hs : ∀ s d, d ∈ l → P s → P (stepG s d).2) : P (runG n es l).2 := by
  refine snoc_ind (P := fun l => (∀ s d, d ∈ l → P s → P (stepG s d).2) → P (runG n es l).2) (fun _ => h0) (fun l d ih hs => ?_) l hs
  rw [runG_app]
  exact hs _ _ (by simp) (ih fun s d hd => hs s d (List.mem_append_left _ hd))
/-- The edges in the end, sorted. -/
def edgesG (s : Gs) : List Ed := (List.range s.n).flatMap fun a => (List.range s.n).flatMap fun b => if s.ov a b = 0 then [] else [((a : Int), (b : Int), s.ov a b)]

/-- All is as it may be. -/
def FineG (s : Gs) : Prop := 1 ≤ s.n ∧ s.n ≤ 14 ∧ (∀ a b, s.ov a b < 4294967296) ∧ ∀ a b, s.ov a b ≠ 0 → a < s.n ∧ b < s.n ∧ a ≠ b
theorem updO_at (f : Nat → Nat → Nat) (a b v x y : Nat) : updO f a b v x y = if x = a ∧ y = b then v else f x y := rfl
theorem fineG_start {n : Nat} {es : List Ed} (h : codeE n es = 0) (h32 : E32 es) : FineG (startG n es) := by
  obtain ⟨h1, h2, _, h4⟩ := codeE_zero h
  refine ⟨by show 1 ≤ n; omega, by show n ≤ 14; omega, fun a b => overL_u32 h32 _ _, fun a b hab => ?_⟩
  obtain ⟨i, hi⟩ := exists_bit (show overL es a b ≠ 0 from hab)
  obtain ⟨e, he, k1, k2, _⟩ := overL_bit.1 hi
  obtain ⟨o1, o2, o3, o4, o5⟩ := h4 e he
  show a < n ∧ b < n ∧ a ≠ b
  refine ⟨by omega, by omega, by omega⟩
theorem fineG_upd {s : Gs} {n' a b v : Nat} (h : FineG s) (hn : s.n ≤ n') (hn' : n' ≤ 14) (hv : v < 4294967296) (ha : a < n') (hb : b < n') (hab : a ≠ b) : FineG ⟨n', updO s.ov a b v⟩ := by
  obtain ⟨h1, h2, h3, h4⟩ := h
  refine ⟨by show 1 ≤ n'; omega, hn', fun x y => ?_, fun x y hxy => ?_⟩
  · simp only [updO_at]; split
    · exact hv
    · exact h3 x y
  · simp only [updO_at] at hxy
    split at hxy
    · rename_i h; obtain ⟨rfl, rfl⟩ := h; exact ⟨ha, hb, hab⟩
    · obtain ⟨k1, k2, k3⟩ := h4 x y hxy; exact ⟨by show x < n'; omega, by show y < n'; omega, k3⟩
theorem or_u32 {a b : Nat} (ha : a < 4294967296) (hb : b < 4294967296) : a ||| b < 4294967296 := or_lt_iff (n := 32) |>.2 ⟨ha, hb⟩
theorem fineG_step {s : Gs} {d : Dd} (h : FineG s) (hp : d.parts < 4294967296) : FineG (stepG s d).2 := by
  have h3 := h.2.2.1
  unfold stepG
  split
  · exact h
  · rename_i h1
    split
    · exact h
    · rename_i h2
      unfold BadG at h2
      split
      · unfold giveG
        split
        · exact fineG_upd h (Nat.le_refl _) h.2.1 (or_u32 (h3 _ _) hp) (by omega) (by omega) (by omega)
        · exact h
      · split
        · unfold giveG
          split
          · exact fineG_upd h (Nat.le_refl _) h.2.1 (or_u32 (h3 _ _) hp) (by omega) (by omega) (by omega)
          · exact h
        · split
          · split
            · exact h
            · exact fineG_upd h (Nat.le_succ _) (by omega) (or_u32 (h3 _ _) (by decide)) (by omega) (by omega) (by omega)
          · exact fineG_upd h (Nat.le_refl _) h.2.1 (Nat.lt_of_le_of_lt (wo_le _ _) (h3 _ _)) (by omega) (by omega) (by omega)

end Go.Proofs.Ytlpjpnlfmjehnaa
