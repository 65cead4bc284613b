/- Plain mathematics of matchings: what a search for a next one does, and that in the end no more can be matched (Koenig; Dilworth). -/
import Derived.Test.YtkmloanalhjmjaaMirsky
namespace Go.Proofs.Ytkmloanalhjmjaa
open Go.RowKit

/-- Who stands before whom; nobody before the first of a chain. -/
abbrev Bef := Nat → Option Nat
def setB (m : Bef) (b a : Nat) : Bef := fun x => if x = b then some a else m x
theorem setB_same (m : Bef) (b a : Nat) : setB m b a b = some a := by simp [setB]
theorem setB_other {m : Bef} {b a x : Nat} (h : x ≠ b) : setB m b a x = m x := by simp [setB, h]

/-- A matching: along the order, and one to one. -/
structure Mat (n : Nat) (E : Nat → Nat → Bool) (m : Bef) : Prop where
  edge : ∀ b x, b < n → m b = some x → x < n ∧ E x b = true
  inj : ∀ b b' x, b < n → b' < n → m b = some x → m b' = some x → b = b'

/-- Nobody in D has another way out of D. -/
def Dead (n : Nat) (E : Nat → Nat → Bool) (m : Bef) (D : Nat → Bool) : Prop :=
  ∀ b, b < n → D b = true → ∃ x, m b = some x ∧ ∀ b', b' < n → E x b' = true → D b' = true

/-- A search from a has found a next one. -/
structure Found (n : Nat) (E : Nat → Nat → Bool) (a : Nat) (T : Nat → Bool) (m m' : Bef) : Prop where
  keep : ∀ b, b < n → T b = true → m' b = m b
  hit : ∃ b, b < n ∧ T b = false ∧ m' b = some a
  edge : ∀ b x, b < n → m' b = some x → x < n ∧ E x b = true
  inj : ∀ b b' x, b < n → b' < n → b ≠ b' → m' b = some x → m' b' = some x → x = a ∧ (T b = true ∨ T b' = true)
  old : ∀ b x, b < n → m' b = some x → x = a ∨ ∃ b', b' < n ∧ m b' = some x
  one : ∃ b, b < n ∧ m b = none ∧ ∀ b', b' < n → (m' b' = none ↔ m b' = none ∧ b' ≠ b)
  out : ∀ D, Dead n E m D → (∃ b, b < n ∧ E a b = true ∧ D b = false) ∧ ∀ b, b < n → D b = true → m' b = m b

/-- A search from a has found none: all that it tried is shut. -/
structure Lost (n : Nat) (E : Nat → Nat → Bool) (a : Nat) (T T' : Nat → Bool) (m : Bef) (k : Nat) : Prop where
  more : ∀ b, T b = true → T' b = true
  own : ∀ b, b < k → E a b = true → T' b = true
  shut : ∀ b, b < n → T' b = true → T b = false → ∃ x, m b = some x ∧ ∀ b', b' < n → E x b' = true → T' b' = true

def addT (T : Nat → Bool) (b : Nat) : Nat → Bool := fun x => decide (x = b) || T x

/-- A free one is taken at once. -/
theorem Found.take {n : Nat} {E : Nat → Nat → Bool} {a b : Nat} {T : Nat → Bool} {m : Bef} (hm : Mat n E m) (h3 : ∀ b, b < n → m b = some a → T b = true) (ha : a < n) (hb : b < n) (hE : E a b = true) (hT : T b = false) (h0 : m b = none) :
    Found n E a T m (setB m b a) := by
  refine ⟨fun x hx ht => ?_, ⟨b, hb, hT, setB_same m b a⟩, fun x y hx hy => ?_, fun x x' y hx hx' hne h1 h2 => ?_, fun x y hx hy => ?_, ⟨b, hb, h0, fun x hx => ?_⟩, fun D hD => ⟨⟨b, hb, hE, ?_⟩, fun x hx hd => ?_⟩⟩
  · rw [setB_other]; rintro rfl; rw [hT] at ht; cases ht
  · by_cases e : x = b
    · subst e; rw [setB_same] at hy; injection hy with hy; subst hy; exact ⟨ha, hE⟩
    · rw [setB_other e] at hy; exact hm.edge x y hx hy
  · by_cases e : x = b
    · subst e
      rw [setB_same] at h1
      injection h1 with h1
      subst h1
      rw [setB_other (fun e => hne e.symm)] at h2
      exact ⟨rfl, .inr (h3 x' hx' h2)⟩
    · rw [setB_other e] at h1
      by_cases e' : x' = b
      · subst e'
        rw [setB_same] at h2
        injection h2 with h2
        subst h2
        exact ⟨rfl, .inl (h3 x hx h1)⟩
      · rw [setB_other e'] at h2
        exact absurd (hm.inj x x' y hx hx' h1 h2) hne
  · by_cases e : x = b
    · subst e; rw [setB_same] at hy; injection hy with hy; exact .inl hy.symm
    · rw [setB_other e] at hy; exact .inr ⟨x, hx, hy⟩
  · by_cases e : x = b
    · subst e; rw [setB_same]; simp
    · rw [setB_other e]; simp [e]
  · cases h : D b with
    | false => rfl
    | true => obtain ⟨y, hy, _⟩ := hD b hb h; rw [h0] at hy; cases hy
  · rw [setB_other]
    rintro rfl
    obtain ⟨y, hy, _⟩ := hD x hx hd
    rw [h0] at hy
    cases hy

/-- One that is moved on by another search. -/
theorem Found.move {n : Nat} {E : Nat → Nat → Bool} {a b x : Nat} {T : Nat → Bool} {m m1 : Bef} (hm : Mat n E m) (h3 : ∀ b, b < n → m b = some a → T b = true) (ha : a < n) (hb : b < n) (hE : E a b = true) (hT : T b = false) (h0 : m b = some x)
    (h : Found n E x (addT T b) m m1) : Found n E a T m (setB m1 b a) := by
  have hax : a ≠ x := by rintro rfl; have := h3 b hb h0; rw [hT] at this; cases this
  have hTb : ∀ y, T y = true → addT T b y = true := fun y hy => by simp [addT, hy]
  have hTn : ∀ y, T y = true → y ≠ b := fun y hy e => by subst e; rw [hT] at hy; cases hy
  have hkb : m1 b = some x := (h.keep b hb (by simp [addT])).trans h0
  have hold : ∀ y, y < n → y ≠ b → m1 y = some a → T y = true := by
    intro y hy hyb h1
    rcases h.old y a hy h1 with e | ⟨z, hz, h2⟩
    · exact absurd e hax
    · have hzT := h3 z hz h2
      have h4 : m1 z = some a := (h.keep z hz (hTb z hzT)).trans h2
      by_cases e : y = z
      · subst e; exact hzT
      · exact absurd (h.inj y z a hy hz e h1 h4).1 hax
  refine ⟨fun y hy ht => ?_, ⟨b, hb, hT, setB_same m1 b a⟩, fun y z hy hz => ?_, fun y y' z hy hy' hne h1 h2 => ?_, fun y z hy hz => ?_, ?_, fun D hD => ?_⟩
  · rw [setB_other (hTn y ht)]; exact h.keep y hy (hTb y ht)
  · by_cases e : y = b
    · subst e; rw [setB_same] at hz; injection hz with hz; subst hz; exact ⟨ha, hE⟩
    · rw [setB_other e] at hz; exact h.edge y z hy hz
  · by_cases e : y = b
    · subst e
      rw [setB_same] at h1
      injection h1 with h1
      subst h1
      rw [setB_other (fun e => hne e.symm)] at h2
      exact ⟨rfl, .inr (hold y' hy' (fun e => hne e.symm) h2)⟩
    · rw [setB_other e] at h1
      by_cases e' : y' = b
      · subst e'
        rw [setB_same] at h2
        injection h2 with h2
        subst h2
        exact ⟨rfl, .inl (hold y hy e h1)⟩
      · rw [setB_other e'] at h2
        obtain ⟨rfl, h4⟩ := h.inj y y' z hy hy' hne h1 h2
        exfalso
        rcases h4 with h4 | h4
        · have hy2 : m y = some z := (h.keep y hy h4).symm.trans h1
          exact e (hm.inj y b z hy hb hy2 h0)
        · have hy2 : m y' = some z := (h.keep y' hy' h4).symm.trans h2
          exact e' (hm.inj y' b z hy' hb hy2 h0)
  · by_cases e : y = b
    · subst e; rw [setB_same] at hz; injection hz with hz; exact .inl hz.symm
    · rw [setB_other e] at hz
      rcases h.old y z hy hz with rfl | h4
      · exact .inr ⟨b, hb, h0⟩
      · exact .inr h4
  · obtain ⟨c, hc, hcn, hcall⟩ := h.one
    refine ⟨c, hc, hcn, fun y hy => ?_⟩
    by_cases e : y = b
    · subst e; rw [setB_same, h0]; simp
    · rw [setB_other e]; exact hcall y hy
  · obtain ⟨⟨c, hc, hEc, hDc⟩, hk⟩ := h.out D hD
    have hDb : D b = false := by
      cases e : D b with
      | false => rfl
      | true =>
        obtain ⟨y, hy, hall⟩ := hD b hb e
        rw [h0] at hy
        injection hy with hy
        subst hy
        have := hall c hc hEc
        rw [hDc] at this
        cases this
    refine ⟨⟨b, hb, hE, hDb⟩, fun y hy hd => ?_⟩
    rw [setB_other (fun e => by subst e; rw [hDb] at hd; cases hd)]
    exact hk y hy hd

/-- What was found behind more tries was found. -/
theorem Found.weaken {n : Nat} {E : Nat → Nat → Bool} {a : Nat} {T T1 : Nat → Bool} {m m' : Bef} (h : Found n E a T1 m m') (hsub : ∀ b, T b = true → T1 b = true) (hv : ∀ b, b < n → m b = some a → T b = true) : Found n E a T m m' := by
  refine ⟨fun b hb hT => h.keep b hb (hsub b hT), ?_, h.edge, fun b b' x hb hb' hne h1 h2 => ?_, h.old, h.one, h.out⟩
  · obtain ⟨b, hb, hT, h1⟩ := h.hit
    refine ⟨b, hb, ?_, h1⟩
    cases e : T b with
    | false => rfl
    | true => have := hsub b e; rw [hT] at this; cases this
  · obtain ⟨rfl, h3⟩ := h.inj b b' x hb hb' hne h1 h2
    refine ⟨rfl, ?_⟩
    rcases h3 with h3 | h3
    · exact .inl (hv b hb ((h.keep b hb h3).symm.trans h1))
    · exact .inr (hv b' hb' ((h.keep b' hb' h3).symm.trans h2))

theorem Lost.init (n : Nat) (E : Nat → Nat → Bool) (a : Nat) (T : Nat → Bool) (m : Bef) : Lost n E a T T m 0 :=
  ⟨fun _ h => h, fun b hb => by omega, fun b _ h1 h2 => by rw [h1] at h2; cases h2⟩
theorem Lost.skip {n : Nat} {E : Nat → Nat → Bool} {a k : Nat} {T T' : Nat → Bool} {m : Bef} (h : Lost n E a T T' m k) (hk : E a k = false ∨ T' k = true) : Lost n E a T T' m (k + 1) :=
  ⟨h.more, fun b hb hE => by
    by_cases e : b = k
    · subst e
      rcases hk with hk | hk
      · rw [hk] at hE; cases hE
      · exact hk
    · exact h.own b (by omega) hE, h.shut⟩
/-- What was tried in vain is shut, too. -/
theorem Lost.tried {n : Nat} {E : Nat → Nat → Bool} {a k x : Nat} {T T' T2 : Nat → Bool} {m : Bef} (h : Lost n E a T T' m k) (h0 : m k = some x) (h2 : Lost n E x (addT T' k) T2 m n) : Lost n E a T T2 m (k + 1) := by
  have hk : T2 k = true := h2.more k (by simp [addT])
  have hm : ∀ b, T' b = true → T2 b = true := fun b hb => h2.more b (by simp [addT, hb])
  refine ⟨fun b hb => hm b (h.more b hb), fun b hb hE => ?_, fun b hb h3 h4 => ?_⟩
  · by_cases e : b = k
    · subst e; exact hk
    · exact hm b (h.own b (by omega) hE)
  · cases h5 : T' b with
    | true =>
      obtain ⟨y, hy, hall⟩ := h.shut b hb h5 h4
      exact ⟨y, hy, fun b' hb' hE => hm b' (hall b' hb' hE)⟩
    | false =>
      by_cases e : b = k
      · subst e
        exact ⟨x, h0, fun b' hb' hE => h2.own b' hb' hE⟩
      · exact h2.shut b hb h3 (by simp [addT, e, h5])

/-- How many have not been tried. -/
def leftT (n : Nat) (T : Nat → Bool) : Nat := ((List.range n).filter fun b => !T b).length
theorem leftT_add {n : Nat} {T : Nat → Bool} {b : Nat} (hb : b < n) (hT : T b = false) : leftT n (addT T b) < leftT n T := by
  refine filter_lt (fun x _ hx => ?_) ⟨b, by simpa using hb, by simp [hT], by simp [addT]⟩
  simp only [addT, Bool.not_or, Bool.and_eq_true] at hx
  exact hx.2
theorem leftT_more {n : Nat} {T T' : Nat → Bool} (h : ∀ b, T b = true → T' b = true) : leftT n T' ≤ leftT n T := by
  unfold leftT
  induction n with
  | zero => simp
  | succ n ih =>
    rw [List.range_succ, List.filter_append, List.filter_append, List.length_append, List.length_append]
    have : ([n].filter fun b => !T' b).length ≤ ([n].filter fun b => !T b).length := by
      cases e : T n with
      | true => simp [h n e, e]
      | false => cases e2 : T' n <;> simp [e, e2]
    omega

/-! ## The whole run -/
/-- What holds when the first k have had their search: F: those that found none; D: what is shut. -/
structure Run (n : Nat) (E : Nat → Nat → Bool) (m : Bef) (F D : Nat → Bool) (k : Nat) : Prop where
  mat : Mat n E m
  mine : ∀ b x, b < n → m b = some x → x < k ∧ F x = false
  dead : Dead n E m D
  lost : ∀ x, F x = true → x < k ∧ ∀ b, b < n → E x b = true → D b = true
  many : cntN (fun b => (m b).isNone) n + k = n + cntN F n

theorem cntN_congr {p q : Nat → Bool} {n : Nat} (h : ∀ k, k < n → p k = q k) : cntN p n = cntN q n := by
  induction n with
  | zero => rfl
  | succ n ih => rw [cntN, cntN, ih fun k hk => h k (by omega), h n (by omega)]
theorem cntN_flip {p q : Nat → Bool} {n b : Nat} (hb : b < n) (h1 : p b = true) (h2 : q b = false) (h : ∀ k, k < n → k ≠ b → p k = q k) : cntN p n = cntN q n + 1 := by
  induction n with
  | zero => omega
  | succ n ih =>
    rw [cntN, cntN]
    by_cases e : b = n
    · subst e
      rw [cntN_congr fun k hk => h k (by omega) (by omega), h1, h2]
      simp
    · rw [ih (by omega) fun k hk hne => h k (by omega) hne, h n (by omega) (fun e2 => e e2.symm)]
      omega
theorem cntN_zero (n : Nat) : cntN (fun _ => false) n = 0 := by
  induction n with
  | zero => rfl
  | succ n ih => rw [cntN, ih]; rfl
theorem cntN_true (n : Nat) : cntN (fun _ => true) n = n := by
  induction n with
  | zero => rfl
  | succ n ih => rw [cntN, ih]; rfl

theorem Run.init (n : Nat) (E : Nat → Nat → Bool) : Run n E (fun _ => none) (fun _ => false) (fun _ => false) 0 := by
  refine ⟨⟨fun b x _ h => ?_, fun b b' x _ _ h => ?_⟩, fun b x _ h => ?_, fun b _ h => ?_, fun x h => ?_, ?_⟩
  · cases h
  · cases h
  · cases h
  · cases h
  · cases h
  · rw [cntN_zero]
    have : cntN (fun b => ((fun _ => none : Bef) b).isNone) n = n := cntN_true n
    omega

theorem Run.won {n : Nat} {E : Nat → Nat → Bool} {m m' : Bef} {F D : Nat → Bool} {k : Nat} (h : Run n E m F D k) (hk : k < n) (hF : Found n E k (fun _ => false) m m') : Run n E m' F D (k + 1) := by
  obtain ⟨c, hc, hcn, hcall⟩ := hF.one
  have hFk : F k = false := by
    cases e : F k with
    | false => rfl
    | true => have := (h.lost k e).1; omega
  refine ⟨⟨hF.edge, fun b b' x hb hb' h1 h2 => ?_⟩, fun b x hb hx => ?_, fun b hb hd => ?_, fun x hx => ⟨by have := (h.lost x hx).1; omega, (h.lost x hx).2⟩, ?_⟩
  · apply Classical.byContradiction
    intro hne
    have := (hF.inj b b' x hb hb' hne h1 h2).2
    simp at this
  · rcases hF.old b x hb hx with rfl | ⟨b', hb', h2⟩
    · exact ⟨by omega, hFk⟩
    · have := h.mine b' x hb' h2
      exact ⟨by omega, this.2⟩
  · obtain ⟨x, hx, hall⟩ := h.dead b hb hd
    exact ⟨x, ((hF.out D h.dead).2 b hb hd).trans hx, hall⟩
  · have h1 := h.many
    have h2 : cntN (fun b => (m b).isNone) n = cntN (fun b => (m' b).isNone) n + 1 := by
      refine cntN_flip hc (by simp [hcn]) ?_ fun b hb hne => ?_
      · have := hcall c hc
        cases e : m' c with
        | some y => rfl
        | none => exact absurd rfl (this.1 e).2
      · have := hcall b hb
        rw [Bool.eq_iff_iff, Option.isNone_iff_eq_none, Option.isNone_iff_eq_none, this]
        simp [hne]
    omega

theorem Run.failed {n : Nat} {E : Nat → Nat → Bool} {m : Bef} {F D T' : Nat → Bool} {k : Nat} (h : Run n E m F D k) (hk : k < n) (hL : Lost n E k (fun _ => false) T' m n) :
    Run n E m (fun x => decide (x = k) || F x) (fun b => D b || T' b) (k + 1) := by
  have hFk : F k = false := by
    cases e : F k with
    | false => rfl
    | true => have := (h.lost k e).1; omega
  refine ⟨h.mat, fun b x hb hx => ?_, fun b hb hd => ?_, fun x hx => ?_, ?_⟩
  · have := h.mine b x hb hx
    exact ⟨by omega, by simp [this.2]; omega⟩
  · cases e : D b with
    | true =>
      obtain ⟨x, hx, hall⟩ := h.dead b hb e
      exact ⟨x, hx, fun b' hb' hE => by simp [hall b' hb' hE]⟩
    | false =>
      simp only [e, Bool.false_or] at hd
      obtain ⟨x, hx, hall⟩ := hL.shut b hb hd rfl
      exact ⟨x, hx, fun b' hb' hE => by simp [hall b' hb' hE]⟩
  · by_cases e : x = k
    · subst e
      exact ⟨by omega, fun b hb hE => by simp [hL.own b hb hE]⟩
    · simp [e] at hx
      have := h.lost x hx
      exact ⟨by omega, fun b hb hE => by simp [this.2 b hb hE]⟩
  · have h1 := h.many
    have h2 : cntN (fun x => decide (x = k) || F x) n = cntN F n + 1 := cntN_flip hk (by simp) hFk fun x _ hne => by simp [hne]
    omega

end Go.Proofs.Ytkmloanalhjmjaa
