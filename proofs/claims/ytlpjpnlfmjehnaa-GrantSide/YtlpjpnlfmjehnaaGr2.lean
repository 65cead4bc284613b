/- The take-grant model: who is joined with whom; what scripts can bring about. -/
import Derived.Test.YtlpjpnlfmjehnaaGr
namespace Go.Proofs.Ytlpjpnlfmjehnaa
open Go.RowKit

/-! ## Who is joined -/
def AdjE (es : List Ed) (a b : Int) : Prop := ∃ e ∈ es, e.2.2 &&& 3 ≠ 0 ∧ ((e.1 = a ∧ e.2.1 = b) ∨ (e.2.1 = a ∧ e.1 = b))
theorem AdjE.symm {es : List Ed} {a b : Int} (h : AdjE es a b) : AdjE es b a := by
  obtain ⟨e, he, h1, h2 | h2⟩ := h
  · exact ⟨e, he, h1, .inr ⟨h2.2, h2.1⟩⟩
  · exact ⟨e, he, h1, .inl ⟨h2.2, h2.1⟩⟩
inductive CnE (es : List Ed) : Int → Int → Prop
  | here (a : Int) : CnE es a a
  | more {a b c : Int} : CnE es a b → AdjE es b c → CnE es a c
theorem CnE.trans {es : List Ed} {a b c : Int} (h : CnE es a b) (k : CnE es b c) : CnE es a c := by
  induction k with
  | here => exact h
  | more _ hs ih => exact .more ih hs
theorem CnE.one {es : List Ed} {a b : Int} (h : AdjE es a b) : CnE es a b := .more (.here a) h
theorem CnE.symm {es : List Ed} {a b : Int} (h : CnE es a b) : CnE es b a := by
  induction h with
  | here => exact .here _
  | more _ hs ih => exact (CnE.one hs.symm).trans ih
theorem CnE.inside {es : List Ed} {n : Int} (hg : ∀ e ∈ es, EdgeOk n e) {a b : Int} (h : CnE es a b) (ha : 0 ≤ a ∧ a < n) : 0 ≤ b ∧ b < n := by
  induction h with
  | here => exact ha
  | more _ hs ih =>
    obtain ⟨e, he, _, h2⟩ := hs
    obtain ⟨o1, o2, o3, o4, _⟩ := hg e he
    omega
/-- One has the right over y who is joined with x. -/
def CanE (es : List Ed) (x y : Int) (r : Nat) : Prop := ∃ s, CnE es x s ∧ s ≠ y ∧ sub r (overL es s y) = true
theorem CanE.side {es : List Ed} {a c y : Int} {r : Nat} (h : CanE es a y r) (k : CnE es c a) : CanE es c y r := by
  obtain ⟨s, h1, h2⟩ := h
  exact ⟨s, k.trans h1, h2⟩
theorem and3_bit {r : Nat} : r &&& 3 ≠ 0 ↔ r.testBit 0 = true ∨ r.testBit 1 = true := by
  constructor
  · intro h
    obtain ⟨i, hi⟩ := exists_bit h
    rw [Nat.testBit_and, Bool.and_eq_true_iff] at hi
    have h3 : i < 2 := by
      refine Classical.byContradiction fun k => ?_
      have : Nat.testBit 3 i = false := Nat.testBit_lt_two_pow (Nat.lt_of_lt_of_le (by decide : 3 < 2 ^ 2) (Nat.pow_le_pow_right (by decide) (by omega)))
      rw [this] at hi
      cases hi.2
    have : i = 0 ∨ i = 1 := by omega
    rcases this with rfl | rfl
    · exact .inl hi.1
    · exact .inr hi.1
  · intro h e
    have key : ∀ i, i < 2 → r.testBit i = false := fun i hi => by
      have := congrArg (fun x => x.testBit i) e
      simp only [Nat.testBit_and, Nat.zero_testBit] at this
      have h3 : Nat.testBit 3 i = true := by
        have : i = 0 ∨ i = 1 := by omega
        rcases this with rfl | rfl <;> decide
      rwa [h3, Bool.and_true] at this
    rw [key 0 (by omega), key 1 (by omega)] at h
    rcases h with h | h <;> cases h
theorem over_adj {es : List Ed} {a b : Int} {i : Nat} (hi : i < 2) (h : (overL es a b).testBit i = true) : AdjE es a b := by
  obtain ⟨e, he, h1, h2, h3⟩ := overL_bit.1 h
  refine ⟨e, he, and3_bit.2 ?_, .inl ⟨h1, h2⟩⟩
  have : i = 0 ∨ i = 1 := by omega
  rcases this with rfl | rfl
  · exact .inl h3
  · exact .inr h3
theorem joined_adj {es : List Ed} {a c : Int} (h : (overL es a c ||| overL es c a) &&& 3 ≠ 0) : AdjE es a c := by
  rw [and3_bit] at h
  simp only [Nat.testBit_or, Bool.or_eq_true_iff] at h
  rcases h with (h | h) | (h | h)
  · exact over_adj (by omega) h
  · exact (over_adj (by omega) h).symm
  · exact over_adj (by omega) h
  · exact (over_adj (by omega) h).symm

/-! ## Going from one to the next -/
structure Bfg (n : Int) (es : List Ed) (x y : Int) (r : Nat) (here : List Int) (k : Nat) : Prop where
  nodup : here.Nodup
  start : x ∈ here
  inside : ∀ v ∈ here, 0 ≤ v ∧ v < n
  cn : ∀ v ∈ here, CnE es x v
  done : ∀ (m : Nat) (v u : Int), m < k → here[m]? = some v → AdjE es v u → u ∈ here
  none : ∀ (m : Nat) (v : Int), m < k → here[m]? = some v → ¬ (v ≠ y ∧ sub r (overL es v y) = true)
theorem Bfg.init {n : Int} {es : List Ed} {x y : Int} {r : Nat} (h : 0 ≤ x ∧ x < n) : Bfg n es x y r [x] 0 :=
  ⟨by simp, by simp, fun v hv => by simp at hv; subst hv; exact h, fun v hv => by simp at hv; subst hv; exact .here _, fun m v u hm => by omega, fun m v hm => by omega⟩
theorem Bfg.len {n : Int} {es : List Ed} {x y : Int} {r : Nat} {here : List Int} {k : Nat} (h : Bfg n es x y r here k) : here.length ≤ n.toNat := by
  have h1 : (here.map Int.toNat).Nodup := by
    rw [List.nodup_iff_pairwise_ne, List.pairwise_map]
    refine List.Pairwise.imp_of_mem (fun ha hb hab e => hab ?_) (List.nodup_iff_pairwise_ne.1 h.nodup)
    have := h.inside _ ha
    have := h.inside _ hb
    omega
  have h2 := List.Nodup.length_le_of_subset h1 (l₂ := List.range n.toNat) fun v hv => by
    rw [List.mem_map] at hv
    obtain ⟨u, hu, rfl⟩ := hv
    have := h.inside _ hu
    rw [List.mem_range]
    omega
  simpa using h2
theorem Bfg.add {n : Int} {es : List Ed} {x y : Int} {r : Nat} {here : List Int} {k : Nat} {v u : Int} (h : Bfg n es x y r here k) (hg : ∀ e ∈ es, EdgeOk n e) (hk : k ≤ here.length) (hv : v ∈ here) (ha : AdjE es v u) (hno : ¬ u ∈ here) : Bfg n es x y r (here ++ [u]) k where
  nodup := by
    rw [List.nodup_append]
    refine ⟨h.nodup, by simp, fun a hma b hb => ?_⟩
    simp at hb
    subst hb
    intro e
    subst e
    exact hno hma
  start := List.mem_append_left _ h.start
  inside := fun z hz => by
    rw [List.mem_append, List.mem_singleton] at hz
    rcases hz with hz | rfl
    · exact h.inside z hz
    · exact (CnE.one ha).inside hg (h.inside v hv)
  cn := fun z hz => by
    rw [List.mem_append, List.mem_singleton] at hz
    rcases hz with hz | rfl
    · exact h.cn z hz
    · exact .more (h.cn v hv) ha
  done := fun m a b hm hma hb => by
    rw [List.getElem?_append_left (by omega)] at hma
    exact List.mem_append_left _ (h.done m a b hm hma hb)
  none := fun m a hm hma => by
    rw [List.getElem?_append_left (by omega)] at hma
    exact h.none m a hm hma
theorem Bfg.next {n : Int} {es : List Ed} {x y : Int} {r : Nat} {here : List Int} {k : Nat} {v : Int} (h : Bfg n es x y r here k) (hx : here[k]? = some v) (hd : ∀ u, AdjE es v u → u ∈ here) (hn : ¬ (v ≠ y ∧ sub r (overL es v y) = true)) : Bfg n es x y r here (k + 1) :=
  ⟨h.nodup, h.start, h.inside, h.cn, fun m a b hm ha hb => by
    by_cases e : m = k
    · subst e
      rw [hx] at ha
      obtain rfl := Option.some.inj ha
      exact hd b hb
    · exact h.done m a b (by omega) ha hb, fun m a hm ha => by
    by_cases e : m = k
    · subst e
      rw [hx] at ha
      obtain rfl := Option.some.inj ha
      exact hn
    · exact h.none m a (by omega) ha⟩
theorem Bfg.all {n : Int} {es : List Ed} {x y : Int} {r : Nat} {here : List Int} (h : Bfg n es x y r here here.length) {v : Int} (hr : CnE es x v) : v ∈ here := by
  induction hr with
  | here => exact h.start
  | more _ hs ih =>
    obtain ⟨m, hm⟩ := List.mem_iff_getElem?.1 ih
    exact h.done m _ _ (List.getElem?_eq_some_iff.1 hm).1 hm hs
theorem Bfg.no {n : Int} {es : List Ed} {x y : Int} {r : Nat} {here : List Int} (h : Bfg n es x y r here here.length) : ¬ CanE es x y r := by
  rintro ⟨s, h1, h2⟩
  obtain ⟨m, hm⟩ := List.mem_iff_getElem?.1 (h.all h1)
  exact h.none m s (List.getElem?_eq_some_iff.1 hm).1 hm h2
theorem Bfg.yes {n : Int} {es : List Ed} {x y : Int} {r : Nat} {here : List Int} {k : Nat} {v : Int} (h : Bfg n es x y r here k) (hv : v ∈ here) (h1 : v ≠ y) (h2 : sub r (overL es v y) = true) : CanE es x y r := ⟨v, h.cn v hv, h1, h2⟩
/-- The edges before the jth of those of v are done. -/
theorem adj_take {es : List Ed} {j : Nat} {e : Ed} (h : es[j]? = some e) {v u : Int} : AdjE (es.take (j + 1)) v u ↔ AdjE (es.take j) v u ∨ (e.2.2 &&& 3 ≠ 0 ∧ ((e.1 = v ∧ e.2.1 = u) ∨ (e.2.1 = v ∧ e.1 = u))) := by
  unfold AdjE
  rw [List.take_add_one, h]
  simp only [Option.toList, List.mem_append, List.mem_singleton]
  constructor
  · rintro ⟨x, hx | rfl, k⟩
    · exact .inl ⟨x, hx, k⟩
    · exact .inr k
  · rintro (⟨x, hx, k⟩ | k)
    · exact ⟨x, .inl hx, k⟩
    · exact ⟨e, .inr rfl, k⟩

/-! ## What scripts without drops bring about -/
def SndG (n0 : Nat) (es : List Ed) (s : Gs) : Prop :=
  FineG s ∧ n0 ≤ s.n ∧ ∃ ρ : Nat → Int, (∀ v, v < n0 → ρ v = v) ∧ (∀ u v i, i < 2 → (s.ov u v).testBit i = true → CnE es (ρ u) (ρ v)) ∧
    ∀ u v i, v < n0 → (s.ov u v).testBit i = true → ∃ t, CnE es (ρ u) t ∧ t ≠ v ∧ (overL es t v).testBit i = true
theorem snd_start {n : Nat} {es : List Ed} (h : codeE n es = 0) (h32 : E32 es) : SndG n es (startG n es) := by
  refine ⟨fineG_start h h32, Nat.le_refl _, fun v => v, fun v _ => rfl, fun u v i hi hb => CnE.one (over_adj hi hb), fun u v i _ hb => ⟨u, .here _, ?_, hb⟩⟩
  obtain ⟨e, he, k1, k2, _⟩ := overL_bit.1 hb
  have := ((codeE_zero h).2.2.2 e he).2.2.2.2
  omega
/-- A right is handed on. -/
theorem snd_give {n0 : Nat} {es : List Ed} {s : Gs} {o p f r : Nat} {may : Bool} (h : SndG n0 es s) (hf : FineG (giveG s o p may f r).2) (hj : may = true → ∃ i, i < 2 ∧ ((s.ov p f).testBit i = true ∨ (s.ov f p).testBit i = true)) : SndG n0 es (giveG s o p may f r).2 := by
  unfold giveG at *
  split at hf
  · rename_i hc
    rw [if_pos hc]
    rw [Bool.and_eq_true_iff] at hc
    obtain ⟨_, h2, ρ, h3, h4, h5⟩ := h
    obtain ⟨i0, hi0, hj⟩ := hj hc.1
    have hcn : CnE es (ρ p) (ρ f) := by
      rcases hj with hj | hj
      · exact h4 _ _ _ hi0 hj
      · exact (h4 _ _ _ hi0 hj).symm
    refine ⟨hf, h2, ρ, h3, fun u v i hi hb => ?_, fun u v i hv hb => ?_⟩
    · simp only [updO_at] at hb
      split at hb
      · rename_i hk
        obtain ⟨rfl, rfl⟩ := hk
        rw [Nat.testBit_or, Bool.or_eq_true_iff] at hb
        rcases hb with hb | hb
        · exact h4 _ _ _ hi hb
        · exact hcn.trans (h4 _ _ _ hi (sub_iff.1 hc.2 i hb))
      · exact h4 _ _ _ hi hb
    · simp only [updO_at] at hb
      split at hb
      · rename_i hk
        obtain ⟨rfl, rfl⟩ := hk
        rw [Nat.testBit_or, Bool.or_eq_true_iff] at hb
        rcases hb with hb | hb
        · exact h5 _ _ _ hv hb
        · obtain ⟨t, k1, k2⟩ := h5 _ _ _ hv (sub_iff.1 hc.2 i hb)
          exact ⟨t, hcn.trans k1, k2⟩
      · exact h5 _ _ _ hv hb
  · rename_i hc
    rw [if_neg hc]
    exact h
theorem snd_step {n0 : Nat} {es : List Ed} {s : Gs} {d : Dd} (hp : d.parts < 4294967296) (hd : d.kind ≠ 4) (h : SndG n0 es s) : SndG n0 es (stepG s d).2 := by
  have hf := fineG_step h.1 hp
  unfold stepG at *
  split
  · exact h
  · rename_i h1
    rw [if_neg h1] at hf
    split
    · exact h
    · rename_i h2
      rw [if_neg h2] at hf
      unfold BadG at h2
      split
      · rename_i h3
        rw [if_pos h3] at hf
        exact snd_give h hf fun hm => ⟨0, by omega, .inl hm⟩
      · rename_i h3
        rw [if_neg h3] at hf
        split
        · rename_i h4
          rw [if_pos h4] at hf
          exact snd_give h hf fun hm => ⟨1, by omega, .inr hm⟩
        · rename_i h4
          rw [if_neg h4] at hf
          split
          · rename_i h5
            rw [if_pos h5] at hf
            split
            · exact h
            · rename_i h6
              rw [if_neg h6] at hf
              obtain ⟨hfs, k2, ρ, k3, k4, k5⟩ := h
              have hnn := hfs.2.2.2
              have ha : d.who.toNat < s.n := by omega
              refine ⟨hf, Nat.le_succ_of_le k2, fun v => if v = s.n then ρ d.who.toNat else ρ v, fun v hv => ?_, fun u v i hi hb => ?_, fun u v i hv hb => ?_⟩
              · simp only; rw [if_neg (by omega)]; exact k3 v hv
              · simp only [updO_at] at hb ⊢
                split at hb
                · rename_i hk
                  obtain ⟨rfl, rfl⟩ := hk
                  rw [if_neg (by omega), if_pos rfl]
                  exact .here _
                · have hne : s.ov u v ≠ 0 := fun e => by rw [e, Nat.zero_testBit] at hb; cases hb
                  obtain ⟨q1, q2, _⟩ := hnn u v hne
                  rw [if_neg (by omega), if_neg (by omega)]
                  exact k4 _ _ _ hi hb
              · simp only [updO_at] at hb ⊢
                split at hb
                · rename_i hk; omega
                · have hne : s.ov u v ≠ 0 := fun e => by rw [e, Nat.zero_testBit] at hb; cases hb
                  obtain ⟨q1, q2, _⟩ := hnn u v hne
                  rw [if_neg (by omega)]
                  exact k5 _ _ _ hv hb
          · rename_i h5
            exact absurd (by omega : d.kind = 4) hd
/-- What a script without drops brings about, Can says. -/
theorem run_can {n : Nat} {es : List Ed} {l : List Dd} (h : codeE n es = 0) (h32 : E32 es) (hl : ∀ d ∈ l, d.kind ≠ 4 ∧ d.parts < 4294967296) {a b i : Nat} (ha : a < n) (hb : b < n) (hs : sub (one i) ((runG n es l).2.ov a b) = true) : CanE es a b (one i) := by
  obtain ⟨_, _, ρ, h3, _, h5⟩ := runG_inv (P := SndG n es) (snd_start h h32) l fun s d hd hP => snd_step (hl d hd).2 (hl d hd).1 hP
  have hbit : ((runG n es l).2.ov a b).testBit i = true := sub_iff.1 hs i (by unfold one; rw [Nat.testBit_two_pow]; simp)
  obtain ⟨t, k1, k2, k3⟩ := h5 a b i hb hbit
  rw [h3 a ha] at k1
  refine ⟨t, k1, k2, sub_iff.2 fun j hj => ?_⟩
  unfold one at hj
  rw [Nat.testBit_two_pow] at hj
  have : i = j := by simpa using hj
  subst this
  exact k3

end Go.Proofs.Ytlpjpnlfmjehnaa
