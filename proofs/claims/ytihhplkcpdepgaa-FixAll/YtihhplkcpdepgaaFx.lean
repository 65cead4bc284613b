/- Plain mathematics of maps of sets: Knaster, Tarski. -/
import Derived.Test.YtihhplkcpdepgaaCn
namespace Go.Proofs.Ytihhplkcpdepgaa
open Go.RowKit

/-- What a set goes to. -/
def im (f : List Nat) (s : Nat) : Nat := f.getD s 0
/-- The map rises. -/
def Rise (f : List Nat) : Prop := ∀ a b : Nat, a < f.length → b < f.length → sub a b = true → sub (im f a) (im f b) = true
/-- Looked at for the first i, and the first j of i. -/
def RiseTo (f : List Nat) (i j : Nat) : Prop := ∀ a b : Nat, (a < i ∧ b < f.length ∨ a = i ∧ b < j) → sub a b = true → sub (im f a) (im f b) = true
open Classical in
noncomputable def riseB (f : List Nat) : Bool := decide (Rise f)
theorem rise_iff {f : List Nat} : riseB f = true ↔ Rise f := by simp [riseB]
theorem RiseTo.init (f : List Nat) : RiseTo f 0 0 := by intro a b h; omega
theorem RiseTo.step {f : List Nat} {i j : Nat} (h : RiseTo f i j) (k : sub i j = true → sub (im f i) (im f j) = true) : RiseTo f i (j + 1) := by
  intro a b hab
  by_cases e : a = i ∧ b = j
  · obtain ⟨rfl, rfl⟩ := e; exact k
  · exact h a b (by omega)
theorem RiseTo.next {f : List Nat} {i : Nat} (h : RiseTo f i f.length) : RiseTo f (i + 1) 0 := fun a b hab => h a b (by omega)
theorem RiseTo.all {f : List Nat} (h : RiseTo f f.length 0) : Rise f := fun a b ha hb => h a b (.inl ⟨ha, hb⟩)
theorem rise_no {f : List Nat} {i j : Nat} (hi : i < f.length) (hj : j < f.length) (h1 : sub i j = true) (h2 : sub (im f i) (im f j) = false) : riseB f = false := by
  cases h : riseB f with
  | false => rfl
  | true => rw [rise_iff.1 h i j hi hj h1] at h2; cases h2
/-- The fixed sets. -/
def fixB (f : List Nat) (s : Nat) : Bool := im f s == s
def fixL (f : List Nat) (k : Nat) : List Nat := (List.range k).filter (fixB f)
theorem mem_fixL {f : List Nat} {k s : Nat} : s ∈ fixL f k ↔ s < k ∧ im f s = s := by unfold fixL fixB; rw [List.mem_filter, List.mem_range, beq_iff_eq]
theorem im_lt {n : Nat} {f : List Nat} (hf : FitT n f) {s : Nat} (h : s < f.length) : im f s < one n := hf.at h

open Classical in
/-- What all have that go into themselves and have b. -/
noncomputable def mu (n : Nat) (f : List Nat) (b : Nat) : Nat := wordOf n fun i => decide (∀ s, s < one n → sub b s = true → sub (im f s) s = true → s.testBit i = true)
theorem mem_mu {n : Nat} {f : List Nat} {b i : Nat} : (mu n f b).testBit i = true ↔ i < n ∧ ∀ s, s < one n → sub b s = true → sub (im f s) s = true → s.testBit i = true := by
  unfold mu; rw [testBit_wordOf]; simp
theorem mu_lt (n : Nat) (f : List Nat) (b : Nat) : mu n f b < one n := wordOf_lt _ _
theorem mu_least {n : Nat} {f : List Nat} {b s : Nat} (hs : s < one n) (hb : sub b s = true) (h : sub (im f s) s = true) : sub (mu n f b) s = true := sub_iff.2 fun _ hi => (mem_mu.1 hi).2 s hs hb h
theorem mu_has {n : Nat} {f : List Nat} {b : Nat} (hbn : b < one n) : sub b (mu n f b) = true := sub_iff.2 fun i hi => mem_mu.2 ⟨bit_lt hbn hi, fun _ _ hb _ => sub_iff.1 hb i hi⟩
theorem mu_fix {n : Nat} {f : List Nat} (hf : FitT n f) (hl : f.length = one n) (hr : Rise f) {b : Nat} (hbn : b < one n) (hb : ∀ s, s < one n → sub b s = true → sub b (im f s) = true) : im f (mu n f b) = mu n f b := by
  have hm := mu_lt n f b
  have hi : im f (mu n f b) < one n := im_lt hf (by omega)
  have h1 : sub (im f (mu n f b)) (mu n f b) = true := sub_iff.2 fun i hii => mem_mu.2 ⟨bit_lt hi hii, fun s hs hbs hp => by
    have := hr _ s (by omega) (by omega) (mu_least hs hbs hp)
    exact sub_iff.1 hp i (sub_iff.1 this i hii)⟩
  have h2 : sub (im f (im f (mu n f b))) (im f (mu n f b)) = true := hr _ _ (by omega) (by omega) h1
  exact sub_anti h1 (mu_least hi (hb _ hm (mu_has hbn)) h2)

open Classical in
/-- What some have that are within what they go to. -/
noncomputable def nu (n : Nat) (f : List Nat) : Nat := wordOf n fun i => decide (∃ s, s < one n ∧ sub s (im f s) = true ∧ s.testBit i = true)
theorem mem_nu {n : Nat} {f : List Nat} {i : Nat} : (nu n f).testBit i = true ↔ i < n ∧ ∃ s, s < one n ∧ sub s (im f s) = true ∧ s.testBit i = true := by
  unfold nu; rw [testBit_wordOf]; simp
theorem nu_lt (n : Nat) (f : List Nat) : nu n f < one n := wordOf_lt _ _
theorem nu_most {n : Nat} {f : List Nat} {s : Nat} (hs : s < one n) (h : sub s (im f s) = true) : sub s (nu n f) = true := sub_iff.2 fun _ hi => mem_nu.2 ⟨bit_lt hs hi, s, hs, h, hi⟩
theorem nu_fix {n : Nat} {f : List Nat} (hf : FitT n f) (hl : f.length = one n) (hr : Rise f) : im f (nu n f) = nu n f := by
  have hm := nu_lt n f
  have hi : im f (nu n f) < one n := im_lt hf (by omega)
  have h1 : sub (nu n f) (im f (nu n f)) = true := sub_iff.2 fun i hii => by
    obtain ⟨_, s, hs, hp, hsi⟩ := mem_nu.1 hii
    have := hr s _ (by omega) (by omega) (nu_most hs hp)
    exact sub_iff.1 this i (sub_iff.1 hp i hsi)
  have h2 : sub (im f (nu n f)) (im f (im f (nu n f))) = true := hr _ _ (by omega) (by omega) h1
  exact sub_anti (nu_most hi h2) h1

/-- The least fixed set. -/
def IsLeast (n : Nat) (f : List Nat) (s : Nat) : Prop := s < one n ∧ im f s = s ∧ ∀ c, c < one n → im f c = c → sub s c = true
/-- The greatest fixed set. -/
def IsMost (n : Nat) (f : List Nat) (s : Nat) : Prop := s < one n ∧ im f s = s ∧ ∀ c, c < one n → im f c = c → sub c s = true
theorem IsLeast.pre {n : Nat} {f : List Nat} (hf : FitT n f) (hl : f.length = one n) (hr : Rise f) {a s : Nat} (h : IsLeast n f a) (hs : s < one n) (k : sub (im f s) s = true) : sub a s = true :=
  sub_trans (h.2.2 _ (mu_lt n f 0) (mu_fix hf hl hr (one_pos n) (fun _ _ _ => sub_iff.2 fun i hi => by simp at hi))) (mu_least hs (sub_iff.2 fun i hi => by simp at hi) k)
theorem IsMost.post {n : Nat} {f : List Nat} (hf : FitT n f) (hl : f.length = one n) (hr : Rise f) {a s : Nat} (h : IsMost n f a) (hs : s < one n) (k : sub s (im f s) = true) : sub s a = true :=
  sub_trans (nu_most hs k) (h.2.2 _ (nu_lt n f) (nu_fix hf hl hr))

/-! ## The codes -/
open Classical in
noncomputable def codeM (n : Int) (f : List Nat) : Int := if n < 1 ∨ 5 < n then 1 else if f.length ≠ one n.toNat then 3 else if FitT n.toNat f then 0 else 4
theorem codeM_large {n : Int} {f : List Nat} (h : n < 1 ∨ 5 < n) : codeM n f = 1 := by simp [codeM, h]
theorem codeM_form {n : Nat} {f : List Nat} (h : 1 ≤ n ∧ n ≤ 5) (h2 : f.length ≠ one n) : codeM n f = 3 := by
  rw [codeM, if_neg (by omega), if_pos (by simpa using h2)]
theorem codeM_bad {n : Nat} {f : List Nat} (h : 1 ≤ n ∧ n ≤ 5) (h2 : f.length = one n) (h3 : ¬ FitT n f) : codeM n f = 4 := by
  rw [codeM, if_neg (by omega), if_neg (by simpa using h2), if_neg (by simpa using h3)]
theorem codeM_ok {n : Nat} {f : List Nat} (h : 1 ≤ n ∧ n ≤ 5) (h2 : f.length = one n) (h3 : FitT n f) : codeM n f = 0 := by
  rw [codeM, if_neg (by omega), if_neg (by simpa using h2), if_pos (by simpa using h3)]
theorem codeM_zero {n : Int} {f : List Nat} (h : codeM n f = 0) : ∃ k : Nat, n = k ∧ 1 ≤ k ∧ k ≤ 5 ∧ f.length = one k ∧ FitT k f := by
  by_cases h1 : n < 1 ∨ 5 < n
  · rw [codeM_large h1] at h; omega
  · obtain ⟨k, rfl⟩ := Int.eq_ofNat_of_zero_le (show 0 ≤ n by omega)
    by_cases h2 : f.length = one k
    · by_cases h3 : FitT k f
      · exact ⟨k, rfl, by omega, by omega, h2, h3⟩
      · rw [codeM_bad (by omega) h2 h3] at h; omega
    · rw [codeM_form (by omega) h2] at h; omega
/-- The code of Least and Most. -/
noncomputable def codeN (n : Int) (f : List Nat) : Int := if codeM n f = 0 then (if riseB f = true then 0 else 5) else codeM n f
theorem codeN_err {n : Int} {f : List Nat} (h : codeM n f ≠ 0) : codeN n f = codeM n f := by simp [codeN, h]
theorem codeN_none {n : Int} {f : List Nat} (h : codeM n f = 0) (k : riseB f = false) : codeN n f = 5 := by simp [codeN, h, k]
theorem codeN_ok {n : Int} {f : List Nat} (h : codeM n f = 0) (k : riseB f = true) : codeN n f = 0 := by simp [codeN, h, k]

end Go.Proofs.Ytihhplkcpdepgaa
