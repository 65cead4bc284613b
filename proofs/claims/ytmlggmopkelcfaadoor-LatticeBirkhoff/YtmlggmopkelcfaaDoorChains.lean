/- Plain mathematics of longest chains. -/
import Derived.Test.YtmlggmopkelcfaaDoorSzp
namespace Go.Proofs.YtmlggmopkelcfaaDoor
open Go.RowKit

/-- Is b above a, and another one? -/
noncomputable def ab (ps : List (Int × Int)) (a b : Nat) : Bool := !decide (a = b) && under ps a b
theorem ab_iff {ps : List (Int × Int)} {a b : Nat} : ab ps a b = true ↔ a ≠ b ∧ under ps a b = true := by simp [ab]
theorem ab_anti {n : Nat} {ps : List (Int × Int)} (hc : ¬ Cyc n ps) {a b : Nat} (ha : a < n) (hb : b < n) (h : ab ps a b = true) : ab ps b a = false := by
  obtain ⟨h1, h2⟩ := ab_iff.1 h
  cases h3 : ab ps b a with
  | false => rfl
  | true =>
    obtain ⟨_, h4⟩ := ab_iff.1 h3
    exfalso
    rcases Nat.lt_or_ge a b with h5 | h5
    · exact hc (cyc_of h5 hb h4 h2)
    · exact hc (cyc_of (by omega) ha h2 h4)
theorem ab_trans {n : Nat} {ps : List (Int × Int)} (hc : ¬ Cyc n ps) {a b c : Nat} (ha : a < n) (hb : b < n) (h : ab ps a b = true) (k : ab ps b c = true) : ab ps a c = true := by
  obtain ⟨h1, h2⟩ := ab_iff.1 h
  obtain ⟨h3, h4⟩ := ab_iff.1 k
  refine ab_iff.2 ⟨?_, under_iff.2 ((under_iff.1 h2).trans (under_iff.1 h4))⟩
  rintro rfl
  have := ab_anti hc ha hb h
  rw [k] at this
  cases this

/-- How many are above a. -/
noncomputable def sAb (n : Nat) (ps : List (Int × Int)) (a : Nat) : Nat := ((List.range n).filter fun b => ab ps a b).length
theorem sAb_lt {n : Nat} {ps : List (Int × Int)} (hc : ¬ Cyc n ps) {a b : Nat} (ha : a < n) (hb : b < n) (h : ab ps a b = true) : sAb n ps b < sAb n ps a := by
  refine filter_lt (fun x _ hx => ab_trans hc ha hb h hx) ⟨b, by simpa using hb, h, ?_⟩
  simp [ab]
theorem sAb_n {n : Nat} (ps : List (Int × Int)) {a : Nat} (ha : a < n) : sAb n ps a < n := by
  have h : sAb n ps a < ((List.range n).filter fun _ => true).length := filter_lt (fun _ _ _ => rfl) ⟨a, by simpa using ha, rfl, by simp [ab]⟩
  have e : ((List.range n).filter fun _ => true).length = n := by rw [List.filter_eq_self.2 (fun _ _ => rfl)]; simp
  omega

/-- The first of the longest among the first k that c lets in, each with what goes on from it. -/
def bt (t : Nat → List Nat) (c : Nat → Bool) : Nat → List Nat
  | 0 => []
  | k + 1 => if c k && decide ((bt t c k).length < (t k).length + 1) then k :: t k else bt t c k
theorem bt_congr {t t' : Nat → List Nat} {c : Nat → Bool} {m : Nat} (h : ∀ k, k < m → c k = true → t k = t' k) : bt t c m = bt t' c m := by
  induction m with
  | zero => rfl
  | succ m ih =>
    rw [bt, bt, ih fun k hk => h k (by omega)]
    cases hc : c m with
    | false => simp
    | true => rw [h m (by omega) hc]
theorem bt_none {t : Nat → List Nat} {c : Nat → Bool} {m : Nat} (h : ∀ k, k < m → c k = false) : bt t c m = [] := by
  induction m with
  | zero => rfl
  | succ m ih => rw [bt, ih fun k hk => h k (by omega), h m (by omega)]; rfl

/-- What goes on from a, by fuel. -/
noncomputable def tF (n : Nat) (ps : List (Int × Int)) : Nat → Nat → List Nat
  | 0, _ => []
  | f + 1, a => bt (tF n ps f) (ab ps a) n
theorem tF_same {n : Nat} {ps : List (Int × Int)} (hc : ¬ Cyc n ps) : ∀ (f f' a : Nat), a < n → sAb n ps a ≤ f → sAb n ps a ≤ f' → tF n ps f a = tF n ps f' a := by
  intro f
  induction f with
  | zero =>
    intro f' a ha h _
    have hno : ∀ k, k < n → ab ps a k = false := by
      intro k hk
      cases e : ab ps a k with
      | false => rfl
      | true => have := sAb_lt hc ha hk e; omega
    cases f' with
    | zero => rfl
    | succ f' => rw [tF, tF, bt_none hno]
  | succ f ih =>
    intro f' a ha h h'
    cases f' with
    | zero =>
      have hno : ∀ k, k < n → ab ps a k = false := by
        intro k hk
        cases e : ab ps a k with
        | false => rfl
        | true => have := sAb_lt hc ha hk e; omega
      rw [tF, tF, bt_none hno]
    | succ f' =>
      rw [tF, tF]
      refine bt_congr fun k hk hak => ?_
      have := sAb_lt hc ha hk hak
      exact ih f' k hk (by omega) (by omega)

/-- What goes on from a. -/
noncomputable def tl (n : Nat) (ps : List (Int × Int)) (a : Nat) : List Nat := tF n ps n a
theorem tl_eq {n : Nat} {ps : List (Int × Int)} (hc : ¬ Cyc n ps) {a : Nat} (ha : a < n) : tl n ps a = bt (tl n ps) (ab ps a) n := by
  have hs := sAb_n ps ha
  unfold tl
  cases n with
  | zero => omega
  | succ m =>
    rw [tF_same hc (m + 1) (m + 1) a ha (by omega) (by omega)]
    conv => lhs; rw [tF]
    refine bt_congr fun k hk hak => ?_
    have := sAb_lt hc ha hk hak
    exact tF_same hc m (m + 1) k hk (by omega) (by omega)
/-- How long a chain from a can be. -/
noncomputable def hg (n : Nat) (ps : List (Int × Int)) (a : Nat) : Nat := (tl n ps a).length + 1

def maxTo (g : Nat → Nat) : Nat → Nat
  | 0 => 0
  | k + 1 => max (maxTo g k) (g k)
/-- The lengths that c lets in. -/
noncomputable def hc (n : Nat) (ps : List (Int × Int)) (c : Nat → Bool) (k : Nat) : Nat := if c k then hg n ps k else 0
theorem bt_length (n : Nat) (ps : List (Int × Int)) (c : Nat → Bool) (m : Nat) : (bt (tl n ps) c m).length = maxTo (hc n ps c) m := by
  induction m with
  | zero => rfl
  | succ m ih =>
    rw [bt, maxTo, ← ih]
    unfold hc hg
    cases h : c m with
    | false => simp
    | true =>
      simp only [Bool.true_and, if_true, decide_eq_true_eq]
      split
      · simp only [List.length_cons]; omega
      · omega
theorem hg_eq {n : Nat} {ps : List (Int × Int)} (hcy : ¬ Cyc n ps) {a : Nat} (ha : a < n) : hg n ps a = maxTo (hc n ps (ab ps a)) n + 1 := by
  conv => lhs; unfold hg
  rw [tl_eq hcy ha, bt_length]

theorem maxTo_le {g : Nat → Nat} {m k : Nat} (h : k < m) : g k ≤ maxTo g m := by
  induction m with
  | zero => omega
  | succ m ih =>
    rw [maxTo]
    by_cases e : k = m
    · subst e; omega
    · have := ih (by omega); omega
/-- Which one comes first. -/
theorem bt_first {n : Nat} {ps : List (Int × Int)} {c : Nat → Bool} : ∀ {m : Nat}, 0 < maxTo (hc n ps c) m → ∃ b, IsFirst (fun k => c k && decide (hg n ps k = maxTo (hc n ps c) m)) m b ∧ bt (tl n ps) c m = b :: tl n ps b
  | 0, h => by simp [maxTo] at h
  | m + 1, h => by
    rw [bt, bt_length]
    have e : maxTo (hc n ps c) (m + 1) = max (maxTo (hc n ps c) m) (hc n ps c m) := rfl
    cases hcm : c m with
    | false =>
      have e2 : hc n ps c m = 0 := by simp [hc, hcm]
      rw [e2, Nat.max_zero] at e
      rw [e] at h ⊢
      obtain ⟨b, hb, he⟩ := bt_first (m := m) h
      refine ⟨b, ⟨by have := hb.1; omega, hb.2.1, hb.2.2⟩, ?_⟩
      simpa using he
    | true =>
      have e2 : hc n ps c m = hg n ps m := by simp [hc, hcm]
      by_cases hlt : maxTo (hc n ps c) m < hg n ps m
      · have e3 : maxTo (hc n ps c) (m + 1) = hg n ps m := by rw [e, e2]; omega
        rw [e3]
        refine ⟨m, ⟨by omega, by simp [hcm], fun j hj => ?_⟩, ?_⟩
        · have h1 := maxTo_le (g := hc n ps c) hj
          cases hcj : c j with
          | false => simp [hcj]
          | true =>
            have : hc n ps c j = hg n ps j := by simp [hc, hcj]
            simp [hcj]
            omega
        · rw [if_pos]
          simp only [Bool.true_and, decide_eq_true_eq]
          exact hlt
      · have e3 : maxTo (hc n ps c) (m + 1) = maxTo (hc n ps c) m := by rw [e, e2]; omega
        rw [e3] at h ⊢
        obtain ⟨b, hb, he⟩ := bt_first (m := m) h
        refine ⟨b, ⟨by have := hb.1; omega, hb.2.1, hb.2.2⟩, ?_⟩
        rw [if_neg]
        · exact he
        · simp only [Bool.true_and, decide_eq_true_eq]
          exact hlt

/-- The first of the longest chains. -/
noncomputable def chainW (n : Nat) (ps : List (Int × Int)) : List Nat := bt (tl n ps) (fun _ => true) n

theorem hg_le {n : Nat} {ps : List (Int × Int)} (hcy : ¬ Cyc n ps) : ∀ (s a : Nat), a < n → sAb n ps a ≤ s → hg n ps a ≤ s + 1 := by
  intro s
  induction s with
  | zero =>
    intro a ha h
    have hno : ∀ k, k < n → ab ps a k = false := by
      intro k hk
      cases e : ab ps a k with
      | false => rfl
      | true => have := sAb_lt hcy ha hk e; omega
    unfold hg
    rw [tl_eq hcy ha, bt_none hno]
    simp
  | succ s ih =>
    intro a ha h
    rw [hg_eq hcy ha]
    have : ∀ m, m ≤ n → maxTo (hc n ps (ab ps a)) m ≤ s + 1 := by
      intro m
      induction m with
      | zero => intro _; simp [maxTo]
      | succ m ihm =>
        intro hm
        rw [maxTo]
        have h1 := ihm (by omega)
        have h2 : hc n ps (ab ps a) m ≤ s + 1 := by
          unfold hc
          split
          · rename_i hab
            have := sAb_lt hcy ha (by omega) hab
            exact ih m (by omega) (by omega)
          · omega
        omega
    have := this n (Nat.le_refl _)
    omega
theorem hg_n {n : Nat} {ps : List (Int × Int)} (hcy : ¬ Cyc n ps) {a : Nat} (ha : a < n) : hg n ps a ≤ n := by
  have h1 := hg_le hcy (n - 1) a ha (by have := sAb_n ps ha; omega)
  omega
theorem maxTo_bound {g : Nat → Nat} {m B : Nat} (h : ∀ k, k < m → g k ≤ B) : maxTo g m ≤ B := by
  induction m with
  | zero => simp [maxTo]
  | succ m ih => rw [maxTo]; have h1 := ih fun k hk => h k (by omega); have h2 := h m (by omega); omega
theorem hc_bound {n : Nat} {ps : List (Int × Int)} (hcy : ¬ Cyc n ps) (c : Nat → Bool) {m : Nat} (hm : m ≤ n) : maxTo (hc n ps c) m ≤ n :=
  maxTo_bound fun k hk => by
    unfold hc
    split
    · exact hg_n hcy (by omega)
    · omega
theorem bt_lt {n : Nat} {t : Nat → List Nat} {c : Nat → Bool} (ht : ∀ k, k < n → ∀ x ∈ t k, x < n) {m : Nat} (hm : m ≤ n) : ∀ x ∈ bt t c m, x < n := by
  induction m with
  | zero => simp [bt]
  | succ m ih =>
    intro x hx
    rw [bt] at hx
    split at hx
    · rcases List.mem_cons.1 hx with rfl | hx
      · omega
      · exact ht m (by omega) x hx
    · exact ih (by omega) x hx

end Go.Proofs.YtmlggmopkelcfaaDoor
