/- Plain mathematics: a distributive lattice has as many things as its join-irreducible things have down-sets (Birkhoff). -/
import Derived.Test.YtmlggmopkelcfaaDoorDowns
namespace Go.Proofs.YtmlggmopkelcfaaDoor
open Go.RowKit

theorem leastB_iff {ps : List (Int × Int)} {x m : Nat} : leastB ps x m = true ↔ ∀ a : Nat, a < m → under ps x a = true := by
  induction m with
  | zero => simp [leastB]
  | succ m ih =>
    rw [leastB, Bool.and_eq_true, ih]
    constructor
    · rintro ⟨h1, h2⟩ a ha
      by_cases e : a = m
      · subst e; exact h2
      · exact h1 a (by omega)
    · intro h
      exact ⟨fun a ha => h a (by omega), h m (by omega)⟩
theorem irrB_iff {n : Nat} {ps : List (Int × Int)} {x : Nat} : irrB n ps x = true ↔ (∀ a b : Nat, a < n → b < n → joined n ps a b = x → a = x ∨ b = x) ∧ ∃ a : Nat, a < n ∧ under ps x a = false := by
  unfold irrB
  rw [Bool.and_eq_true, irB_iff]
  constructor
  · rintro ⟨h1, h2⟩
    refine ⟨fun a b ha hb => h1 a b (.inl ⟨ha, hb⟩), Classical.byContradiction fun hno => ?_⟩
    have : leastB ps x n = true := leastB_iff.2 fun a ha => by
      cases e : under ps x a with
      | true => rfl
      | false => exact absurd ⟨a, ha, e⟩ hno
    rw [this] at h2
    cases h2
  · rintro ⟨h1, a, ha, h2⟩
    refine ⟨fun a b hab => h1 a b (by omega) (by omega), ?_⟩
    cases e : leastB ps x n with
    | false => rfl
    | true => rw [leastB_iff.1 e a ha] at h2; cases h2

section
variable {n : Nat} {ps : List (Int × Int)} (hcy : ¬ Cyc n ps) (hL : latB n ps = true)
include hcy hL
/-- What the join-irreducible things below x are below, x is below. -/
theorem irr_below : ∀ (k x y : Nat), sAb n (turned ps) x ≤ k → x < n → y < n → (∀ i, i < n → irrB n ps i = true → under ps i x = true → under ps i y = true) → under ps x y = true := by
  intro k
  induction k with
  | zero =>
    intro x y hk hx hy h
    by_cases hi : irrB n ps x = true
    · exact h x hx hi (under_refl _ _)
    · refine Classical.byContradiction fun hxy => hi (irrB_iff.2 ⟨fun a b ha hb e => ?_, y, hy, by simpa using hxy⟩)
      refine Classical.byContradiction fun hne => ?_
      obtain ⟨e1, e2⟩ := jn_isJ hL ha hb
      have e3 : jn n ps a b = x := by rw [e1] at e; omega
      rw [e3] at e2
      have hax : a ≠ x := fun h => hne (.inl h)
      have := sAb_lt (turned_cyc hcy) hx ha (ab_iff.2 ⟨fun h => hax h.symm, by rw [under_turned]; exact e2.left⟩)
      omega
  | succ k ih =>
    intro x y hk hx hy h
    by_cases hi : irrB n ps x = true
    · exact h x hx hi (under_refl _ _)
    · refine Classical.byContradiction fun hxy => hi (irrB_iff.2 ⟨fun a b ha hb e => ?_, y, hy, by simpa using hxy⟩)
      refine Classical.byContradiction fun hne => ?_
      obtain ⟨e1, e2⟩ := jn_isJ hL ha hb
      have e3 : jn n ps a b = x := by rw [e1] at e; omega
      rw [e3] at e2
      have hax : a ≠ x := fun h => hne (.inl h)
      have hbx : b ≠ x := fun h => hne (.inr h)
      have m1 := sAb_lt (turned_cyc hcy) hx ha (ab_iff.2 ⟨fun h => hax h.symm, by rw [under_turned]; exact e2.left⟩)
      have m2 := sAb_lt (turned_cyc hcy) hx hb (ab_iff.2 ⟨fun h => hbx h.symm, by rw [under_turned]; exact e2.right⟩)
      have k1 := ih a y (by omega) ha hy fun i hi1 hi2 hi3 => h i hi1 hi2 (under_trans hi3 e2.left)
      have k2 := ih b y (by omega) hb hy fun i hi1 hi2 hi3 => h i hi1 hi2 (under_trans hi3 e2.right)
      exact hxy (e2.least y hy k1 k2)
theorem irr_ext {x y : Nat} (hx : x < n) (hy : y < n) (h : ∀ i, i < n → irrB n ps i = true → under ps i x = under ps i y) : x = y :=
  under_anti hcy hx hy (irr_below hcy hL _ x y (Nat.le_refl _) hx hy fun i h1 h2 h3 => by rw [← h i h1 h2]; exact h3)
    (irr_below hcy hL _ y x (Nat.le_refl _) hy hx fun i h1 h2 h3 => by rw [h i h1 h2]; exact h3)
theorem bottom (hn : 1 ≤ n) : ∃ x, x < n ∧ ∀ a : Nat, a < n → under ps x a = true := by
  have key : ∀ k, k ≤ n → ∃ x, x < n ∧ ∀ a : Nat, a < k → under ps x a = true := by
    intro k
    induction k with
    | zero => intro _; exact ⟨0, by omega, fun a ha => by omega⟩
    | succ k ih =>
      intro hk
      obtain ⟨x, hx, h⟩ := ih (by omega)
      have hl := lat_on hcy hL
      have hkn : k < n := by omega
      refine ⟨mt n ps x k, hl.mlt hx hkn, fun a ha => ?_⟩
      by_cases e : a = k
      · subst e; exact hl.mr hx hkn
      · exact under_trans (hl.ml hx hkn) (h a (by omega))
  exact key n (Nat.le_refl _)
/-- In a distributive lattice: a join-irreducible thing below a join is below one of the two. -/
theorem irr_prime (hS : shB n ps true = true) {i x y : Nat} (hi : i < n) (hx : x < n) (hy : y < n) (hirr : irrB n ps i = true) (h : under ps i (jn n ps x y) = true) : under ps i x = true ∨ under ps i y = true := by
  have hl := lat_on hcy hL
  have hs := shB_on.1 hS i x y hi hx hy (.inl rfl)
  have hxy := hl.jlt hx hy
  have hm1 := hl.mlt hi hx
  have hm2 := hl.mlt hi hy
  have e1 : mt n ps i (jn n ps x y) = i := under_anti hcy (hl.mlt hi hxy) hi (hl.ml hi hxy) (hl.mle hi hxy hi (under_refl _ _) h)
  rw [e1] at hs
  have e2 := (jn_isJ hL hm1 hm2).1
  rw [← hs] at e2
  rcases (irrB_iff.1 hirr).1 _ _ hm1 hm2 e2 with e | e
  · left; have := hl.mr hi hx; rw [e] at this; exact this
  · right; have := hl.mr hi hy; rw [e] at this; exact this
end

/-- The list's places below x. -/
noncomputable def downOf (ps : List (Int × Int)) (own : List Nat) (x : Nat) : Nat := wordOf own.length fun a => under ps (own.getD a 0 : Nat) x
theorem downOf_bit {ps : List (Int × Int)} {own : List Nat} {a u x : Nat} (ha : own[a]? = some u) : (downOf ps own x).testBit a = under ps u x := by
  have hl := (List.getElem?_eq_some_iff.1 ha).1
  unfold downOf
  rw [testBit_wordOf, List.getD_eq_getElem?_getD, ha]
  simp [hl]
/-- The join-irreducible things, listed, and the order among them. -/
structure Irrs (n : Nat) (ps : List (Int × Int)) (own : List Nat) (less : List (Int × Int)) : Prop where
  nodup : own.Nodup
  mem : ∀ i, i ∈ own ↔ i < n ∧ irrB n ps i = true
  less : ∀ p : Int × Int, p ∈ less ↔ ∃ a b x y : Nat, p = ((a : Int), (b : Int)) ∧ own[a]? = some x ∧ own[b]? = some y ∧ a ≠ b ∧ under ps x y = true
section
variable {n : Nat} {ps : List (Int × Int)} {own : List Nat} {less : List (Int × Int)} (h : Irrs n ps own less)
include h
theorem Irrs.under {a b x y : Nat} (ha : own[a]? = some x) (hb : own[b]? = some y) : under less a b = under ps x y := by
  rw [Bool.eq_iff_iff]
  constructor
  · intro hu
    have := under_iff.1 hu (fun z => ∃ k u : Nat, z = k ∧ own[k]? = some u ∧ Go.Proofs.YtmlggmopkelcfaaDoor.under ps x u = true) ⟨a, x, rfl, ha, under_refl _ _⟩ ?_
    · obtain ⟨k, u, e, hk, hxu⟩ := this
      have : b = k := by omega
      subst this
      rw [hb] at hk
      cases hk
      exact hxu
    · rintro p hp ⟨k, u, e, hk, hxu⟩
      obtain ⟨c, d, s, t, rfl, hc, hd, _, hst⟩ := (h.less p).1 hp
      have : c = k := by simp only at e; omega
      subst this
      rw [hc] at hk
      cases hk
      exact ⟨d, t, rfl, hd, under_trans hxu hst⟩
  · intro hu
    by_cases e : a = b
    · subst e; exact under_refl _ _
    · exact under_iff.2 ((Reach.refl less a).step (p := (a, b)) ((h.less _).2 ⟨a, b, x, y, rfl, ha, hb, e, hu⟩))
theorem Irrs.at {a : Nat} (ha : a < own.length) : ∃ x, own[a]? = some x ∧ x < n ∧ irrB n ps x = true := by
  obtain ⟨x, hx⟩ := get_some ha
  exact ⟨x, hx, (h.mem x).1 (List.mem_of_getElem? hx)⟩
theorem Irrs.cyc (hcy : ¬ Cyc n ps) : ¬ Cyc own.length less := by
  rintro ⟨i, j, h1, h2, h3, h4, h5⟩
  obtain ⟨i, rfl⟩ := Int.eq_ofNat_of_zero_le (show 0 ≤ i by omega)
  obtain ⟨j, rfl⟩ := Int.eq_ofNat_of_zero_le h1
  obtain ⟨x, hx, hxn, _⟩ := h.at (show i < own.length by omega)
  obtain ⟨y, hy, hyn, _⟩ := h.at (show j < own.length by omega)
  have e1 := h.under hx hy
  have e2 := h.under hy hx
  rw [under_iff.2 h4] at e1
  rw [under_iff.2 h5] at e2
  have e := under_anti hcy hxn hyn e1.symm e2.symm
  subst e
  have hi := (List.getElem?_eq_some_iff.1 hx)
  have hj := (List.getElem?_eq_some_iff.1 hy)
  obtain ⟨hi1, hi2⟩ := hi
  obtain ⟨hj1, hj2⟩ := hj
  have := (List.getElem_inj h.nodup).1 (hi2.trans hj2.symm)
  omega
theorem Irrs.filled (hcy : ¬ Cyc n ps) (hL : latB n ps = true) (hS : shB n ps true = true) (hn : 1 ≤ n) {s : Nat} (hs : s < one own.length) (hd : IsDown own.length less s) : ∃ x, x < n ∧ downOf ps own x = s := by
  have hl := lat_on hcy hL
  have key : ∀ k, k ≤ own.length → ∃ x, x < n ∧ (∀ a u, a < k → own[a]? = some u → s.testBit a = true → Go.Proofs.YtmlggmopkelcfaaDoor.under ps u x = true) ∧ ∀ i, i < n → irrB n ps i = true → Go.Proofs.YtmlggmopkelcfaaDoor.under ps i x = true → ∃ a u, a < k ∧ own[a]? = some u ∧ s.testBit a = true ∧ Go.Proofs.YtmlggmopkelcfaaDoor.under ps i u = true := by
    intro k
    induction k with
    | zero =>
      intro _
      obtain ⟨x, hx, hb⟩ := bottom hcy hL hn
      refine ⟨x, hx, fun a u ha => by omega, fun i hi hirr hu => ?_⟩
      obtain ⟨_, a, ha, hno⟩ := irrB_iff.1 hirr
      rw [under_trans hu (hb a ha)] at hno
      cases hno
    | succ k ih =>
      intro hk
      obtain ⟨x, hx, h1, h2⟩ := ih (by omega)
      obtain ⟨u, hu, hun, huirr⟩ := h.at (show k < own.length by omega)
      cases e : s.testBit k with
      | false =>
        refine ⟨x, hx, fun a v ha hv hsa => ?_, fun i hi hirr hix => ?_⟩
        · by_cases ek : a = k
          · subst ek; rw [e] at hsa; cases hsa
          · exact h1 a v (by omega) hv hsa
        · obtain ⟨a, v, ha, r⟩ := h2 i hi hirr hix
          exact ⟨a, v, by omega, r⟩
      | true =>
        refine ⟨jn n ps x u, hl.jlt hx hun, fun a v ha hv hsa => ?_, fun i hi hirr hix => ?_⟩
        · by_cases ek : a = k
          · subst ek; rw [hu] at hv; cases hv; exact hl.jr hx hun
          · exact under_trans (h1 a v (by omega) hv hsa) (hl.jl hx hun)
        · rcases irr_prime hcy hL hS hi hx hun hirr hix with hp | hp
          · obtain ⟨a, v, ha, r⟩ := h2 i hi hirr hp
            exact ⟨a, v, by omega, r⟩
          · exact ⟨k, u, by omega, hu, e, hp⟩
  obtain ⟨x, hx, h1, h2⟩ := key own.length (Nat.le_refl _)
  refine ⟨x, hx, word_ext (wordOf_lt _ _) hs fun a ha => ?_⟩
  obtain ⟨u, hu, hun, huirr⟩ := h.at ha
  rw [downOf_bit hu, Bool.eq_iff_iff]
  constructor
  · intro hux
    obtain ⟨b, v, hb, hv, hsb, huv⟩ := h2 u hun huirr hux
    exact hd a b ha hb hsb (by rw [h.under hu hv]; exact huv)
  · exact h1 a u ha hu
/-- As many things as down-sets. -/
theorem Irrs.birkhoff (hcy : ¬ Cyc n ps) (hL : latB n ps = true) (hS : shB n ps true = true) (hn : 1 ≤ n) : cntW (downB own.length less) (one own.length) = n := by
  have all : ∀ m, cntW (fun _ => true) m = m := by
    intro m
    induction m with
    | zero => rfl
    | succ m ih => rw [cntW_succ, ih]; rfl
  refine Nat.le_antisymm ?_ ?_
  · have := cntW_inj (p := downB own.length less) (q := fun _ => true) (m := one own.length) (k := n)
      (fun s => open Classical in if hx : ∃ x, x < n ∧ downOf ps own x = s then hx.choose else 0) (fun s hs hd => ?_) (fun s t hs ht hd hd2 e => ?_)
    · rw [all] at this; exact this
    · have hx := h.filled hcy hL hS hn hs (isDown_iff.1 hd)
      simp only [dif_pos hx]
      exact ⟨hx.choose_spec.1, trivial⟩
    · have hx := h.filled hcy hL hS hn hs (isDown_iff.1 hd)
      have hy := h.filled hcy hL hS hn ht (isDown_iff.1 hd2)
      simp only [dif_pos hx, dif_pos hy] at e
      rw [← hx.choose_spec.2, e, hy.choose_spec.2]
  · have := cntW_inj (p := fun _ => true) (q := downB own.length less) (m := n) (k := one own.length) (downOf ps own) (fun x hx _ => ⟨wordOf_lt _ _, isDown_iff.2 fun a b ha hb h1 h2 => ?_⟩) (fun x y hx hy _ _ e => ?_)
    · rw [all] at this; exact this
    · obtain ⟨u, hu, _, _⟩ := h.at ha
      obtain ⟨v, hv, _, _⟩ := h.at hb
      rw [downOf_bit hv] at h1
      rw [downOf_bit hu]
      rw [h.under hu hv] at h2
      exact under_trans h2 h1
    · refine irr_ext hcy hL hx hy fun i hi hirr => ?_
      obtain ⟨a, ha, hai⟩ := List.getElem_of_mem ((h.mem i).2 ⟨hi, hirr⟩)
      have hi2 : own[a]? = some i := by rw [List.getElem?_eq_getElem ha, hai]
      rw [← downOf_bit hi2, ← downOf_bit hi2, e]
end

end Go.Proofs.YtmlggmopkelcfaaDoor
