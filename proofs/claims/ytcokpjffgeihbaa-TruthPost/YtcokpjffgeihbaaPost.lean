/- Plain mathematics: what is put together of tables of a class has it, too (Post). -/
import Derived.Test.YtcokpjffgeihbaaTr2
import Derived.Test.YtcokpjffgeihbaaQuine
namespace Go.Proofs.Ytcokpjffgeihbaa
open Go.RowKit

theorem pop_two {t : Nat} (h : t < 16) : 1 < pop t ↔ (t ≠ 0 ∧ t ≠ 1 ∧ t ≠ 2 ∧ t ≠ 4 ∧ t ≠ 8) := by
  have : ∀ t, t < 16 → (1 < pop t ↔ (t ≠ 0 ∧ t ≠ 1 ∧ t ≠ 2 ∧ t ≠ 4 ∧ t ≠ 8)) := by decide
  exact this t h
theorem stra_few {n : Nat} (hn : n ≤ 4) {M : Nat → Bool} : straP M (one n) = true ↔ Few n M := by
  have h16 := one_le_16 hn
  unfold straP Few
  rw [List.all_eq_true]
  constructor
  · intro h t ht h0 hv
    have h1 := h t (List.mem_range.2 ht)
    have hp : 1 < pop t := (pop_two (by omega)).2 ⟨h0,
      fun e => by
        rcases Nat.lt_or_ge 0 n with h2 | h2
        · exact hv 0 h2 e
        · have : one n = 1 := by rw [show n = 0 by omega]; rfl
          omega,
      fun e => by
        rcases Nat.lt_or_ge 1 n with h2 | h2
        · exact hv 1 h2 e
        · have : one n ≤ one 1 := Nat.pow_le_pow_right (by decide) h2
          have : one 1 = 2 := rfl
          omega,
      fun e => by
        rcases Nat.lt_or_ge 2 n with h2 | h2
        · exact hv 2 h2 e
        · have : one n ≤ one 2 := Nat.pow_le_pow_right (by decide) h2
          have : one 2 = 4 := rfl
          omega,
      fun e => by
        rcases Nat.lt_or_ge 3 n with h2 | h2
        · exact hv 3 h2 e
        · have : one n ≤ one 3 := Nat.pow_le_pow_right (by decide) h2
          have : one 3 = 8 := rfl
          omega⟩
    rw [decide_eq_true hp, Bool.true_and] at h1
    simpa using h1
  · intro h t ht
    rw [List.mem_range] at ht
    by_cases hp : 1 < pop t
    · obtain ⟨p0, p1, p2, p4, p8⟩ := (pop_two (by omega)).1 hp
      rw [h t ht p0 (fun v hv e => by
        have : v = 0 ∨ v = 1 ∨ v = 2 ∨ v = 3 := by omega
        rcases this with rfl | rfl | rfl | rfl
        · exact p1 e
        · exact p2 e
        · exact p4 e
        · exact p8 e)]
      simp
    · rw [decide_eq_false hp]; rfl
/-- What is put in. -/
def inP (G : Nat → Nat → Bool) (s v : Nat) : Nat := wordOf v fun u => G u s
/-- What is put together. -/
def putF (n : Nat) (F : Nat → Bool) (G : Nat → Nat → Bool) (s : Nat) : Bool := F (inP G s n)
theorem inP_bit (G : Nat → Nat → Bool) (s n v : Nat) : (inP G s n).testBit v = (decide (v < n) && G v s) := testBit_wordOf _ _ _
theorem inP_lt (G : Nat → Nat → Bool) (s n : Nat) : inP G s n < one n := wordOf_lt _ _
theorem rise_iff {n : Nat} {F : Nat → Bool} : riseP n F (one n) = true ↔ ∀ a b, a < one n → b < one n → sub a b = true → F a = true → F b = true := by
  unfold riseP riseR
  simp only [List.all_eq_true, List.mem_range]
  constructor
  · intro h a b ha hb h1 h2
    have := h a ha b hb
    rw [h1, h2] at this
    simpa using this
  · intro h a ha b hb
    cases h1 : sub a b with
    | false => rfl
    | true =>
      cases h2 : F a with
      | false => rfl
      | true => rw [h a b ha hb h1 h2]; rfl
theorem self_iff {n : Nat} {F : Nat → Bool} : selfB n F = true ↔ ∀ s, s < one n → F s = !F (full n - s) := by
  unfold selfB dualF
  simp only [List.all_eq_true, List.mem_range, beq_iff_eq]
/-- Post. -/
theorem post {n : Nat} (hn : n ≤ 4) {F : Nat → Bool} {G : Nat → Nat → Bool} {a : Nat} (hF : sub a (classF n F) = true) (hG : ∀ v, v < n → sub a (classF n (G v)) = true) : sub a (classF n (putF n F G)) = true := by
  have h16 := one_le_16 hn
  have h1p := one_pos n
  have ha : a < one 5 := lt_of_sub hF (class_lt n F)
  refine sub_iff.2 fun i hi => ?_
  have hi5 := bit_lt ha hi
  have f1 := sub_iff.1 hF i hi
  have g1 := fun v hv => sub_iff.1 (hG v hv) i hi
  unfold classF at f1 g1 ⊢
  have : i = 0 ∨ i = 1 ∨ i = 2 ∨ i = 3 ∨ i = 4 := by omega
  rcases this with rfl | rfl | rfl | rfl | rfl
  · simp only [cls_bit0] at f1 g1 ⊢
    unfold putF
    have e : inP G 0 n = 0 := by
      refine word_ext (inP_lt _ _ _) h1p fun v hv => ?_
      rw [inP_bit]
      have := g1 v hv
      simp at this
      simp [this]
    rw [e]; exact f1
  · simp only [cls_bit1] at f1 g1 ⊢
    unfold putF
    have e : inP G (full n) n = full n := by
      refine word_ext (inP_lt _ _ _) (full_lt n) fun v hv => ?_
      rw [inP_bit, full_bit, g1 v hv]
      simp
    rw [e]; exact f1
  · simp only [cls_bit2] at f1 g1 ⊢
    rw [self_iff] at f1 ⊢
    intro s hs
    unfold putF
    have e : inP G (full n - s) n = full n - inP G s n := by
      refine word_ext (inP_lt _ _ _) comp_lt fun v hv => ?_
      rw [inP_bit, comp_bit (inP_lt _ _ _) hv, inP_bit, (self_iff.1 (g1 v hv)) s hs]
      simp [hv]
    rw [e]
    exact f1 _ (inP_lt _ _ _)
  · simp only [cls_bit3] at f1 g1 ⊢
    rw [rise_iff] at f1 ⊢
    intro x y hx hy hs
    unfold putF
    refine f1 _ _ (inP_lt _ _ _) (inP_lt _ _ _) (sub_iff.2 fun v hv => ?_)
    rw [inP_bit, Bool.and_eq_true] at hv ⊢
    exact ⟨hv.1, rise_iff.1 (g1 v (by simpa using hv.1)) x y hx hy hs hv.2⟩
  · simp only [cls_bit4] at f1 g1 ⊢
    rw [stra_few hn, few_iff] at f1 ⊢
    obtain ⟨c0, c, hc⟩ := f1
    have g2 : ∀ v, ∃ d0 d, v < n → ∀ s, s < one n → G v s = lin n d0 d s := fun v => by
      by_cases hv : v < n
      · have := g1 v hv
        rw [stra_few hn, few_iff] at this
        obtain ⟨d0, d, h⟩ := this
        exact ⟨d0, d, fun _ => h⟩
      · exact ⟨false, fun _ => false, fun h => absurd h hv⟩
    obtain ⟨d0, hd0⟩ : ∃ d0 : Nat → Bool, ∀ v, ∃ d, v < n → ∀ s, s < one n → G v s = lin n (d0 v) d s := ⟨fun v => Classical.choose (g2 v), fun v => Classical.choose_spec (g2 v)⟩
    obtain ⟨d, hd⟩ : ∃ d : Nat → Nat → Bool, ∀ v, v < n → ∀ s, s < one n → G v s = lin n (d0 v) (d v) s := ⟨fun v => Classical.choose (hd0 v), fun v => Classical.choose_spec (hd0 v)⟩
    refine ⟨c0 ^^ par n fun v => d0 v && c v, fun u => par n fun v => d v u && c v, fun s hs => ?_⟩
    unfold putF
    rw [hc _ (inP_lt _ _ _)]
    exact lin_comp (G := G) (d0 := d0) (d := d) (fun v hv => hd v hv s hs) (fun v hv => by rw [inP_bit]; simp [hv])
theorem class_true : classF 0 (atB [true]) = 26 := by decide

end Go.Proofs.Ytcokpjffgeihbaa
