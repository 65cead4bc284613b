/- Plain mathematics: longest chains and greatest sets apart; orders turned round. -/
import Derived.Test.YtkmloanalhjmjaaChains
import Derived.Test.YtkmloanalhjmjaaW10
namespace Go.Proofs.Ytkmloanalhjmjaa
open Go.RowKit

/-! ## Counting -/
def cntN (p : Nat → Bool) : Nat → Nat
  | 0 => 0
  | k + 1 => cntN p k + (p k).toNat
theorem cntN_word (n : Nat) (p : Nat → Bool) : ∀ k, k ≤ n → bitSum k (wordOf n p) = cntN p k := by
  intro k
  induction k with
  | zero => intro _; rfl
  | succ k ih => intro hk; rw [bitSum, cntN, ih (by omega), testBit_wordOf]; simp [show k < n from by omega]
theorem pop_word {n : Nat} (hn : n ≤ 32) (p : Nat → Bool) : pop (wordOf n p) = cntN p n := by
  unfold pop
  have h := bitSum_more (m := n) (x := wordOf n p) (wordOf_lt n p) (32 - n)
  rw [show n + (32 - n) = 32 from by omega] at h
  rw [h, cntN_word n p n (Nat.le_refl _)]

def sumTo (g : Nat → Nat) : Nat → Nat
  | 0 => 0
  | k + 1 => sumTo g k + g k
theorem sumTo_le {g : Nat → Nat} {B m : Nat} (h : ∀ k, k < m → g k ≤ B) : sumTo g m ≤ m * B := by
  induction m with
  | zero => simp [sumTo]
  | succ m ih =>
    rw [sumTo, Nat.add_mul, Nat.one_mul]
    have h1 := ih fun k hk => h k (by omega)
    have h2 := h m (by omega)
    omega
theorem sumTo_add (f g : Nat → Nat) (m : Nat) : sumTo (fun k => f k + g k) m = sumTo f m + sumTo g m := by
  induction m with
  | zero => rfl
  | succ m ih => simp only [sumTo]; omega
theorem sumTo_one {H a : Nat} (h : a < H) : sumTo (fun k => (decide (a = k)).toNat) H = 1 := by
  have key : ∀ m, sumTo (fun k => (decide (a = k)).toNat) m = if a < m then 1 else 0 := by
    intro m
    induction m with
    | zero => simp [sumTo]
    | succ m ih =>
      rw [sumTo, ih]
      by_cases e : a = m
      · subst e; simp
      · have : (a < m + 1) ↔ a < m := by omega
        simp [e, this]
  rw [key, if_pos h]
/-- Each thing is in one level. -/
theorem levels {f : Nat → Nat} {H n : Nat} (h : ∀ a, a < n → f a < H) : sumTo (fun k => cntN (fun a => decide (f a = k)) n) H = n := by
  induction n with
  | zero =>
    have : ∀ m, sumTo (fun k => cntN (fun a => decide (f a = k)) 0) m = 0 := by
      intro m
      induction m with
      | zero => rfl
      | succ m ih => rw [sumTo, ih]; rfl
    exact this H
  | succ n ih =>
    have e : (fun k => cntN (fun a => decide (f a = k)) (n + 1)) = fun k => cntN (fun a => decide (f a = k)) n + (decide (f n = k)).toNat := rfl
    rw [e, sumTo_add, ih fun a ha => h a (by omega), sumTo_one (h n (by omega))]

/-! ## The greatest set apart -/
theorem widestTo_max {n : Nat} {ps : List (Int × Int)} {m k : Nat} (hk : k < m) (hf : freeB n ps k = true) : pop k ≤ pop (widestTo n ps m) := by
  induction m with
  | zero => omega
  | succ m ih =>
    have mono : pop (widestTo n ps m) ≤ pop (widestTo n ps (m + 1)) := by
      by_cases h : pop (widestTo n ps m) < pop m ∧ freeB n ps m = true
      · rw [widestTo_yes h.1 h.2]; omega
      · rw [widestTo_no h]; exact Nat.le_refl _
    by_cases e : k = m
    · subst e
      by_cases h : pop (widestTo n ps k) < pop k
      · rw [widestTo_yes h hf]; exact Nat.le_refl _
      · omega
    · have := ih (by omega)
      omega
theorem widestTo_free {n : Nat} {ps : List (Int × Int)} (m : Nat) : freeB n ps (widestTo n ps m) = true := by
  induction m with
  | zero => rw [widestTo]; exact freeB_iff.2 (fun a b _ _ h1 => by simp at h1)
  | succ m ih =>
    by_cases h : pop (widestTo n ps m) < pop m ∧ freeB n ps m = true
    · rw [widestTo_yes h.1 h.2]; exact h.2
    · rw [widestTo_no h]; exact ih

/-! ## Chains -/
/-- A list of things of which each is above those ahead of it. -/
def ChainOf (n : Nat) (ps : List (Int × Int)) (l : List Nat) : Prop := (∀ x ∈ l, x < n) ∧ l.Pairwise fun a b => ab ps a b = true
theorem tl_chain {n : Nat} {ps : List (Int × Int)} (hcy : ¬ Cyc n ps) : ∀ (s a : Nat), sAb n ps a ≤ s → a < n → ChainOf n ps (a :: tl n ps a) := by
  intro s
  induction s with
  | zero =>
    intro a hs ha
    have hno : ∀ k, k < n → ab ps a k = false := by
      intro k hk
      cases e : ab ps a k with
      | false => rfl
      | true => have := sAb_lt hcy ha hk e; omega
    rw [tl_eq hcy ha, bt_none hno]
    exact ⟨by simpa using ha, by simp⟩
  | succ s ih =>
    intro a hs ha
    rw [tl_eq hcy ha]
    by_cases h0 : 0 < maxTo (hc n ps (ab ps a)) n
    · obtain ⟨b, hb, he⟩ := bt_first h0
      have hbn := hb.1
      have hab : ab ps a b = true := by have := hb.2.1; rw [Bool.and_eq_true] at this; exact this.1
      have hs2 := sAb_lt hcy ha hbn hab
      obtain ⟨h1, h2⟩ := ih b (by omega) hbn
      rw [he]
      refine ⟨fun x hx => ?_, ?_⟩
      · rcases List.mem_cons.1 hx with rfl | hx
        · exact ha
        · exact h1 x hx
      · rw [List.pairwise_cons]
        refine ⟨fun x hx => ?_, h2⟩
        rcases List.mem_cons.1 hx with rfl | hx
        · exact hab
        · rw [List.pairwise_cons] at h2
          exact ab_trans hcy ha hbn hab (h2.1 x hx)
    · have : (bt (tl n ps) (ab ps a) n) = [] := List.eq_nil_of_length_eq_zero (by rw [bt_length]; omega)
      rw [this]
      exact ⟨by simpa using ha, by simp⟩
theorem chainW_chain {n : Nat} {ps : List (Int × Int)} (hcy : ¬ Cyc n ps) : ChainOf n ps (chainW n ps) := by
  unfold chainW
  by_cases h0 : 0 < maxTo (hc n ps (fun _ => true)) n
  · obtain ⟨b, hb, he⟩ := bt_first h0
    rw [he]
    exact tl_chain hcy _ b (Nat.le_refl _) hb.1
  · have : (bt (tl n ps) (fun _ => true) n) = [] := List.eq_nil_of_length_eq_zero (by rw [bt_length]; omega)
    rw [this]
    exact ⟨by simp, by simp⟩
theorem chain_le_hg {n : Nat} {ps : List (Int × Int)} (hcy : ¬ Cyc n ps) : ∀ (l : List Nat) (a : Nat), ChainOf n ps (a :: l) → (a :: l).length ≤ hg n ps a
  | [], a, _ => by simp [hg]
  | b :: l, a, h => by
    have ha : a < n := h.1 a (by simp)
    have hb : b < n := h.1 b (by simp)
    have h2 := h.2
    rw [List.pairwise_cons] at h2
    have := chain_le_hg hcy l b ⟨fun x hx => h.1 x (List.mem_cons_of_mem _ hx), h2.2⟩
    have hab := h2.1 b (by simp)
    rw [hg_eq hcy ha]
    have h3 := maxTo_le (g := hc n ps (ab ps a)) hb
    have h4 : hc n ps (ab ps a) b = hg n ps b := by simp [hc, hab]
    simp only [List.length_cons] at this ⊢
    omega
theorem chain_le {n : Nat} {ps : List (Int × Int)} (hcy : ¬ Cyc n ps) {l : List Nat} (h : ChainOf n ps l) : l.length ≤ (chainW n ps).length := by
  cases l with
  | nil => simp
  | cons a l =>
    have h1 := chain_le_hg hcy l a h
    have h2 := maxTo_le (g := hc n ps (fun _ => true)) (h.1 a (by simp))
    unfold chainW
    rw [bt_length]
    have h3 : hc n ps (fun _ => true) a = hg n ps a := by simp [hc]
    omega

/-- MIRSKY. -/
theorem mirsky {n : Nat} {ps : List (Int × Int)} (hn : n ≤ 6) (hcy : ¬ Cyc n ps) : n ≤ (chainW n ps).length * pop (widest n ps) := by
  have hH : ∀ a, a < n → hg n ps a - 1 < (chainW n ps).length := by
    intro a ha
    have h2 := maxTo_le (g := hc n ps (fun _ => true)) ha
    have h3 : hc n ps (fun _ => true) a = hg n ps a := by simp [hc]
    unfold chainW
    rw [bt_length]
    have : 0 < hg n ps a := by unfold hg; omega
    omega
  have h1 := levels hH
  have h2 : ∀ k, k < (chainW n ps).length → cntN (fun a => decide (hg n ps a - 1 = k)) n ≤ pop (widest n ps) := by
    intro k _
    rw [← pop_word (by omega)]
    refine widestTo_max (wordOf_lt _ _) (freeB_iff.2 fun a b hab hne t1 t2 => ?_)
    obtain ⟨ha, hb⟩ : a < n ∧ b < n := by omega
    rw [testBit_wordOf] at t1 t2
    simp only [ha, hb, decide_true, Bool.true_and, decide_eq_true_eq] at t1 t2
    cases hu : under ps a b with
    | false => rfl
    | true =>
      exfalso
      have hab2 : ab ps a b = true := ab_iff.2 ⟨hne, hu⟩
      have h5 := hg_eq hcy ha
      have h3 := maxTo_le (g := hc n ps (ab ps a)) hb
      have h4 : hc n ps (ab ps a) b = hg n ps b := by simp [hc, hab2]
      have : 0 < hg n ps b := by unfold hg; omega
      omega
  have h3 := sumTo_le h2
  omega

/-! ## Turned round -/
def turned (ps : List (Int × Int)) : List (Int × Int) := ps.map fun p => (p.2, p.1)
theorem mem_turned {ps : List (Int × Int)} {a b : Int} : (a, b) ∈ turned ps ↔ (b, a) ∈ ps := by
  unfold turned
  rw [List.mem_map]
  constructor
  · rintro ⟨⟨x, y⟩, hp, he⟩
    simp only [Prod.mk.injEq] at he
    obtain ⟨rfl, rfl⟩ := he
    exact hp
  · intro h; exact ⟨(b, a), h, rfl⟩
theorem reach_turned {ps : List (Int × Int)} {a b : Int} (h : Reach ps b a) : Reach (turned ps) a b := by
  refine h (fun z => Reach (turned ps) z b) (Reach.refl _ _) ?_
  rintro ⟨x, y⟩ hp hx
  exact ((Reach.refl (turned ps) y).step (p := (y, x)) (mem_turned.2 hp)).trans hx
theorem turned_turned (ps : List (Int × Int)) : turned (turned ps) = ps := by
  unfold turned
  rw [List.map_map]
  exact List.map_id'' (fun _ => rfl) ps
theorem under_turned (ps : List (Int × Int)) (a b : Int) : under (turned ps) a b = under ps b a := by
  rw [Bool.eq_iff_iff, under_iff, under_iff]
  constructor
  · intro h
    have := reach_turned h
    rw [turned_turned] at this
    exact this
  · exact reach_turned
theorem turned_length (ps : List (Int × Int)) : (turned ps).length = ps.length := by simp [turned]
theorem turned_cyc {n : Int} {ps : List (Int × Int)} (h : ¬ Cyc n ps) : ¬ Cyc n (turned ps) := by
  rintro ⟨i, j, h1, h2, h3, h4, h5⟩
  have e4 := reach_turned h4
  have e5 := reach_turned h5
  rw [turned_turned] at e4 e5
  exact h ⟨i, j, h1, h2, h3, e5, e4⟩
theorem turned_code {n : Int} {ps : List (Int × Int)} (h : code n ps = 0) : code n (turned ps) = 0 := by
  obtain ⟨h2, h3, h4⟩ := code_zero h
  refine code_ok ?_ ?_ (turned_cyc h4)
  · unfold Large at *; rw [turned_length]; exact h2
  · rintro ⟨x, y⟩ hp
    obtain ⟨o1, o2, o3, o4⟩ := h3 _ (mem_turned.1 hp)
    exact ⟨o3, o4, o1, o2⟩
theorem turned_free (n : Nat) (ps : List (Int × Int)) (s : Nat) : freeB n (turned ps) s = freeB n ps s := by
  rw [Bool.eq_iff_iff, freeB_iff, freeB_iff]
  constructor
  · intro h a b hab hne h1 h2
    have := h b a (by omega) (fun e => hne e.symm) h2 h1
    rw [under_turned] at this
    exact this
  · intro h a b hab hne h1 h2
    rw [under_turned]
    exact h b a (by omega) (fun e => hne e.symm) h2 h1
theorem turned_widest (n : Nat) (ps : List (Int × Int)) : widest n (turned ps) = widest n ps := by
  have : ∀ m, widestTo n (turned ps) m = widestTo n ps m := by
    intro m
    induction m with
    | zero => rfl
    | succ m ih => rw [widestTo, widestTo, ih, turned_free]
  exact this _
theorem turned_ab (ps : List (Int × Int)) (a b : Nat) : ab (turned ps) a b = ab ps b a := by
  unfold ab
  rw [under_turned]
  congr 2
  rw [decide_eq_decide]
  exact eq_comm
theorem chain_turned {n : Nat} {ps : List (Int × Int)} {l : List Nat} (h : ChainOf n ps l) : ChainOf n (turned ps) l.reverse := by
  refine ⟨fun x hx => h.1 x (List.mem_reverse.1 hx), ?_⟩
  rw [List.pairwise_reverse]
  simp only [turned_ab]
  exact h.2
theorem turned_long {n : Nat} {ps : List (Int × Int)} (hcy : ¬ Cyc n ps) : (chainW n (turned ps)).length = (chainW n ps).length := by
  have h1 := chain_le (turned_cyc hcy) (chain_turned (chainW_chain hcy))
  have h2 := chain_le (ps := turned (turned ps)) (by rw [turned_turned]; exact hcy) (chain_turned (chainW_chain (turned_cyc hcy)))
  rw [turned_turned] at h2
  rw [List.length_reverse] at h1 h2
  omega

end Go.Proofs.Ytkmloanalhjmjaa
