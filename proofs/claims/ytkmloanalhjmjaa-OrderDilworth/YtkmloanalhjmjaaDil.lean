/- Plain mathematics: chains out of a matching, and Dilworth. -/
import Derived.Test.YtkmloanalhjmjaaKuhn
namespace Go.Proofs.Ytkmloanalhjmjaa
open Go.RowKit

/-- Who stands after x. -/
def IsAft (n : Nat) (m : Bef) (x : Nat) (r : Option Nat) : Prop := match r with
  | some b => b < n ∧ m b = some x
  | none => ∀ b, b < n → m b ≠ some x
/-- After: for each thing. -/
def Afts (n : Nat) (m : Bef) (f : Bef) : Prop := ∀ x, x < n → IsAft n m x (f x)

/-- The chain from x on. -/
def walkF (f : Bef) : Nat → Nat → List Nat
  | 0, x => [x]
  | k + 1, x => x :: (match f x with
    | none => []
    | some b => walkF f k b)

/-- A full list of things: each once. -/
structure Full (n : Nat) (l : List Nat) : Prop where
  nodup : l.Nodup
  lt : ∀ x ∈ l, x < n
  len : l.length = n
theorem cntN_filter (p : Nat → Bool) (n : Nat) : cntN p n = ((List.range n).filter p).length := by
  induction n with
  | zero => rfl
  | succ n ih =>
    rw [cntN, ih, List.range_succ, List.filter_append, List.length_append]
    cases h : p n <;> simp [h]
theorem Full.mem {n : Nat} {l : List Nat} (h : Full n l) {x : Nat} (hx : x < n) : x ∈ l := full_mem h.nodup h.len h.lt hx
theorem Full.count {n : Nat} {l : List Nat} (h : Full n l) (p : Nat → Bool) : (l.filter p).length = cntN p n := by
  rw [cntN_filter]
  have h1 := nodup_sub_length (l.filter p) ((List.range n).filter p) (h.nodup.filter _) (fun x hx => by
    rw [List.mem_filter] at hx ⊢
    exact ⟨by simpa using h.lt x hx.1, hx.2⟩)
  have h2 := nodup_sub_length ((List.range n).filter p) (l.filter p) (List.nodup_range.filter _) (fun x hx => by
    rw [List.mem_filter] at hx ⊢
    exact ⟨h.mem (by simpa using hx.1), hx.2⟩)
  omega

section
variable {n : Nat} {ps : List (Int × Int)} {m f : Bef}

theorem aft_ab (hm : Mat n (ab ps) m) (hf : Afts n m f) {x b : Nat} (hx : x < n) (h : f x = some b) : b < n ∧ m b = some x ∧ ab ps x b = true := by
  have h1 := hf x hx
  rw [h] at h1
  exact ⟨h1.1, h1.2, (hm.edge b x h1.1 h1.2).2⟩
theorem aft_of (hm : Mat n (ab ps) m) (hf : Afts n m f) {x b : Nat} (hb : b < n) (h : m b = some x) : f x = some b := by
  have hx := (hm.edge b x hb h).1
  have h1 := hf x hx
  cases e : f x with
  | none => rw [e] at h1; exact absurd h (h1 b hb)
  | some b' =>
    rw [e] at h1
    rw [hm.inj b' b x h1.1 hb h1.2 h]

/-- With enough fuel the chain goes on to its end. -/
theorem walkF_eq (hcy : ¬ Cyc n ps) (hm : Mat n (ab ps) m) (hf : Afts n m f) : ∀ (k k' x : Nat), x < n → sAb n ps x ≤ k → sAb n ps x ≤ k' → walkF f k x = walkF f k' x
  | 0, 0, _, _, _, _ => rfl
  | 0, k' + 1, x, hx, h, _ => by
    rw [walkF, walkF]
    cases e : f x with
    | none => rfl
    | some b =>
      obtain ⟨hb, _, hab⟩ := aft_ab hm hf hx e
      have := sAb_lt hcy hx hb hab
      omega
  | k + 1, 0, x, hx, _, h => by
    rw [walkF, walkF]
    cases e : f x with
    | none => rfl
    | some b =>
      obtain ⟨hb, _, hab⟩ := aft_ab hm hf hx e
      have := sAb_lt hcy hx hb hab
      omega
  | k + 1, k' + 1, x, hx, h, h' => by
    rw [walkF, walkF]
    cases e : f x with
    | none => rfl
    | some b =>
      obtain ⟨hb, _, hab⟩ := aft_ab hm hf hx e
      have := sAb_lt hcy hx hb hab
      simp only
      rw [walkF_eq hcy hm hf k k' b hb (by omega) (by omega)]

/-- The chain from x on. -/
def chF (n : Nat) (f : Bef) (x : Nat) : List Nat := walkF f n x
theorem chF_step (hcy : ¬ Cyc n ps) (hm : Mat n (ab ps) m) (hf : Afts n m f) {x : Nat} (hx : x < n) : chF n f x = x :: (match f x with
    | none => []
    | some b => chF n f b) := by
  have hs := sAb_n ps hx
  unfold chF
  cases n with
  | zero => omega
  | succ k =>
    conv => lhs; rw [walkF]
    cases e : f x with
    | none => rfl
    | some b =>
      obtain ⟨hb, _, hab⟩ := aft_ab hm hf hx e
      have := sAb_lt hcy hx hb hab
      simp only
      rw [walkF_eq hcy hm hf k (k + 1) b hb (by omega) (by omega)]

theorem chF_chain (hcy : ¬ Cyc n ps) (hm : Mat n (ab ps) m) (hf : Afts n m f) : ∀ (s x : Nat), sAb n ps x ≤ s → x < n → ChainOf n ps (chF n f x) := by
  intro s
  induction s with
  | zero =>
    intro x hs hx
    rw [chF_step hcy hm hf hx]
    cases e : f x with
    | none => exact ⟨by simpa using hx, by simp⟩
    | some b =>
      obtain ⟨hb, _, hab⟩ := aft_ab hm hf hx e
      have := sAb_lt hcy hx hb hab
      omega
  | succ s ih =>
    intro x hs hx
    rw [chF_step hcy hm hf hx]
    cases e : f x with
    | none => exact ⟨by simpa using hx, by simp⟩
    | some b =>
      obtain ⟨hb, _, hab⟩ := aft_ab hm hf hx e
      have hs2 := sAb_lt hcy hx hb hab
      obtain ⟨h1, h2⟩ := ih b (by omega) hb
      simp only
      refine ⟨fun y hy => ?_, ?_⟩
      · rcases List.mem_cons.1 hy with rfl | hy
        · exact hx
        · exact h1 y hy
      · rw [List.pairwise_cons]
        refine ⟨fun y hy => ?_, h2⟩
        have h3 := h2
        rw [chF_step hcy hm hf hb] at hy h3
        rcases List.mem_cons.1 hy with rfl | hy
        · exact hab
        · rw [List.pairwise_cons] at h3
          exact ab_trans hcy hx hb hab (h3.1 y hy)

theorem chain_nodup {l : List Nat} (h : ChainOf n ps l) : l.Nodup := by
  induction l with
  | nil => simp
  | cons x l ih =>
    have h2 := h.2
    rw [List.pairwise_cons] at h2
    rw [List.nodup_cons]
    refine ⟨fun hx => ?_, ih ⟨fun y hy => h.1 y (List.mem_cons_of_mem _ hy), h2.2⟩⟩
    have := (ab_iff.1 (h2.1 x hx)).1
    exact this rfl

/-- Where a thing other than the first stands in a chain, the one before it stands there. -/
theorem chF_back (hcy : ¬ Cyc n ps) (hm : Mat n (ab ps) m) (hf : Afts n m f) : ∀ (s x y : Nat), sAb n ps x ≤ s → x < n → y ∈ chF n f x → y = x ∨ ∃ z, m y = some z ∧ z ∈ chF n f x := by
  intro s
  induction s with
  | zero =>
    intro x y hs hx hy
    rw [chF_step hcy hm hf hx] at hy
    cases e : f x with
    | none => rw [e] at hy; simp at hy; exact .inl hy
    | some b =>
      obtain ⟨hb, _, hab⟩ := aft_ab hm hf hx e
      have := sAb_lt hcy hx hb hab
      omega
  | succ s ih =>
    intro x y hs hx hy
    rw [chF_step hcy hm hf hx] at hy ⊢
    cases e : f x with
    | none => rw [e] at hy; simp at hy; exact .inl hy
    | some b =>
      rw [e] at hy
      obtain ⟨hb, hmb, hab⟩ := aft_ab hm hf hx e
      have hs2 := sAb_lt hcy hx hb hab
      rcases List.mem_cons.1 hy with rfl | hy
      · exact .inl rfl
      · simp only at hy ⊢
        rcases ih b y (by omega) hb hy with rfl | ⟨z, h1, h2⟩
        · exact .inr ⟨x, hmb, by simp⟩
        · exact .inr ⟨z, h1, List.mem_cons_of_mem _ h2⟩
/-- A chain goes on with who stands after. -/
theorem chF_next (hcy : ¬ Cyc n ps) (hm : Mat n (ab ps) m) (hf : Afts n m f) : ∀ (s x y b : Nat), sAb n ps x ≤ s → x < n → y ∈ chF n f x → b < n → m b = some y → b ∈ chF n f x := by
  intro s
  induction s with
  | zero =>
    intro x y b hs hx hy hb h
    rw [chF_step hcy hm hf hx] at hy
    cases e : f x with
    | none =>
      rw [e] at hy; simp at hy; subst hy
      have := aft_of hm hf hb h
      rw [e] at this
      cases this
    | some c =>
      obtain ⟨hc, _, hab⟩ := aft_ab hm hf hx e
      have := sAb_lt hcy hx hc hab
      omega
  | succ s ih =>
    intro x y b hs hx hy hb h
    rw [chF_step hcy hm hf hx] at hy ⊢
    cases e : f x with
    | none =>
      rw [e] at hy; simp at hy; subst hy
      have := aft_of hm hf hb h
      rw [e] at this
      cases this
    | some c =>
      rw [e] at hy
      obtain ⟨hc, _, hab⟩ := aft_ab hm hf hx e
      have hs2 := sAb_lt hcy hx hc hab
      rcases List.mem_cons.1 hy with rfl | hy
      · have := aft_of hm hf hb h
        rw [e] at this
        injection this with this
        subst this
        simp only
        refine List.mem_cons_of_mem _ ?_
        rw [chF_step hcy hm hf hc]
        simp
      · simp only at hy ⊢
        exact List.mem_cons_of_mem _ (ih c y b (by omega) hc hy hb h)

/-- How many are below x: for going back. -/
noncomputable def sBe (n : Nat) (ps : List (Int × Int)) (a : Nat) : Nat := ((List.range n).filter fun b => ab ps b a).length
theorem sBe_lt (hcy : ¬ Cyc n ps) {a b : Nat} (ha : a < n) (h : ab ps a b = true) : sBe n ps a < sBe n ps b := by
  refine filter_lt (fun x hx hxa => ab_trans hcy (by simpa using hx) ha hxa h) ⟨a, by simpa using ha, h, ?_⟩
  simp [ab]

/-- Two chains that share a thing begin alike. -/
theorem chF_apart (hcy : ¬ Cyc n ps) (hm : Mat n (ab ps) m) (hf : Afts n m f) {x x' : Nat} (hx : x < n) (hx' : x' < n) (h0 : m x = none) (h0' : m x' = none) : ∀ (s y : Nat), sBe n ps y ≤ s → y ∈ chF n f x → y ∈ chF n f x' → x = x' := by
  intro s
  induction s with
  | zero =>
    intro y hs hy hy'
    have hyn := (chF_chain hcy hm hf _ x (Nat.le_refl _) hx).1 y hy
    rcases chF_back hcy hm hf _ x y (Nat.le_refl _) hx hy with rfl | ⟨z, h1, h2⟩
    · rcases chF_back hcy hm hf _ x' y (Nat.le_refl _) hx' hy' with rfl | ⟨z, h1, _⟩
      · rfl
      · rw [h0] at h1; cases h1
    · obtain ⟨hz, hzy⟩ := hm.edge y z hyn h1
      have := sBe_lt hcy hz hzy
      omega
  | succ s ih =>
    intro y hs hy hy'
    have hyn := (chF_chain hcy hm hf _ x (Nat.le_refl _) hx).1 y hy
    rcases chF_back hcy hm hf _ x y (Nat.le_refl _) hx hy with rfl | ⟨z, h1, h2⟩
    · rcases chF_back hcy hm hf _ x' y (Nat.le_refl _) hx' hy' with rfl | ⟨z, h1, _⟩
      · rfl
      · rw [h0] at h1; cases h1
    · rcases chF_back hcy hm hf _ x' y (Nat.le_refl _) hx' hy' with rfl | ⟨z', h1', h2'⟩
      · rw [h0'] at h1; cases h1
      · rw [h1] at h1'
        injection h1' with h1'
        subst h1'
        obtain ⟨hz, hzy⟩ := hm.edge y z hyn h1
        have := sBe_lt hcy hz hzy
        exact ih z (by omega) h2 h2'
/-- Each thing stands in a chain. -/
theorem chF_all (hcy : ¬ Cyc n ps) (hm : Mat n (ab ps) m) (hf : Afts n m f) : ∀ (s y : Nat), sBe n ps y ≤ s → y < n → ∃ x, x < n ∧ m x = none ∧ y ∈ chF n f x := by
  intro s
  induction s with
  | zero =>
    intro y hs hy
    cases e : m y with
    | none => exact ⟨y, hy, e, by rw [chF_step hcy hm hf hy]; simp⟩
    | some z =>
      obtain ⟨hz, hzy⟩ := hm.edge y z hy e
      have := sBe_lt hcy hz hzy
      omega
  | succ s ih =>
    intro y hs hy
    cases e : m y with
    | none => exact ⟨y, hy, e, by rw [chF_step hcy hm hf hy]; simp⟩
    | some z =>
      obtain ⟨hz, hzy⟩ := hm.edge y z hy e
      have := sBe_lt hcy hz hzy
      obtain ⟨x, h1, h2, h3⟩ := ih z (by omega) hz
      exact ⟨x, h1, h2, chF_next hcy hm hf _ x z y (Nat.le_refl _) h1 h3 hy e⟩

/-- The chains of the first k. -/
def chL (n : Nat) (m f : Bef) : Nat → List (List Nat)
  | 0 => []
  | k + 1 => chL n m f k ++ (if (m k).isNone then [chF n f k] else [])
theorem chL_yes {k : Nat} (h : m k = none) : chL n m f (k + 1) = chL n m f k ++ [chF n f k] := by rw [chL, h]; rfl
theorem chL_no {k a : Nat} (h : m k = some a) : chL n m f (k + 1) = chL n m f k := by rw [chL, h]; simp
theorem chL_length (k : Nat) : (chL n m f k).length = cntN (fun b => (m b).isNone) k := by
  induction k with
  | zero => rfl
  | succ k ih => rw [chL, cntN, List.length_append, ih]; cases (m k).isNone <;> simp
theorem mem_chL {k : Nat} {c : List Nat} : c ∈ chL n m f k ↔ ∃ x, x < k ∧ m x = none ∧ c = chF n f x := by
  induction k with
  | zero => simp [chL]
  | succ k ih =>
    rw [chL, List.mem_append, ih]
    constructor
    · rintro (⟨x, hx, h0, rfl⟩ | h)
      · exact ⟨x, by omega, h0, rfl⟩
      · cases e : m k with
        | none => rw [e] at h; simp at h; exact ⟨k, by omega, e, h⟩
        | some a => rw [e] at h; simp at h
    · rintro ⟨x, hx, h0, rfl⟩
      by_cases e : x = k
      · subst e; right; simp [h0]
      · exact .inl ⟨x, by omega, h0, rfl⟩
theorem chL_nodup (hcy : ¬ Cyc n ps) (hm : Mat n (ab ps) m) (hf : Afts n m f) {k : Nat} (hk : k ≤ n) : (chL n m f k).flatten.Nodup := by
  induction k with
  | zero => simp [chL]
  | succ k ih =>
    cases e : m k with
    | some a => rw [chL_no e]; exact ih (by omega)
    | none =>
      rw [chL_yes e, List.flatten_append, List.nodup_append]
      refine ⟨ih (by omega), by simpa using chain_nodup (chF_chain hcy hm hf _ k (Nat.le_refl _) (by omega)), fun y hy y' hy' hyy => ?_⟩
      subst hyy
      simp at hy'
      obtain ⟨c, hc, hyc⟩ := List.mem_flatten.1 hy
      obtain ⟨x, hx, h0, rfl⟩ := mem_chL.1 hc
      have := chF_apart hcy hm hf (by omega) (by omega) h0 e _ y (Nat.le_refl _) hyc hy'
      omega
/-- Together they have each thing once. -/
theorem chL_full (hcy : ¬ Cyc n ps) (hm : Mat n (ab ps) m) (hf : Afts n m f) : Full n (chL n m f n).flatten := by
  have hnd := chL_nodup hcy hm hf (Nat.le_refl n)
  have hlt : ∀ y ∈ (chL n m f n).flatten, y < n := by
    intro y hy
    obtain ⟨c, hc, hyc⟩ := List.mem_flatten.1 hy
    obtain ⟨x, hx, h0, rfl⟩ := mem_chL.1 hc
    exact (chF_chain hcy hm hf _ x (Nat.le_refl _) hx).1 y hyc
  refine ⟨hnd, hlt, ?_⟩
  have h1 := nodup_sub_length _ (List.range n) hnd (fun y hy => by simpa using hlt y hy)
  have h2 := nodup_sub_length (List.range n) (chL n m f n).flatten List.nodup_range (fun y hy => by
    obtain ⟨x, hx, h0, hc⟩ := chF_all hcy hm hf _ y (Nat.le_refl _) (by simpa using hy)
    exact List.mem_flatten.2 ⟨chF n f x, mem_chL.2 ⟨x, hx, h0, rfl⟩, hc⟩)
  rw [List.length_range] at h1 h2
  omega

/-- A set apart has at most one of a chain. -/
theorem chain_one {s : Nat} (hs : freeB n ps s = true) : ∀ {l : List Nat}, ChainOf n ps l → (l.filter fun i => s.testBit i).length ≤ 1
  | [], _ => by simp
  | x :: l, h => by
    have h2 := h.2
    rw [List.pairwise_cons] at h2
    have hl : ChainOf n ps l := ⟨fun y hy => h.1 y (List.mem_cons_of_mem _ hy), h2.2⟩
    cases hx : s.testBit x with
    | false => simpa [hx] using chain_one hs hl
    | true =>
      have : l.filter (fun i => s.testBit i) = [] := by
        rw [List.filter_eq_nil_iff]
        intro y hy hyb
        have hab := ab_iff.1 (h2.1 y hy)
        have := freeB_iff.1 hs x y (.inl ⟨h.1 x (by simp), h.1 y (List.mem_cons_of_mem _ hy)⟩) hab.1 hx hyb
        rw [hab.2] at this
        cases this
      simp [hx, this]

theorem flatten_count {p : Nat → Bool} : ∀ {L : List (List Nat)}, (∀ c ∈ L, (c.filter p).length ≤ 1) → (L.flatten.filter p).length ≤ L.length ∧ ((L.flatten.filter p).length = L.length → ∀ c ∈ L, (c.filter p).length = 1)
  | [], _ => by simp
  | c :: L, h => by
    have h1 := h c (by simp)
    obtain ⟨h2, h3⟩ := flatten_count (L := L) fun d hd => h d (List.mem_cons_of_mem _ hd)
    rw [List.flatten_cons, List.filter_append, List.length_append, List.length_cons]
    refine ⟨by omega, fun he d hd => ?_⟩
    rcases List.mem_cons.1 hd with rfl | hd
    · omega
    · exact h3 (by omega) d hd

end

theorem cntN_add {p q r : Nat → Bool} {n : Nat} (h : ∀ k, k < n → (p k).toNat + (q k).toNat ≤ (r k).toNat) : cntN p n + cntN q n ≤ cntN r n := by
  induction n with
  | zero => simp [cntN]
  | succ n ih => simp only [cntN]; have h1 := ih fun k hk => h k (by omega); have h2 := h n (by omega); omega
theorem cntN_sub {p q r : Nat → Bool} {n : Nat} (h : ∀ k, k < n → (r k).toNat ≤ (p k).toNat + (q k).toNat) : cntN r n ≤ cntN p n + cntN q n := by
  induction n with
  | zero => simp [cntN]
  | succ n ih => simp only [cntN]; have h1 := ih fun k hk => h k (by omega); have h2 := h n (by omega); omega
theorem cntN_inj {p q : Nat → Bool} {n : Nat} (g : Nat → Nat) (h1 : ∀ k, k < n → p k = true → g k < n ∧ q (g k) = true) (h2 : ∀ k k', k < n → k' < n → p k = true → p k' = true → g k = g k' → k = k') : cntN p n ≤ cntN q n := by
  rw [cntN_filter, cntN_filter]
  have := nodup_sub_length (((List.range n).filter p).map g) ((List.range n).filter q) (nodup_map (List.nodup_range.filter _) (fun a ha b hb he => by
    rw [List.mem_filter] at ha hb
    exact h2 a b (by simpa using ha.1) (by simpa using hb.1) ha.2 hb.2 he)) (fun x hx => by
    obtain ⟨k, hk, rfl⟩ := List.mem_map.1 hx
    rw [List.mem_filter] at hk ⊢
    have := h1 k (by simpa using hk.1) hk.2
    exact ⟨by simpa using this.1, this.2⟩)
  rw [List.length_map] at this
  exact this

open Classical in
/-- DILWORTH: there are no fewer things apart than chains. -/
theorem dilworth_ge {n : Nat} {ps : List (Int × Int)} (hn : n ≤ 6) {m : Bef} {F D : Nat → Bool} (h : Run n (ab ps) m F D n) : cntN (fun b => (m b).isNone) n ≤ pop (widest n ps) := by
  have hmany := h.many
  let G : Nat → Bool := fun v => decide (∃ b, b < n ∧ D b = true ∧ m b = some v)
  let L : Nat → Bool := fun v => F v || G v
  let S : Nat → Bool := fun v => L v && !D v
  have hFG : ∀ v, F v = true → G v = false := by
    intro v hv
    cases e : G v with
    | false => rfl
    | true =>
      obtain ⟨b, hb, _, hb2⟩ := of_decide_eq_true e
      have := (h.mine b v hb hb2).2
      rw [hv] at this
      cases this
  have h1 : cntN F n + cntN G n ≤ cntN L n := cntN_add fun v _ => by
    show (F v).toNat + (G v).toNat ≤ (F v || G v).toNat
    cases hf : F v with
    | false => simp
    | true => simp [hFG v hf]
  have h2 : cntN D n ≤ cntN G n := by
    refine cntN_inj (fun b => (m b).getD 0) (fun b hb hd => ?_) (fun b b' hb hb' hd hd' he => ?_)
    · obtain ⟨x, hx, _⟩ := h.dead b hb hd
      have := (h.mat.edge b x hb hx).1
      simp only [hx, Option.getD_some]
      exact ⟨this, decide_eq_true ⟨b, hb, hd, hx⟩⟩
    · obtain ⟨x, hx, _⟩ := h.dead b hb hd
      obtain ⟨x', hx', _⟩ := h.dead b' hb' hd'
      simp only [hx, hx', Option.getD_some] at he
      subst he
      exact h.mat.inj b b' x hb hb' hx hx'
  have h3 : cntN L n ≤ cntN S n + cntN D n := cntN_sub fun v _ => by
    show (L v).toNat ≤ (L v && !D v).toNat + (D v).toNat
    cases L v <;> cases D v <;> simp
  have h4 : cntN S n ≤ pop (widest n ps) := by
    rw [← pop_word (by omega)]
    refine widestTo_max (wordOf_lt _ _) (freeB_iff.2 fun a b hab hne t1 t2 => ?_)
    obtain ⟨ha, hb⟩ : a < n ∧ b < n := by omega
    rw [testBit_wordOf] at t1 t2
    simp only [ha, hb, decide_true, Bool.true_and] at t1 t2
    cases hu : under ps a b with
    | false => rfl
    | true =>
      exfalso
      have hE : ab ps a b = true := ab_iff.2 ⟨hne, hu⟩
      have hDb : D b = false := by
        have : (L b && !D b) = true := t2
        rw [Bool.and_eq_true] at this
        simpa using this.2
      have hLa : (F a || G a) = true := by
        have : (L a && !D a) = true := t1
        rw [Bool.and_eq_true] at this
        exact this.1
      have : D b = true := by
        rcases Bool.or_eq_true_iff.1 hLa with hF | hG
        · exact (h.lost a hF).2 b hb hE
        · obtain ⟨c, hc, hDc, hmc⟩ := of_decide_eq_true hG
          obtain ⟨x, hx, hall⟩ := h.dead c hc hDc
          rw [hmc] at hx
          injection hx with hx
          subst hx
          exact hall b hb hE
      rw [hDb] at this
      cases this
  omega

/-- DILWORTH: as few chains as things are apart; each chain has one of them. -/
theorem dilworth {n : Nat} {ps : List (Int × Int)} (hn : n ≤ 6) (hcy : ¬ Cyc n ps) {m f : Bef} {F D : Nat → Bool} (h : Run n (ab ps) m F D n) (hf : Afts n m f) :
    (chL n m f n).length = pop (widest n ps) ∧ ∀ c ∈ chL n m f n, (c.filter fun i => (widest n ps).testBit i).length = 1 := by
  have hfull := chL_full hcy h.mat hf
  have hfree : freeB n ps (widest n ps) = true := widestTo_free _
  have hone : ∀ c ∈ chL n m f n, (c.filter fun i => (widest n ps).testBit i).length ≤ 1 := by
    intro c hc
    obtain ⟨x, hx, h0, rfl⟩ := mem_chL.1 hc
    exact chain_one hfree (chF_chain hcy h.mat hf _ x (Nat.le_refl _) hx)
  obtain ⟨h1, h2⟩ := flatten_count hone
  rw [hfull.count] at h1 h2
  have hge := dilworth_ge hn h
  rw [← chL_length (n := n) (f := f)] at hge
  have hwl : widest n ps < one n ∨ widest n ps = 0 := by
    have : ∀ k, widestTo n ps k < k ∨ widestTo n ps k = 0 := by
      intro k
      induction k with
      | zero => right; rfl
      | succ k ih => rw [widestTo]; split <;> omega
    exact this _
  have hpw : pop (widest n ps) = cntN (fun i => (widest n ps).testBit i) n := by
    have hlt : widest n ps < one n := by
      rcases hwl with h | h
      · exact h
      · rw [h]; exact one_pos n
    have : widest n ps = wordOf n fun i => (widest n ps).testBit i := wordOf_of hlt fun _ _ => rfl
    conv => lhs; rw [this]
    exact pop_word (by omega) _
  rw [← hpw] at h1 h2
  exact ⟨by omega, h2 (by omega)⟩

end Go.Proofs.Ytkmloanalhjmjaa
