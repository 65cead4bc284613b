/- Plain mathematics of lattices: joins in an order given by pairs, and lattices as such. -/
import Derived.Test.YtmlggmopkelcfaaDoorTurn
namespace Go.Proofs.YtmlggmopkelcfaaDoor
open Go.RowKit

/-! ## Joins, as they are looked for -/
/-- Is c above a and b, and below the first d things that are above a and b? -/
noncomputable def jB (ps : List (Int × Int)) (a b c : Nat) : Nat → Bool
  | 0 => under ps a c && under ps b c
  | d + 1 => jB ps a b c d && (!under ps a d || !under ps b d || under ps c d)
/-- c is the join of a and b. -/
structure IsJ (n : Nat) (ps : List (Int × Int)) (a b c : Nat) : Prop where
  lt : c < n
  left : under ps a c = true
  right : under ps b c = true
  least : ∀ d : Nat, d < n → under ps a d = true → under ps b d = true → under ps c d = true
theorem jB_iff {ps : List (Int × Int)} {a b c m : Nat} : jB ps a b c m = true ↔ under ps a c = true ∧ under ps b c = true ∧ ∀ d : Nat, d < m → under ps a d = true → under ps b d = true → under ps c d = true := by
  induction m with
  | zero => simp [jB]
  | succ m ih =>
    rw [jB, Bool.and_eq_true, ih]
    constructor
    · rintro ⟨⟨h1, h2, h3⟩, h4⟩
      refine ⟨h1, h2, fun d hd k1 k2 => ?_⟩
      by_cases e : d = m
      · subst e; simpa [k1, k2] using h4
      · exact h3 d (by omega) k1 k2
    · rintro ⟨h1, h2, h3⟩
      refine ⟨⟨h1, h2, fun d hd => h3 d (by omega)⟩, ?_⟩
      cases k1 : under ps a m with
      | false => simp
      | true =>
        cases k2 : under ps b m with
        | false => simp
        | true => simp [h3 m (by omega) k1 k2]
theorem jB_isJ {n : Nat} {ps : List (Int × Int)} {a b c : Nat} : jB ps a b c n = true ∧ c < n ↔ IsJ n ps a b c := by
  rw [jB_iff]
  exact ⟨fun ⟨⟨h1, h2, h3⟩, h4⟩ => ⟨h4, h1, h2, h3⟩, fun h => ⟨⟨h.left, h.right, h.least⟩, h.lt⟩⟩
/-- The join of a and b; below 0: there is none. -/
noncomputable def joined (n : Nat) (ps : List (Int × Int)) (a b : Nat) : Int :=
  match (List.range n).find? fun c => jB ps a b c n with
  | some c => (c : Int)
  | none => -1
theorem joined_at {n : Nat} {ps : List (Int × Int)} {a b c : Nat} (hc : c < n) (h : jB ps a b c n = true) (hno : ∀ d, d < c → jB ps a b d n = false) : joined n ps a b = c := by
  unfold joined
  rw [show (List.range n).find? (fun c => jB ps a b c n) = some c from List.find?_range_eq_some.2 ⟨h, by simpa using hc, fun d hd => by simp [hno d hd]⟩]
theorem joined_none {n : Nat} {ps : List (Int × Int)} {a b : Nat} (hno : ∀ d, d < n → jB ps a b d n = false) : joined n ps a b = -1 := by
  unfold joined
  rw [show (List.range n).find? (fun c => jB ps a b c n) = none from List.find?_range_eq_none.2 fun d hd => by simp [hno d hd]]
theorem joined_cases (n : Nat) (ps : List (Int × Int)) (a b : Nat) : (joined n ps a b = -1 ∧ ∀ c, ¬ IsJ n ps a b c) ∨ ∃ c : Nat, joined n ps a b = c ∧ IsJ n ps a b c := by
  cases h : (List.range n).find? fun c => jB ps a b c n with
  | none =>
    left
    refine ⟨by unfold joined; rw [h], fun c hc => ?_⟩
    obtain ⟨h1, h2⟩ := jB_isJ.2 hc
    have := List.find?_range_eq_none.1 h c h2
    simp [h1] at this
  | some c =>
    right
    obtain ⟨h1, h2, _⟩ := List.find?_range_eq_some.1 h
    exact ⟨c, by unfold joined; rw [h], jB_isJ.1 ⟨h1, by simpa using h2⟩⟩
theorem joined_lt (n : Nat) (ps : List (Int × Int)) (a b : Nat) : joined n ps a b < n ∨ joined n ps a b = -1 := by
  rcases joined_cases n ps a b with ⟨h, _⟩ | ⟨c, h, hj⟩
  · exact .inr h
  · left; have := hj.lt; omega

/-! ## The order -/
theorem under_refl (ps : List (Int × Int)) (a : Int) : under ps a a = true := under_iff.2 (Reach.refl _ _)
theorem under_trans {ps : List (Int × Int)} {a b c : Int} (h : under ps a b = true) (k : under ps b c = true) : under ps a c = true := under_iff.2 ((under_iff.1 h).trans (under_iff.1 k))
theorem under_anti {n : Nat} {ps : List (Int × Int)} (hcy : ¬ Cyc n ps) {a b : Nat} (ha : a < n) (hb : b < n) (h : under ps a b = true) (k : under ps b a = true) : a = b := by
  rcases Nat.lt_trichotomy a b with e | e | e
  · exact absurd ⟨b, a, by omega, by omega, by omega, under_iff.1 k, under_iff.1 h⟩ hcy
  · exact e
  · exact absurd ⟨a, b, by omega, by omega, by omega, under_iff.1 h, under_iff.1 k⟩ hcy
theorem IsJ.one {n : Nat} {ps : List (Int × Int)} (hcy : ¬ Cyc n ps) {a b c d : Nat} (h : IsJ n ps a b c) (k : IsJ n ps a b d) : c = d :=
  under_anti hcy h.lt k.lt (h.least d k.lt k.left k.right) (k.least c h.lt h.left h.right)
theorem IsJ.joined {n : Nat} {ps : List (Int × Int)} (hcy : ¬ Cyc n ps) {a b c : Nat} (h : IsJ n ps a b c) : joined n ps a b = c := by
  rcases joined_cases n ps a b with ⟨_, hno⟩ | ⟨d, hd, hj⟩
  · exact absurd h (hno c)
  · rw [hd, hj.one hcy h]
theorem IsJ.comm {n : Nat} {ps : List (Int × Int)} {a b c : Nat} (h : IsJ n ps a b c) : IsJ n ps b a c := ⟨h.lt, h.right, h.left, fun d hd k1 k2 => h.least d hd k2 k1⟩
theorem joined_comm {n : Nat} {ps : List (Int × Int)} (hcy : ¬ Cyc n ps) (a b : Nat) : joined n ps a b = joined n ps b a := by
  rcases joined_cases n ps a b with ⟨h, hno⟩ | ⟨c, hc, hj⟩
  · rcases joined_cases n ps b a with ⟨h2, _⟩ | ⟨d, _, hj⟩
    · rw [h, h2]
    · exact absurd hj.comm (hno d)
  · rw [hc, hj.comm.joined hcy]
theorem isJ_of_under {n : Nat} {ps : List (Int × Int)} {a b : Nat} (hb : b < n) (h : under ps a b = true) : IsJ n ps a b b := ⟨hb, h, under_refl _ _, fun _ _ _ k => k⟩
theorem joined_own {n : Nat} {ps : List (Int × Int)} (hcy : ¬ Cyc n ps) {a : Nat} (ha : a < n) : joined n ps a a = a := (isJ_of_under ha (under_refl _ _)).joined hcy
/-- The meet: the join in the order turned round. -/
noncomputable def met (n : Nat) (ps : List (Int × Int)) (a b : Nat) : Int := joined n (turned ps) a b
theorem met_turned (n : Nat) (ps : List (Int × Int)) (a b : Nat) : met n (turned ps) a b = joined n ps a b := by unfold met; rw [turned_turned]
/-- The join of a with a thing below it is a. -/
theorem absorb {n : Nat} {ps : List (Int × Int)} (hcy : ¬ Cyc n ps) {a b m : Nat} (ha : a < n) (h : IsJ n (turned ps) a b m) : joined n ps a m = a := by
  have h1 := h.left
  rw [under_turned] at h1
  exact (isJ_of_under ha h1).comm.joined hcy

/-! ## Lattices -/
structure LatOn (n : Nat) (le : Nat → Nat → Prop) (j m : Nat → Nat → Nat) : Prop where
  refl : ∀ a, le a a
  trans : ∀ {a b c}, le a b → le b c → le a c
  anti : ∀ {a b}, a < n → b < n → le a b → le b a → a = b
  jlt : ∀ {a b}, a < n → b < n → j a b < n
  mlt : ∀ {a b}, a < n → b < n → m a b < n
  jl : ∀ {a b}, a < n → b < n → le a (j a b)
  jr : ∀ {a b}, a < n → b < n → le b (j a b)
  jle : ∀ {a b d}, a < n → b < n → d < n → le a d → le b d → le (j a b) d
  ml : ∀ {a b}, a < n → b < n → le (m a b) a
  mr : ∀ {a b}, a < n → b < n → le (m a b) b
  mle : ∀ {a b d}, a < n → b < n → d < n → le d a → le d b → le d (m a b)
theorem LatOn.dual {n : Nat} {le : Nat → Nat → Prop} {j m : Nat → Nat → Nat} (h : LatOn n le j m) : LatOn n (fun a b => le b a) m j :=
  ⟨h.refl, fun k1 k2 => h.trans k2 k1, fun ha hb k1 k2 => h.anti ha hb k2 k1, h.mlt, h.jlt, h.ml, h.mr, h.mle, h.jl, h.jr, h.jle⟩
/-- Distributive, or modular. -/
def ShareOn (n : Nat) (le : Nat → Nat → Prop) (j m : Nat → Nat → Nat) (all : Prop) : Prop :=
  ∀ a b c : Nat, a < n → b < n → c < n → all ∨ le c a → m a (j b c) = j (m a b) (m a c)
theorem ShareOn.dualT {n : Nat} {le : Nat → Nat → Prop} {j m : Nat → Nat → Nat} (h : LatOn n le j m) (hs : ShareOn n le j m True) : ShareOn n (fun a b => le b a) m j True := by
  intro a b c ha hb hc _
  have hab := h.jlt ha hb
  have hac := h.jlt ha hc
  have hbc := h.mlt hb hc
  have hL := h.jlt ha hbc
  refine h.anti hL (h.mlt hab hac) ?_ ?_
  · refine h.mle hab hac hL (h.jle ha hbc hab (h.jl ha hb) (h.trans (h.ml hb hc) (h.jr ha hb))) (h.jle ha hbc hac (h.jl ha hc) (h.trans (h.mr hb hc) (h.jr ha hc)))
  · rw [hs (j a b) a c hab ha hc (.inl trivial)]
    have hXa := h.mlt hab ha
    have hXc := h.mlt hab hc
    refine h.jle hXa hXc hL (h.trans (h.mr hab ha) (h.jl ha hbc)) ?_
    refine h.trans (h.mle hc hab hXc (h.mr hab hc) (h.ml hab hc)) ?_
    rw [hs c a b hc ha hb (.inl trivial)]
    have hca := h.mlt hc ha
    have hcb := h.mlt hc hb
    exact h.jle hca hcb hL (h.trans (h.mr hc ha) (h.jl ha hbc)) (h.trans (h.mle hb hc hcb (h.mr hc hb) (h.ml hc hb)) (h.jr ha hbc))
theorem ShareOn.dualF {n : Nat} {le : Nat → Nat → Prop} {j m : Nat → Nat → Nat} (h : LatOn n le j m) (hs : ShareOn n le j m False) : ShareOn n (fun a b => le b a) m j False := by
  intro a b c ha hb hc hac0
  have hca : le a c := hac0.resolve_left id
  have hab := h.jlt ha hb
  have hac := h.jlt ha hc
  have hbc := h.mlt hb hc
  have hL := h.jlt ha hbc
  refine h.anti hL (h.mlt hab hac) ?_ ?_
  · refine h.mle hab hac hL (h.jle ha hbc hab (h.jl ha hb) (h.trans (h.ml hb hc) (h.jr ha hb))) (h.jle ha hbc hac (h.jl ha hc) (h.trans (h.mr hb hc) (h.jr ha hc)))
  · have hR := h.mlt hab hac
    have hba := h.jlt hb ha
    have e1 : le (j a c) c := h.jle ha hc hc hca (h.refl c)
    refine h.trans (h.mle hc hba hR (h.trans (h.mr hab hac) e1) (h.trans (h.ml hab hac) (h.jle ha hb hba (h.jr hb ha) (h.jl hb ha)))) ?_
    rw [hs c b a hc hb ha (.inr hca)]
    have hcb := h.mlt hc hb
    have hcA := h.mlt hc ha
    exact h.jle hcb hcA hL (h.trans (h.mle hb hc hcb (h.mr hc hb) (h.ml hc hb)) (h.jr ha hbc)) (h.trans (h.mr hc ha) (h.jl ha hbc))
theorem ShareOn.weak {n : Nat} {le : Nat → Nat → Prop} {j m : Nat → Nat → Nat} (hs : ShareOn n le j m True) : ShareOn n le j m False :=
  fun a b c ha hb hc _ => hs a b c ha hb hc (.inl trivial)

/-! ## Lattices among the orders -/
/-- Looked at for the first i, and the first j of i: there are joins and meets. -/
def Lt (n : Nat) (ps : List (Int × Int)) (i j : Nat) : Prop :=
  ∀ a b : Nat, (a < i ∧ b < n ∨ a = i ∧ b < j) → 0 ≤ joined n ps a b ∧ 0 ≤ met n ps a b
open Classical in
/-- Is the order a lattice? -/
noncomputable def latB (n : Nat) (ps : List (Int × Int)) : Bool := decide (Lt n ps n 0)
theorem latB_iff {n : Nat} {ps : List (Int × Int)} : latB n ps = true ↔ Lt n ps n 0 := by simp [latB]
theorem Lt.step {n : Nat} {ps : List (Int × Int)} {i j : Nat} (h : Lt n ps i j) (h1 : 0 ≤ joined n ps i j) (h2 : 0 ≤ met n ps i j) : Lt n ps i (j + 1) := by
  intro a b hab
  by_cases e : a = i ∧ b = j
  · obtain ⟨rfl, rfl⟩ := e; exact ⟨h1, h2⟩
  · exact h a b (by omega)
theorem Lt.next {n : Nat} {ps : List (Int × Int)} {i : Nat} (h : Lt n ps i n) : Lt n ps (i + 1) 0 := fun a b hab => h a b (by omega)
theorem latB_no {n : Nat} {ps : List (Int × Int)} {i j : Nat} (hi : i < n) (hj : j < n) (h : joined n ps i j < 0 ∨ met n ps i j < 0) : latB n ps = false := by
  cases e : latB n ps with
  | false => rfl
  | true =>
    have := latB_iff.1 e i j (.inl ⟨hi, hj⟩)
    omega
/-- The join, of a lattice. -/
noncomputable def jn (n : Nat) (ps : List (Int × Int)) (a b : Nat) : Nat := (joined n ps a b).toNat
/-- The meet, of a lattice. -/
noncomputable def mt (n : Nat) (ps : List (Int × Int)) (a b : Nat) : Nat := (met n ps a b).toNat
theorem jn_turned (n : Nat) (ps : List (Int × Int)) : jn n (turned ps) = mt n ps := rfl
theorem mt_turned (n : Nat) (ps : List (Int × Int)) : mt n (turned ps) = jn n ps := by funext a b; unfold mt jn; rw [met_turned]
theorem jn_isJ {n : Nat} {ps : List (Int × Int)} (h : latB n ps = true) {a b : Nat} (ha : a < n) (hb : b < n) : joined n ps a b = jn n ps a b ∧ IsJ n ps a b (jn n ps a b) := by
  have h1 := (latB_iff.1 h a b (.inl ⟨ha, hb⟩)).1
  rcases joined_cases n ps a b with ⟨h2, _⟩ | ⟨c, hc, hj⟩
  · omega
  · have : jn n ps a b = c := by unfold jn; omega
    rw [this]; exact ⟨hc, hj⟩
theorem latB_turned (n : Nat) (ps : List (Int × Int)) : latB n (turned ps) = latB n ps := by
  have key : ∀ ps, latB n ps = true → latB n (turned ps) = true := by
    intro ps h
    refine latB_iff.2 fun a b hab => ?_
    obtain ⟨h1, h2⟩ := latB_iff.1 h a b hab
    exact ⟨h2, by rw [met_turned]; exact h1⟩
  rw [Bool.eq_iff_iff]
  exact ⟨fun h => by have := key _ h; rwa [turned_turned] at this, key ps⟩
theorem mt_isM {n : Nat} {ps : List (Int × Int)} (h : latB n ps = true) {a b : Nat} (ha : a < n) (hb : b < n) : met n ps a b = mt n ps a b ∧ IsJ n (turned ps) a b (mt n ps a b) :=
  jn_isJ (ps := turned ps) (by rw [latB_turned]; exact h) ha hb
theorem lat_on {n : Nat} {ps : List (Int × Int)} (hcy : ¬ Cyc n ps) (h : latB n ps = true) : LatOn n (fun a b => under ps a b = true) (jn n ps) (mt n ps) where
  refl a := under_refl _ _
  trans := under_trans
  anti ha hb := under_anti hcy ha hb
  jlt ha hb := (jn_isJ h ha hb).2.lt
  mlt ha hb := (mt_isM h ha hb).2.lt
  jl ha hb := (jn_isJ h ha hb).2.left
  jr ha hb := (jn_isJ h ha hb).2.right
  jle ha hb hd := (jn_isJ h ha hb).2.least _ hd
  ml ha hb := by have := (mt_isM h ha hb).2.left; rwa [under_turned] at this
  mr ha hb := by have := (mt_isM h ha hb).2.right; rwa [under_turned] at this
  mle ha hb hd k1 k2 := by
    have := (mt_isM h ha hb).2.least _ hd (by rw [under_turned]; exact k1) (by rw [under_turned]; exact k2)
    rwa [under_turned] at this

/-! ## Distributive and modular -/
/-- The law for one triple. -/
def Sh1 (n : Nat) (ps : List (Int × Int)) (all : Bool) (a b c : Nat) : Prop := all = true ∨ under ps c a = true → mt n ps a (jn n ps b c) = jn n ps (mt n ps a b) (mt n ps a c)
/-- Looked at for the first i, the first j of i, and the first k of these. -/
def Sh (n : Nat) (ps : List (Int × Int)) (all : Bool) (i j k : Nat) : Prop :=
  ∀ a b c : Nat, a < n → b < n → c < n → (a < i ∨ a = i ∧ (b < j ∨ b = j ∧ c < k)) → Sh1 n ps all a b c
open Classical in
noncomputable def shB (n : Nat) (ps : List (Int × Int)) (all : Bool) : Bool := decide (Sh n ps all n 0 0)
theorem shB_iff {n : Nat} {ps : List (Int × Int)} {all : Bool} : shB n ps all = true ↔ Sh n ps all n 0 0 := by simp [shB]
theorem Sh.step {n : Nat} {ps : List (Int × Int)} {all : Bool} {i j k : Nat} (h : Sh n ps all i j k) (h1 : Sh1 n ps all i j k) : Sh n ps all i j (k + 1) := by
  intro a b c ha hb hc hab
  by_cases e : a = i ∧ b = j ∧ c = k
  · obtain ⟨rfl, rfl, rfl⟩ := e; exact h1
  · exact h a b c ha hb hc (by omega)
theorem Sh.next {n : Nat} {ps : List (Int × Int)} {all : Bool} {i j : Nat} (h : Sh n ps all i j n) : Sh n ps all i (j + 1) 0 := fun a b c ha hb hc hab => h a b c ha hb hc (by omega)
theorem Sh.next2 {n : Nat} {ps : List (Int × Int)} {all : Bool} {i : Nat} (h : Sh n ps all i n 0) : Sh n ps all (i + 1) 0 0 := fun a b c ha hb hc hab => h a b c ha hb hc (by omega)
theorem shB_no {n : Nat} {ps : List (Int × Int)} {all : Bool} {i j k : Nat} (hi : i < n) (hj : j < n) (hk : k < n) (h : ¬ Sh1 n ps all i j k) : shB n ps all = false := by
  cases e : shB n ps all with
  | false => rfl
  | true => exact absurd (shB_iff.1 e i j k hi hj hk (.inl hi)) h
theorem shB_on {n : Nat} {ps : List (Int × Int)} {all : Bool} : shB n ps all = true ↔ ShareOn n (fun a b => under ps a b = true) (jn n ps) (mt n ps) (all = true) := by
  rw [shB_iff]
  exact ⟨fun h a b c ha hb hc => h a b c ha hb hc (.inl ha), fun h a b c ha hb hc _ => h a b c ha hb hc⟩
theorem shB_turned {n : Nat} {ps : List (Int × Int)} (hcy : ¬ Cyc n ps) (h : latB n ps = true) (all : Bool) : shB n (turned ps) all = shB n ps all := by
  have key : ∀ ps, ¬ Cyc n ps → latB n ps = true → shB n ps all = true → shB n (turned ps) all = true := by
    intro ps hcy h hs
    rw [shB_on] at hs ⊢
    have hl := lat_on hcy h
    have e : (fun a b : Nat => under (turned ps) a b = true) = fun a b : Nat => under ps b a = true := by funext a b; rw [under_turned]
    rw [jn_turned, mt_turned, e]
    cases all with
    | true =>
      intro a b c ha hb hc _
      exact ShareOn.dualT hl (fun a b c ha hb hc _ => hs a b c ha hb hc (.inl rfl)) a b c ha hb hc (.inl trivial)
    | false =>
      intro a b c ha hb hc k
      exact ShareOn.dualF hl (fun a b c ha hb hc k => hs a b c ha hb hc (k.elim False.elim .inr)) a b c ha hb hc (k.elim (fun h => by cases h) .inr)
  rw [Bool.eq_iff_iff]
  exact ⟨fun k => by have := key _ (turned_cyc hcy) (by rw [latB_turned]; exact h) k; rwa [turned_turned] at this, key ps hcy h⟩
theorem shB_weak {n : Nat} {ps : List (Int × Int)} (h : shB n ps true = true) : shB n ps false = true := by
  rw [shB_on] at h ⊢
  exact fun a b c ha hb hc _ => h a b c ha hb hc (.inl rfl)

/-! ## Join-irreducible things -/
/-- No two of the first i (and the first j of i) have the join x, but with x itself. -/
def Ir (n : Nat) (ps : List (Int × Int)) (x i j : Nat) : Prop :=
  ∀ a b : Nat, (a < i ∧ b < n ∨ a = i ∧ b < j) → joined n ps a b = x → a = x ∨ b = x
open Classical in
noncomputable def irB (n : Nat) (ps : List (Int × Int)) (x i j : Nat) : Bool := decide (Ir n ps x i j)
theorem irB_iff {n : Nat} {ps : List (Int × Int)} {x i j : Nat} : irB n ps x i j = true ↔ Ir n ps x i j := by simp [irB]
open Classical in
theorem irB_step {n : Nat} {ps : List (Int × Int)} {x i j : Nat} : irB n ps x i (j + 1) = (irB n ps x i j && !(joined n ps i j == (x : Int) && decide (i ≠ x) && decide (j ≠ x))) := by
  rw [Bool.eq_iff_iff, Bool.and_eq_true, irB_iff, irB_iff]
  constructor
  · intro h
    refine ⟨fun a b hab => h a b (by omega), ?_⟩
    have := h i j (.inr ⟨rfl, by omega⟩)
    by_cases e : joined n ps i j = x
    · rcases this e with e2 | e2 <;> simp [e2]
    · simp [e]
  · rintro ⟨h, k⟩ a b hab e
    by_cases e2 : a = i ∧ b = j
    · obtain ⟨rfl, rfl⟩ := e2
      by_cases e3 : a = x
      · exact .inl e3
      · by_cases e4 : b = x
        · exact .inr e4
        · simp [e, e3, e4] at k
    · exact h a b (by omega) e
theorem irB_next {n : Nat} {ps : List (Int × Int)} {x i : Nat} : irB n ps x (i + 1) 0 = irB n ps x i n := by
  rw [Bool.eq_iff_iff, irB_iff, irB_iff]
  exact ⟨fun h a b hab => h a b (by omega), fun h a b hab => h a b (by omega)⟩
theorem irB_start (n : Nat) (ps : List (Int × Int)) (x : Nat) : irB n ps x 0 0 = true := irB_iff.2 fun a b hab => by omega
/-- Is x below the first i? -/
noncomputable def leastB (ps : List (Int × Int)) (x : Nat) : Nat → Bool
  | 0 => true
  | i + 1 => leastB ps x i && under ps x i
/-- Is x join-irreducible? -/
noncomputable def irrB (n : Nat) (ps : List (Int × Int)) (x : Nat) : Bool := irB n ps x n 0 && !leastB ps x n
noncomputable def irrW (n : Nat) (ps : List (Int × Int)) (i : Nat) : Nat := wordOf i (irrB n ps)

theorem irrW_lt (n : Nat) (ps : List (Int × Int)) (i : Nat) : irrW n ps i < one i := wordOf_lt _ _
theorem irrW_yes {n : Nat} {ps : List (Int × Int)} {i : Nat} (h : irrB n ps i = true) : irrW n ps (i + 1) = irrW n ps i + one i := by
  have h1 := irrW_lt n ps i
  unfold irrW at *
  rw [wordOf, h, if_pos rfl]
  have := Nat.two_pow_add_eq_or_of_lt (i := i) (b := wordOf i (irrB n ps)) h1 1
  rw [Nat.mul_one] at this
  rw [Nat.or_comm, Nat.add_comm]
  exact this.symm
theorem irrW_no {n : Nat} {ps : List (Int × Int)} {i : Nat} (h : irrB n ps i = false) : irrW n ps (i + 1) = irrW n ps i := by
  unfold irrW
  rw [wordOf, h]
  simp

/-! ## The code -/
/-- The code that the errors of the functions on lattices give. -/
noncomputable def codeL (n : Int) (ps : List (Int × Int)) : Int := if code n ps = 0 then (if latB n.toNat ps = true then 0 else 3) else code n ps
theorem codeL_err {n : Int} {ps : List (Int × Int)} (h : code n ps ≠ 0) : codeL n ps = code n ps := by simp [codeL, h]
theorem codeL_no {n : Nat} {ps : List (Int × Int)} (h : code n ps = 0) (k : latB n ps = false) : codeL n ps = 3 := by simp [codeL, h, k]
theorem codeL_ok {n : Nat} {ps : List (Int × Int)} (h : code n ps = 0) (k : latB n ps = true) : codeL n ps = 0 := by simp [codeL, h, k]
theorem codeL_zero {n : Nat} {ps : List (Int × Int)} (h : codeL n ps = 0) : code n ps = 0 ∧ latB n ps = true := by
  by_cases hc : code n ps = 0
  · cases k : latB n ps with
    | false => rw [codeL_no hc k] at h; omega
    | true => exact ⟨hc, rfl⟩
  · rw [codeL_err hc] at h; exact absurd h hc

end Go.Proofs.YtmlggmopkelcfaaDoor
