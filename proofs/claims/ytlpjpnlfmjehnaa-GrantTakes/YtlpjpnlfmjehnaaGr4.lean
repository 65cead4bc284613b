/- The take-grant model: how a right is carried along a path. -/
import Derived.Test.YtlpjpnlfmjehnaaGr2
namespace Go.Proofs.Ytlpjpnlfmjehnaa
open Go.RowKit

def mkD (a : Nat) : Dd := ⟨3, a, 0, 0, 0, 0⟩
def wrD (k : Int) (a b o : Nat) (p : Nat) : Dd := ⟨k, a, b, o, p, 0⟩
def runS (s : Gs) (l : List Dd) : Gs := l.foldl (fun s d => (stepG s d).2) s
theorem runS_app (s : Gs) (l r : List Dd) : runS s (l ++ r) = runS (runS s l) r := by unfold runS; rw [List.foldl_append]
theorem runS_one (s : Gs) (d : Dd) : runS s [d] = (stepG s d).2 := rfl
theorem runG_runS (n : Nat) (es : List Ed) (l : List Dd) : (runG n es l).2 = runS (startG n es) l := by
  refine snoc_ind (P := fun l => (runG n es l).2 = runS (startG n es) l) rfl (fun l d ih => ?_) l
  rw [runG_app, runS_app, ih]
  rfl
/-- More is there. -/
def Grow (s s' : Gs) : Prop := s.n ≤ s'.n ∧ ∀ a b i, (s.ov a b).testBit i = true → (s'.ov a b).testBit i = true
theorem Grow.refl (s : Gs) : Grow s s := ⟨Nat.le_refl _, fun _ _ _ h => h⟩
theorem Grow.trans {s t u : Gs} (h : Grow s t) (k : Grow t u) : Grow s u := ⟨Nat.le_trans h.1 k.1, fun a b i hb => k.2 a b i (h.2 a b i hb)⟩
theorem Grow.sub {s t : Gs} (h : Grow s t) {r a b : Nat} (k : sub r (s.ov a b) = true) : sub r (t.ov a b) = true := sub_iff.2 fun i hi => h.2 a b i (sub_iff.1 k i hi)
/-- One has more. -/
def addG (s : Gs) (n' a b p : Nat) : Gs := ⟨n', updO s.ov a b (s.ov a b ||| p)⟩
theorem addG_grow {s : Gs} {n' : Nat} (hn : s.n ≤ n') (a b p : Nat) : Grow s (addG s n' a b p) := by
  refine ⟨hn, fun x y i h => ?_⟩
  simp only [addG, updO_at]
  split
  · rename_i e
    obtain ⟨rfl, rfl⟩ := e
    rw [Nat.testBit_or, h, Bool.true_or]
  · exact h
theorem addG_has {s : Gs} {n' a b p i : Nat} (h : p.testBit i = true) : ((addG s n' a b p).ov a b).testBit i = true := by
  simp only [addG, updO_at]
  rw [if_pos ⟨trivial, trivial⟩, Nat.testBit_or, h, Bool.or_true]
theorem addG_sub (s : Gs) (n' a b p : Nat) : sub p ((addG s n' a b p).ov a b) = true := sub_iff.2 fun _ h => addG_has h
theorem step_take {s : Gs} {a b o p : Nat} (ha : a < s.n) (hb : b < s.n) (ho : o < s.n) (hab : a ≠ b) (hao : a ≠ o) (h1 : (s.ov a b).testBit 0 = true) (h2 : sub p (s.ov b o) = true) : (stepG s (wrD 1 a b o p)).2 = addG s s.n a o p := by
  unfold stepG
  rw [if_neg (by simp [wrD]), if_neg (by unfold BadG wrD; simp only; omega), if_pos (show (wrD 1 a b o p).kind = 1 from rfl)]
  simp only [wrD, Int.toNat_natCast, giveG, h1, h2, Bool.and_self, if_true]
  rfl
theorem step_give {s : Gs} {a b o p : Nat} (ha : a < s.n) (hb : b < s.n) (ho : o < s.n) (hab : a ≠ b) (hbo : b ≠ o) (h1 : (s.ov a b).testBit 1 = true) (h2 : sub p (s.ov a o) = true) : (stepG s (wrD 2 a b o p)).2 = addG s s.n b o p := by
  unfold stepG
  rw [if_neg (by simp [wrD]), if_neg (by unfold BadG wrD; simp only; omega), if_neg (by simp [wrD]), if_pos (show (wrD 2 a b o p).kind = 2 from rfl)]
  simp only [wrD, Int.toNat_natCast, giveG, h1, h2, Bool.and_self, if_true]
  rfl
theorem step_make {s : Gs} {a : Nat} (ha : a < s.n) (h14 : s.n < 14) : (stepG s (mkD a)).2 = addG s (s.n + 1) a s.n 3 := by
  unfold stepG
  rw [if_neg (by simp [mkD]), if_neg (by unfold BadG mkD; simp only; omega), if_neg (by simp [mkD]), if_neg (by simp [mkD]), if_pos (show (mkD a).kind = 3 from rfl), if_neg (by omega)]
  simp only [mkD, Int.toNat_natCast]
  rfl

/-! ## From one to the next -/
def passL (s : Gs) (f t b : Nat) : List Dd :=
  if (s.ov t f).testBit 0 = true then [wrD 1 t f b 1] else if (s.ov f t).testBit 1 = true then [wrD 2 f t b 1]
  else [mkD t] ++ (if (s.ov f t).testBit 0 = true then [wrD 1 f t s.n 2] else [wrD 2 t f s.n 2]) ++ [wrD 2 f s.n b 1] ++ [wrD 1 t s.n b 1]
theorem sub_bit {x i : Nat} (h : x.testBit i = true) : sub (2 ^ i) x = true := sub_iff.2 fun j hj => by
  rw [Nat.testBit_two_pow] at hj
  have : i = j := by simpa using hj
  subst this; exact h
theorem pass_ok {s : Gs} {f t b : Nat} (hf : f < s.n) (ht : t < s.n) (hb : b < s.n) (hft : f ≠ t) (htb : t ≠ b) (h14 : s.n < 14)
    (hl : (s.ov f t ||| s.ov t f) &&& 3 ≠ 0) (hH : (s.ov f b).testBit 0 = true) : Grow s (runS s (passL s f t b)) ∧ (runS s (passL s f t b)).n ≤ s.n + 1 ∧ ((runS s (passL s f t b)).ov t b).testBit 0 = true := by
  unfold passL
  by_cases h1 : (s.ov t f).testBit 0 = true
  · rw [if_pos h1, runS_one, step_take ht hf hb hft.symm htb h1 (sub_bit (i := 0) hH)]
    exact ⟨addG_grow (Nat.le_refl _) _ _ _, Nat.le_succ _, addG_has (by decide)⟩
  · rw [if_neg h1]
    by_cases h2 : (s.ov f t).testBit 1 = true
    · rw [if_pos h2, runS_one, step_give hf ht hb hft htb h2 (sub_bit (i := 0) hH)]
      exact ⟨addG_grow (Nat.le_refl _) _ _ _, Nat.le_succ _, addG_has (by decide)⟩
    · rw [if_neg h2, runS_app, runS_app, runS_app, runS_one, runS_one, runS_one, step_make ht h14]
      have g1 : Grow s (addG s (s.n + 1) t s.n 3) := addG_grow (Nat.le_succ _) _ _ _
      have n1 : (addG s (s.n + 1) t s.n 3).n = s.n + 1 := rfl
      have p0 : ((addG s (s.n + 1) t s.n 3).ov t s.n).testBit 0 = true := addG_has (by decide)
      have p1 : ((addG s (s.n + 1) t s.n 3).ov t s.n).testBit 1 = true := addG_has (by decide)
      have e2 : runS (addG s (s.n + 1) t s.n 3) (if (s.ov f t).testBit 0 = true then [wrD 1 f t s.n 2] else [wrD 2 t f s.n 2]) = addG (addG s (s.n + 1) t s.n 3) (s.n + 1) f s.n 2 := by
        by_cases h3 : (s.ov f t).testBit 0 = true
        · rw [if_pos h3, runS_one, step_take (by omega) (by omega) (by omega) hft (by omega) (g1.2 _ _ _ h3) (sub_bit (i := 1) p1)]
          rfl
        · rw [if_neg h3]
          have h4 : (s.ov t f).testBit 1 = true := by
            rw [and3_bit] at hl
            simp only [Nat.testBit_or, Bool.or_eq_true_iff] at hl
            rcases hl with (h | h) | (h | h)
            · exact absurd h h3
            · exact absurd h h1
            · exact absurd h h2
            · exact h
          rw [runS_one, step_give (by omega) (by omega) (by omega) hft.symm (by omega) (g1.2 _ _ _ h4) (sub_bit (i := 1) p1)]
          rfl
      rw [e2]
      clear e2
      have hH1 := g1.2 _ _ _ hH
      generalize hs1 : addG s (s.n + 1) t s.n 3 = s1 at *
      have g2 : Grow s1 (addG s1 (s.n + 1) f s.n 2) := addG_grow (by omega) _ _ _
      have q1 : ((addG s1 (s.n + 1) f s.n 2).ov f s.n).testBit 1 = true := addG_has (by decide)
      have n2 : (addG s1 (s.n + 1) f s.n 2).n = s.n + 1 := rfl
      have hH2 := g2.2 _ _ _ hH1
      have p2 := g2.2 _ _ _ p0
      generalize hs2 : addG s1 (s.n + 1) f s.n 2 = s2 at *
      rw [step_give (by omega) (by omega) (by omega) (by omega) (by omega) q1 (sub_bit (i := 0) hH2)]
      have g3 : Grow s2 (addG s2 s2.n s.n b 1) := addG_grow (Nat.le_refl _) _ _ _
      have p3 := g3.2 _ _ _ p2
      have q3 := addG_sub s2 s2.n s.n b 1
      have n3 : (addG s2 s2.n s.n b 1).n = s2.n := rfl
      generalize hs3 : addG s2 s2.n s.n b 1 = s3 at *
      rw [step_take (by omega) (by omega) (by omega) (by omega) htb p3 q3]
      refine ⟨(g1.trans (g2.trans g3)).trans (addG_grow (Nat.le_refl _) _ _ _), ?_, addG_has (by decide)⟩
      show s3.n ≤ s.n + 1
      omega
theorem pass_small (s : Gs) (f t b : Nat) : ∀ d ∈ passL s f t b, d.kind ≠ 4 ∧ d.parts < 4294967296 := by
  intro d hd
  unfold passL at hd
  repeat' split at hd
  all_goals
    simp only [List.mem_append, List.mem_cons, List.not_mem_nil, or_false] at hd
    first
      | (rcases hd with rfl; exact ⟨by simp [wrD], by simp [wrD]⟩)
      | (rcases hd with ((rfl | rfl) | rfl) | rfl <;> exact ⟨by simp [wrD, mkD], by simp [wrD, mkD]⟩)
theorem pass_len (s : Gs) (f t b : Nat) : (passL s f t b).length ≤ 4 := by
  unfold passL
  repeat' split
  all_goals simp

/-! ## The whole path -/
/-- What is written on the way along the rest of a path; v is who has the box now. -/
def wayL (s : Gs) (b v : Nat) : List Nat → List Dd
  | [] => []
  | u :: p => passL s v u b ++ wayL (runS s (passL s v u b)) b u p
theorem way_ok {n : Nat} {es : List Ed} {b : Nat} : ∀ (p : List Nat) (s : Gs) (v : Nat), Grow (startG n es) s → n ≤ b → b < s.n → s.n + p.length ≤ 14 → v < n → (s.ov v b).testBit 0 = true →
    (∀ u ∈ p, u < n) → (∀ (i : Nat) (a c : Nat), (v :: p)[i]? = some a → (v :: p)[i + 1]? = some c → AdjE es (a : Int) c ∧ a ≠ c) →
    Grow s (runS s (wayL s b v p)) ∧ ((runS s (wayL s b v p)).ov ((v :: p).getLast (by simp)) b).testBit 0 = true ∧ (runS s (wayL s b v p)).n ≤ s.n + p.length
  | [], s, v, _, _, _, _, _, hH, _, _ => ⟨Grow.refl _, hH, Nat.le_refl _⟩
  | u :: p, s, v, hg, hnb, hbn, h14, hv, hH, hp, ha => by
    have hu := hp u (by simp)
    obtain ⟨hadj, hne⟩ := ha 0 v u rfl rfl
    rw [List.length_cons] at h14
    have hl : (s.ov v u ||| s.ov u v) &&& 3 ≠ 0 := by
      obtain ⟨e, he, h1, h2⟩ := hadj
      rw [and3_bit] at h1 ⊢
      simp only [Nat.testBit_or, Bool.or_eq_true_iff]
      have key : ∀ i, e.2.2.testBit i = true → (s.ov v u).testBit i = true ∨ (s.ov u v).testBit i = true := fun i hi => by
        rcases h2 with h2 | h2
        · exact .inl (hg.2 _ _ _ (overL_bit.2 ⟨e, he, h2.1, h2.2, hi⟩))
        · exact .inr (hg.2 _ _ _ (overL_bit.2 ⟨e, he, h2.2, h2.1, hi⟩))
      rcases h1 with h1 | h1
      · exact .inl (key 0 h1)
      · exact .inr (key 1 h1)
    have hgn := hg.1
    have hgn' : n ≤ s.n := hgn
    obtain ⟨k1, k2, k3⟩ := pass_ok (s := s) (f := v) (t := u) (b := b) (by omega) (by omega) hbn hne (by omega) (by omega) hl hH
    obtain ⟨j1, j2, j3⟩ := way_ok p (runS s (passL s v u b)) u (hg.trans k1) hnb (by have := k1.1; omega) (by omega) hu k3 (fun x hx => hp x (List.mem_cons_of_mem _ hx)) (fun i a c h1 h2 => ha (i + 1) a c (by simpa using h1) (by simpa using h2))
    rw [wayL, runS_app]
    refine ⟨k1.trans j1, ?_, by rw [List.length_cons]; omega⟩
    rw [List.getLast_cons (by simp)]
    exact j2
theorem way_small (b : Nat) : ∀ (p : List Nat) (s : Gs) (v : Nat), ∀ d ∈ wayL s b v p, d.kind ≠ 4 ∧ d.parts < 4294967296
  | [], _, _, d, hd => by simp [wayL] at hd
  | u :: p, s, v, d, hd => by
    rw [wayL, List.mem_append] at hd
    rcases hd with hd | hd
    · exact pass_small _ _ _ _ d hd
    · exact way_small b p _ _ d hd
theorem way_len (b : Nat) : ∀ (p : List Nat) (s : Gs) (v : Nat), (wayL s b v p).length ≤ 4 * p.length
  | [], _, _ => by simp [wayL]
  | u :: p, s, v => by
    have h1 := way_len b p (runS s (passL s v u b)) u
    have h2 := pass_len s v u b
    rw [wayL, List.length_append, List.length_cons]
    omega

/-- All that is written. -/
def carryL (s : Gs) (v : Nat) (p : List Nat) (x y r : Nat) : List Dd :=
  [mkD v] ++ [wrD 2 v s.n y r] ++ wayL (runS s ([mkD v] ++ [wrD 2 v s.n y r])) s.n v p ++ [wrD 1 x s.n y r]
theorem carry_ok {n : Nat} {es : List Ed} (hc : codeE n es = 0) {v x y r : Nat} {p : List Nat} (hv : v < n) (hx : x < n) (hy : y < n) (hxy : x ≠ y) (hr : r < 4294967296) (hs : sub r (overL es v y) = true) (hl : (v :: p).length ≤ n)
    (hlast : (v :: p).getLast (by simp) = x) (hp : ∀ u ∈ p, u < n) (ha : ∀ (i : Nat) (a c : Nat), (v :: p)[i]? = some a → (v :: p)[i + 1]? = some c → AdjE es (a : Int) c ∧ a ≠ c) :
    (∀ d ∈ carryL (startG n es) v p x y r, d.kind ≠ 4 ∧ d.parts < 4294967296) ∧ (carryL (startG n es) v p x y r).length ≤ 1000 ∧ sub r ((runS (startG n es) (carryL (startG n es) v p x y r)).ov x y) = true := by
  have hn6 := (codeE_zero hc).2.1
  have hn : (startG n es).n = n := rfl
  rw [List.length_cons] at hl
  refine ⟨fun d hd => ?_, ?_, ?_⟩
  · unfold carryL at hd
    rw [List.mem_append, List.mem_append, List.mem_append, List.mem_singleton, List.mem_singleton, List.mem_singleton] at hd
    rcases hd with ((rfl | rfl) | hd) | rfl
    · exact ⟨by simp [mkD], by simp [mkD]⟩
    · exact ⟨by simp [wrD], hr⟩
    · exact way_small _ _ _ _ d hd
    · exact ⟨by simp [wrD], hr⟩
  · have := way_len (startG n es).n p (runS (startG n es) ([mkD v] ++ [wrD 2 v (startG n es).n y r])) v
    unfold carryL
    simp only [List.length_append, List.length_cons, List.length_nil] at *
    omega
  · unfold carryL
    rw [runS_app, runS_app, runS_app _ [mkD v]]
    have hs0 : sub r ((startG n es).ov v y) = true := hs
    generalize hs' : startG n es = s at *
    have e1 : runS (runS s [mkD v]) [wrD 2 v s.n y r] = addG (addG s (s.n + 1) v s.n 3) (s.n + 1) s.n y r := by
      rw [runS_one, runS_one, step_make (by omega) (by omega)]
      have g1 : Grow s (addG s (s.n + 1) v s.n 3) := addG_grow (Nat.le_succ _) _ _ _
      have n1 : (addG s (s.n + 1) v s.n 3).n = s.n + 1 := rfl
      rw [step_give (by omega) (by omega) (by omega) (by omega) (by omega) (addG_has (by decide)) (g1.sub hs0)]
      rfl
    rw [e1]
    have g1 : Grow s (addG s (s.n + 1) v s.n 3) := addG_grow (Nat.le_succ _) _ _ _
    have p0 : ((addG s (s.n + 1) v s.n 3).ov v s.n).testBit 0 = true := addG_has (by decide)
    clear e1
    generalize hs1 : addG s (s.n + 1) v s.n 3 = s1 at *
    have n1 : s1.n = s.n + 1 := by rw [← hs1]; rfl
    have g2 : Grow s1 (addG s1 (s.n + 1) s.n y r) := addG_grow (by omega) _ _ _
    have n2 : (addG s1 (s.n + 1) s.n y r).n = s.n + 1 := rfl
    have q2 := addG_sub s1 (s.n + 1) s.n y r
    have p2 := g2.2 _ _ _ p0
    generalize hs2 : addG s1 (s.n + 1) s.n y r = s2 at *
    obtain ⟨k1, k2, k3⟩ := way_ok (n := n) (es := es) (b := s.n) p s2 v (by rw [hs']; exact g1.trans g2) (by omega) (by omega) (by omega) hv p2 hp ha
    rw [hlast] at k2
    have k4 := k1.1
    generalize runS s2 (wayL s2 s.n v p) = s3 at *
    rw [runS_one, step_take (by omega) (by omega) (by omega) (by omega) hxy k2 (k1.sub q2)]
    exact addG_sub _ _ _ _ _

end Go.Proofs.Ytlpjpnlfmjehnaa
