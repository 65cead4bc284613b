/- What the functions of package choice are to answer. -/
import Derived.Test.YtnoehmokaeegeaaWH3
import Derived.Test.YtnoehmokaeegeaaExt
namespace Go.Proofs.Ytnoehmokaeegeaa
open Go.RowKit

/-- The contract of Build. -/
def HBuildOk (fn : Nat) : Prop :=
  ∀ (n : Int) (f : List Bool) (A : Option Addr) (c : Nat) (w : World), f.length ≤ maxLen → Row w A (boolsC f) → Laid w →
    Calls Try.prog fn #[.int .i64 n, .slice A f.length c] w fun e w' => ∃ (A2 : Option Addr) (c2 : Nat) (l : List Nd) (k : Int), e = .returned (.tuple #[.slice A2 l.length c2, .int .i64 k, .int .i64 (codeT n f.length)]) ∧ (l, k) = (if codeT n f.length = 0 then small n.toNat (atB f) else ([], 0)) ∧ Row w' A2 (nodesC l) ∧ Below w.heap.size w w' ∧ l.length ≤ c2
/-- The contract of Read. -/
def HReadOk (fn : Nat) : Prop :=
  ∀ (n : Int) (l : List Nd) (A : Option Addr) (c : Nat) (root : Int) (w : World), l.length ≤ maxLen → l.length ≤ c → Row w A (nodesC l) → Laid w →
    Calls Try.prog fn #[.int .i64 n, .slice A l.length c, .int .i64 root] w fun e w' => ∃ (A2 : Option Addr) (c2 : Nat) (f : List Bool), e = .returned (.tuple #[.slice A2 f.length c2, .int .i64 (codeD n l root)]) ∧ f = (if codeD n l root = 0 then tabB (one n.toNat) (tell l root) else []) ∧ Row w' A2 (boolsC f) ∧ Below w.heap.size w w'
/-- The code of And. -/
def codeA (n : Int) (a : List Nd) (x : Int) (b : List Nd) (y : Int) : Int :=
  if LargeD n a.length ∨ 20 < b.length then 1 else if codeB n a x ≠ 0 then codeB n a x else codeB n b y
/-- The contract of And. -/
def HAndOk (fn : Nat) : Prop :=
  ∀ (n : Int) (a : List Nd) (A : Option Addr) (c : Nat) (x : Int) (b : List Nd) (B : Option Addr) (d : Nat) (y : Int) (w : World), a.length ≤ maxLen → a.length ≤ c → Row w A (nodesC a) → b.length ≤ maxLen → b.length ≤ d → Row w B (nodesC b) → Laid w →
    Calls Try.prog fn #[.int .i64 n, .slice A a.length c, .int .i64 x, .slice B b.length d, .int .i64 y] w fun e w' => ∃ (A2 : Option Addr) (c2 : Nat) (l : List Nd) (k : Int), e = .returned (.tuple #[.slice A2 l.length c2, .int .i64 k, .int .i64 (codeA n a x b y)]) ∧ (l, k) = (if codeA n a x b y = 0 then small n.toNat (fun s => tell a x s && tell b y s) else ([], 0)) ∧ Row w' A2 (nodesC l) ∧ Below w.heap.size w w' ∧ l.length ≤ c2
theorem codeD_zero {n : Int} {l : List Nd} {root : Int} (h : codeD n l root = 0) : ∃ k : Nat, n = k ∧ k ≤ 4 ∧ l.length ≤ 20 ∧ GoodD k l ∧ 0 ≤ root ∧ root < l.length + 2 := by
  unfold codeD at h
  split at h
  · omega
  · next hL =>
    obtain ⟨k, rfl⟩ := Int.eq_ofNat_of_zero_le (show 0 ≤ n by unfold LargeD at hL; omega)
    exact ⟨k, rfl, by unfold LargeD at hL; omega, by unfold LargeD at hL; omega, codeB_zero.1 h⟩
theorem codeA_zero {n : Int} {a b : List Nd} {x y : Int} (h : codeA n a x b y = 0) : ∃ k : Nat, n = k ∧ k ≤ 4 ∧ (a.length ≤ 20 ∧ GoodD k a ∧ 0 ≤ x ∧ x < a.length + 2) ∧ (b.length ≤ 20 ∧ GoodD k b ∧ 0 ≤ y ∧ y < b.length + 2) := by
  unfold codeA at h
  split at h
  · omega
  · next hL =>
    have hL1 : ¬ LargeD n a.length := fun h => hL (.inl h)
    have hL2 : ¬ 20 < b.length := fun h => hL (.inr h)
    obtain ⟨k, rfl⟩ := Int.eq_ofNat_of_zero_le (show 0 ≤ n by unfold LargeD at hL1; omega)
    split at h
    · next h1 => exact absurd h h1
    · next h1 =>
      have h1' : codeB k a x = 0 := by simpa using h1
      exact ⟨k, rfl, by unfold LargeD at hL1; omega, ⟨by unfold LargeD at hL1; omega, codeB_zero.1 h1'⟩, ⟨by omega, codeB_zero.1 h⟩⟩
theorem small_codeD {k : Nat} (hk : k ≤ 4) (F : Nat → Bool) : codeD k (small k F).1 (small k F).2 = 0 := by
  obtain ⟨h1, h2⟩ := small_code hk F
  unfold codeD
  rw [if_neg (by unfold LargeD; omega), h1]
theorem small_codeA {k : Nat} (hk : k ≤ 4) (F G : Nat → Bool) : codeA k (small k F).1 (small k F).2 (small k G).1 (small k G).2 = 0 := by
  obtain ⟨h1, h2⟩ := small_code hk F
  obtain ⟨h3, h4⟩ := small_code hk G
  unfold codeA
  rw [if_neg (by unfold LargeD; omega), if_neg (by rw [h1]; decide), h3]
theorem small_inj {k : Nat} {f g : List Bool} (hf : f.length = one k) (hg : g.length = one k) (h : small k (atB f) = small k (atB g)) : f = g := by
  have h1 := tabB_self f
  have h2 := tabB_self g
  rw [hf] at h1
  rw [hg] at h2
  rw [← h1, ← h2]
  refine tabB_congr fun s hs => ?_
  rw [← small_tell (F := atB f) hs, h, small_tell hs]

theorem Grow_any (n : Nat) (hn : n ≤ 4) (f : List Bool) (A : Option Addr) (c : Nat) (w : World) (hf : f.length = one n) (hr : Row w A (boolsC f)) :
    Calls Try.prog 10 #[.int .i64 n, .slice A f.length c] w fun e w' => GrowPost n (atB f) n 0 [] w e w' := by
  have key := grow_any n hn f A c hf n (Nat.le_refl _) 0 [] none 0 w (one_pos n) (by have := one_le_16 hn; simp; omega) hr (.inl rfl)
  rw [Nat.sub_self] at key
  clear hf
  go_enter Try.func10, Try.ntmps10
  go_wp2_with fail
  refine key.mono ?_
  rintro e w1 ⟨A1, c1, r, k, rfl, hg, hrow, hb⟩
  go_wp2
  go_ret2
  exact ⟨A1, c1, r, k, rfl, hg, hrow, hb⟩

end Go.Proofs.Ytnoehmokaeegeaa
