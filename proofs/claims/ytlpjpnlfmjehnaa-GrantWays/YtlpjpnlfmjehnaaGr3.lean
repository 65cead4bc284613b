/- The take-grant model: what the sorted edges say. -/
import Derived.Test.YtlpjpnlfmjehnaaGr2
namespace Go.Proofs.Ytlpjpnlfmjehnaa
open Go.RowKit

theorem mem_edgesG {s : Gs} {e : Ed} : e ∈ edgesG s ↔ ∃ a b, a < s.n ∧ b < s.n ∧ s.ov a b ≠ 0 ∧ e = ((a : Int), (b : Int), s.ov a b) := by
  unfold edgesG
  simp only [List.mem_flatMap, List.mem_range]
  constructor
  · rintro ⟨a, ha, b, hb, he⟩
    split at he
    · simp at he
    · rename_i h
      simp at he
      exact ⟨a, b, ha, hb, h, he⟩
  · rintro ⟨a, b, ha, hb, h, rfl⟩
    exact ⟨a, ha, b, hb, by rw [if_neg h]; simp⟩
theorem over_edgesG {s : Gs} (h : FineG s) (a b : Nat) : overL (edgesG s) a b = s.ov a b := by
  apply bits_eq
  intro i
  rw [overL_bit]
  constructor
  · rintro ⟨e, he, h1, h2, h3⟩
    obtain ⟨a', b', _, _, _, rfl⟩ := mem_edgesG.1 he
    simp only at h1 h2 h3
    obtain rfl : a' = a := by omega
    obtain rfl : b' = b := by omega
    exact h3
  · intro hb
    have hne : s.ov a b ≠ 0 := fun e => by rw [e, Nat.zero_testBit] at hb; cases hb
    obtain ⟨h1, h2, _⟩ := h.2.2.2 a b hne
    exact ⟨_, mem_edgesG.2 ⟨a, b, h1, h2, hne, rfl⟩, rfl, rfl, hb⟩
theorem E32_edgesG {s : Gs} (h : FineG s) : E32 (edgesG s) := fun e he => by
  obtain ⟨a, b, _, _, _, rfl⟩ := mem_edgesG.1 he
  exact h.2.2.1 a b

theorem flat_le {α β : Type} {f : α → List β} {m : Nat} (l : List α) (h : ∀ x ∈ l, (f x).length ≤ m) : (l.flatMap f).length ≤ l.length * m := by
  induction l with
  | nil => simp
  | cons x l ih =>
    have h1 := h x (by simp)
    have h2 := ih fun y hy => h y (List.mem_cons_of_mem _ hy)
    rw [List.flatMap_cons, List.length_append, List.length_cons, Nat.succ_mul]
    omega
theorem edgesG_len {s : Gs} (h : s.n ≤ 14) : (edgesG s).length ≤ 1000 := by
  have h1 : (edgesG s).length ≤ (List.range s.n).length * (s.n * 1) := flat_le _ fun a _ => by
    have := flat_le (m := 1) (f := fun b => if s.ov a b = 0 then [] else [((a : Int), (b : Int), s.ov a b)]) (List.range s.n) fun b _ => by split <;> simp
    rw [List.length_range] at this
    exact this
  rw [List.length_range] at h1
  have h2 : s.n * (s.n * 1) ≤ 14 * 14 := Nat.mul_le_mul h (by omega)
  omega
theorem codeGP_zero {n : Int} {es : List Ed} {nd : Nat} (h : codeGP n es nd = 0) : nd ≤ 30 ∧ codeE n es = 0 := by
  unfold codeGP at h
  split at h
  · cases h
  · exact ⟨by omega, h⟩
theorem fineG_run {n : Nat} {es : List Ed} {l : List Dd} (h : codeE n es = 0) (h32 : E32 es) (hp : ∀ d ∈ l, d.parts < 4294967296) : FineG (runG n es l).2 :=
  runG_inv (P := FineG) (fineG_start h h32) l fun _ d hd hs => fineG_step hs (hp d hd)

end Go.Proofs.Ytlpjpnlfmjehnaa
