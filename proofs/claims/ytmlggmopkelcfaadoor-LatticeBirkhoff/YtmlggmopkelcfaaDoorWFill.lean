/- downs.fill and downs.edge. -/
import Derived.Test.YtmlggmopkelcfaaDoorWDn
namespace Go.Proofs.YtmlggmopkelcfaaDoor
open Go.RowKit

/-- What the first k rows add to a set. -/
def fillP (g : Nat → Nat) (s : Nat) : Nat → Nat
  | 0 => s
  | k + 1 => if s.testBit k then fillP g s k ||| g k else fillP g s k
theorem fillP_lt {g : Nat → Nat} {s n : Nat} (hs : s < one n) (hg : ∀ a, g a < one n) : ∀ k, fillP g s k < one n
  | 0 => hs
  | k + 1 => by
    unfold fillP
    split
    · exact or_lt_one (fillP_lt hs hg k) (hg k)
    · exact fillP_lt hs hg k
theorem fillP_yes {g : Nat → Nat} {s k : Nat} (h : s.testBit k = true) : fillP g s (k + 1) = fillP g s k ||| g k := by simp [fillP, h]
theorem fillP_no {g : Nat → Nat} {s k : Nat} (h : s.testBit k = false) : fillP g s (k + 1) = fillP g s k := by simp [fillP, h]
theorem mem_fillP {g : Nat → Nat} {s x : Nat} : ∀ k, (fillP g s k).testBit x = true ↔ s.testBit x = true ∨ ∃ a, a < k ∧ s.testBit a = true ∧ (g a).testBit x = true
  | 0 => by simp [fillP]
  | k + 1 => by
    have ih := mem_fillP (g := g) (s := s) (x := x) k
    have hsp : (∃ a, a < k + 1 ∧ s.testBit a = true ∧ (g a).testBit x = true) ↔ (∃ a, a < k ∧ s.testBit a = true ∧ (g a).testBit x = true) ∨ (s.testBit k = true ∧ (g k).testBit x = true) := by
      constructor
      · rintro ⟨a, h1, h2, h3⟩
        by_cases e : a = k
        · subst e; exact .inr ⟨h2, h3⟩
        · exact .inl ⟨a, by omega, h2, h3⟩
      · rintro (⟨a, h1, h2, h3⟩ | ⟨h2, h3⟩)
        · exact ⟨a, by omega, h2, h3⟩
        · exact ⟨k, by omega, h2, h3⟩
    rw [hsp]
    cases h : s.testBit k with
    | true => rw [fillP_yes h, Nat.testBit_or, Bool.or_eq_true, ih]; simp [or_assoc]
    | false => rw [fillP_no h, ih]; simp
theorem fillP_all {n : Nat} {ps : List (Int × Int)} {s : Nat} (hs : s < one n) : fillP (rev n (upT n ps)) s n = fillW n ps s :=
  word_ext (fillP_lt hs (fun _ => rev_lt _ _ _) n) (fill_lt _ _ _) fun x hx => by
    rw [Bool.eq_iff_iff, mem_fillP, mem_fill]
    constructor
    · rintro (h | ⟨a, ha, h1, h2⟩)
      · exact ⟨hx, x, hx, h, under_refl _ _⟩
      · rw [rev_testBit, upT_testBit] at h2
        simp at h2
        exact ⟨hx, a, ha, h1, h2.2.2⟩
    · rintro ⟨_, b, hb, h1, h2⟩
      refine .inr ⟨b, hb, h1, ?_⟩
      rw [rev_testBit, upT_testBit]
      simp [hx, hb, h2]
/-- A set is filled just if it is a down-set. -/
theorem fill_iff {n : Nat} {ps : List (Int × Int)} {s : Nat} (hs : s < one n) : (fillW n ps s = s) ↔ downB n ps s = true := by
  rw [isDown_iff]
  constructor
  · intro h; rw [← h]; exact fill_down n ps s
  · exact fill_own hs

/-- The edge among the first k. -/
def edgeP (f : Nat → Nat) (s : Nat) : Nat → Nat
  | 0 => 0
  | k + 1 => if f k &&& s = one k then edgeP f s k ||| one k else edgeP f s k
theorem edgeP_yes {f : Nat → Nat} {s k : Nat} (h : f k &&& s = one k) : edgeP f s (k + 1) = edgeP f s k ||| one k := by simp [edgeP, h]
theorem edgeP_no {f : Nat → Nat} {s k : Nat} (h : ¬ f k &&& s = one k) : edgeP f s (k + 1) = edgeP f s k := by simp [edgeP, h]
theorem edgeP_lt (f : Nat → Nat) (s : Nat) : ∀ k, edgeP f s k < one k
  | 0 => by simp [edgeP, one]
  | k + 1 => by
    have ih := edgeP_lt f s k
    have h2 : one k < one (k + 1) := one_lt_one (by omega)
    unfold edgeP
    split
    · exact or_lt_one (by omega) h2
    · omega
theorem mem_edgeP {f : Nat → Nat} {s x : Nat} : ∀ k, (edgeP f s k).testBit x = true ↔ x < k ∧ f x &&& s = one x
  | 0 => by simp [edgeP]
  | k + 1 => by
    have ih := mem_edgeP (f := f) (s := s) (x := x) k
    by_cases h : f k &&& s = one k
    · rw [edgeP_yes h, Nat.testBit_or, one_testBit, Bool.or_eq_true, ih, decide_eq_true_iff]
      constructor
      · rintro (⟨h1, h2⟩ | rfl)
        · exact ⟨by omega, h2⟩
        · exact ⟨by omega, h⟩
      · rintro ⟨h1, h2⟩
        by_cases e : k = x
        · exact .inr e
        · exact .inl ⟨by omega, h2⟩
    · rw [edgeP_no h, ih]
      constructor
      · rintro ⟨h1, h2⟩; exact ⟨by omega, h2⟩
      · rintro ⟨h1, h2⟩
        refine ⟨?_, h2⟩
        by_cases e : x = k
        · subst e; exact absurd h2 h
        · omega
theorem edgeP_all {n : Nat} {ps : List (Int × Int)} {s : Nat} (_hs : s < one n) : edgeP (upT n ps) s n = edgeW n ps s :=
  word_ext (edgeP_lt _ _ _) (edge_lt _ _ _) fun x hx => by
    rw [Bool.eq_iff_iff, mem_edgeP, mem_edge]
    constructor
    · rintro ⟨_, h⟩
      have hb : ∀ b, (upT n ps x &&& s).testBit b = decide (x = b) := fun b => by rw [h, one_testBit]
      refine ⟨hx, ?_, fun b hbn hne hsb => ?_⟩
      · have := hb x; rw [Nat.testBit_and] at this; simp at this; exact this.2
      · have := hb b
        rw [Nat.testBit_and, upT_testBit, hsb] at this
        have hne' : ¬ x = b := fun e => hne e.symm
        simpa [hbn, hne'] using this
    · rintro ⟨_, h1, h2⟩
      refine ⟨hx, word_ext (n := n) (and_lt_one (upT_lt _ _ _)) (one_lt_one hx) fun b hbn => ?_⟩
      rw [Nat.testBit_and, upT_testBit, one_testBit]
      by_cases e : x = b
      · subst e; simp [hx, h1, under_refl]
      · cases hsb : s.testBit b with
        | false => simp [e]
        | true => simp [e, h2 b hbn (fun e2 => e e2.symm) hsb]

set_option maxHeartbeats 1000000 in
theorem fill_any (n s : Nat) (g : Nat → Nat) (A : Option Addr) (c : Nat) (w : World) (hr : Tab w A n g) (hn1 : 1 ≤ n) (hn6 : n ≤ 6) (hs : s < one n) (hg : ∀ a, g a < one n) :
    Calls Tryd.prog 21 #[.slice A n c, .int .u32 s] w fun e w' => e = .returned (.int .u32 (fillP g s n)) ∧ w = w' := by
  obtain ⟨gb, off, rfl, hcell⟩ := hr.cell (by omega)
  have HC := Lib.hid hcell
  have h64 := one_le_64 hn6
  have HG := Lib.hid hg
  have HS := Lib.hid hs
  have hs32 : s < 4294967296 := by omega
  clear hcell hr hg
  go_enter Tryd.func21, Tryd.ntmps21
  go_wp2
  go_loopw [5, 10] (fun fv iv wr => ∃ k : Nat, iv = .int .i64 k ∧ k ≤ n ∧ (∃ F : Nat, F = fillP g s k ∧ fv = .int .u32 F) ∧ w = wr) (fun _ iv _ => n - (intOf iv).toNat)
  case atStart => exact ⟨0, rfl, Nat.zero_le _, ⟨_, rfl, rfl⟩, rfl⟩
  case round =>
    obtain ⟨k, rfl, hk, ⟨F, hF, rfl⟩, rfl⟩ := hrel
    have hF32 : F < 4294967296 := by rw [hF]; have := fillP_lt HS.out HG.out k; omega
    have HF := Lib.hid hF
    clear hF
    by_cases hlt : k < n
    · have hca : w.cell? ⟨gb, off + k, none⟩ = some (.int .u32 (g k : Nat)) := HC.out k hlt
      have hgk : g k < 4294967296 := by have := HG.out k; omega
      cases hbit : s.testBit k with
      | true =>
        have HP := Lib.hid (fillP_yes (g := g) hbit)
        go_wp2_with (go_at_call 27; refine (dnHas_any s k (by omega) hs32 _).mono ?_; rintro e w' ⟨rfl, rfl⟩)
        go_roundw
        case rel => exact ⟨k + 1, by go_num, by omega, ⟨F ||| g k, by rw [HP.out, HF.out], by rw [u32_or_nat _ _ hF32 hgk]⟩, trivial⟩
        case measure => simp [intOf]; omega
      | false =>
        have HP := Lib.hid (fillP_no (g := g) hbit)
        go_wp2_with (go_at_call 27; refine (dnHas_any s k (by omega) hs32 _).mono ?_; rintro e w' ⟨rfl, rfl⟩)
        go_roundw
        case rel => exact ⟨k + 1, by go_num, by omega, ⟨F, by rw [HP.out, HF.out], rfl⟩, trivial⟩
        case measure => simp [intOf]; omega
    · obtain rfl : k = n := by omega
      go_wp2
      go_ret
      exact ⟨ret_int (by rw [HF.out]), rfl⟩
end Go.Proofs.YtmlggmopkelcfaaDoor
