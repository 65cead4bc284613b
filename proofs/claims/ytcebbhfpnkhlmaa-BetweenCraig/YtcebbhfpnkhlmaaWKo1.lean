/- between.checkTables, checkKept, follows. -/
import Derived.Test.YtcebbhfpnkhlmaaWTd
import Derived.Test.YtcebbhfpnkhlmaaWK1
import Derived.Test.YtcebbhfpnkhlmaaKSpec
namespace Go.Proofs.Ytcebbhfpnkhlmaa
open Go.RowKit

/-! ## The check -/
/-- The first error of tables. -/
noncomputable def firstC (n : Int) : List (List Bool) → Int
  | [] => 0
  | f :: fs => if codeT n f.length ≠ 0 then codeT n f.length else firstC n fs
theorem firstC_zero {n : Int} {fs : List (List Bool)} (h : ∀ f ∈ fs, codeT n f.length = 0) : firstC n fs = 0 := by
  induction fs with
  | nil => rfl
  | cons f fs ih =>
    unfold firstC
    rw [if_neg (by simp [h f (by simp)])]
    exact ih fun g hg => h g (by simp [hg])
theorem firstC_at {n : Int} {fs : List (List Bool)} {k : Nat} {f : List Bool} (h : ∀ g ∈ fs.take k, codeT n g.length = 0) (hf : fs[k]? = some f) (hc : codeT n f.length ≠ 0) : firstC n fs = codeT n f.length := by
  induction fs generalizing k with
  | nil => simp at hf
  | cons g fs ih =>
    unfold firstC
    cases k with
    | zero =>
      simp at hf
      subst hf
      rw [if_pos hc]
    | succ k =>
      rw [if_neg (by simp [h g (by simp)])]
      exact ih (k := k) (fun x hx => h x (by rw [List.take_succ_cons]; exact List.mem_cons_of_mem _ hx)) (by simpa using hf)
theorem firstC_one (n : Int) (f : List Bool) : firstC n [f] = codeT n f.length := by
  simp only [firstC]
  split
  · rfl
  · rename_i h; simpa using (Decidable.not_not.1 h).symm
theorem firstC_two (n : Int) (f g : List Bool) : firstC n [f, g] = codeK n f.length g.length 0 := by
  have h0 : 0 < one n.toNat := one_pos _
  simp only [firstC, codeK]
  rw [if_pos h0]

set_option maxHeartbeats 1000000 in
theorem checkTables_any (n : Int) (fs : List (List Bool)) (A : Option Addr) (c : Nat) (w : World) (hl : fs.length ≤ maxLen) (ht : Tabs w A fs) (hX : Laid w) :
    Calls Try.prog 24 #[.int .i64 n, .slice A fs.length c] w fun e w' => e = .returned (.int .i64 (firstC n fs)) ∧ Below w.heap.size w w' := by
  have hll : fs.length < 9223372036854775808 := by unfold maxLen at hl; omega
  go_enter Try.func24, Try.ntmps24
  go_wp2
  go_loopw [11] (fun v wr => ∃ k : Nat, v = .int .i64 k ∧ k ≤ fs.length ∧ (∀ f ∈ fs.take k, codeT n f.length = 0) ∧ Below w.heap.size w wr) (fun v _ => fs.length - (intOf v).toNat)
  case atStart => exact ⟨0, rfl, Nat.zero_le _, by simp, Below.refl _ _⟩
  case round =>
    obtain ⟨k, rfl, hk, hal, hb⟩ := hrel
    have HA := Lib.hid hal
    have HB := Lib.hid hb
    clear hal
    by_cases hlt : k < fs.length
    · obtain ⟨f, hf⟩ := get_some hlt
      obtain ⟨hfl, b, off, B, d, rfl, hc, hrow⟩ := (ht.below hb).at hf
      have hD := TDual_ok n f B d _ hfl hrow (hX.below hb)
      have HF := Lib.hid hf
      clear hf hrow hb
      by_cases h0 : codeT n f.length = 0
      · have HN := Lib.hid (show ∀ g ∈ fs.take (k + 1), codeT n g.length = 0 by
          intro g hg
          rw [List.take_add_one, HF.out, List.mem_append] at hg
          rcases hg with hg | hg
          · exact HA.out g hg
          · simp at hg; rw [hg]; exact h0)
        rw [h0] at hD
        clear h0
        go_wp2_with fail
        refine hD.mono ?_
        rintro e w1 ⟨A2, c2, l, rfl, hq, hq2, hb1⟩
        clear hD hq hq2
        have HB2 := Lib.hid (HB.out.trans (hb1.mono HB.out.size))
        clear hb1
        go_wp2
        go_roundw
        case rel => exact ⟨k + 1, by go_num, by omega, HN.out, HB2.out⟩
        case measure => simp [intOf]; omega
      · have HC := Lib.hid (firstC_at HA.out HF.out h0)
        have hne : (codeT n f.length != 0) = true := by simpa using h0
        clear h0
        generalize codeT n f.length = q at *
        go_wp2_with fail
        refine hD.mono ?_
        rintro e w1 ⟨A2, c2, l, rfl, hq, hq2, hb1⟩
        clear hD hq hq2
        have HB2 := Lib.hid (HB.out.trans (hb1.mono HB.out.size))
        clear hb1
        go_wp2
        go_ret
        exact ⟨ret_int HC.out.symm, HB2.out⟩
    · obtain rfl : k = fs.length := by omega
      have HC := Lib.hid (firstC_zero (n := n) (fs := fs) (fun f hf => HA.out f (by rw [List.take_length]; exact hf)))
      go_wp2
      go_ret
      exact ⟨ret_int HC.out.symm, HB.out⟩

/-- The code of tables and a set. -/
noncomputable def keptC (n : Int) (keep : Nat) (fs : List (List Bool)) : Int := if firstC n fs ≠ 0 then firstC n fs else if keep < one n.toNat then 0 else 4
theorem keptC_one (n : Int) (keep : Nat) (f : List Bool) : keptC n keep [f] = codeK n f.length f.length keep := by
  unfold keptC codeK
  rw [firstC_one]
  split
  · rfl
  · rfl
theorem keptC_two (n : Int) (keep : Nat) (f g : List Bool) : keptC n keep [f, g] = codeK n f.length g.length keep := by
  unfold keptC codeK
  simp only [firstC]
  by_cases h1 : codeT n f.length = 0
  · by_cases h2 : codeT n g.length = 0
    · simp [h1, h2]
    · simp [h1, h2]
  · simp [h1]
theorem shr_fitK {x n : Nat} : ((x : Int) / 2 ^ n != 0) = !decide (x < one n) := by
  have e : (x : Int) / 2 ^ n = ((x / 2 ^ n : Nat) : Int) := by simp
  rw [e, Bool.eq_iff_iff]
  have h : x / 2 ^ n = 0 ↔ x < 2 ^ n := by rw [Nat.div_eq_zero_iff]; have := Nat.two_pow_pos n; omega
  unfold one
  simp only [bne_iff_ne, ne_eq, Bool.not_eq_true', decide_eq_false_iff_not]
  rw [← h]
  omega

set_option maxHeartbeats 1000000 in
theorem checkKept_any (n : Int) (keep : Nat) (f : List Bool) (fs : List (List Bool)) (A : Option Addr) (c : Nat) (w : World) (hl : (f :: fs).length ≤ maxLen) (ht : Tabs w A (f :: fs)) (hX : Laid w) :
    Calls Try.prog 26 #[.int .i64 n, .int .u32 keep, .slice A (f :: fs).length c] w fun e w' => e = .returned (.int .i64 (keptC n keep (f :: fs))) ∧ Below w.heap.size w w' := by
  have hT := checkTables_any n (f :: fs) A c w hl ht hX
  by_cases h0 : firstC n (f :: fs) = 0
  · have hz0 : codeT n f.length = 0 := by
      unfold firstC at h0
      split at h0
      · exact h0
      · rename_i h; exact Decidable.not_not.1 h
    obtain ⟨k, rfl, hk4, _⟩ := codeT_zero hz0
    have HC := Lib.hid (show keptC k keep (f :: fs) = if keep < one k then 0 else 4 by unfold keptC; rw [if_neg (by simp [h0])]; simp)
    rw [h0] at hT
    rw [HC.out]
    have hz := shr_fitK (x := keep) (n := k)
    clear h0 hz0
    by_cases h1 : keep < one k
    · rw [decide_eq_true h1] at hz
      rw [if_pos h1]
      clear h1
      go_enter Try.func26, Try.ntmps26
      go_wp2_with fail
      refine hT.mono ?_
      rintro e w1 ⟨rfl, hb⟩
      have HB := Lib.hid hb
      clear hT hb
      go_wp2
      go_ret
      exact ⟨rfl, HB.out⟩
    · rw [decide_eq_false h1] at hz
      rw [if_neg h1]
      clear h1
      go_enter Try.func26, Try.ntmps26
      go_wp2_with fail
      refine hT.mono ?_
      rintro e w1 ⟨rfl, hb⟩
      have HB := Lib.hid hb
      clear hT hb
      go_wp2
      go_ret
      exact ⟨rfl, HB.out⟩
  · have HC := Lib.hid (show keptC n keep (f :: fs) = firstC n (f :: fs) by unfold keptC; rw [if_pos h0])
    rw [HC.out]
    generalize firstC n (f :: fs) = q at *
    have hne : (q != 0) = true := by simpa using h0
    clear h0
    go_enter Try.func26, Try.ntmps26
    go_wp2_with fail
    refine hT.mono ?_
    rintro e w1 ⟨rfl, hb⟩
    have HB := Lib.hid hb
    clear hT hb
    go_wp2
    go_ret
    exact ⟨rfl, HB.out⟩

/-! ## What follows -/
set_option maxHeartbeats 1000000 in
theorem kFollows_any (f g : List Bool) (A A2 : Option Addr) (c c2 : Nat) (w : World) (hr : Row w A (boolsC f)) (hr2 : Row w A2 (boolsC g)) (hl : f.length ≤ g.length) (hm : g.length ≤ 1000000) :
    Calls Try.prog 25 #[.slice A f.length c, .slice A2 g.length c2] w fun e w' => e = .returned (.bool (folB (atB f) (atB g) f.length)) ∧ w = w' := by
  go_enter Try.func25, Try.ntmps25
  go_wp2
  go_loopw [9] (fun sv wr => ∃ s : Nat, sv = .int .i64 s ∧ s ≤ f.length ∧ folB (atB f) (atB g) s = true ∧ w = wr) (fun sv _ => f.length - (intOf sv).toNat)
  case atStart => exact ⟨0, rfl, Nat.zero_le _, rfl, rfl⟩
  case round =>
    obtain ⟨s, rfl, hs, hp, rfl⟩ := hrel
    have HP := Lib.hid hp
    clear hp
    by_cases hlt : s < f.length
    · obtain ⟨b, off, rfl, hc⟩ := hr.at (k := s) (by simpa using hlt)
      obtain ⟨b', off', rfl, hc'⟩ := hr2.at (k := s) (by simp; omega)
      have d1 := hc _ _ (boolsC_at (atB_get hlt))
      have d2 := hc' _ _ (boolsC_at (atB_get (show s < g.length by omega)))
      have HN := Lib.hid (fol_succ (atB f) (atB g) s)
      have HX := Lib.hid (fun h1 h2 => fol_no (F := atB f) (G := atB g) hlt h1 h2)
      rw [HP.out, Bool.true_and] at HN
      clear hc hc'
      generalize atB f s = x at *
      generalize atB g s = y at *
      cases x
      · go_wp2
        go_roundw
        case rel => exact ⟨s + 1, by go_num, by omega, by rw [HN.out]; rfl, trivial⟩
        case measure => simp [intOf]; omega
      · cases y
        · go_wp2
          go_ret
          exact ⟨ret_bool (HX.out (by first | exact trivial | rfl) (by first | exact trivial | rfl)).symm, rfl⟩
        · go_wp2
          go_roundw
          case rel => exact ⟨s + 1, by go_num, by omega, by rw [HN.out]; rfl, trivial⟩
          case measure => simp [intOf]; omega
    · obtain rfl : s = f.length := by omega
      go_wp2
      go_ret
      exact ⟨ret_bool HP.out.symm, rfl⟩

end Go.Proofs.Ytcebbhfpnkhlmaa
