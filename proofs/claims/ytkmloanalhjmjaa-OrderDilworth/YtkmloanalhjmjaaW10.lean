/- The greatest sets apart: syllogistref.Free, Widest, order.isApart, Apart. -/
import Derived.Test.YtkmloanalhjmjaaW7
import Derived.Test.YtkmloanalhjmjaaPop
namespace Go.Proofs.Ytkmloanalhjmjaa
open Go.RowKit

/-- No two of a set are one below the other: looked at for the first i, and the first j of i. -/
def Fr (n : Nat) (ps : List (Int × Int)) (s i j : Nat) : Prop :=
  ∀ a b : Nat, (a < i ∧ b < n ∨ a = i ∧ b < j) → a ≠ b → s.testBit a = true → s.testBit b = true → under ps a b = false
open Classical in
/-- Is none of a set below another one of it? -/
noncomputable def freeB (n : Nat) (ps : List (Int × Int)) (s : Nat) : Bool := decide (Fr n ps s n 0)
theorem freeB_iff {n : Nat} {ps : List (Int × Int)} {s : Nat} : freeB n ps s = true ↔ Fr n ps s n 0 := by simp [freeB]
theorem freeB_no {n : Nat} {ps : List (Int × Int)} {s a b : Nat} (ha : a < n) (hb : b < n) (hab : a ≠ b) (h1 : s.testBit a = true) (h2 : s.testBit b = true) (h3 : under ps a b = true) : freeB n ps s = false := by
  cases h : freeB n ps s with
  | false => rfl
  | true =>
    have := freeB_iff.1 h a b (.inl ⟨ha, hb⟩) hab h1 h2
    rw [h3] at this
    cases this
theorem Fr.init (n : Nat) (ps : List (Int × Int)) (s : Nat) : Fr n ps s 0 0 := by intro a b h; omega
theorem Fr.step {n : Nat} {ps : List (Int × Int)} {s i j : Nat} (h : Fr n ps s i j) (hn : i ≠ j → s.testBit i = true → s.testBit j = true → under ps i j = false) : Fr n ps s i (j + 1) := by
  intro a b hab
  by_cases e : a = i ∧ b = j
  · obtain ⟨rfl, rfl⟩ := e; exact hn
  · exact h a b (by omega)
theorem Fr.next {n : Nat} {ps : List (Int × Int)} {s i : Nat} (h : Fr n ps s i n) : Fr n ps s (i + 1) 0 := by
  intro a b hab
  exact h a b (by omega)

set_option maxHeartbeats 1000000 in
theorem Free_any (n s : Nat) (ps : List (Int × Int)) (A : Option Addr) (c : Nat) (w : World) (hr : Row w A (pairsC ps)) (hn6 : n ≤ 6) (hl : ps.length ≤ 20) (hs : s < 4294967296) :
    Calls Try.prog 45 #[.int .i64 n, .slice A ps.length c, .int .u32 s] w fun e w' => e = .returned (.bool (freeB n ps s)) ∧ Below w.heap.size w w' := by
  go_enter Try.func45, Try.ntmps45
  go_wp2
  go_loopw [7] (fun v wr => ∃ i : Nat, v = .int .i64 i ∧ i ≤ n ∧ Fr n ps s i 0 ∧ Below w.heap.size w wr) (fun v _ => n - (intOf v).toNat)
  case atStart => exact ⟨0, rfl, Nat.zero_le _, Fr.init n ps s, Below.refl _ _⟩
  case round =>
    obtain ⟨i, rfl, hi, hfr, hbel⟩ := hrel
    have HF := Lib.hid hfr
    clear hfr
    by_cases hin : i < n
    · go_wp2
      go_loopw [8] (fun v wr => ∃ j : Nat, v = .int .i64 j ∧ j ≤ n ∧ Fr n ps s i j ∧ Below w.heap.size w wr) (fun v _ => n - (intOf v).toNat)
      case atStart => exact ⟨0, rfl, Nat.zero_le _, HF.out, hbel⟩
      case round =>
        clear HF hbel
        obtain ⟨j, rfl, hj, hfr, hbel⟩ := hrel
        have HF := Lib.hid hfr
        clear hfr
        by_cases hjn : j < n
        · by_cases hij : i = j
          · have hd : ((i : Int) != (j : Int)) = false := by simp; omega
            have HE := Lib.hid hij
            clear hij
            go_wp2
            go_roundw
            case rel => exact ⟨j + 1, by go_num, by omega, HF.out.step (fun h => absurd HE.out h), hbel⟩
            case measure => simp [intOf]; omega
          · have hd : ((i : Int) != (j : Int)) = true := by simp; omega
            have HE := Lib.hid hij
            clear hij
            go_wp2_with fail
            refine (Bit_any s i (by omega) hs _).mono ?_
            rintro e w' ⟨rfl, rfl⟩
            cases hb1 : s.testBit i with
            | false =>
              have H1 := Lib.hid hb1
              clear hb1
              go_wp2
              go_roundw
              case rel => exact ⟨j + 1, by go_num, by omega, HF.out.step (fun _ h => by rw [H1.out] at h; cases h), hbel⟩
              case measure => simp [intOf]; omega
            | true =>
              have H1 := Lib.hid hb1
              clear hb1
              go_wp2_with fail
              refine (Bit_any s j (by omega) hs _).mono ?_
              rintro e w' ⟨rfl, rfl⟩
              cases hb2 : s.testBit j with
              | false =>
                have H2 := Lib.hid hb2
                clear hb2
                go_wp2
                go_roundw
                case rel => exact ⟨j + 1, by go_num, by omega, HF.out.step (fun _ _ h => by rw [H2.out] at h; cases h), hbel⟩
                case measure => simp [intOf]; omega
              | true =>
                have H2 := Lib.hid hb2
                clear hb2
                go_wp2_with fail
                refine (Under_any n ps A c i j _ (hr.below hbel) hl).mono ?_
                rintro e w2 ⟨rfl, hb2⟩
                have hbel2 := hbel.trans (hb2.mono hbel.size)
                cases hu : under ps i j with
                | false =>
                  have HU := Lib.hid hu
                  clear hu
                  go_wp2
                  go_roundw
                  case rel => exact ⟨j + 1, by go_num, by omega, HF.out.step (fun _ _ _ => HU.out), hbel2⟩
                  case measure => simp [intOf]; omega
                | true =>
                  have HV := Lib.hid (freeB_no hin hjn HE.out H1.out H2.out hu)
                  clear hu
                  go_wp2
                  go_ret
                  exact ⟨ret_bool HV.out.symm, hbel2⟩
        · obtain rfl : j = n := by omega
          go_wp2
          go_roundw
          case rel => exact ⟨i + 1, by go_num, by omega, HF.out.next, hbel⟩
          case measure => simp [intOf]; omega
    · obtain rfl : i = n := by omega
      have HV := Lib.hid (freeB_iff.2 HF.out)
      go_wp2
      go_ret
      exact ⟨ret_bool HV.out.symm, hbel⟩

/-- The first of the greatest sets apart among the words below k. -/
noncomputable def widestTo (n : Nat) (ps : List (Int × Int)) : Nat → Nat
  | 0 => 0
  | k + 1 => if decide (pop (widestTo n ps k) < pop k) && freeB n ps k then k else widestTo n ps k
theorem widestTo_yes {n : Nat} {ps : List (Int × Int)} {k : Nat} (h1 : pop (widestTo n ps k) < pop k) (h2 : freeB n ps k = true) : widestTo n ps (k + 1) = k := by
  rw [widestTo, h2]; simp [h1]
theorem widestTo_no {n : Nat} {ps : List (Int × Int)} {k : Nat} (h : ¬ (pop (widestTo n ps k) < pop k ∧ freeB n ps k = true)) : widestTo n ps (k + 1) = widestTo n ps k := by
  rw [widestTo]
  split
  · rename_i h1
    rw [Bool.and_eq_true, decide_eq_true_iff] at h1
    exact absurd h1 h
  · rfl
theorem widestTo_le (n : Nat) (ps : List (Int × Int)) (k : Nat) : widestTo n ps k ≤ k := by
  induction k with
  | zero => simp [widestTo]
  | succ k ih => rw [widestTo]; split <;> omega
/-- The first of the greatest sets apart. -/
noncomputable def widest (n : Nat) (ps : List (Int × Int)) : Nat := widestTo n ps (one n)

set_option maxHeartbeats 1000000 in
theorem Widest_any (n : Nat) (ps : List (Int × Int)) (A : Option Addr) (c : Nat) (w : World) (hr : Row w A (pairsC ps)) (hn6 : n ≤ 6) (hl : ps.length ≤ 20) :
    Calls Try.prog 27 #[.int .i64 n, .slice A ps.length c] w fun e w' => e = .returned (.int .u32 (widest n ps)) ∧ Below w.heap.size w w' := by
  have h64 := one_le_64 hn6
  have h1n := one_int n (by omega)
  go_enter Try.func27, Try.ntmps27
  go_wp2
  go_loopw [5, 6] (fun b v wr => ∃ k : Nat, v = .int .u32 k ∧ k ≤ one n ∧ b = .int .u32 (widestTo n ps k) ∧ Below w.heap.size w wr) (fun _ v _ => one n - (intOf v).toNat)
  case atStart => exact ⟨0, rfl, Nat.zero_le _, rfl, Below.refl _ _⟩
  case round =>
    obtain ⟨k, rfl, hk, rfl, hbel⟩ := hrel
    have hle := widestTo_le n ps k
    by_cases hlt : k < one n
    · go_wp2_with fail
      refine (Size_any k (by omega) _).mono ?_
      rintro e w' ⟨rfl, rfl⟩
      go_wp2_with fail
      refine (Size_any (widestTo n ps k) (by omega) _).mono ?_
      rintro e w' ⟨rfl, rfl⟩
      by_cases hp : pop (widestTo n ps k) < pop k
      · have hd : decide (pop (widestTo n ps k) < pop k) = true := by simpa using hp
        go_wp2_with fail
        refine (Free_any n k ps A c _ (hr.below hbel) hn6 hl (by omega)).mono ?_
        rintro e w2 ⟨rfl, hb2⟩
        have hbel2 := hbel.trans (hb2.mono hbel.size)
        cases hf : freeB n ps k with
        | true =>
          have HW := Lib.hid (widestTo_yes hp hf)
          clear hf
          go_wp2
          go_roundw
          case rel => exact ⟨k + 1, by go_num, by omega, by rw [HW.out], hbel2⟩
          case measure => simp [intOf]; omega
        | false =>
          have HW := Lib.hid (widestTo_no (n := n) (ps := ps) (k := k) (by rw [hf]; simp))
          clear hf
          go_wp2
          go_roundw
          case rel => exact ⟨k + 1, by go_num, by omega, by rw [HW.out], hbel2⟩
          case measure => simp [intOf]; omega
      · have hd : decide (pop (widestTo n ps k) < pop k) = false := by simpa using hp
        have HW := Lib.hid (widestTo_no (n := n) (ps := ps) (k := k) (fun h => hp h.1))
        go_wp2
        go_roundw
        case rel => exact ⟨k + 1, by go_num, by omega, by rw [HW.out], hbel⟩
        case measure => simp [intOf]; omega
    · obtain rfl : k = one n := by omega
      go_wp2
      go_ret
      exact ⟨rfl, hbel⟩

end Go.Proofs.Ytkmloanalhjmjaa
