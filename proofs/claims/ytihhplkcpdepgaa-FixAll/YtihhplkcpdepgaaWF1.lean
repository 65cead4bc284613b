/- syllogistref.MapCheck, Rises, Fixed. -/
import Derived.Test.YtihhplkcpdepgaaFx
import Derived.Test.YtihhplkcpdepgaaWC1
namespace Go.Proofs.Ytihhplkcpdepgaa
open Go.RowKit

theorem one_le_32 {n : Nat} (h : n ≤ 5) : one n ≤ 32 := by
  have : one n ≤ one 5 := Nat.pow_le_pow_right (by omega) h
  simpa [one] using this
theorem shl_i64 {n : Nat} (hn : n ≤ 5) : IntKind.i64.wrap ((2 : Int) ^ n) = (one n : Int) := by
  have h1 := one_le_32 hn
  have e : ((2 : Int) ^ n) = (one n : Int) := by unfold one; simp
  rw [e]
  exact IntWalk.i64_in _ (by omega)

set_option maxHeartbeats 1000000 in
theorem MapCheck_any (n : Int) (f : List Nat) (A : Option Addr) (c : Nat) (w : World) (hr : Row w A (words f)) :
    Calls Try.prog 10 #[.int .i64 n, .slice A f.length c] w fun e w' => e = .returned (.int .i64 (codeM n f)) ∧ w = w' := by
  by_cases hL : n < 1 ∨ 5 < n
  · have HC := Lib.hid (codeM_large (f := f) hL)
    rw [HC.out]
    by_cases h1 : n < 1
    · clear hL; go_enter Try.func10, Try.ntmps10; go_wp2; go_ret; exact ⟨rfl, rfl⟩
    · have h2 : 5 < n := by omega
      clear hL; go_enter Try.func10, Try.ntmps10; go_wp2; go_ret; exact ⟨rfl, rfl⟩
  · obtain ⟨n, rfl⟩ := Int.eq_ofNat_of_zero_le (show 0 ≤ n by omega)
    obtain ⟨hn1, hn5⟩ : 1 ≤ n ∧ n ≤ 5 := by omega
    have h32 := one_le_32 hn5
    have e2 : ((2 : Int) ^ n) = (one n : Int) := by unfold one; simp
    clear hL
    by_cases hl : f.length = one n
    · have hd : ((f.length : Int) != (one n : Int)) = false := by rw [hl]; simp
      have HL := Lib.hid hl
      have hfl : f.length ≤ 32 := by omega
      clear hl
      go_enter Try.func10, Try.ntmps10
      go_wp2
      go_loopw [21] (fun iv wr => ∃ k : Nat, iv = .int .i64 k ∧ k ≤ f.length ∧ FitT n (f.take k) ∧ w = wr) (fun iv _ => f.length - (intOf iv).toNat)
      case atStart => exact ⟨0, rfl, Nat.zero_le _, by intro r hr; simp at hr, rfl⟩
      case round =>
        obtain ⟨k, rfl, hk, hft, rfl⟩ := hrel
        have HF := Lib.hid hft
        clear hft
        by_cases hlt : k < f.length
        · obtain ⟨r, hrk⟩ := get_some hlt
          obtain ⟨b, off, rfl, hcell⟩ := hr.at (k := k) (by rw [words_length]; exact hlt)
          have c1 := hcell _ _ (words_at hrk)
          have HR := Lib.hid hrk
          clear hrk hcell
          by_cases h1 : r < one n
          · have HS := Lib.hid (show FitT n (f.take (k + 1)) by
              intro x hx
              rw [List.take_add_one, HR.out] at hx
              simp only [Option.toList, List.mem_append, List.mem_singleton] at hx
              rcases hx with hx | rfl
              · exact HF.out x hx
              · exact h1)
            go_wp2_with fail
            refine (Fits_any n r (by omega) _).mono ?_
            rintro e w1 ⟨rfl, rfl⟩
            rw [decide_eq_true h1]
            clear h1
            go_wp2
            go_roundw
            case rel => exact ⟨k + 1, by go_num, by omega, HS.out, trivial⟩
            case measure => simp [intOf]; omega
          · have HC := Lib.hid (codeM_bad ⟨hn1, hn5⟩ HL.out (fun h => h1 (h _ (List.mem_of_getElem? HR.out))))
            go_wp2_with fail
            refine (Fits_any n r (by omega) _).mono ?_
            rintro e w1 ⟨rfl, rfl⟩
            rw [decide_eq_false h1]
            clear h1
            go_wp2
            go_ret
            exact ⟨ret_int HC.out.symm, rfl⟩
        · have HC := Lib.hid (codeM_ok ⟨hn1, hn5⟩ HL.out (show FitT n f by have := HF.out; rw [List.take_of_length_le (by omega)] at this; exact this))
          go_wp2
          go_ret
          exact ⟨ret_int HC.out.symm, rfl⟩
    · have hd : ((f.length : Int) != (one n : Int)) = true := by simp; omega
      have HC := Lib.hid (codeM_form ⟨hn1, hn5⟩ hl)
      clear hl
      go_enter Try.func10, Try.ntmps10
      go_wp2
      go_ret
      exact ⟨ret_int HC.out.symm, rfl⟩

set_option maxHeartbeats 1000000 in
theorem Rises_any (f : List Nat) (A : Option Addr) (c : Nat) (w : World) (hr : Row w A (words f)) (h32 : U32 f) (hl : f.length ≤ 32) :
    Calls Try.prog 11 #[.slice A f.length c] w fun e w' => e = .returned (.bool (riseB f)) ∧ ∃ d, w' = w.drewN d := by
  go_enter Try.func11, Try.ntmps11
  go_wp2
  go_loopw [3] (fun av wr => ∃ a : Nat, av = .int .i64 a ∧ a ≤ f.length ∧ RiseTo f a 0 ∧ ∃ d, wr = w.drewN d) (fun av _ => f.length - (intOf av).toNat)
  case atStart => exact ⟨0, rfl, Nat.zero_le _, RiseTo.init f, 0, rfl⟩
  case round =>
    obtain ⟨a, rfl, ha, hri, d, rfl⟩ := hrel
    have HT := Lib.hid hri
    clear hri
    by_cases hal : a < f.length
    · go_wp2
      go_loopw [4] (fun bv wr => ∃ b : Nat, bv = .int .i64 b ∧ b ≤ f.length ∧ RiseTo f a b ∧ ∃ d, wr = w.drewN d) (fun bv _ => f.length - (intOf bv).toNat)
      case atStart => exact ⟨0, rfl, Nat.zero_le _, HT.out, d, rfl⟩
      case round =>
        clear HT
        obtain ⟨b, rfl, hb, hri, d, rfl⟩ := hrel
        have HT := Lib.hid hri
        clear hri
        by_cases hbl : b < f.length
        · obtain ⟨g, off, rfl, hcell⟩ := (hr.drewN d).at (k := a) (by rw [words_length]; exact hal)
          obtain ⟨x, hx⟩ : ∃ x, im f a = x := ⟨_, rfl⟩
          obtain ⟨y, hy⟩ : ∃ y, im f b = y := ⟨_, rfl⟩
          have ca := hcell _ _ (words_at (rows_at hal))
          have cb := hcell _ _ (words_at (rows_at hbl))
          have hx32 := h32 _ (rows_mem hal)
          have hy32 := h32 _ (rows_mem hbl)
          rw [show f.getD a 0 = x from hx] at ca hx32
          rw [show f.getD b 0 = y from hy] at cb hy32
          have hor := i64_or_nat a b (by omega) (by omega)
          have HX := Lib.hid hx
          have HY := Lib.hid hy
          generalize hw3 : w.drewN d = w3 at *
          have HW := Lib.hid hw3
          clear hcell hx hy hw3
          cases h1 : sub a b with
          | true =>
            have hq : ((a ||| b : Nat) : Int) == (b : Int) := by unfold sub at h1; rw [beq_iff_eq] at h1; rw [h1]; simp
            cases h2 : sub x y with
            | true =>
              have HS := Lib.hid (HT.out.step (fun _ => by rw [HX.out, HY.out]; exact h2))
              have HIn := Lib.hid (show (x ||| y == y) = true from h2)
              clear h1 h2
              go_wp2
              go_quiet ((go_at_call 16; exact Calls.quiet_of_same (In_still x y HIn.out hx32 hy32 _)))
              clear hor hq
              go_wp2
              go_roundw
              case rel => exact ⟨b + 1, by go_num, by omega, HS.out, d + nq, by rw [← HW.out, World.drewN_drewN]⟩
              case measure => simp [intOf]; omega
            | false =>
              have HS := Lib.hid (rise_no hal hbl h1 (by rw [HX.out, HY.out]; exact h2))
              have HIn := Lib.hid (show (x ||| y == y) = false from h2)
              clear h1 h2
              go_wp2
              go_quiet ((go_at_call 16; exact Calls.quiet_of_same (In_still x y HIn.out hx32 hy32 _)))
              clear hor hq
              go_wp2
              go_ret
              exact ⟨ret_bool HS.out.symm, d + nq, by rw [← HW.out, World.drewN_drewN]⟩
          | false =>
            have hq : (((a ||| b : Nat) : Int) == (b : Int)) = false := by
              rw [beq_eq_false_iff_ne]
              intro e
              unfold sub at h1
              rw [beq_eq_false_iff_ne] at h1
              exact h1 (by omega)
            have HS := Lib.hid (HT.out.step (fun h => by rw [h] at h1; cases h1))
            clear h1
            go_wp2
            go_quiet (fail)
            clear hor hq
            go_wp2
            go_roundw
            case rel => exact ⟨b + 1, by go_num, by omega, HS.out, d + nq, by rw [← HW.out, World.drewN_drewN]⟩
            case measure => simp [intOf]; omega
        · have hbe : b = f.length := by omega
          subst hbe
          go_wp2
          go_roundw
          case rel => exact ⟨a + 1, by go_num, by omega, HT.out.next, d, rfl⟩
          case measure => simp [intOf]; omega
    · have hae : a = f.length := by omega
      subst hae
      have HV := Lib.hid (rise_iff.2 HT.out.all)
      go_wp2
      go_ret
      exact ⟨ret_bool HV.out.symm, d, rfl⟩

/-- The loop that lists the fixed sets. -/
def FixRel (f : List Nat) (w : World) (v sv : Value) (wr : World) : Prop :=
  ∃ k : Nat, sv = .int .i64 k ∧ k ≤ f.length ∧ (∃ l, l = fixL f k ∧ OwnU wr w.heap.size v l) ∧ Below w.heap.size w wr

set_option maxHeartbeats 1000000 in
theorem Fixed_any (f : List Nat) (A : Option Addr) (c : Nat) (w : World) (hr : Row w A (words f)) (hl : f.length ≤ 32) :
    Calls Try.prog 14 #[.slice A f.length c] w fun e w' => ∃ (A2 : Option Addr) (c2 : Nat) (l : List Nat), e = .returned (.slice A2 l.length c2) ∧ l = fixL f f.length ∧ Row w' A2 (words l) ∧ Below w.heap.size w w' := by
  obtain ⟨i0, hi, hz0, hz1, hz2⟩ := info_parts info29
  have HI := Lib.hid (And.intro hi (And.intro hz0 (And.intro hz1 hz2)))
  clear hi hz0 hz1 hz2
  go_enter Try.func14, Try.ntmps14
  go_wp2
  go_loopw [3, 4] (fun v sv wr => FixRel f w v sv wr) (fun _ sv _ => f.length - (intOf sv).toNat)
  case atStart => exact ⟨0, rfl, Nat.zero_le _, ⟨[], rfl, World.ownsRow_nil _ _ _ _⟩, Below.refl _ _⟩
  case round =>
    obtain ⟨k, rfl, hk, ⟨u, hu, hown⟩, hbel⟩ := hrel
    have hul : u.length ≤ 32 := by rw [hu]; have := filter_len (fixB f) k; unfold fixL; omega
    have HU := Lib.hid hu
    have HO := Lib.hid (show _root_.Go.World.ownsRow _ w.heap.size 33 1 _ u.length (words u) from hown)
    have hsz := hbel.size
    clear hu hown
    by_cases hlt : k < f.length
    · obtain ⟨g, off, rfl, hcell⟩ := (hr.below hbel).at (k := k) (by rw [words_length]; exact hlt)
      obtain ⟨x, hx⟩ : ∃ x, im f k = x := ⟨_, rfl⟩
      have ck := hcell _ _ (words_at (rows_at hlt))
      rw [show f.getD k 0 = x from hx] at ck
      have HX := Lib.hid hx
      clear hcell hx
      by_cases hd : x = k
      · have HS := Lib.hid (filter_yes (p := fixB f) (k := k) (by unfold fixB; rw [HX.out, hd]; simp))
        subst hd
        obtain ⟨hi, hz0, hz1, hz2⟩ := HI.out
        go_wp2_with (first | (at_builtin; refine wpList_append_lies _ rfl _ _ 22 rfl w.heap.size 33 i0 (.int .u32 0) 1 4 Try.underlying22 hi hz0 hz1 hz2 rfl (by decide) _ _ _ rfl (HO.out.alloc _) ⟨_, 0, none⟩ 1 1 [.int .u32 x] rfl rfl (cell_one_new _ _ _) ?c1 (by decide) ?c2 ?c3 ?c4 _ rfl ?c6))
        case c1 => intro u hu; simp at hu; subst hu; rfl
        case c2 => unfold maxLen; omega
        case c3 => omega
        case c4 => simp; omega
        case c6 =>
          intro g3 cap3 w4 hown4 hgrow4 hat4 hlt4
          have HG4 := Lib.hid hgrow4
          have HO4 := Lib.hid hown4
          clear hown4 hgrow4 hat4 hi hz0 hz1 hz2
          go_wp2
          go_roundw
          case rel =>
            have hlt := fun k hk => (World.ownsRow.lt HO.out k hk).1
            refine ⟨x + 1, by go_num, by omega, ⟨u ++ [x], by unfold fixL; rw [HS.out, HU.out]; rfl, ?_⟩, ?_⟩
            · unfold OwnU
              rw [words_append, List.length_append]
              exact HO4.out
            · exact (hbel.alloc hsz _).grown HG4.out (by simp; omega) hlt
          case measure => simp [intOf]; omega
      · have HS := Lib.hid (filter_no (p := fixB f) (k := k) (by unfold fixB; rw [HX.out, beq_eq_false_iff_ne]; exact hd))
        have hq : ((x : Int) == (k : Int)) = false := by rw [beq_eq_false_iff_ne]; omega
        clear hd
        go_wp2
        go_roundw
        case rel => exact ⟨k + 1, by go_num, by omega, ⟨u, by unfold fixL; rw [HS.out, HU.out]; rfl, HO.out⟩, hbel⟩
        case measure => simp [intOf]; omega
    · have hke : k = f.length := by omega
      have HKe := Lib.hid hke
      obtain ⟨A5, c5, rfl, hrow5, _⟩ := OwnU.row HO.out
      have HR5 := Lib.hid hrow5
      clear HO hrow5 hke
      go_wp2
      go_ret
      exact ⟨A5, c5, u, rfl, by rw [HU.out, HKe.out], HR5.out, hbel⟩
end Go.Proofs.Ytihhplkcpdepgaa
