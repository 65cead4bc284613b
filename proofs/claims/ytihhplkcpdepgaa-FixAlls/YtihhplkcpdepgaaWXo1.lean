/- fix.all, fix.only, fix.check, fix.settle, the closures of fix.Rises and fix.All, fix.sets. -/
import Derived.Test.YtihhplkcpdepgaaXSpec
import Derived.Test.YtihhplkcpdepgaaSetW
import Derived.Test.YtihhplkcpdepgaaOwnU
namespace Go.Proofs.Ytihhplkcpdepgaa
open Go.RowKit

/-! ## Steps of one thing decide -/
/-- f falls at a step from s. -/
def fallB (n : Nat) (f : List Nat) (s : Nat) : Bool := (List.range n).any fun t => !sub (im f s) (im f (s ||| one t))
theorem fall_no {n : Nat} {f : List Nat} {s : Nat} : fallB n f s = false ↔ ∀ t, t < n → sub (im f s) (im f (s ||| one t)) = true := by
  unfold fallB
  rw [List.any_eq_false]
  simp
theorem part_next (a b t : Nat) : a ||| (b &&& full (t + 1)) = if b.testBit t then (a ||| (b &&& full t)) ||| one t else a ||| (b &&& full t) := by
  cases h : b.testBit t with
  | true =>
    rw [if_pos rfl]
    apply Nat.eq_of_testBit_eq
    intro i
    simp only [Nat.testBit_or, Nat.testBit_and, full_bit, one, Nat.testBit_two_pow]
    by_cases e : t = i
    · subst e; simp [h]
    · simp [e, show (i < t + 1) ↔ i < t from by omega]
  | false =>
    rw [if_neg (by simp)]
    apply Nat.eq_of_testBit_eq
    intro i
    simp only [Nat.testBit_or, Nat.testBit_and, full_bit]
    by_cases e : t = i
    · subst e; simp [h]
    · simp [show (i < t + 1) ↔ i < t from by omega]
theorem steps_rise {n : Nat} {f : List Nat} (hl : f.length = one n) (h : ∀ s, s < one n → fallB n f s = false) : Rise f := by
  intro a b ha hb hab
  rw [hl] at ha hb
  have key : ∀ t, t ≤ n → sub (im f a) (im f (a ||| (b &&& full t))) = true := by
    intro t
    induction t with
    | zero =>
      intro _
      rw [show full 0 = 0 from rfl, Nat.and_zero, Nat.or_zero]
      exact sub_refl _
    | succ t ih =>
      intro ht
      have i1 := ih (by omega)
      rw [part_next]
      cases hbt : b.testBit t with
      | false => rw [if_neg (by simp)]; exact i1
      | true =>
        rw [if_pos rfl]
        refine sub_trans i1 (fall_no.1 (h _ ?_) t (by omega))
        exact or_lt_one ha (Nat.lt_of_le_of_lt Nat.and_le_left hb)
  have := key n (Nat.le_refl _)
  have e : a ||| (b &&& full n) = b := by
    apply Nat.eq_of_testBit_eq
    intro i
    rw [Nat.testBit_or, Nat.testBit_and, full_bit]
    cases hi : b.testBit i with
    | true => simp [bit_lt hb hi]
    | false =>
      cases hai : a.testBit i with
      | false => simp
      | true => rw [sub_iff.1 hab i hai] at hi; cases hi
  rw [e] at this
  exact this
theorem rise_steps {n : Nat} {f : List Nat} (hl : f.length = one n) (h : Rise f) {s : Nat} (hs : s < one n) : fallB n f s = false :=
  fall_no.2 fun t ht => h s _ (by omega) (by rw [hl]; exact or_lt_one hs (Nat.pow_lt_pow_right (by omega) ht)) (sub_iff.2 fun i hi => by rw [Nat.testBit_or, hi, Bool.true_or])
theorem rise_len {n : Nat} {f : List Nat} (hl : f.length = one n) : (((List.range (one n)).filter (fallB n f)).length == 0) = riseB f := by
  rw [Bool.eq_iff_iff, beq_iff_eq, rise_iff, List.length_eq_zero_iff, List.filter_eq_nil_iff]
  constructor
  · intro h
    refine steps_rise hl fun s hs => ?_
    have := h s (List.mem_range.2 hs)
    simpa using this
  · intro h s hs
    rw [rise_steps hl h (List.mem_range.1 hs)]
    simp

theorem full_u5 {n : Nat} (hn : n ≤ 5) : full n < 4294967296 := full_u32 (by omega)
theorem fall_yes {n : Nat} {f : List Nat} {s t : Nat} (ht : t < n) (h : sub (im f s) (im f (s ||| one t)) = false) : fallB n f s = true := by
  cases e : fallB n f s with
  | true => rfl
  | false => rw [fall_no.1 e t ht] at h; cases h

/-! ## The small functions -/
set_option maxHeartbeats 400000 in
theorem fxAll_any (n : Nat) (hn : n ≤ 5) (w : World) :
    Calls Try.prog 26 #[.int .i64 n] w fun e w' => e = .returned (.int .u32 (full n)) ∧ w = w' := by
  have h1n := one_int n (by omega)
  have h64 := one_le_32 hn
  have hfull : ((one n : Int) - 1) % 4294967296 = (full n : Nat) := by have := one_pos n; unfold full; omega
  go_enter Try.func26, Try.ntmps26
  go_wp2
  go_ret
  exact ⟨ret_int (by first | exact hfull | (rw [h1n]; exact hfull)), rfl⟩

set_option maxHeartbeats 400000 in
theorem fxOnly_any (k : Nat) (hk : k < 32) (w : World) :
    Calls Try.prog 20 #[.int .i64 k] w fun e w' => e = .returned (.int .u32 (one k)) ∧ w' = w := by
  go_enter Try.func20, Try.ntmps20
  go_wp2
  go_ret
  exact ⟨ret_int (one_int k hk), rfl⟩

set_option maxHeartbeats 1000000 in
theorem fxCheck_any (n : Int) (f : List Nat) (A : Option Addr) (c : Nat) (w : World) (hr : Row w A (words f)) (h32 : U32 f) :
    Calls Try.prog 18 #[.int .i64 n, .slice A f.length c] w fun e w' => e = .returned (.int .i64 (codeM n f)) ∧ w = w' := by
  by_cases hL : n < 1 ∨ 5 < n
  · have HC := Lib.hid (codeM_large (f := f) hL)
    rw [HC.out]
    by_cases h1 : n < 1
    · clear hL; go_enter Try.func18, Try.ntmps18; go_wp2; go_ret; exact ⟨rfl, rfl⟩
    · have h2 : 5 < n := by omega
      clear hL; go_enter Try.func18, Try.ntmps18; go_wp2; go_ret; exact ⟨rfl, rfl⟩
  · obtain ⟨n, rfl⟩ := Int.eq_ofNat_of_zero_le (show 0 ≤ n by omega)
    obtain ⟨hn1, hn5⟩ : 1 ≤ n ∧ n ≤ 5 := by omega
    have hw := one_le_32 hn5
    have hfu := full_u5 hn5
    have e2 : ((2 : Int) ^ n) = (one n : Int) := by unfold one; simp
    clear hL
    by_cases hl : f.length = one n
    · have hd : ((f.length : Int) != (one n : Int)) = false := by rw [hl]; simp
      have HL := Lib.hid hl
      have hfl : f.length ≤ 32 := by omega
      clear hl
      go_enter Try.func18, Try.ntmps18
      go_wp2
      go_loopw [20] (fun iv wr => ∃ k : Nat, iv = .int .i64 k ∧ k ≤ f.length ∧ fitB n (f.take k) = true ∧ w = wr) (fun iv _ => f.length - (intOf iv).toNat)
      case atStart => exact ⟨0, rfl, Nat.zero_le _, rfl, rfl⟩
      case round =>
        obtain ⟨k, rfl, hk, hft, rfl⟩ := hrel
        have HF := Lib.hid hft
        clear hft
        by_cases hlt : k < f.length
        · obtain ⟨r, hrk⟩ := get_some hlt
          obtain ⟨b, off, rfl, hcell⟩ := hr.at (k := k) (by rw [words_length]; exact hlt)
          have c1 := hcell _ _ (words_at hrk)
          have hr32 := h32 _ (List.mem_of_getElem? hrk)
          have HR := Lib.hid hrk
          clear hrk hcell
          have hz := u32_subB hr32 hfu
          cases h2 : sub r (full n) with
          | true =>
            rw [h2, beq_iff_eq] at hz
            have HT := Lib.hid (fit_take HF.out HR.out h2)
            clear h2
            go_wp2_with fail
            refine (fxAll_any n hn5 _).mono ?_
            rintro e w1 ⟨rfl, rfl⟩
            go_wp2
            go_roundw
            case rel => exact ⟨k + 1, by go_num, by omega, HT.out, by first | exact trivial | rfl⟩
            case measure => simp [intOf]; omega
          | false =>
            rw [h2, beq_eq_false_iff_ne] at hz
            have HC := Lib.hid (codeM_bad ⟨hn1, hn5⟩ HL.out (fun h => by rw [sub_full (h _ (List.mem_of_getElem? HR.out))] at h2; cases h2))
            clear h2
            go_wp2_with fail
            refine (fxAll_any n hn5 _).mono ?_
            rintro e w1 ⟨rfl, rfl⟩
            go_wp2
            go_ret
            exact ⟨ret_int HC.out.symm, rfl⟩
        · have HC := Lib.hid (codeM_ok ⟨hn1, hn5⟩ HL.out (show FitT n f by
            have := HF.out
            rw [List.take_of_length_le (by omega)] at this
            intro x hx
            exact sub_full_iff.1 (List.all_eq_true.1 this x hx)))
          go_wp2
          go_ret
          exact ⟨ret_int HC.out.symm, rfl⟩
    · have hd : ((f.length : Int) != (one n : Int)) = true := by simp; omega
      have HC := Lib.hid (codeM_form ⟨hn1, hn5⟩ hl)
      clear hl
      go_enter Try.func18, Try.ntmps18
      go_wp2
      go_ret
      exact ⟨ret_int HC.out.symm, rfl⟩

set_option maxHeartbeats 1000000 in
theorem fxSettle_any (f : List Nat) (A : Option Addr) (c s0 : Nat) (w : World) (hr : Row w A (words f)) (_hl : f.length ≤ 32) (I : Nat → Prop) (m : Nat → Nat)
    (hI : ∀ s, I s → s < f.length) (h0 : I s0) (hstep : ∀ s, I s → im f s ≠ s → I (im f s) ∧ m (im f s) < m s) :
    Calls Try.prog 25 #[.slice A f.length c, .int .u32 s0] w fun e w' => ∃ s : Nat, e = .returned (.int .u32 s) ∧ I s ∧ im f s = s ∧ w = w' := by
  have HS := Lib.hid hstep
  have HI := Lib.hid hI
  have H0 := Lib.hid h0
  clear hstep hI h0
  go_enter Try.func25, Try.ntmps25
  go_wp2
  go_loopw [1] (fun sv wr => ∃ s : Nat, sv = .int .u32 s ∧ I s ∧ w = wr) (fun sv _ => m (intOf sv).toNat)
  case atStart => exact ⟨s0, rfl, H0.out, rfl⟩
  case round =>
    obtain ⟨s, rfl, hs, rfl⟩ := hrel
    have hlt := HI.out s hs
    have HH := Lib.hid hs
    clear hs
    obtain ⟨g, off, rfl, hcell⟩ := hr.at (k := s) (by rw [words_length]; exact hlt)
    obtain ⟨x, hx⟩ : ∃ x, im f s = x := ⟨_, rfl⟩
    have ck := hcell _ _ (words_at (rows_at hlt))
    rw [show f.getD s 0 = x from hx] at ck
    have HX := Lib.hid hx
    clear hcell hx
    by_cases hd : x = s
    · subst hd
      go_wp2
      go_ret
      exact ⟨x, rfl, HH.out, HX.out, rfl⟩
    · have HN := Lib.hid (HS.out s HH.out (by rw [HX.out]; exact hd))
      have hq : ((x : Int) != (s : Int)) = true := by rw [bne_iff_ne]; omega
      clear hd
      go_wp2
      go_roundw
      case rel => exact ⟨x, rfl, by have := HN.out.1; rw [HX.out] at this; exact this, trivial⟩
      case measure => simp [intOf]; have := HN.out.2; rw [HX.out] at this; exact this

/-! ## The closures -/
set_option maxHeartbeats 1000000 in
theorem fxFalls_any (n : Nat) (hn : n ≤ 5) (f : List Nat) (A : Option Addr) (c g1 g2 s : Nat) (w : World) (hl : f.length = one n) (h32 : U32 f) (hs : s < one n)
    (c1 : w.cell? ⟨g1, 0, none⟩ = some (.int .i64 n)) (c2 : w.cell? ⟨g2, 0, none⟩ = some (.slice A f.length c)) (hr : Row w A (words f)) :
    Calls Try.prog 19 #[.int .u32 s, .pointer (some ⟨g1, 0, none⟩), .pointer (some ⟨g2, 0, none⟩)] w fun e w' => e = .returned (.bool (fallB n f s)) ∧ ∃ d, w' = w.drewN d := by
  have h1 := one_le_32 hn
  have HL := Lib.hid hl
  have hsl : s < f.length := by omega
  have hl32 : f.length ≤ 32 := by omega
  clear hl
  obtain ⟨g, off, rfl, hcell⟩ := hr.at (k := s) (by rw [words_length]; exact hsl)
  have HC := Lib.hid hcell
  obtain ⟨x, hx⟩ : ∃ x, im f s = x := ⟨_, rfl⟩
  have cs := hcell _ _ (words_at (rows_at hsl))
  have hx32 := h32 _ (rows_mem hsl)
  rw [show f.getD s 0 = x from hx] at cs hx32
  have HX := Lib.hid hx
  clear hcell hx hr
  go_enter Try.func19, Try.ntmps19
  go_wp2
  go_loopw [7] (fun tv wr => ∃ t : Nat, tv = .int .i64 t ∧ t ≤ n ∧ (∀ j, j < t → sub (im f s) (im f (s ||| one j)) = true) ∧ ∃ d, wr = w.drewN d) (fun tv _ => n - (intOf tv).toNat)
  case atStart => exact ⟨0, rfl, Nat.zero_le _, fun j hj => absurd hj (Nat.not_lt_zero _), 0, rfl⟩
  case round =>
    obtain ⟨t, rfl, ht, hall, d, rfl⟩ := hrel
    have HA := Lib.hid hall
    clear hall
    by_cases htn : t < n
    · have hol : s ||| one t < one n := or_lt_one hs (Nat.pow_lt_pow_right (by omega) htn)
      have hot := one_lt (show t < 32 by omega)
      have hor := u32_or_nat s (one t) (by omega) hot
      obtain ⟨p, hp⟩ : ∃ p, s ||| one t = p := ⟨_, rfl⟩
      rw [hp] at hor hol
      have hpl : p < f.length := by rw [HL.out]; exact hol
      obtain ⟨y, hy⟩ : ∃ y, im f p = y := ⟨_, rfl⟩
      have cp := HC.out _ _ (words_at (rows_at hpl))
      have hy32 := h32 _ (rows_mem hpl)
      rw [show f.getD p 0 = y from hy] at cp hy32
      have HY := Lib.hid hy
      have HP := Lib.hid hp
      clear hy hp
      have k1 : (w.drewN d).cell? ⟨g1, 0, none⟩ = some (.int .i64 n) := c1
      have k2 : (w.drewN d).cell? ⟨g2, 0, none⟩ = some (.slice (some ⟨g, off, none⟩) f.length c) := c2
      have ks : (w.drewN d).cell? ⟨g, off + s, none⟩ = some (.int .u32 x) := cs
      have kp : (w.drewN d).cell? ⟨g, off + p, none⟩ = some (.int .u32 y) := cp
      have hz := u32_subB hx32 hy32
      generalize hw3 : w.drewN d = w3 at *
      have HW := Lib.hid hw3
      clear hw3
      cases h2 : sub x y with
      | true =>
        have HT := Lib.hid (show ∀ j, j < t + 1 → sub (im f s) (im f (s ||| one j)) = true by
          intro j hj
          by_cases e : j = t
          · subst e; rw [HP.out, HX.out, HY.out]; exact h2
          · exact HA.out j (by omega))
        rw [h2, beq_iff_eq] at hz
        clear h2
        go_wp2
        go_quiet ((go_at_call 20; exact Calls.quiet_of_same (fxOnly_any t (by omega) _)))
        clear hor hz
        go_wp2
        go_roundw
        case rel => exact ⟨t + 1, by go_num, by omega, HT.out, d + nq, by rw [← HW.out, World.drewN_drewN]⟩
        case measure => simp [intOf]; omega
      | false =>
        have HT := Lib.hid (fall_yes (f := f) (s := s) htn (by rw [HP.out, HX.out, HY.out]; exact h2))
        have hz2 : (bits .andNot .u32 (x : Int) (y : Int) != 0) = true := by rw [bne, hz, h2]; rfl
        rw [h2, beq_eq_false_iff_ne] at hz
        clear h2
        go_wp2
        go_quiet ((go_at_call 20; exact Calls.quiet_of_same (fxOnly_any t (by omega) _)))
        clear hor hz
        go_wp2
        go_ret
        exact ⟨ret_bool HT.out.symm, d + nq, by rw [← HW.out, World.drewN_drewN]⟩
    · have HT := Lib.hid (fall_no.2 (show ∀ j, j < n → sub (im f s) (im f (s ||| one j)) = true from fun j hj => HA.out j (by omega)))
      go_wp2
      go_ret
      exact ⟨ret_bool HT.out.symm, d, rfl⟩

set_option maxHeartbeats 1000000 in
theorem fxFixed_any (n : Nat) (hn : n ≤ 5) (f : List Nat) (A : Option Addr) (c g2 s : Nat) (w : World) (hl : f.length = one n) (hs : s < one n)
    (c2 : w.cell? ⟨g2, 0, none⟩ = some (.slice A f.length c)) (hr : Row w A (words f)) :
    Calls Try.prog 23 #[.int .u32 s, .pointer (some ⟨g2, 0, none⟩)] w fun e w' => e = .returned (.bool (fixB f s)) ∧ ∃ d, w' = w.drewN d := by
  have h1 := one_le_32 hn
  have HL := Lib.hid hl
  have hsl : s < f.length := by omega
  have hl32 : f.length ≤ 32 := by omega
  clear hl
  obtain ⟨g, off, rfl, hcell⟩ := hr.at (k := s) (by rw [words_length]; exact hsl)
  obtain ⟨x, hx⟩ : ∃ x, im f s = x := ⟨_, rfl⟩
  have cs := hcell _ _ (words_at (rows_at hsl))
  rw [show f.getD s 0 = x from hx] at cs
  have HX := Lib.hid hx
  clear hcell hx hr
  go_enter Try.func23, Try.ntmps23
  go_wp2
  go_ret
  refine ⟨ret_bool ?_, 0, rfl⟩
  unfold fixB
  rw [HX.out, Bool.eq_iff_iff, beq_iff_eq, beq_iff_eq]
  omega

/-! ## The listing -/
/-- How far the listing has come. -/
def XSetsP (p : Nat → Bool) (n : Nat) (w : World) (v sv : Value) (wr : World) : Prop :=
  ∃ k : Nat, sv = .int .u32 k ∧ k ≤ one n ∧ (∃ u, u = (List.range k).filter p ∧ OwnU wr w.heap.size v u) ∧ Below w.heap.size w wr

set_option maxHeartbeats 2000000 in
theorem fxSets_any (n : Nat) (hn : n ≤ 5) (g : Nat) (fst lb : Array Value) (p : Nat → Bool) (w : World)
    (eg : ∀ args w, (callFunc g args).run Try.prog w = .ok (.enter g args) w)
    (hf : ∀ (s : Nat) (W : World), s < one n → Below w.heap.size w W → Calls Try.prog g (fst.push (.int .u32 s) ++ lb) W fun e W' => e = .returned (.bool (p s)) ∧ ∃ d, W' = W.drewN d) :
    Calls Try.prog 21 #[.int .i64 n, .func (.func g) fst lb] w fun e w' => ∃ (A2 : Option Addr) (c2 : Nat) (l : List Nat), e = .returned (.slice A2 l.length c2) ∧ l = (List.range (one n)).filter p ∧ Row w' A2 (words l) ∧ Below w.heap.size w w' := by
  have HF := Lib.hid hf
  clear hf
  have h32 := one_le_32 hn
  have h1n : ((full n : Int) + 1) % 4294967296 = (one n : Int) := by have := one_pos n; unfold full; omega
  obtain ⟨i0, hi, hz0, hz1, hz2⟩ := info_parts info29
  have HI := Lib.hid (And.intro hi (And.intro hz0 (And.intro hz1 hz2)))
  clear hi hz0 hz1 hz2
  go_enter Try.func21, Try.ntmps21
  go_wp2_with fail
  refine (fxAll_any n hn _).mono ?_
  rintro e w2 ⟨rfl, rfl⟩
  go_wp2
  rw [h1n]
  clear h1n
  go_loopw [5, 10] (fun v sv wr => XSetsP p n w v sv wr) (fun _ sv _ => one n - (intOf sv).toNat)
  case atStart => exact ⟨0, rfl, Nat.zero_le _, ⟨[], rfl, World.ownsRow_nil _ _ _ _⟩, Below.refl _ _⟩
  case round =>
    obtain ⟨k, rfl, hk, ⟨u, hu, hown⟩, hbel⟩ := hrel
    have hul : u.length ≤ 32 := by rw [hu]; have := filter_len p k; omega
    have HU := Lib.hid hu
    have HO := Lib.hid (show _root_.Go.World.ownsRow _ w.heap.size 33 1 _ u.length (words u) from hown)
    clear hu hown
    by_cases hlt : k < one n
    · have key := HF.out k _ hlt hbel
      cases hd : p k with
      | true =>
        rw [hd] at key
        have HS := Lib.hid (filter_yes hd)
        clear hd
        obtain ⟨hi, hz0, hz1, hz2⟩ := HI.out
        go_wp2_with fail
        refine key.mono ?_
        rintro e w3 ⟨rfl, d, rfl⟩
        have hbel3 := below_drewN hbel d
        have hsz3 := hbel3.size
        have hsz := hbel.size
        have HO3 := Lib.hid (own_drewN HO.out d)
        clear key
        go_wp2_with (first | (at_builtin; refine wpList_append_lies _ rfl _ _ 22 rfl w.heap.size 33 i0 (.int .u32 0) 1 4 Try.underlying22 hi hz0 hz1 hz2 rfl (by decide) _ _ _ rfl (World.ownsRow.alloc HO3.out _) ⟨_, 0, none⟩ 1 1 [.int .u32 k] rfl rfl (cell_one_new _ _ _) ?c1 (by decide) ?c2 ?c3 ?c4 _ rfl ?c6))
        case c1 => intro u hu; simp at hu; subst hu; rfl
        case c2 => unfold maxLen; omega
        case c3 => omega
        case c4 => simp; omega
        case c6 =>
          intro g3 cap3 w4 hown4 hgrow4 hat4 hlt4
          have HG4 := Lib.hid hgrow4
          have HO4 := Lib.hid hown4
          clear hown4 hgrow4 hat4 hi hz0 hz1 hz2
          go_wp2
          go_roundw
          case rel =>
            have hlt := fun k hk => (World.ownsRow.lt HO3.out k hk).1
            refine ⟨k + 1, by go_num, by omega, ⟨u ++ [k], by rw [HS.out, HU.out], ?_⟩, ?_⟩
            · unfold OwnU
              rw [words_append, List.length_append]
              exact HO4.out
            · exact (hbel3.alloc (by omega) _).grown HG4.out (by simp; omega) (fun k hk => by have := hlt k hk; omega)
          case measure => simp [intOf]; omega
      | false =>
        rw [hd] at key
        have HS := Lib.hid (filter_no hd)
        clear hd
        go_wp2_with fail
        refine key.mono ?_
        rintro e w3 ⟨rfl, d, rfl⟩
        have hbel3 := below_drewN hbel d
        have HO3 := Lib.hid (own_drewN HO.out d)
        clear key
        go_wp2
        go_roundw
        case rel => exact ⟨k + 1, by go_num, by omega, ⟨u, by rw [HS.out, HU.out], HO3.out⟩, hbel3⟩
        case measure => simp [intOf]; omega
    · obtain rfl : k = one n := by omega
      obtain ⟨A2, c2, rfl, hrow, _⟩ := OwnU.row HO.out
      have HR := Lib.hid hrow
      clear hrow
      go_wp2
      go_ret
      exact ⟨A2, c2, u, rfl, HU.out, HR.out, hbel⟩

end Go.Proofs.Ytihhplkcpdepgaa
