/- syllogistref.TruthCheck, Bools, Dual, Sums; syllogistkeep.stated. -/
import Derived.Test.YtcokpjffgeihbaaTB
import Derived.Test.YtcokpjffgeihbaaW1
import Derived.Test.YtcokpjffgeihbaaW9
namespace Go.Proofs.Ytcokpjffgeihbaa
open Go.RowKit

set_option maxHeartbeats 1000000 in
theorem TruthCheck_any (n : Int) (f : List Bool) (A : Option Addr) (c : Nat) (w : World) (hl : f.length ≤ maxLen) :
    Calls Try.prog 13 #[.int .i64 n, .slice A f.length c] w fun e w' => e = .returned (.int .i64 (codeT n f.length)) ∧ w = w' := by
  have hll : f.length < 9223372036854775808 := by unfold maxLen at hl; omega
  by_cases hL : LargeT n
  · have HL := Lib.hid (codeT_large (len := f.length) hL)
    have HX := Lib.hid hL
    clear hL
    go_enter Try.func13, Try.ntmps13
    go_wp2
    all_goals first
      | (go_ret; exact ⟨ret_int HL.out.symm, rfl⟩)
      | (have := HX.out; unfold LargeT at this; omega)
  · obtain ⟨n, rfl⟩ := Int.eq_ofNat_of_zero_le (show 0 ≤ n by unfold LargeT at hL; omega)
    have hn : n ≤ 4 := by unfold LargeT at hL; omega
    clear hL
    have h1 := one_i64 n
    have h16 := one_le_16 hn
    by_cases h2 : f.length = one n
    · have HC := Lib.hid (show codeT n f.length = 0 by rw [h2]; exact codeT_ok hn)
      have hd : ((f.length : Int) != (one n : Int)) = false := by simp [h2]
      clear h2
      go_enter Try.func13, Try.ntmps13
      go_wp2
      go_ret
      exact ⟨ret_int HC.out.symm, rfl⟩
    · have HC := Lib.hid (codeT_bad hn h2)
      have hd : ((f.length : Int) != (one n : Int)) = true := by simp; omega
      clear h2
      go_enter Try.func13, Try.ntmps13
      go_wp2
      go_ret
      exact ⟨ret_int HC.out.symm, rfl⟩

set_option maxHeartbeats 1000000 in
theorem stated_any (n : Int) (f : List Bool) (A : Option Addr) (c : Nat) (w : World) (hl : f.length ≤ maxLen) :
    Calls Try.prog 24 #[.int .i64 n, .slice A f.length c] w fun e w' => e = .returned (.bool (codeT n f.length == 0)) ∧ w = w' := by
  go_enter Try.func24, Try.ntmps24
  go_wp2_with fail
  refine (TruthCheck_any n f A c w hl).mono ?_
  rintro e w' ⟨rfl, rfl⟩
  go_wp2
  go_ret
  exact ⟨rfl, rfl⟩

set_option maxHeartbeats 1000000 in
theorem Bools_any (xs ys : List Bool) (A A2 : Option Addr) (c c2 : Nat) (w : World) (h : Row w A (boolsC xs)) (h2 : Row w A2 (boolsC ys)) (_hn : xs.length ≤ 1000000) (_hn2 : ys.length ≤ 1000000) :
    Calls Try.prog 14 #[.slice A xs.length c, .slice A2 ys.length c2] w fun e w' => e = .returned (.bool (decide (xs = ys))) ∧ ∃ d, w' = w.drewN d := by
  by_cases hl : xs.length = ys.length
  · have hd : ((xs.length : Int) != (ys.length : Int)) = false := by simp [hl]
    have HL := Lib.hid hl
    have hle : xs.length ≤ ys.length := by omega
    clear hl
    go_enter Try.func14, Try.ntmps14
    go_wp2
    go_loopw [5] (fun v wr => ∃ k : Nat, v = .int .i64 k ∧ k ≤ xs.length ∧ xs.take k = ys.take k ∧ ∃ d, wr = w.drewN d) (fun v _ => xs.length - (intOf v).toNat)
    case atStart => exact ⟨0, rfl, Nat.zero_le _, by simp, 0, rfl⟩
    case round =>
      obtain ⟨k, rfl, hk, ht, d, rfl⟩ := hrel
      have HT := Lib.hid ht
      clear ht
      by_cases hlt : k < xs.length
      · obtain ⟨x, hx⟩ := get_some hlt
        obtain ⟨y, hy⟩ := get_some (show k < ys.length by omega)
        obtain ⟨b, off, rfl, hc⟩ := h.at (k := k) (by simpa using hlt)
        obtain ⟨b2, off2, rfl, hc2⟩ := h2.at (k := k) (by simp; omega)
        have hk1 : (w.drewN d).cell? ⟨b, off + k, none⟩ = some (.bool x) := hc _ _ (boolsC_at hx)
        have hk2 : (w.drewN d).cell? ⟨b2, off2 + k, none⟩ = some (.bool y) := hc2 _ _ (boolsC_at hy)
        have HX := Lib.hid hx
        have HY := Lib.hid hy
        clear hc hc2 hx hy
        generalize hw3 : w.drewN d = w3 at *
        have HW := Lib.hid hw3
        clear hw3
        by_cases he : x = y
        · have hd2 : (x == y) = true := by simp [he]
          have HE := Lib.hid he
          clear he
          go_wp2
          go_quiet (fail)
          go_wp2
          go_roundw
          case rel => exact ⟨k + 1, by go_num, by omega, take_same_succ HT.out HX.out HY.out HE.out, d + nq, by rw [← HW.out, World.drewN_drewN]⟩
          case measure => simp [intOf]; omega
        · have hd2 : (x == y) = false := by simpa using he
          have HE := Lib.hid he
          clear he
          go_wp2
          go_quiet (fail)
          go_wp2
          go_ret
          exact ⟨ret_bool (by simpa using ne_of_at HX.out HY.out HE.out), d + nq, by rw [← HW.out, World.drewN_drewN]⟩
      · obtain rfl : k = xs.length := by omega
        have HE := Lib.hid (show xs = ys by
          have := HT.out
          rw [List.take_length, HL.out, List.take_length] at this
          exact this)
        go_wp2
        go_ret
        exact ⟨ret_bool (by simpa using HE.out), d, rfl⟩
  · have hd : ((xs.length : Int) != (ys.length : Int)) = true := by simp; omega
    have HL := Lib.hid (show ¬ xs = ys from fun e => hl (by rw [e]))
    clear hl
    go_enter Try.func14, Try.ntmps14
    go_wp2
    go_ret
    exact ⟨ret_bool (by simpa using HL.out), 0, rfl⟩

/-- Half of a table is made. -/
def halfF (D : Nat → Bool) (s : Nat) : Nat → Bool := fun i => if i < s then D i else false
theorem halfF_zero (D : Nat → Bool) (i : Nat) : false = halfF D 0 i := by simp [halfF]
theorem halfF_succ (D : Nat → Bool) (s i : Nat) : updB (halfF D s) s (D s) i = halfF D (s + 1) i := by
  unfold updB halfF
  by_cases h : i = s
  · subst h; simp
  · by_cases h2 : i < s
    · have : i < s + 1 := by omega
      simp [h, h2, this]
    · have : ¬ i < s + 1 := by omega
      simp [h, h2, this]
theorem halfF_all {D : Nat → Bool} {s i : Nat} (h : i < s) : halfF D s i = D i := by simp [halfF, h]

set_option maxHeartbeats 2000000 in
theorem refDual_any (n : Nat) (hn : n ≤ 4) (f : List Bool) (A : Option Addr) (c : Nat) (w : World) (hf : f.length = one n) (hr : Row w A (boolsC f)) :
    Calls Try.prog 15 #[.int .i64 n, .slice A f.length c] w fun e w' => e = .returned (.slice (some ⟨w.heap.size, 0, none⟩) (one n) (one n)) ∧ OwnB w' w.heap.size w.heap.size (one n) (dualF n (atB f)) ∧ Below w.heap.size w w' := by
  obtain ⟨i0, hi, hz0, hz1, hz2⟩ := info_parts infoB
  have h16 := one_le_16 hn
  have h1p := one_pos n
  have HF := Lib.hid hf
  rw [hf]
  have HI := Lib.hid (And.intro hi (And.intro hz0 (And.intro hz1 hz2)))
  clear hi hz0 hz1 hz2 hf
  go_enter Try.func15, Try.ntmps15
  go_wp2_with (at_make; refine wpList_make_full _ rfl _ _ 22 rfl w.heap.size 4 i0 (.bool false) 1 Try.underlying22 HI.out.1 HI.out.2.1 HI.out.2.2.1 .i64 .i64 (one n) (one n) (one n) rfl rfl rfl rfl ?b2 ?b3 (Nat.le_refl _) ?c5)
  case b2 => rw [HI.out.2.2.2]; omega
  case b3 => unfold maxLen; omega
  case c5 =>
    intro w1 hown hgrow
    have HO := Lib.hid (ownB_made hown)
    have HB := Lib.hid ((Below.refl w.heap.size w).grown hgrow (Nat.le_refl _) (by intro k hk; cases hk))
    clear hown hgrow
    go_wp2
    go_loopw [6] (fun v wr => ∃ s : Nat, v = .int .i64 s ∧ s ≤ one n ∧ OwnB wr w.heap.size w.heap.size (one n) (halfF (dualF n (atB f)) s) ∧ Below w.heap.size w wr) (fun v _ => one n - (intOf v).toNat)
    case atStart => exact ⟨0, rfl, Nat.zero_le _, HO.out.congr (fun k _ => halfF_zero _ k), HB.out⟩
    case round =>
      clear HO HB
      obtain ⟨s, rfl, hs, hown, hbel⟩ := hrel
      have HO := Lib.hid hown
      clear hown
      by_cases hlt : s < one n
      · go_wp2
        go_loopw [7, 8] (fun ov v wi => ∃ k o : Nat, v = .int .i64 k ∧ k ≤ n ∧ ov = .int .i64 o ∧ o = compP s k ∧ wr = wi) (fun _ v _ => n - (intOf v).toNat)
        case atStart => exact ⟨0, 0, rfl, Nat.zero_le _, rfl, by simp [compP, full, one], rfl⟩
        case round =>
          obtain ⟨k, o, rfl, hk, rfl, ho, rfl⟩ := hrel
          have hole : o < one n := by
            rw [ho]
            have h1 := compP_le s k
            have h2 := full_lt k
            have h3 : one k ≤ one n := Nat.pow_le_pow_right (by decide) hk
            omega
          have HOo := Lib.hid ho
          clear ho
          by_cases hkn : k < n
          · have h1k := one_i64 k
            have h1k16 := one_le_16 (show k ≤ 4 by omega)
            cases hb : s.testBit k with
            | true =>
              have HS := Lib.hid (show o = compP s (k + 1) by rw [compP_succ, if_pos hb, HOo.out, Nat.add_zero])
              go_wp2_with fail
              refine (Bit_any s k (by omega) (by omega) _).mono ?_
              rintro e w2 ⟨rfl, rfl⟩
              rw [hb]
              clear hb
              go_wp2
              go_roundw
              case rel => exact ⟨k + 1, o, by go_num, by omega, rfl, HS.out, by first | exact trivial | rfl⟩
              case measure => simp [intOf]; omega
            | false =>
              have HS := Lib.hid (show o + one k = compP s (k + 1) by rw [compP_succ, if_neg (by rw [hb]; decide), HOo.out])
              go_wp2_with fail
              refine (Bit_any s k (by omega) (by omega) _).mono ?_
              rintro e w2 ⟨rfl, rfl⟩
              rw [hb]
              clear hb
              go_wp2
              go_roundw
              case rel => exact ⟨k + 1, o + one k, by go_num, by omega, by go_num, HS.out, by first | exact trivial | rfl⟩
              case measure => simp [intOf]; omega
          · obtain rfl : k = n := by omega
            have hoe : o = full k - s := by rw [HOo.out, compP_all hlt]
            have HD := Lib.hid (show (!atB f o) = dualF k (atB f) s by rw [hoe]; rfl)
            obtain ⟨b, off, rfl, hc⟩ := (hr.below hbel).at (k := o) (by simp; rw [HF.out]; exact hole)
            have c1 := hc o _ (boolsC_at (atB_get (show o < f.length by rw [HF.out]; exact hole)))
            have c2 := HO.out.cell hlt
            have f2 := HO.out.free s
            have HO2 := Lib.hid (show OwnB _ _ _ _ (halfF (dualF k (atB f)) (s + 1)) from (HO.out.stored s (!atB f o)).congr (fun i _ => by rw [HD.out]; exact halfF_succ _ s i))
            clear hc hoe
            go_wp2
            go_roundw
            case rel => exact ⟨s + 1, by go_num, by omega, HO2.out, hbel.setCell (Nat.le_refl _) _⟩
            case measure => simp [intOf]; omega
      · obtain rfl : s = one n := by omega
        go_wp2
        go_ret
        exact ⟨rfl, HO.out.congr (fun i hi => halfF_all hi), hbel⟩

/-- Parity of the first t sets. -/
def sumP (F : Nat → Bool) (s t : Nat) : Bool := par t fun u => sub u s && F u
theorem i64_or_eq {t s : Nat} (ht : t < 16) (hs : s < 16) : bits .or .i64 (t : Int) (s : Int) = ((t ||| s : Nat) : Int) := i64_or_nat t s (by omega) (by omega)

set_option maxHeartbeats 2000000 in
theorem refSums_any (n : Nat) (hn : n ≤ 4) (f : List Bool) (A : Option Addr) (c : Nat) (w : World) (hf : f.length = one n) (hr : Row w A (boolsC f)) :
    Calls Try.prog 17 #[.slice A f.length c] w fun e w' => e = .returned (.slice (some ⟨w.heap.size, 0, none⟩) (one n) (one n)) ∧ OwnB w' w.heap.size w.heap.size (one n) (mob n (atB f)) ∧ Below w.heap.size w w' := by
  obtain ⟨i0, hi, hz0, hz1, hz2⟩ := info_parts infoB
  have h16 := one_le_16 hn
  have h1p := one_pos n
  have HF := Lib.hid hf
  rw [hf]
  have HI := Lib.hid (And.intro hi (And.intro hz0 (And.intro hz1 hz2)))
  clear hi hz0 hz1 hz2 hf
  go_enter Try.func17, Try.ntmps17
  go_wp2_with (at_make; refine wpList_make_full _ rfl _ _ 22 rfl w.heap.size 4 i0 (.bool false) 1 Try.underlying22 HI.out.1 HI.out.2.1 HI.out.2.2.1 .i64 .i64 (one n) (one n) (one n) rfl rfl rfl rfl ?b2 ?b3 (Nat.le_refl _) ?c5)
  case b2 => rw [HI.out.2.2.2]; omega
  case b3 => unfold maxLen; omega
  case c5 =>
    intro w1 hown hgrow
    have HO := Lib.hid (ownB_made hown)
    have HB := Lib.hid ((Below.refl w.heap.size w).grown hgrow (Nat.le_refl _) (by intro k hk; cases hk))
    clear hown hgrow
    go_wp2
    go_loopw [4] (fun v wr => ∃ s : Nat, v = .int .i64 s ∧ s ≤ one n ∧ OwnB wr w.heap.size w.heap.size (one n) (halfF (mob n (atB f)) s) ∧ Below w.heap.size w wr) (fun v _ => one n - (intOf v).toNat)
    case atStart => exact ⟨0, rfl, Nat.zero_le _, HO.out.congr (fun k _ => halfF_zero _ k), HB.out⟩
    case round =>
      clear HO HB
      obtain ⟨s, rfl, hs, hown, hbel⟩ := hrel
      have HO := Lib.hid hown
      clear hown
      by_cases hlt : s < one n
      · go_wp2
        go_loopw [5] (fun v wi => ∃ t : Nat, v = .int .i64 t ∧ t ≤ one n ∧ OwnB wi w.heap.size w.heap.size (one n) (updB (halfF (mob n (atB f)) s) s (sumP (atB f) s t)) ∧ Below w.heap.size w wi) (fun v _ => one n - (intOf v).toNat)
        case atStart => exact ⟨0, rfl, Nat.zero_le _, HO.out.congr (fun k _ => by
          by_cases e : k = s
          · subst e; rw [updB_same]; simp [halfF, sumP, par]
          · rw [updB_other e]), hbel⟩
        case round =>
          clear HO hbel
          rename World => wi
          obtain ⟨t, rfl, ht, hown, hbel⟩ := hrel
          have HO := Lib.hid hown
          clear hown
          by_cases htn : t < one n
          · have hor := i64_or_eq (show t < 16 by omega) (show s < 16 by omega)
            obtain ⟨b, off, rfl, hc⟩ := (hr.below hbel).at (k := t) (by simp; rw [HF.out]; exact htn)
            obtain ⟨x, hx⟩ : ∃ x, x = atB f t := ⟨_, rfl⟩
            have c1 := hc t _ (boolsC_at (atB_get (show t < f.length by rw [HF.out]; exact htn)))
            rw [← hx] at c1
            have c2 := HO.out.cell hlt
            rw [updB_same] at c2
            have f2 := HO.out.free s
            have HX := Lib.hid hx
            have HN := Lib.hid (show sumP (atB f) s (t + 1) = (sumP (atB f) s t ^^ (sub t s && x)) by rw [hx]; rfl)
            clear hc hx
            generalize hq : sumP (atB f) s t = q at *
            cases hsub : sub t s with
            | false =>
              have hne : (((t ||| s : Nat) : Int) == (s : Int)) = false := by
                rw [beq_eq_false_iff_ne]
                intro e
                have : sub t s = true := by unfold sub; rw [beq_iff_eq]; omega
                rw [this] at hsub; cases hsub
              have HS := Lib.hid (show q = sumP (atB f) s (t + 1) by rw [HN.out, hsub]; simp)
              clear hsub
              go_wp2
              go_roundw
              case rel => exact ⟨t + 1, by go_num, by omega, by rw [← HS.out]; exact HO.out, hbel⟩
              case measure => simp [intOf]; omega
            | true =>
              have hne : (((t ||| s : Nat) : Int) == (s : Int)) = true := by
                rw [beq_iff_eq]
                unfold sub at hsub
                rw [beq_iff_eq] at hsub
                omega
              cases x with
              | false =>
                have HS := Lib.hid (show q = sumP (atB f) s (t + 1) by rw [HN.out, hsub]; simp)
                clear hsub
                go_wp2
                go_roundw
                case rel => exact ⟨t + 1, by go_num, by omega, by rw [← HS.out]; exact HO.out, hbel⟩
                case measure => simp [intOf]; omega
              | true =>
                have HS := Lib.hid (show (!q) = sumP (atB f) s (t + 1) by rw [HN.out, hsub]; simp)
                have HO2 := Lib.hid (show OwnB _ _ _ _ (updB (halfF (mob n (atB f)) s) s (!q)) from (HO.out.stored s (!q)).congr (fun i _ => by
                  by_cases e : i = s
                  · subst e; rw [updB_same, updB_same]
                  · rw [updB_other e, updB_other e, updB_other e]))
                clear hsub
                go_wp2
                go_roundw
                case rel => exact ⟨t + 1, by go_num, by omega, by rw [← HS.out]; exact HO2.out, hbel.setCell (Nat.le_refl _) _⟩
                case measure => simp [intOf]; omega
          · obtain rfl : t = one n := by omega
            go_wp2
            go_roundw
            case rel => exact ⟨s + 1, by go_num, by omega, HO.out.congr (fun i _ => halfF_succ (mob n (atB f)) s i), hbel⟩
            case measure => simp [intOf]; omega
      · obtain rfl : s = one n := by omega
        go_wp2
        go_ret
        exact ⟨rfl, HO.out.congr (fun i hi => halfF_all hi), hbel⟩

end Go.Proofs.Ytcokpjffgeihbaa
