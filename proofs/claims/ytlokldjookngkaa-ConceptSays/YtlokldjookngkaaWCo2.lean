/- concept.Up, concept.Down, concept.Says, concept.next, concept.Next. -/
import Derived.Test.YtlokldjookngkaaWCo1
import Derived.Test.YtlokldjookngkaaLec
import Derived.Test.YtlokldjookngkaaLawC1
namespace Go.Proofs.Ytlokldjookngkaa
open Go.RowKit

theorem orL_nil : orL [] = 0 := rfl
theorem orL_one (m : Nat) : orL [m] = m := by simp [orL]
theorem orL_two (a b : Nat) : orL [a, b] = a ||| b := by simp [orL]

theorem codeT_up {n : Nat} {rows : List Nat} {o : Nat} (h : codeT n rows 0 0 = 0) : (o < one rows.length → codeT n rows o 0 = 0) ∧ (¬ o < one rows.length → codeT n rows o 0 = 4) := by
  obtain ⟨k, e, h1, h2, h3, h4, h5, h6⟩ := codeT_zero h
  obtain rfl : n = k := by omega
  have hL : ¬ LargeT n rows := by unfold LargeT; omega
  exact ⟨fun h => codeT_ok hL h4 (one_pos _) h, fun h => codeT_bad hL fun h' => h h'.2.2⟩
theorem codeT_err {n : Int} {rows : List Nat} {o : Nat} (h : codeT n rows 0 0 ≠ 0) : codeT n rows o 0 = codeT n rows 0 0 := by
  by_cases hL : LargeT n rows
  · rw [codeT_large hL, codeT_large hL]
  · obtain ⟨n, rfl⟩ := Int.eq_ofNat_of_zero_le (show 0 ≤ n by unfold LargeT at hL; omega)
    have hf : ¬ FitT n rows := fun hf => h (codeT_ok hL hf (one_pos _) (one_pos _))
    rw [codeT_bad hL fun h => hf h.1, codeT_bad hL fun h => hf h.1]

set_option maxHeartbeats 1000000 in
theorem CUp_ok : CUpOk 11 := by
  intro n rows A c o w ho h32 hm hr hX
  have hc := cnCheck_any n rows A c [] none 0 w hr h32 hm (.inl rfl) (by simp) (by simp)
  rw [orL_nil] at hc
  by_cases h0 : codeT n rows 0 0 = 0
  · obtain ⟨k, e, h1, h2, h3, h4, h5, h6⟩ := codeT_zero h0
    subst e
    rw [h0] at hc
    obtain ⟨hy, hn⟩ := codeT_up (o := o) h0
    have hf := full_u32' h3
    have hz := u32_subB ho hf
    by_cases hlt : o < one rows.length
    · have e := hy hlt
      rw [sub_full hlt, beq_iff_eq] at hz
      rw [e, if_pos rfl, Int.toNat_natCast]
      clear hy hn e
      go_enter Try.func11, Try.ntmps11
      go_wp2_with fail
      refine hc.mono ?_
      rintro e w1 ⟨rfl, rfl⟩
      go_wp2_with fail
      refine (cnAll_any rows.length h3 _).mono ?_
      rintro e w1 ⟨rfl, rfl⟩
      go_wp2_with fail
      refine (cnUp_any k rows A c o _ h2 hr h32 ho h3).mono ?_
      rintro e w1 ⟨rfl, rfl⟩
      go_wp2
      go_ret2
      exact ⟨rfl, Below.refl _ _⟩
    · have e := hn hlt
      have hs : sub o (full rows.length) = false := by
        cases h : sub o (full rows.length) with
        | false => rfl
        | true => exact absurd (sub_full_iff.1 h) hlt
      rw [hs, beq_eq_false_iff_ne] at hz
      rw [e, if_neg (by decide)]
      clear hy hn e
      go_enter Try.func11, Try.ntmps11
      go_wp2_with fail
      refine hc.mono ?_
      rintro e w1 ⟨rfl, rfl⟩
      go_wp2_with fail
      refine (cnAll_any rows.length h3 _).mono ?_
      rintro e w1 ⟨rfl, rfl⟩
      go_wp2
      go_ret2
      exact ⟨rfl, Below.refl _ _⟩
  · rw [codeT_err h0, if_neg h0]
    generalize codeT n rows 0 0 = q at hc h0
    go_enter Try.func11, Try.ntmps11
    go_wp2_with fail
    refine hc.mono ?_
    rintro e w1 ⟨rfl, rfl⟩
    go_wp2
    go_ret2
    exact ⟨rfl, Below.refl _ _⟩

theorem below_alloc1 (w : World) (o : Obj) : Below w.heap.size w (w.alloc o) := (Below.refl _ _).alloc (Nat.le_refl _) _

set_option maxHeartbeats 1000000 in
theorem CDown_ok : CDownOk 14 := by
  intro n rows A c m w hm32 h32 hm hr hX
  have hb1 := below_alloc1 w (.cells #[.int .u32 (m : Int)] 23)
  have hc := cnCheck_any n rows A c [m] (some ⟨w.heap.size, 0, none⟩) 1 (w.alloc (.cells #[.int .u32 (m : Int)] 23)) (hr.below hb1) h32 hm (row_new w _ rfl (words [m]) _) (by simpa using hm32) (by simp)
  rw [orL_one] at hc
  by_cases h0 : codeT n rows 0 m = 0
  · obtain ⟨k, e, h1, h2, h3, h4, h5, h6⟩ := codeT_zero h0
    subst e
    rw [h0, if_pos rfl]
    rw [h0] at hc
    go_enter Try.func14, Try.ntmps14
    go_wp2_with fail
    refine hc.mono ?_
    rintro e w1 ⟨rfl, rfl⟩
    go_wp2_with fail
    refine (cnDown_any rows A c m _ (hr.below hb1) h32 hm32 h3).mono ?_
    rintro e w1 ⟨rfl, rfl⟩
    go_wp2
    go_ret2
    exact ⟨rfl, hb1⟩
  · rw [if_neg h0]
    generalize codeT n rows 0 m = q at hc h0
    go_enter Try.func14, Try.ntmps14
    go_wp2_with fail
    refine hc.mono ?_
    rintro e w1 ⟨rfl, rfl⟩
    go_wp2
    go_ret2
    exact ⟨rfl, hb1⟩

/-- What the inner Next answers. -/
def NextQ (n : Nat) (rows : List Nat) (m s : Nat) (b : Bool) : Prop := (b = true ∧ IsNext n rows m s) ∨ (b = false ∧ s = 0 ∧ NoNext n rows m)

set_option maxHeartbeats 1000000 in
theorem cnNext_any (n : Nat) (rows : List Nat) (A : Option Addr) (c m : Nat) (w : World) (hn6 : n ≤ 6) (hr : Row w A (words rows)) (h32 : U32 rows) (hm : m < one n) (hl : rows.length ≤ 8) :
    Calls Try.prog 32 #[.int .i64 n, .slice A rows.length c, .int .u32 m] w fun e w' => ∃ (s : Nat) (b : Bool), e = .returned (.tuple #[.int .u32 s, .bool b]) ∧ NextQ n rows m s b ∧ w = w' := by
  have h64 := one_le_64 hn6
  go_enter Try.func32, Try.ntmps32
  go_wp2
  go_loopw [8] (fun iv wr => ∃ k : Nat, iv = .int .i64 ((k : Int) - 1) ∧ k ≤ n ∧ Gone n rows m k ∧ w = wr) (fun iv _ => (intOf iv + 1).toNat)
  case atStart => exact ⟨n, rfl, Nat.le_refl _, Gone.init _ _ _, rfl⟩
  case round =>
    obtain ⟨k, rfl, hk, hg, rfl⟩ := hrel
    have HG := Lib.hid hg
    clear hg
    cases k with
    | zero =>
      go_wp2
      go_ret2
      exact ⟨0, false, rfl, .inr ⟨rfl, rfl, HG.out.none⟩, rfl⟩
    | succ j =>
      have ej : ((j + 1 : Nat) : Int) - 1 = j := by omega
      rw [ej]
      have hh := u32_has m j (by omega) (by omega)
      cases hs : m.testBit j with
      | true =>
        rw [hs, bne_iff_ne] at hh
        have HS := Lib.hid (HG.out.has hs)
        clear hs
        go_wp2_with fail
        refine (cnOnly_any j (by omega) _).mono ?_
        rintro e w1 ⟨rfl, rfl⟩
        go_wp2
        go_roundw
        case rel => exact ⟨j, by go_num, by omega, HS.out, by first | exact trivial | rfl⟩
        case measure => first | (simp [intOf]; done) | (simp [intOf]; omega)
      | false =>
        have hh2 : bits .and .u32 (m : Int) (one j : Int) = 0 := by rw [hs] at hh; simpa using hh
        have HB := Lib.hid hs
        clear hs hh
        have hfj := full_u32' (show j ≤ 8 by omega)
        have h1j := one_lt_one (show j < n by omega)
        have hlow : m &&& full j ≤ m := Nat.and_le_left
        have ha := u32_and_nat m (full j) (by omega) hfj
        have hb := u32_or_nat (m &&& full j) (one j) (by omega) (by omega)
        have hlu := lowUp_lt (show j < n by omega) hm
        have hcl := clM_lt n rows (lowUp m j)
        have hd := u32_and_nat (clM n rows (lowUp m j)) (full j) (by omega) hfj
        go_wp2_with fail
        refine (cnOnly_any j (by omega) _).mono ?_
        rintro e w1 ⟨rfl, rfl⟩
        go_wp2_with fail
        refine (cnAll_any j (by omega) _).mono ?_
        rintro e w1 ⟨rfl, rfl⟩
        go_wp2_with fail
        refine (cnOnly_any j (by omega) _).mono ?_
        rintro e w1 ⟨rfl, rfl⟩
        go_wp2_with fail
        refine (cnGrow_any n rows A c (lowUp m j) _ hn6 hr h32 (by omega) hl).mono ?_
        rintro e w1 ⟨rfl, rfl⟩
        go_wp2_with fail
        refine (cnAll_any j (by omega) _).mono ?_
        rintro e w1 ⟨rfl, rfl⟩
        by_cases heq : clM n rows (lowUp m j) &&& full j = m &&& full j
        · have HN := Lib.hid (HG.out.next (by omega) (by omega) hm HB.out heq)
          rw [heq] at hd
          clear heq
          go_wp2
          go_ret2
          exact ⟨_, true, rfl, .inl ⟨rfl, HN.out⟩, rfl⟩
        · have HN := Lib.hid (HG.out.no (by omega) hm heq)
          have hne : ((clM n rows (lowUp m j) &&& full j : Nat) : Int) ≠ ((m &&& full j : Nat) : Int) := by omega
          clear heq
          go_wp2
          go_roundw
          case rel => exact ⟨j, by first | rfl | go_num, by omega, HN.out, by first | exact trivial | rfl⟩
          case measure => first | (simp [intOf]; done) | (simp [intOf]; omega)

theorem NextP.err {n : Int} {rows : List Nat} {m : Nat} (h : codeT n rows 0 m ≠ 0) : NextP n rows m 0 (codeT n rows 0 m) := ⟨fun _ => ⟨rfl, rfl⟩, fun e => absurd e h⟩
theorem NextP.yes {n : Nat} {rows : List Nat} {m s : Nat} (h : codeT n rows 0 m = 0) (k : IsNext n rows m s) : NextP n rows m s 0 := ⟨fun e => absurd h e, fun _ => .inl ⟨rfl, by rw [Int.toNat_natCast]; exact k⟩⟩
theorem NextP.no {n : Nat} {rows : List Nat} {m : Nat} (h : codeT n rows 0 m = 0) (k : NoNext n rows m) : NextP n rows m 0 5 := ⟨fun e => absurd h e, fun _ => .inr ⟨rfl, rfl, by rw [Int.toNat_natCast]; exact k⟩⟩

set_option maxHeartbeats 1000000 in
theorem CNext_ok : CNextOk 18 := by
  intro n rows A c m w hm32 h32 hm hr hX
  have hb1 := below_alloc1 w (.cells #[.int .u32 (m : Int)] 23)
  have hc := cnCheck_any n rows A c [m] (some ⟨w.heap.size, 0, none⟩) 1 (w.alloc (.cells #[.int .u32 (m : Int)] 23)) (hr.below hb1) h32 hm (row_new w _ rfl (words [m]) _) (by simpa using hm32) (by simp)
  rw [orL_one] at hc
  by_cases h0 : codeT n rows 0 m = 0
  · obtain ⟨k, e, h1, h2, h3, h4, h5, h6⟩ := codeT_zero h0
    subst e
    have H0 := Lib.hid h0
    rw [h0] at hc
    clear h0
    go_enter Try.func18, Try.ntmps18
    go_wp2_with fail
    refine hc.mono ?_
    rintro e w1 ⟨rfl, rfl⟩
    go_wp2_with fail
    refine (cnNext_any k rows A c m _ h2 (hr.below hb1) h32 h5 h3).mono ?_
    rintro e w1 ⟨s, b, rfl, hq, rfl⟩
    cases b with
    | true =>
      have HQ := Lib.hid (show IsNext k rows m s by rcases hq with h | h; exact h.2; cases h.1)
      clear hq
      go_wp2
      go_ret2
      exact ⟨s, 0, rfl, NextP.yes H0.out HQ.out, hb1⟩
    | false =>
      have HQ := Lib.hid (show NoNext k rows m by rcases hq with h | h; cases h.1; exact h.2.2)
      clear hq
      go_wp2
      go_ret2
      exact ⟨0, 5, rfl, NextP.no H0.out HQ.out, hb1⟩
  · have HE := Lib.hid (NextP.err h0)
    generalize codeT n rows 0 m = q at hc h0 HE
    go_enter Try.func18, Try.ntmps18
    go_wp2_with fail
    refine hc.mono ?_
    rintro e w1 ⟨rfl, rfl⟩
    go_wp2
    go_ret2
    exact ⟨0, q, rfl, HE.out, hb1⟩

end Go.Proofs.Ytlokldjookngkaa
