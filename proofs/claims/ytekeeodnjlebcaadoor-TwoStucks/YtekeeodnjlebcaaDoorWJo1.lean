/- two.check. -/
import Derived.Test.YtekeeodnjlebcaaDoorJSpec
import Derived.Test.YtekeeodnjlebcaaDoorWIo1
import Derived.BigQuiet
namespace Go.Proofs.YtekeeodnjlebcaaDoor
open Go.RowKit

theorem two_take {l : List Cla} {k : Nat} {c : Cla} (h : twoB (l.take k) = true) (hc : l[k]? = some c) (h2 : 1 ≤ pop c.1 + pop c.2 ∧ pop c.1 + pop c.2 ≤ 2) : twoB (l.take (k + 1)) = true := by
  rw [two_iff] at *
  intro x hx
  rw [List.take_add_one, hc] at hx
  simp only [Option.toList, List.mem_append, List.mem_singleton] at hx
  rcases hx with hx | rfl
  · exact h x hx
  · exact h2
theorem two_no {l : List Cla} {k : Nat} {c : Cla} (hc : l[k]? = some c) (h2 : ¬ (1 ≤ pop c.1 + pop c.2 ∧ pop c.1 + pop c.2 ≤ 2)) : twoB l = false := by
  cases h : twoB l with
  | false => rfl
  | true => exact absurd (two_iff.1 h c (List.mem_of_getElem? hc)) h2
theorem pop_quiet (x : Nat) (hx : x < 4294967296) (w : World) (n : Nat) : Calls Tryd.prog 24 #[.int .u32 x] (w.drewN n) fun e w' => e = .returned (.int .i64 (pop x)) ∧ ∃ m, w' = w.drewN m :=
  (OnesCount32_any x hx (w.drewN n)).mono fun _ _ ⟨he, hw⟩ => ⟨he, n + 1, by rw [← hw]; rfl⟩

set_option maxHeartbeats 1000000 in
theorem jCheck_any (n : Int) (rs : List Cla) (A : Option Addr) (c : Nat) (w : World) (h32 : W32 rs) (hl : rs.length ≤ maxLen) (hr : Row w A (rulesC rs)) (hX : Laid w) :
    Calls Tryd.prog 14 #[.int .i64 n, .slice A rs.length c] w fun e w' => e = .returned (.int .i64 (codeD n rs)) ∧ Below w.heap.size w w' := by
  have hl63 : rs.length < 9223372036854775808 := by unfold maxLen at hl; omega
  have hck := ISolve_ok n rs A c w h32 hl hr hX
  by_cases hc : codeC n rs = 0
  · have hs : codeS n rs = 0 ∨ codeS n rs = 5 := by
      obtain ⟨m, rfl, _⟩ := codeC_zero hc
      cases e : firstS m rs with
      | none => exact .inr (codeS_none hc e)
      | some s => exact .inl (codeS_some hc e)
    have HC := Lib.hid hc
    clear hc
    go_enter Tryd.func14, Tryd.ntmps14
    go_wp2_with fail
    refine hck.mono ?_
    rintro e w1 ⟨rfl, hb1⟩
    clear hck
    generalize codeS n rs = cs at *
    rcases hs with rfl | rfl
    all_goals
      go_wp2
      go_loopw [25] (fun iv wr => ∃ k : Nat, iv = .int .i64 k ∧ k ≤ rs.length ∧ twoB (rs.take k) = true ∧ Below w.heap.size w wr) (fun iv _ => rs.length - (intOf iv).toNat)
      case atStart => exact ⟨0, rfl, Nat.zero_le _, by simp [twoB], hb1⟩
      case round =>
        obtain ⟨k, rfl, hk, hft, hbel⟩ := hrel
        have HF := Lib.hid hft
        clear hft
        by_cases hlt : k < rs.length
        · obtain ⟨r, hrk⟩ := get_some hlt
          obtain ⟨r1, r2⟩ := r
          obtain ⟨b, off, rfl, c1, c2⟩ := RowC.at (hr.below hbel) hrk
          obtain ⟨b1, b2⟩ := h32 _ (List.mem_of_getElem? hrk)
          simp only at b1 b2 c1 c2
          have HR := Lib.hid hrk
          clear hrk
          have hb2 := hbel.alloc hbel.size (.cells #[.int .u32 (r1 : Int), .int .u32 (r2 : Int)] 37)
          have HY := Lib.hid (fun h => two_take (c := (r1, r2)) HF.out HR.out h)
          have HN := Lib.hid (fun h => two_no (c := (r1, r2)) HR.out h)
          have p1 := pop_le r1
          have p2 := pop_le r2
          have hw1 := pop_quiet r1 b1 (wr.alloc (.cells #[.int .u32 (r1 : Int), .int .u32 (r2 : Int)] 37))
          have hw2 := pop_quiet r2 b2 (wr.alloc (.cells #[.int .u32 (r1 : Int), .int .u32 (r2 : Int)] 37))
          generalize pop r1 = q1 at *
          generalize pop r2 = q2 at *
          go_wp2
          go_quiet (first | with_reducible exact hw1 _ | with_reducible exact hw2 _)
          by_cases g1 : ((q1 : Int) + q2) < 1
          · have HS := Lib.hid (codeD_form HC.out (HN.out (by omega)))
            go_wp2
            go_ret
            exact ⟨ret_int HS.out.symm, below_drewN hb2 _⟩
          · by_cases g2 : 2 < ((q1 : Int) + q2)
            · have HS := Lib.hid (codeD_form HC.out (HN.out (by omega)))
              have g3 : decide (((q1 : Int) + q2) < 1) = false := decide_eq_false g1
              go_wp2
              go_ret
              exact ⟨ret_int HS.out.symm, below_drewN hb2 _⟩
            · have HS := Lib.hid (HY.out (by omega))
              have g3 : decide (((q1 : Int) + q2) < 1) = false := decide_eq_false g1
              have g4 : decide (2 < ((q1 : Int) + q2)) = false := decide_eq_false g2
              go_wp2
              go_roundw
              case rel => exact ⟨k + 1, by go_num, by omega, HS.out, below_drewN hb2 _⟩
              case measure => simp [intOf]; omega
        · have HS := Lib.hid (codeD_ok HC.out (show twoB rs = true by have := HF.out; rw [List.take_of_length_le (by omega)] at this; exact this))
          go_wp2
          go_ret
          exact ⟨ret_int HS.out.symm, hbel⟩
  · have HD := Lib.hid (codeD_err hc)
    have h0 : codeS n rs = codeC n rs := codeS_err hc
    have h5 : (codeC n rs != 5) = true := by rcases codeC_range n rs with h | h | h <;> rw [h] <;> rfl
    have h6 : (codeC n rs != 0) = true := by simpa using hc
    rw [h0] at hck
    rw [HD.out]
    generalize codeC n rs = cc at *
    clear h0 hc
    go_enter Tryd.func14, Tryd.ntmps14
    go_wp2_with fail
    refine hck.mono ?_
    rintro e w1 ⟨rfl, hb1⟩
    clear hck
    go_wp2
    go_ret
    exact ⟨rfl, hb1⟩

set_option maxHeartbeats 1000000 in
theorem JSolve_ok : JSolveOk 12 := by
  intro n rs A c w h32 hl hr hX
  have hck := jCheck_any n rs A c w h32 hl hr hX
  by_cases hc : codeD n rs = 0
  · have HE := Lib.hid (codeE_ok hc)
    have HS := Lib.hid (solD_ok hc)
    rw [hc] at hck
    rw [HE.out, HS.out]
    clear hc HE HS
    go_enter Tryd.func12, Tryd.ntmps12
    go_wp2_with fail
    refine hck.mono ?_
    rintro e w1 ⟨rfl, hb1⟩
    clear hck
    go_wp2_with fail
    refine (ISolve_ok n rs A c w1 h32 hl (hr.below hb1) (hX.below hb1)).mono ?_
    rintro e w2 ⟨rfl, hb2⟩
    have hb3 := hb1.trans (hb2.mono hb1.size)
    go_wp2
    go_ret2
    exact ⟨rfl, hb3⟩
  · have HE := Lib.hid (codeE_err hc)
    have HS := Lib.hid (solD_err hc)
    rw [HE.out, HS.out]
    generalize codeD n rs = cc at *
    clear HE HS
    go_enter Tryd.func12, Tryd.ntmps12
    go_wp2_with fail
    refine hck.mono ?_
    rintro e w1 ⟨rfl, hb1⟩
    clear hck
    go_wp2
    go_ret2
    exact ⟨rfl, hb1⟩

end Go.Proofs.YtekeeodnjlebcaaDoor
