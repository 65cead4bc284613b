/- The laws on clauses, by the document's answers. -/
import Derived.Test.YtjbefclfhehhaaaISpec
import Derived.Test.YtjbefclfhehhaaaWI3
namespace Go.Proofs.Ytjbefclfhehhaaa
open Go.RowKit

set_option maxHeartbeats 1000000 in
theorem ClauseSolves_with (hF : ISolveOk 9) (n : Int) (rs : List Cla) (A : Option Addr) (c : Nat) (w : World) (h32 : W32 rs) (hm : rs.length ≤ maxLen) (hr : Row w A (rulesC rs)) (hX : Laid w) :
    Calls Try.prog 3 #[.int .i64 n, .slice A rs.length c] w fun e w' => e = .returned (.bool true) ∧ Below w.heap.size w w' := by
  have key := hF n rs A c w h32 hm hr hX
  by_cases hc : codeC n rs = 0
  · obtain ⟨n, rfl, hn1, hn6, hl, hf⟩ := codeC_zero hc
    have HC := Lib.hid hc
    cases hfs : firstS n rs with
    | none =>
      rw [codeS_none hc hfs, solS_none hc hfs] at key
      have HF := Lib.hid hfs
      clear hc hfs
      go_enter Try.func3, Try.ntmps3
      go_wp2_with fail
      refine key.mono ?_
      rintro e w1 ⟨rfl, hb1⟩
      clear key
      go_wp2_with fail
      refine (SatCheck_any n rs A c _ (hr.below hb1)).mono ?_
      rintro e w2 ⟨rfl, hb2⟩
      have hb12 := hb1.trans (hb2.mono hb1.size)
      rw [HC.out]
      clear hb2
      go_wp2_with fail
      refine (First_any n rs A c _ hn6 (hr.below hb12) h32 hm).mono ?_
      rintro e w3 ⟨rfl, hb3⟩
      rw [HF.out]
      have HB := Lib.hid (hb12.trans (hb3.mono hb12.size))
      clear hb3 hb1 hb12
      go_wp2
      go_ret
      exact ⟨rfl, HB.out⟩
    | some s =>
      rw [codeS_some hc hfs, solS_some hc hfs] at key
      have HF := Lib.hid hfs
      clear hc hfs
      go_enter Try.func3, Try.ntmps3
      go_wp2_with fail
      refine key.mono ?_
      rintro e w1 ⟨rfl, hb1⟩
      clear key
      go_wp2_with fail
      refine (SatCheck_any n rs A c _ (hr.below hb1)).mono ?_
      rintro e w2 ⟨rfl, hb2⟩
      have hb12 := hb1.trans (hb2.mono hb1.size)
      rw [HC.out]
      clear hb2
      go_wp2_with fail
      refine (First_any n rs A c _ hn6 (hr.below hb12) h32 hm).mono ?_
      rintro e w3 ⟨rfl, hb3⟩
      rw [HF.out]
      have HB := Lib.hid (hb12.trans (hb3.mono hb12.size))
      clear hb3 hb1 hb12
      go_wp2
      go_ret
      exact ⟨ret_bool (by simp), HB.out⟩
  · rw [codeS_err hc, solS_err hc] at key
    go_enter Try.func3, Try.ntmps3
    go_wp2_with fail
    refine key.mono ?_
    rintro e w1 ⟨rfl, hb1⟩
    clear key
    go_wp2_with fail
    refine (SatCheck_any n rs A c _ (hr.below hb1)).mono ?_
    rintro e w2 ⟨rfl, hb2⟩
    have hb12 := hb1.trans (hb2.mono hb1.size)
    clear hb2 hb1
    generalize codeC n rs = k at *
    have hk2 : (k != 0) = true := by simpa using hc
    clear hc
    go_wp2
    go_ret
    exact ⟨ret_bool (by simp), hb12⟩

set_option maxHeartbeats 1000000 in
theorem ClauseRefutes_with (hF : IRefuteOk 15) (n : Int) (rs : List Cla) (A : Option Addr) (c : Nat) (w : World) (h32 : W32 rs) (hm : rs.length ≤ maxLen) (hr : Row w A (rulesC rs)) (hX : Laid w) :
    Calls Try.prog 5 #[.int .i64 n, .slice A rs.length c] w fun e w' => e = .returned (.bool true) ∧ Below w.heap.size w w' := by
  have key := hF n rs A c w h32 hm hr hX
  by_cases hc : codeC n rs = 0
  · obtain ⟨n, rfl, hn1, hn6, hl, hf⟩ := codeC_zero hc
    have HC := Lib.hid hc
    cases hfs : firstS n rs with
    | none =>
      rw [codeU_none hc hfs] at key
      have HF := Lib.hid hfs
      clear hc hfs
      go_enter Try.func5, Try.ntmps5
      go_wp2_with fail
      refine key.mono ?_
      rintro e w1 ⟨A2, c2, ps, rfl, hyes, _, hpl, hrow, hb1⟩
      have HY := Lib.hid (hyes (by first | exact trivial | rfl))
      clear key hyes
      go_wp2_with fail
      refine (SatCheck_any n rs A c _ (hr.below hb1)).mono ?_
      rintro e w2 ⟨rfl, hb2⟩
      have hb12 := hb1.trans (hb2.mono hb1.size)
      have hrow2 := hrow.below hb2
      rw [HC.out]
      clear hb2
      go_wp2_with fail
      refine (First_any n rs A c _ hn6 (hr.below hb12) h32 hm).mono ?_
      rintro e w3 ⟨rfl, hb3⟩
      rw [HF.out]
      have hb13 := hb12.trans (hb3.mono hb12.size)
      have hrow3 := hrow2.below hb3
      clear hb3 hb1 hb12
      go_wp2_with fail
      refine (Refutes_any rs A c ps A2 c2 _ (hr.below hb13) h32 (by omega) hrow3 hpl).mono ?_
      rintro e w4 ⟨rfl, hb4⟩
      rw [HY.out]
      have HB := Lib.hid (hb13.trans (hb4.mono hb13.size))
      clear hb4
      go_wp2
      go_ret
      exact ⟨rfl, HB.out⟩
    | some s =>
      rw [codeU_some hc hfs] at key
      have HF := Lib.hid hfs
      clear hc hfs
      go_enter Try.func5, Try.ntmps5
      go_wp2_with fail
      refine key.mono ?_
      rintro e w1 ⟨A2, c2, ps, rfl, _, hno, hpl, hrow, hb1⟩
      obtain rfl := hno (by decide)
      clear key
      go_wp2_with fail
      refine (SatCheck_any n rs A c _ (hr.below hb1)).mono ?_
      rintro e w2 ⟨rfl, hb2⟩
      have hb12 := hb1.trans (hb2.mono hb1.size)
      rw [HC.out]
      clear hb2
      go_wp2_with fail
      refine (First_any n rs A c _ hn6 (hr.below hb12) h32 hm).mono ?_
      rintro e w3 ⟨rfl, hb3⟩
      rw [HF.out]
      have HB := Lib.hid (hb12.trans (hb3.mono hb12.size))
      clear hb3 hb1 hb12
      go_wp2
      go_ret
      exact ⟨rfl, HB.out⟩
  · rw [codeU_err hc] at key
    go_enter Try.func5, Try.ntmps5
    go_wp2_with fail
    refine key.mono ?_
    rintro e w1 ⟨A2, c2, ps, rfl, _, hno, hpl, hrow, hb1⟩
    obtain rfl := hno hc
    clear key hno
    go_wp2_with fail
    refine (SatCheck_any n rs A c _ (hr.below hb1)).mono ?_
    rintro e w2 ⟨rfl, hb2⟩
    have hb12 := hb1.trans (hb2.mono hb1.size)
    clear hb2 hb1
    generalize codeC n rs = k at *
    have hk2 : (k != 0) = true := by simpa using hc
    clear hc
    go_wp2
    go_ret
    exact ⟨ret_bool (by simp), hb12⟩

/-- What the loop over the clauses makes of the code. -/
def hornK (x : Int) (l : List Cla) : Int := if x = 0 ∧ hornB l = false then 3 else x
theorem hornB_take {l : List Cla} {k : Nat} {c : Cla} (hc : l[k]? = some c) : hornB (l.take (k + 1)) = (hornB (l.take k) && decide (pop c.1 ≤ 1)) := by
  rw [List.take_add_one, hc]
  simp [hornB]
theorem hornK_step {x : Int} {l : List Cla} {k : Nat} {c : Cla} (hc : l[k]? = some c) : hornK x (l.take (k + 1)) = if hornK x (l.take k) = 0 ∧ 1 < pop c.1 then 3 else hornK x (l.take k) := by
  unfold hornK
  rw [hornB_take hc]
  by_cases h1 : x = 0
  · subst h1
    cases hornB (l.take k) with
    | false => simp
    | true =>
      by_cases h2 : pop c.1 ≤ 1
      · rw [if_neg (by simp [h2])]; simp; omega
      · rw [if_pos (by simp [h2])]; simp; omega
  · simp [h1]
/-- What all the sets have together of which the clauses hold. -/
def meetM (l : List Cla) (n k : Nat) : Nat := wordOf n fun i => (List.range k).all fun t => !trueB l t || t.testBit i
theorem meetM_zero (l : List Cla) (n : Nat) : meetM l n 0 = full n := by
  apply Nat.eq_of_testBit_eq
  intro i
  unfold meetM
  rw [testBit_wordOf, full_bit]
  simp
theorem meetM_yes {l : List Cla} {n k : Nat} (h : trueB l k = true) : meetM l n (k + 1) = meetM l n k &&& k := by
  apply Nat.eq_of_testBit_eq
  intro i
  unfold meetM
  rw [Nat.testBit_and, testBit_wordOf, testBit_wordOf, List.range_succ, List.all_append]
  simp [h, Bool.and_assoc]
theorem meetM_no {l : List Cla} {n k : Nat} (h : trueB l k = false) : meetM l n (k + 1) = meetM l n k := by
  apply Nat.eq_of_testBit_eq
  intro i
  unfold meetM
  rw [testBit_wordOf, testBit_wordOf, List.range_succ, List.all_append]
  simp [h]
theorem meetM_lt (l : List Cla) (n k : Nat) : meetM l n k < one n := wordOf_lt _ _
theorem meetM_least {l : List Cla} {n s : Nat} (h : IsLeastM n l s) : meetM l n (one n) = s := by
  apply Nat.eq_of_testBit_eq
  intro i
  unfold meetM
  rw [testBit_wordOf, Bool.eq_iff_iff, Bool.and_eq_true_iff, decide_eq_true_iff, List.all_eq_true]
  constructor
  · rintro ⟨_, h2⟩
    have := h2 s (List.mem_range.2 h.1)
    rw [h.2.1] at this
    simpa using this
  · intro hi
    refine ⟨bit_lt h.1 hi, fun t ht => ?_⟩
    cases e : trueB l t with
    | false => rfl
    | true => simpa using sub_iff.1 (h.2.2 t (List.mem_range.1 ht) e) i hi
/-- Is there one of the first k? -/
def someM (l : List Cla) (k : Nat) : Bool := (List.range k).any (trueB l)
theorem someM_succ (l : List Cla) (k : Nat) : someM l (k + 1) = (someM l k || trueB l k) := by simp [someM, List.range_succ]
theorem someM_first {l : List Cla} {n : Nat} : someM l (one n) = (firstS n l).isSome := by
  cases e : firstS n l with
  | none =>
    rw [Option.isSome_none]
    unfold someM
    rw [List.any_eq_false]
    intro t ht
    rw [first_none.1 e t (List.mem_range.1 ht)]
    decide
  | some s =>
    rw [Option.isSome_some]
    unfold someM
    rw [List.any_eq_true]
    exact ⟨s, List.mem_range.2 (first_some.1 e).1, (first_some.1 e).2.1⟩

end Go.Proofs.Ytjbefclfhehhaaa
