/- wall.compete, check, someFirm. -/
import Derived.Test.YtdiaglaokgehbaaWl2
import Derived.Test.YtdiaglaokgehbaaWW1
import Derived.Test.YtdiaglaokgehbaaWSl
import Derived.BigQuiet
import Derived.BigRegion
import Derived.Shelf.Abstract
namespace Go.Proofs.Ytdiaglaokgehbaa
open Go.RowKit

/-- Firm a and firm b are competitors. -/
def compB (cl : List Int) (a b : Int) : Bool := decide (b ≠ -1 ∧ a ≠ b ∧ atI cl a.toNat = atI cl b.toNat)

set_option maxHeartbeats 1000000 in
theorem qComp_any (cl : List Int) (A : Option Addr) (c : Nat) (a b : Int) (w : World) (hr : Row w A (ints cl)) (ha0 : 0 ≤ a) (ha : a < (cl.length : Int)) (hb0 : -1 ≤ b) (hb : b < (cl.length : Int)) :
    Calls Try.prog 50 #[.slice A cl.length c, .int .i64 a, .int .i64 b] w fun e w' => e = .returned (.bool (compB cl a b)) ∧ ∃ k, w' = w.drewN k := by
  obtain ⟨i, rfl⟩ := Int.eq_ofNat_of_zero_le ha0
  by_cases h1 : b = -1
  · subst h1
    have HV := Lib.hid (show compB cl (i : Int) (-1) = false by unfold compB; simp)
    rw [HV.out]
    have hd : ((-1 : Int) != -1) = false := rfl
    clear hr
    go_enter Try.func50, Try.ntmps50
    go_wp2
    go_quiet (fail)
    go_wp2
    go_ret
    exact ⟨rfl, _, rfl⟩
  · obtain ⟨j, rfl⟩ := Int.eq_ofNat_of_zero_le (show 0 ≤ b by omega)
    have hd : ((j : Int) != -1) = true := by simp
    clear h1
    by_cases h2 : i = j
    · subst h2
      have HV := Lib.hid (show compB cl (i : Int) (i : Int) = false by unfold compB; simp)
      rw [HV.out]
      have hd2 : ((i : Int) != (i : Int)) = false := by simp
      clear hr
      go_enter Try.func50, Try.ntmps50
      go_wp2
      go_quiet (fail)
      go_wp2
      go_ret
      exact ⟨rfl, _, rfl⟩
    · have hd2 : ((i : Int) != (j : Int)) = true := by simp; omega
      obtain ⟨g, off, rfl, d1⟩ := RowI.cells hr (atI_get (show i < cl.length by omega))
      obtain ⟨g', off', eg, e1⟩ := RowI.cells hr (atI_get (show j < cl.length by omega))
      simp only [Option.some.injEq, Addr.mk.injEq, and_true] at eg
      obtain ⟨rfl, rfl⟩ := eg
      have HV := Lib.hid (show compB cl (i : Int) (j : Int) = (atI cl i == atI cl j) by
        unfold compB
        rw [Bool.eq_iff_iff, decide_eq_true_iff, beq_iff_eq]
        simp only [Int.toNat_natCast]
        exact ⟨fun h => h.2.2, fun h => ⟨by omega, by omega, h⟩⟩)
      rw [HV.out]
      have g1 : (i : Int) < cl.length := ha
      have g2 : (j : Int) < cl.length := hb
      clear hr h2
      go_enter Try.func50, Try.ntmps50
      go_wp2
      go_quiet (fail)
      go_wp2
      go_ret
      exact ⟨rfl, _, rfl⟩

def badF (cl : List Int) (f : Int) : Bool := decide (f < -1 ∨ (cl.length : Int) ≤ f)
set_option maxHeartbeats 1000000 in
theorem qBad_any (cl : List Int) (A : Option Addr) (c b : Nat) (x : Int) (w : World) (hb : w.cell? ⟨b, 0, none⟩ = some (.slice A cl.length c)) :
    Calls Try.prog 61 (#[.int .i64 x] ++ #[.pointer (some ⟨b, 0, none⟩)]) w fun e w' => e = .returned (.bool (badF cl x)) ∧ w = w' := by
  show Calls Try.prog 61 #[.int .i64 x, .pointer (some ⟨b, 0, none⟩)] w _
  by_cases h1 : x < -1
  · have HV := Lib.hid (show badF cl x = true by unfold badF; rw [decide_eq_true_iff]; exact .inl h1)
    rw [HV.out]
    go_enter Try.func61, Try.ntmps61
    go_wp2
    go_ret
    exact ⟨rfl, rfl⟩
  · have HV := Lib.hid (show badF cl x = decide ((cl.length : Int) ≤ x) by unfold badF; rw [Bool.eq_iff_iff, decide_eq_true_iff, decide_eq_true_iff]; omega)
    rw [HV.out]
    go_enter Try.func61, Try.ntmps61
    go_wp2
    go_ret
    exact ⟨rfl, rfl⟩
theorem qBad_enters (args : Array Value) (w : World) : (callFunc 61 args).run Try.prog w = .ok (.enter 61 args) w := enters_of Try.func61 (by kernel_rfl) rfl args w

set_option maxHeartbeats 1000000 in
theorem qCheck_any (fi cl : List Int) (A A2 : Option Addr) (c c2 : Nat) (w : World) (hr : Row w A (ints fi)) :
    Calls Try.prog 46 #[.slice A fi.length c, .slice A2 cl.length c2] w fun e w' => e = .returned (.int .i64 (codeF fi cl)) ∧ Below w.heap.size w w' := by
  have HB := Lib.hid ((Below.refl w.heap.size w).alloc (Nat.le_refl _) (.cells #[.slice A2 cl.length c2] 47))
  have z0 : (w.alloc (.cells #[.slice A2 cl.length c2] 47)).cell? ⟨w.heap.size, 0, none⟩ = some (.slice A2 cl.length c2) := cell_of_row _ _ 0 _ _ _ (heap_alloc_new w _)
  by_cases hL : LargeF fi.length cl.length
  · have HC := Lib.hid (codeF_large hL)
    rw [HC.out]
    unfold LargeF at hL
    by_cases h1 : 8 < fi.length
    · clear hL; go_enter Try.func46, Try.ntmps46; go_wp2; go_ret; exact ⟨rfl, HB.out⟩
    · have h2 : 8 < cl.length := by omega
      clear hL; go_enter Try.func46, Try.ntmps46; go_wp2; go_ret; exact ⟨rfl, HB.out⟩
  · have HL := Lib.hid hL
    obtain ⟨g1, g2⟩ : fi.length ≤ 8 ∧ cl.length ≤ 8 := by unfold LargeF at hL; omega
    clear hL
    have hr1 := hr.below HB.out
    have KC := Lib.hid (slContainsFunc_any fi A c 61 #[.pointer (some ⟨w.heap.size, 0, none⟩)] (badF cl) _ hr1 (by omega) qBad_enters (fun x _ => qBad_any cl A2 c2 w.heap.size x _ z0))
    clear hr hr1
    go_enter Try.func46, Try.ntmps46
    go_wp2_with fail
    refine KC.out.mono ?_
    rintro e w2 ⟨rfl, rfl⟩
    by_cases hal : ∀ f ∈ fi, -1 ≤ f ∧ f < (cl.length : Int)
    · have HC := Lib.hid (codeF_ok HL.out hal)
      rw [show fi.any (badF cl) = false by
        rw [List.any_eq_false]
        intro x hx h
        have := hal x hx
        unfold badF at h
        rw [decide_eq_true_iff] at h
        omega]
      clear hal
      go_wp2
      go_ret
      exact ⟨ret_int HC.out.symm, HB.out⟩
    · have HC := Lib.hid (codeF_bad HL.out hal)
      rw [show fi.any (badF cl) = true by
        rw [List.any_eq_true]
        apply Classical.byContradiction
        intro hno
        refine hal fun f hf => ?_
        apply Classical.byContradiction
        intro hb
        exact hno ⟨f, hf, by unfold badF; rw [decide_eq_true_iff]; omega⟩]
      clear hal
      go_wp2
      go_ret
      exact ⟨ret_int HC.out.symm, HB.out⟩

/-- One of the first k things, read, of a firm for which p holds. -/
def someF (fi : List Int) (rd : Nat) (p : Int → Bool) (k : Nat) : Bool := (List.range k).any fun i => rd.testBit i && (atI fi i != -1 && p (atI fi i))
theorem someF_succ (fi : List Int) (rd : Nat) (p : Int → Bool) (k : Nat) : someF fi rd p (k + 1) = (someF fi rd p k || (rd.testBit k && (atI fi k != -1 && p (atI fi k)))) := by
  unfold someF
  rw [List.range_succ, List.any_append]
  simp
theorem someF_mono {fi : List Int} {rd : Nat} {p : Int → Bool} {k : Nat} (hk : k < fi.length) (h : (rd.testBit k && (atI fi k != -1 && p (atI fi k))) = true) : someF fi rd p fi.length = true :=
  List.any_eq_true.2 ⟨k, List.mem_range.2 hk, h⟩
theorem shr_bit {x : Nat} (k : Nat) (hx : x < 4294967296) : (bits .and .u32 ((x : Int) / 2 ^ k) 1 == 1) = x.testBit k := by
  have e : (x : Int) / 2 ^ k = ((x / 2 ^ k : Nat) : Int) := by simp
  rw [e, show (1 : Int) = ((1 : Nat) : Int) from rfl, u32_and_nat _ _ (Nat.lt_of_le_of_lt (Nat.div_le_self _ _) hx) (by decide)]
  rw [Nat.testBit_eq_decide_div_mod_eq, Nat.and_one_is_mod]
  rw [Bool.eq_iff_iff, beq_iff_eq, decide_eq_true_iff]
  omega

set_option maxHeartbeats 2000000 in
theorem qSome_any (fi : List Int) (A : Option Addr) (c rd g : Nat) (lb : Array Value) (p : Int → Bool) (w : World) (hr : Row w A (ints fi)) (hn : fi.length ≤ 8) (hrd : rd < 4294967296)
    (eg : ∀ args w, (callFunc g args).run Try.prog w = .ok (.enter g args) w)
    (hf : ∀ i d, i < fi.length → atI fi i ≠ -1 → Calls Try.prog g (#[.int .i64 (atI fi i)] ++ lb) (w.drewN d) fun e w' => e = .returned (.bool (p (atI fi i))) ∧ ∃ k, w' = w.drewN k) :
    Calls Try.prog 48 #[.slice A fi.length c, .int .u32 rd, .func (.func g) #[] lb] w fun e w' => e = .returned (.bool (someF fi rd p fi.length)) ∧ ∃ k, w' = w.drewN k := by
  have HF := Lib.hid hf
  clear hf
  go_enter Try.func48, Try.ntmps48
  go_wp2
  go_loopw [11] (fun v wr => ∃ k d : Nat, v = .int .i64 k ∧ k ≤ fi.length ∧ someF fi rd p k = false ∧ wr = w.drewN d) (fun v _ => fi.length - (intOf v).toNat)
  case atStart => exact ⟨0, 0, rfl, Nat.zero_le _, rfl, rfl⟩
  case round =>
    obtain ⟨k, d, rfl, hk, hno, rfl⟩ := hrel
    have HN := Lib.hid hno
    clear hno
    by_cases hlt : k < fi.length
    · obtain ⟨b, off, rfl, d1⟩ := RowI.cells (hr.drewN d) (atI_get hlt)
      have HK := Lib.hid hlt
      have hsb := shr_bit k hrd
      have HS := Lib.hid (someF_succ fi rd p k)
      rw [HN.out, Bool.false_or] at HS
      have HT := Lib.hid (someF_mono (fi := fi) (rd := rd) (p := p) hlt)
      cases hbit : rd.testBit k
      · rw [hbit] at hsb HS
        have HS2 := Lib.hid (show someF fi rd p (k + 1) = false from HS.out)
        go_wp2
        go_roundw
        case rel => exact ⟨k + 1, d, by go_num, by omega, HS2.out, rfl⟩
        case measure => simp [intOf]; omega
      · rw [hbit] at hsb HS HT
        by_cases hf1 : atI fi k = -1
        · have hfb : (atI fi k != -1) = false := by simpa using hf1
          rw [hfb] at HS
          have HS2 := Lib.hid (show someF fi rd p (k + 1) = false from HS.out)
          clear hf1
          go_wp2
          go_roundw
          case rel => exact ⟨k + 1, d, by go_num, by omega, HS2.out, rfl⟩
          case measure => simp [intOf]; omega
        · have hfb : (atI fi k != -1) = true := by simpa using hf1
          rw [hfb] at HS HT
          have kF := HF.out k d hlt hf1
          clear hf1
          go_wp2_with fail
          refine kF.mono ?_
          rintro e w' ⟨rfl, d2, rfl⟩
          clear kF
          cases hp : p (atI fi k)
          · rw [hp] at HS
            have HS2 := Lib.hid (show someF fi rd p (k + 1) = false from HS.out)
            go_wp2
            go_roundw
            case rel => exact ⟨k + 1, d2, by go_num, by omega, HS2.out, rfl⟩
            case measure => simp [intOf]; omega
          · rw [hp] at HT
            have HT2 := Lib.hid (HT.out rfl)
            go_wp2
            go_ret
            exact ⟨ret_bool HT2.out.symm, _, rfl⟩
    · obtain rfl : k = fi.length := by omega
      go_wp2
      go_ret
      exact ⟨ret_bool HN.out.symm, _, rfl⟩

end Go.Proofs.Ytdiaglaokgehbaa
