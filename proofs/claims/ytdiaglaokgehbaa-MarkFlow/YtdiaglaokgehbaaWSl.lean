/- slices.Index, Contains, IndexFunc, ContainsFunc of numbers. -/
import Derived.Test.YtdiaglaokgehbaaW1
import Derived.Test.YtdiaglaokgehbaaRl
namespace Go.Proofs.Ytdiaglaokgehbaa
open Go.RowKit

theorem any_take_succ {l : List Int} {p : Int → Bool} {k : Nat} {y : Int} (hy : l[k]? = some y) (h : (l.take k).any p = false) (h2 : p y = false) : (l.take (k + 1)).any p = false := by
  rw [List.take_add_one, hy, List.any_append, h]
  simp [h2]

set_option maxHeartbeats 1000000 in
theorem slIndex_any (l : List Int) (A : Option Addr) (c : Nat) (x : Int) (w : World) (h : Row w A (ints l)) (hn : l.length ≤ 1000000) :
    Calls Try.prog 62 #[.slice A l.length c, .int .i64 x] w fun e w' => (∃ r : Int, e = .returned (.int .i64 r) ∧ decide (0 ≤ r) = decide (x ∈ l)) ∧ w = w' := by
  go_enter Try.func62, Try.ntmps62
  go_wp2
  go_loopw [8] (fun i wr => ∃ k : Nat, i = .int .i64 k ∧ k ≤ l.length ∧ ¬ x ∈ l.take k ∧ w = wr) (fun i _ => l.length - (intOf i).toNat)
  case atStart => exact ⟨0, rfl, Nat.zero_le _, by simp, rfl⟩
  case round =>
    obtain ⟨k, rfl, hk, hno, rfl⟩ := hrel
    have HN := Lib.hid hno
    clear hno
    by_cases hlt : k < l.length
    · obtain ⟨b, off, rfl, hc⟩ := h.at (k := k) (by simpa using hlt)
      obtain ⟨y, hy⟩ := get_some hlt
      have hck := hc k _ (ints_at hy)
      have HY := Lib.hid hy
      clear hc hy
      by_cases hxy : x = y
      · have h1 : (x == y) = true := by simpa using hxy
        have HM := Lib.hid (show decide (0 ≤ (k : Int)) = decide (x ∈ l) by rw [decide_eq_true (show 0 ≤ (k : Int) by omega), decide_eq_true (by rw [hxy]; exact List.mem_of_getElem? HY.out)])
        clear hxy
        go_wp2
        go_ret
        exact ⟨⟨_, rfl, HM.out⟩, rfl⟩
      · have h1 : (x == y) = false := by simpa using hxy
        have HM := Lib.hid (mem_take_succ HY.out HN.out hxy)
        clear hxy
        go_wp2
        go_roundw
        case rel => exact ⟨k + 1, by go_num, by omega, HM.out, trivial⟩
        case measure => simp [intOf]; omega
    · go_wp2
      go_ret
      have hno := HN.out
      rw [List.take_of_length_le (by omega)] at hno
      exact ⟨⟨_, rfl, by simp [hno]⟩, rfl⟩

set_option maxHeartbeats 1000000 in
theorem slContains_any (l : List Int) (A : Option Addr) (c : Nat) (x : Int) (w : World) (h : Row w A (ints l)) (hn : l.length ≤ 1000000) :
    Calls Try.prog 52 #[.slice A l.length c, .int .i64 x] w fun e w' => e = .returned (.bool (decide (x ∈ l))) ∧ w = w' := by
  go_enter Try.func52, Try.ntmps52
  go_wp2_with fail
  refine (slIndex_any l A c x w h hn).mono ?_
  rintro e w' ⟨⟨r, rfl, hr⟩, rfl⟩
  have HR := Lib.hid hr
  clear hr
  go_wp2
  go_ret
  exact ⟨ret_bool (by first | exact HR.out | (rw [← HR.out]; simp)), rfl⟩

set_option maxHeartbeats 1000000 in
theorem slIndexFunc_any (l : List Int) (A : Option Addr) (c : Nat) (g : Nat) (lb : Array Value) (p : Int → Bool) (w : World) (h : Row w A (ints l)) (hn : l.length ≤ 1000000)
    (eg : ∀ args w, (callFunc g args).run Try.prog w = .ok (.enter g args) w)
    (hf : ∀ x, x ∈ l → Calls Try.prog g (#[.int .i64 x] ++ lb) w fun e w' => e = .returned (.bool (p x)) ∧ w = w') :
    Calls Try.prog 65 #[.slice A l.length c, .func (.func g) #[] lb] w fun e w' => (∃ r : Int, e = .returned (.int .i64 r) ∧ decide (0 ≤ r) = l.any p) ∧ w = w' := by
  have HF := Lib.hid hf
  clear hf
  go_enter Try.func65, Try.ntmps65
  go_wp2
  go_loopw [8] (fun i wr => ∃ k : Nat, i = .int .i64 k ∧ k ≤ l.length ∧ (l.take k).any p = false ∧ w = wr) (fun i _ => l.length - (intOf i).toNat)
  case atStart => exact ⟨0, rfl, Nat.zero_le _, by simp, rfl⟩
  case round =>
    obtain ⟨k, rfl, hk, hno, rfl⟩ := hrel
    have HN := Lib.hid hno
    clear hno
    by_cases hlt : k < l.length
    · obtain ⟨b, off, rfl, hc⟩ := h.at (k := k) (by simpa using hlt)
      obtain ⟨y, hy⟩ := get_some hlt
      have hck := hc k _ (ints_at hy)
      have HY := Lib.hid hy
      clear hc hy
      go_wp2_with fail
      refine (HF.out y (List.mem_of_getElem? HY.out)).mono ?_
      rintro e w' ⟨rfl, rfl⟩
      by_cases hp : p y = true
      · have HM := Lib.hid (show decide (0 ≤ (k : Int)) = l.any p by rw [decide_eq_true (show 0 ≤ (k : Int) by omega)]; exact (List.any_eq_true.2 ⟨y, List.mem_of_getElem? HY.out, hp⟩).symm)
        rw [hp]
        clear hp
        go_wp2
        go_ret
        exact ⟨⟨_, rfl, HM.out⟩, rfl⟩
      · rw [Bool.not_eq_true] at hp
        have HM := Lib.hid (any_take_succ HY.out HN.out hp)
        rw [hp]
        clear hp
        go_wp2
        go_roundw
        case rel => exact ⟨k + 1, by go_num, by omega, HM.out, trivial⟩
        case measure => simp [intOf]; omega
    · go_wp2
      go_ret
      have hno := HN.out
      rw [List.take_of_length_le (by omega)] at hno
      exact ⟨⟨_, rfl, by rw [hno]; decide⟩, rfl⟩

set_option maxHeartbeats 1000000 in
theorem slContainsFunc_any (l : List Int) (A : Option Addr) (c : Nat) (g : Nat) (lb : Array Value) (p : Int → Bool) (w : World) (h : Row w A (ints l)) (hn : l.length ≤ 1000000)
    (eg : ∀ args w, (callFunc g args).run Try.prog w = .ok (.enter g args) w)
    (hf : ∀ x, x ∈ l → Calls Try.prog g (#[.int .i64 x] ++ lb) w fun e w' => e = .returned (.bool (p x)) ∧ w = w') :
    Calls Try.prog 60 #[.slice A l.length c, .func (.func g) #[] lb] w fun e w' => e = .returned (.bool (l.any p)) ∧ w = w' := by
  have HF := Lib.hid hf
  clear hf
  go_enter Try.func60, Try.ntmps60
  go_wp2_with fail
  refine (slIndexFunc_any l A c g lb p w h hn eg HF.out).mono ?_
  rintro e w' ⟨⟨r, rfl, hr⟩, rfl⟩
  have HR := Lib.hid hr
  clear hr
  go_wp2
  go_ret
  exact ⟨ret_bool (by first | exact HR.out | (rw [← HR.out]; simp)), rfl⟩

end Go.Proofs.Ytdiaglaokgehbaa
