/- slices.Index, Contains, IndexFunc, ContainsFunc of numbers. -/
import Derived.Test.YtlpjpnlfmjehnaaW1
import Derived.Test.YtlpjpnlfmjehnaaRl
namespace Go.Proofs.Ytlpjpnlfmjehnaa
open Go.RowKit

theorem any_take_succ {l : List Int} {p : Int → Bool} {k : Nat} {y : Int} (hy : l[k]? = some y) (h : (l.take k).any p = false) (h2 : p y = false) : (l.take (k + 1)).any p = false := by
  rw [List.take_add_one, hy, List.any_append, h]
  simp [h2]

set_option maxHeartbeats 1000000 in
theorem slIndex_any (l : List Int) (A : Option Addr) (c : Nat) (x : Int) (w : World) (h : Row w A (ints l)) (hn : l.length ≤ 1000000) :
    Calls Try.prog 46 #[.slice A l.length c, .int .i64 x] w fun e w' => (∃ r : Int, e = .returned (.int .i64 r) ∧ decide (0 ≤ r) = decide (x ∈ l)) ∧ w = w' := by
  go_enter Try.func46, Try.ntmps46
  go_wp2
  go_loopw [8] (fun i wr => ∃ k : Nat, i = .int .i64 k ∧ k ≤ l.length ∧ ¬ x ∈ l.take k ∧ w = wr) (fun i _ => l.length - (intOf i).toNat)
  case atStart => exact ⟨0, rfl, Nat.zero_le _, by simp, rfl⟩
  case round =>
    obtain ⟨k, rfl, hk, hno, rfl⟩ := hrel
    have HN := Lib.hid hno
    clear hno
    by_cases hlt : k < l.length
    · obtain ⟨b, off, rfl, hc⟩ := h.at (k := k) (by simpa using hlt)
      obtain ⟨y, hy⟩ := get_some hlt
      have hck := hc k _ (ints_at hy)
      have HY := Lib.hid hy
      clear hc hy
      by_cases hxy : x = y
      · have h1 : (x == y) = true := by simpa using hxy
        have HM := Lib.hid (show decide (0 ≤ (k : Int)) = decide (x ∈ l) by rw [decide_eq_true (show 0 ≤ (k : Int) by omega), decide_eq_true (by rw [hxy]; exact List.mem_of_getElem? HY.out)])
        clear hxy
        go_wp2
        go_ret
        exact ⟨⟨_, rfl, HM.out⟩, rfl⟩
      · have h1 : (x == y) = false := by simpa using hxy
        have HM := Lib.hid (mem_take_succ HY.out HN.out hxy)
        clear hxy
        go_wp2
        go_roundw
        case rel => exact ⟨k + 1, by go_num, by omega, HM.out, trivial⟩
        case measure => simp [intOf]; omega
    · go_wp2
      go_ret
      have hno := HN.out
      rw [List.take_of_length_le (by omega)] at hno
      exact ⟨⟨_, rfl, by simp [hno]⟩, rfl⟩

set_option maxHeartbeats 1000000 in
theorem slContains_any (l : List Int) (A : Option Addr) (c : Nat) (x : Int) (w : World) (h : Row w A (ints l)) (hn : l.length ≤ 1000000) :
    Calls Try.prog 40 #[.slice A l.length c, .int .i64 x] w fun e w' => e = .returned (.bool (decide (x ∈ l))) ∧ w = w' := by
  go_enter Try.func40, Try.ntmps40
  go_wp2_with fail
  refine (slIndex_any l A c x w h hn).mono ?_
  rintro e w' ⟨⟨r, rfl, hr⟩, rfl⟩
  have HR := Lib.hid hr
  clear hr
  go_wp2
  go_ret
  exact ⟨ret_bool (by first | exact HR.out | (rw [← HR.out]; simp)), rfl⟩

end Go.Proofs.Ytlpjpnlfmjehnaa
