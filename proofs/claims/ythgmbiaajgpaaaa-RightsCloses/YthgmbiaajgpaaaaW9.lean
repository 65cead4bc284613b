/- syllogistref.Words and syllogistref.Ints: are two lists the same? -/
import Derived.Test.YthgmbiaajgpaaaaW1
namespace Go.Proofs.Ythgmbiaajgpaaaa
open Go.RowKit

theorem take_same_succ {α : Type} {xs ys : List α} {k : Nat} {x y : α} (h : xs.take k = ys.take k) (hx : xs[k]? = some x) (hy : ys[k]? = some y) (he : x = y) : xs.take (k + 1) = ys.take (k + 1) := by
  rw [List.take_add_one, List.take_add_one, h, hx, hy, he]
theorem ne_of_at {α : Type} {xs ys : List α} {k : Nat} {x y : α} (hx : xs[k]? = some x) (hy : ys[k]? = some y) (he : ¬ x = y) : ¬ xs = ys := by
  rintro rfl
  rw [hx] at hy
  injection hy with hy
  exact he hy

set_option maxHeartbeats 1000000 in
theorem Words_any (xs ys : List Nat) (A A2 : Option Addr) (c c2 : Nat) (w : World) (h : Row w A (words xs)) (h2 : Row w A2 (words ys)) (_hn : xs.length ≤ 1000000) (_hn2 : ys.length ≤ 1000000) :
    Calls Try.prog 19 #[.slice A xs.length c, .slice A2 ys.length c2] w fun e w' => e = .returned (.bool (decide (xs = ys))) ∧ ∃ d, w' = w.drewN d := by
  by_cases hl : xs.length = ys.length
  · have hd : ((xs.length : Int) != (ys.length : Int)) = false := by simp [hl]
    have HL := Lib.hid hl
    have hle : xs.length ≤ ys.length := by omega
    clear hl
    go_enter Try.func19, Try.ntmps19
    go_wp2
    go_loopw [5] (fun v wr => ∃ k : Nat, v = .int .i64 k ∧ k ≤ xs.length ∧ xs.take k = ys.take k ∧ ∃ d, wr = w.drewN d) (fun v _ => xs.length - (intOf v).toNat)
    case atStart => exact ⟨0, rfl, Nat.zero_le _, by simp, 0, rfl⟩
    case round =>
      obtain ⟨k, rfl, hk, ht, d, rfl⟩ := hrel
      have HT := Lib.hid ht
      clear ht
      by_cases hlt : k < xs.length
      · obtain ⟨x, hx⟩ := get_some hlt
        obtain ⟨y, hy⟩ := get_some (show k < ys.length by omega)
        obtain ⟨b, off, rfl, hc⟩ := h.at (k := k) (by simpa using hlt)
        obtain ⟨b2, off2, rfl, hc2⟩ := h2.at (k := k) (by simp; omega)
        have hk1 : (w.drewN d).cell? ⟨b, off + k, none⟩ = some (.int .u32 (x : Int)) := hc _ _ (words_at hx)
        have hk2 : (w.drewN d).cell? ⟨b2, off2 + k, none⟩ = some (.int .u32 (y : Int)) := hc2 _ _ (words_at hy)
        have HX := Lib.hid hx
        have HY := Lib.hid hy
        clear hc hc2 hx hy
        generalize hw3 : w.drewN d = w3 at *
        have HW := Lib.hid hw3
        clear hw3
        by_cases he : x = y
        · have hd2 : ((x : Int) != (y : Int)) = false := by simp [he]
          have HE := Lib.hid he
          clear he
          go_wp2
          go_quiet (fail)
          go_wp2
          go_roundw
          case rel => exact ⟨k + 1, by go_num, by omega, take_same_succ HT.out HX.out HY.out HE.out, d + nq, by rw [← HW.out, World.drewN_drewN]⟩
          case measure => simp [intOf]; omega
        · have hd2 : ((x : Int) != (y : Int)) = true := by simp; omega
          have HE := Lib.hid he
          clear he
          go_wp2
          go_quiet (fail)
          go_wp2
          go_ret
          exact ⟨ret_bool (by simp [ne_of_at HX.out HY.out HE.out]), d + nq, by rw [← HW.out, World.drewN_drewN]⟩
      · have HE := Lib.hid (show xs = ys by have := HT.out; rw [List.take_of_length_le (by omega), List.take_of_length_le (by have := HL.out; omega)] at this; exact this)
        go_wp2
        go_ret
        exact ⟨ret_bool (by simp [HE.out]), d, rfl⟩
  · have hd : ((xs.length : Int) != (ys.length : Int)) = true := by simp; omega
    have HL := Lib.hid (show ¬ xs = ys from fun e => hl (by rw [e]))
    clear hl
    go_enter Try.func19, Try.ntmps19
    go_wp2
    go_ret
    exact ⟨ret_bool (by simp [HL.out]), 0, rfl⟩

end Go.Proofs.Ythgmbiaajgpaaaa
