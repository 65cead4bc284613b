/- syllogistref.FirmsCheck, Fewest. -/
import Derived.Test.YtdiaglaokgehbaaWl
namespace Go.Proofs.Ytdiaglaokgehbaa
open Go.RowKit

theorem RowI.cells {w : World} {A : Option Addr} {l : List Int} (h : Row w A (ints l)) {k : Nat} {x : Int} (hx : l[k]? = some x) : ∃ b off, A = some ⟨b, off, none⟩ ∧ w.cell? ⟨b, off + k, none⟩ = some (.int .i64 x) := by
  obtain ⟨b, off, rfl, hc⟩ := h.at (k := k) (by rw [ints_length]; exact (List.getElem?_eq_some_iff.1 hx).1)
  exact ⟨b, off, rfl, hc _ _ (ints_at hx)⟩

set_option maxHeartbeats 1000000 in
theorem FirmsCheck_any (fi cl : List Int) (A A2 : Option Addr) (c c2 : Nat) (w : World) (hr : Row w A (ints fi)) :
    Calls Try.prog 27 #[.slice A fi.length c, .slice A2 cl.length c2] w fun e w' => e = .returned (.int .i64 (codeF fi cl)) ∧ w = w' := by
  by_cases hL : LargeF fi.length cl.length
  · have HC := Lib.hid (codeF_large hL)
    rw [HC.out]
    unfold LargeF at hL
    by_cases h1 : 8 < fi.length
    · clear hL; go_enter Try.func27, Try.ntmps27; go_wp2; go_ret; exact ⟨rfl, rfl⟩
    · have h2 : 8 < cl.length := by omega
      clear hL; go_enter Try.func27, Try.ntmps27; go_wp2; go_ret; exact ⟨rfl, rfl⟩
  · have HL := Lib.hid hL
    obtain ⟨g1, g2⟩ : fi.length ≤ 8 ∧ cl.length ≤ 8 := by unfold LargeF at hL; omega
    clear hL
    go_enter Try.func27, Try.ntmps27
    go_wp2
    go_loopw [17] (fun v wr => ∃ k : Nat, v = .int .i64 k ∧ k ≤ fi.length ∧ (∀ f ∈ fi.take k, -1 ≤ f ∧ f < (cl.length : Int)) ∧ w = wr) (fun v _ => fi.length - (intOf v).toNat)
    case atStart => exact ⟨0, rfl, Nat.zero_le _, by simp, rfl⟩
    case round =>
      obtain ⟨k, rfl, hk, hal, rfl⟩ := hrel
      have HA := Lib.hid hal
      clear hal
      by_cases hlt : k < fi.length
      · obtain ⟨x, hx⟩ := get_some hlt
        obtain ⟨b, off, rfl, d1⟩ := RowI.cells hr hx
        have HX := Lib.hid hx
        clear hx
        by_cases h1 : x < -1
        · have HC := Lib.hid (codeF_bad HL.out (fun h => by have := h x (List.mem_of_getElem? HX.out); omega))
          go_wp2
          go_ret
          exact ⟨ret_int HC.out.symm, rfl⟩
        · by_cases h2 : (cl.length : Int) ≤ x
          · have HC := Lib.hid (codeF_bad HL.out (fun h => by have := h x (List.mem_of_getElem? HX.out); omega))
            go_wp2
            go_ret
            exact ⟨ret_int HC.out.symm, rfl⟩
          · have HN := Lib.hid (show ∀ f ∈ fi.take (k + 1), -1 ≤ f ∧ f < (cl.length : Int) by
              intro f hf
              rw [List.take_add_one, HX.out, List.mem_append] at hf
              rcases hf with hf | hf
              · exact HA.out f hf
              · simp at hf; subst hf; omega)
            go_wp2
            go_roundw
            case rel => exact ⟨k + 1, by go_num, by omega, HN.out, trivial⟩
            case measure => simp [intOf]; omega
      · obtain rfl : k = fi.length := by omega
        have HC := Lib.hid (codeF_ok HL.out (fun f hf => HA.out f (by rw [List.take_length]; exact hf)))
        go_wp2
        go_ret
        exact ⟨ret_int HC.out.symm, rfl⟩

set_option maxHeartbeats 2000000 in
theorem refFewest_any (fi cl : List Int) (A A2 : Option Addr) (c c2 : Nat) (w : World) (hr : Row w A (ints fi)) (hr2 : Row w A2 (ints cl)) (g1 : fi.length ≤ 8) (g2 : cl.length ≤ 8) :
    Calls Try.prog 30 #[.slice A fi.length c, .slice A2 cl.length c2] w fun e w' => e = .returned (.int .i64 (mostW fi cl cl.length : Nat)) ∧ Below w.heap.size w w' := by
  go_enter Try.func30, Try.ntmps30
  go_wp2
  go_loopw [5, 6] (fun mv av wr => ∃ a d : Nat, av = .int .i64 a ∧ a ≤ cl.length ∧ (∃ m : Nat, m = mostW fi cl a ∧ mv = .int .i64 m) ∧ wr = w.drewN d) (fun _ av _ => cl.length - (intOf av).toNat)
  case atStart => exact ⟨0, 0, rfl, Nat.zero_le _, ⟨0, rfl, rfl⟩, rfl⟩
  case round =>
    obtain ⟨a, d, rfl, ha, ⟨m, hm, rfl⟩, rfl⟩ := hrel
    have hml : m ≤ 8 := by have := mostW_le fi cl a; omega
    have HM := Lib.hid hm
    clear hm
    by_cases hlt : a < cl.length
    · go_wp2
      go_loopw [7, 8] (fun yv bv wr => ∃ b d : Nat, bv = .int .i64 b ∧ b ≤ cl.length ∧ (∃ y : Nat, y = manyW fi cl a b ∧ yv = .int .i64 y) ∧ wr = w.drewN d) (fun _ bv _ => cl.length - (intOf bv).toNat)
      case atStart => exact ⟨0, d, rfl, Nat.zero_le _, ⟨0, rfl, rfl⟩, rfl⟩
      case round =>
        obtain ⟨b, d2, rfl, hb, ⟨y, hy, rfl⟩, rfl⟩ := hrel
        have hyl : y ≤ 8 := by have := manyW_le fi cl a b; omega
        have HY := Lib.hid hy
        clear hy
        by_cases hlt2 : b < cl.length
        · obtain ⟨g, off, rfl, d1⟩ := RowI.cells (hr2.drewN d2) (atI_get hlt2)
          obtain ⟨g', off', eg, e1⟩ := RowI.cells (hr2.drewN d2) (atI_get hlt)
          simp only [Option.some.injEq, Addr.mk.injEq, and_true] at eg
          obtain ⟨rfl, rfl⟩ := eg
          have kH := Lib.hid (fun n => show Calls Try.prog 33 #[.slice A fi.length c, .int .i64 (b : Int)] ((w.drewN d2).drewN n) fun e w' => e = .returned (.bool (decide ((b : Int) ∈ fi))) ∧ ∃ m, w' = (w.drewN d2).drewN m from
            (Has_any fi A c (b : Int) _ ((hr.drewN d2).drewN n) (by omega)).mono fun e w' ⟨he, hw⟩ => ⟨he, n, hw.symm⟩)
          have HS := Lib.hid (show manyW fi cl a (b + 1) = manyW fi cl a b + if atI cl b = atI cl a ∧ (b : Int) ∈ fi then 1 else 0 from rfl)
          rw [← HY.out] at HS
          by_cases h1 : atI cl b = atI cl a
          · by_cases h2 : (b : Int) ∈ fi
            · rw [if_pos ⟨h1, h2⟩] at HS
              have hd : (atI cl b == atI cl a) = true := by simpa using h1
              have kH2 := kH.out
              rw [decide_eq_true h2] at kH2
              clear h1 h2
              generalize hw5 : w.drewN d2 = w5 at *
              have HW5 := Lib.hid hw5
              clear hw5
              go_wp2
              go_quiet (first | with_reducible exact kH2 _)
              go_wp2
              go_roundw
              case rel => exact ⟨b + 1, d2 + nq, by go_num, by omega, ⟨y + 1, HS.out.symm, by go_num⟩, by rw [← HW5.out, World.drewN_drewN]⟩
              case measure => simp [intOf]; omega
            · rw [if_neg (fun h => h2 h.2)] at HS
              have hd : (atI cl b == atI cl a) = true := by simpa using h1
              have kH2 := kH.out
              rw [decide_eq_false h2] at kH2
              clear h1 h2
              generalize hw5 : w.drewN d2 = w5 at *
              have HW5 := Lib.hid hw5
              clear hw5
              go_wp2
              go_quiet (first | with_reducible exact kH2 _)
              go_wp2
              go_roundw
              case rel => exact ⟨b + 1, d2 + nq, by go_num, by omega, ⟨y, HS.out.symm, rfl⟩, by rw [← HW5.out, World.drewN_drewN]⟩
              case measure => simp [intOf]; omega
          · rw [if_neg (fun h => h1 h.1)] at HS
            have hd : (atI cl b == atI cl a) = false := by simpa using h1
            clear h1
            generalize hw5 : w.drewN d2 = w5 at *
            have HW5 := Lib.hid hw5
            clear hw5
            go_wp2
            go_quiet (fail)
            go_wp2
            go_roundw
            case rel => exact ⟨b + 1, d2 + nq, by go_num, by omega, ⟨y, HS.out.symm, rfl⟩, by rw [← HW5.out, World.drewN_drewN]⟩
            case measure => simp [intOf]; omega
        · obtain rfl : b = cl.length := by omega
          have HS := Lib.hid (show mostW fi cl (a + 1) = if mostW fi cl a < manyW fi cl a cl.length ∧ (a : Int) ∈ fi then manyW fi cl a cl.length else mostW fi cl a from rfl)
          rw [← HY.out, ← HM.out] at HS
          have kH := fun W (h : Row W A (ints fi)) => Has_any fi A c (a : Int) W h (by omega)
          by_cases h1 : m < y
          · have hd : decide ((m : Int) < (y : Int)) = true := by rw [decide_eq_true_iff]; omega
            by_cases h2 : (a : Int) ∈ fi
            · rw [if_pos ⟨h1, h2⟩] at HS
              rw [decide_eq_true h2] at kH
              clear h2
              go_wp2_with fail
              refine (kH _ (hr.drewN d2)).mono ?_
              rintro e w6 ⟨rfl, rfl⟩
              go_wp2
              go_roundw
              case rel => exact ⟨a + 1, d2, by go_num, by omega, ⟨y, HS.out.symm, rfl⟩, rfl⟩
              case measure => simp [intOf]; omega
            · rw [if_neg (fun h => h2 h.2)] at HS
              rw [decide_eq_false h2] at kH
              clear h2
              go_wp2_with fail
              refine (kH _ (hr.drewN d2)).mono ?_
              rintro e w6 ⟨rfl, rfl⟩
              go_wp2
              go_roundw
              case rel => exact ⟨a + 1, d2, by go_num, by omega, ⟨m, HS.out.symm, rfl⟩, rfl⟩
              case measure => simp [intOf]; omega
          · have hd : decide ((m : Int) < (y : Int)) = false := by rw [decide_eq_false_iff_not]; omega
            rw [if_neg (fun h => h1 h.1)] at HS
            go_wp2
            go_roundw
            case rel => exact ⟨a + 1, d2, by go_num, by omega, ⟨m, HS.out.symm, rfl⟩, rfl⟩
            case measure => simp [intOf]; omega
    · obtain rfl : a = cl.length := by omega
      go_wp2
      go_ret
      exact ⟨ret_int (by rw [HM.out]), below_drewN (Below.refl _ _) _⟩

end Go.Proofs.Ytdiaglaokgehbaa
