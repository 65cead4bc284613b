/- syllogistref.Closed, syllogistref.Close, syllogistref.RulesCheck. -/
import Derived.Test.YtlokldjookngkaaRl
import Derived.Test.YtlokldjookngkaaW1
namespace Go.Proofs.Ytlokldjookngkaa
open Go.RowKit

theorem RowR.at {w : World} {A : Option Addr} {rs : List (Nat × Nat)} {k : Nat} {r : Nat × Nat} (h : Row w A (rulesC rs)) (hr : rs[k]? = some r) :
    ∃ b off, A = some ⟨b, off, none⟩ ∧ w.cell? ⟨b, off + k * 2, none⟩ = some (.int .u32 (r.1 : Int)) ∧ w.cell? ⟨b, off + k * 2 + 1, none⟩ = some (.int .u32 (r.2 : Int)) := by
  have hk : k < rs.length := (List.getElem?_eq_some_iff.1 hr).1
  obtain ⟨b, off, e, hc⟩ := h.at (k := k) (by rw [rulesC_length]; omega)
  exact ⟨b, off, e, hc _ _ (rulesC_at0 hr), by rw [Nat.add_assoc]; exact hc _ _ (rulesC_at1 hr)⟩
theorem closed_take {rs : List (Nat × Nat)} {k s : Nat} {r : Nat × Nat} (h : closedB (rs.take k) s = true) (hr : rs[k]? = some r) (h2 : sub r.1 s = true → sub r.2 s = true) : closedB (rs.take (k + 1)) s = true := by
  rw [closed_iff] at h ⊢
  intro x hx h1
  rw [List.take_add_one, hr] at hx
  simp only [Option.toList, List.mem_append, List.mem_singleton] at hx
  rcases hx with hx | rfl
  · exact h x hx h1
  · exact h2 h1

set_option maxHeartbeats 1000000 in
theorem Closed_any (rs : List (Nat × Nat)) (A : Option Addr) (c s : Nat) (w : World) (hr : Row w A (rulesC rs)) (h32 : W32 rs) (hs : s < 4294967296) (hl : rs.length ≤ 1000000) :
    Calls Try.prog 21 #[.slice A rs.length c, .int .u32 s] w fun e w' => e = .returned (.bool (closedB rs s)) ∧ Below w.heap.size w w' := by
  go_enter Try.func21, Try.ntmps21
  go_wp2
  go_loopw [9] (fun iv wr => ∃ k : Nat, iv = .int .i64 k ∧ k ≤ rs.length ∧ closedB (rs.take k) s = true ∧ Below w.heap.size w wr) (fun iv _ => rs.length - (intOf iv).toNat)
  case atStart => exact ⟨0, rfl, Nat.zero_le _, by simp [closedB], Below.refl _ _⟩
  case round =>
    obtain ⟨k, rfl, hk, hcl, hbel⟩ := hrel
    have HC := Lib.hid hcl
    clear hcl
    by_cases hlt : k < rs.length
    · obtain ⟨r, hrk⟩ := get_some hlt
      obtain ⟨r1, r2⟩ := r
      obtain ⟨b, off, rfl, c1, c2⟩ := RowR.at (hr.below hbel) hrk
      obtain ⟨b1, b2⟩ := h32 _ (List.mem_of_getElem? hrk)
      have HR := Lib.hid hrk
      clear hrk
      have hb2 := hbel.alloc hbel.size (.cells #[.int .u32 (r1 : Int), .int .u32 (r2 : Int)] 40)
      cases h1 : sub r1 s with
      | true =>
        cases h2 : sub r2 s with
        | true =>
          have HS := Lib.hid (closed_take HC.out HR.out (fun _ => h2))
          go_wp2_with fail
          refine (In_any r1 s b1 hs _).mono ?_
          rintro e w1 ⟨rfl, rfl⟩
          rw [show (r1 ||| s == s) = true from h1]
          go_wp2_with fail
          refine (In_any r2 s b2 hs _).mono ?_
          rintro e w1 ⟨rfl, rfl⟩
          rw [show (r2 ||| s == s) = true from h2]
          clear h1 h2
          go_wp2
          go_roundw
          case rel => exact ⟨k + 1, by go_num, by omega, HS.out, hb2⟩
          case measure => simp [intOf]; omega
        | false =>
          have HS := Lib.hid (show closedB rs s = false by
            cases e : closedB rs s with
            | false => rfl
            | true => rw [closed_iff.1 e _ (List.mem_of_getElem? HR.out) h1] at h2; cases h2)
          go_wp2_with fail
          refine (In_any r1 s b1 hs _).mono ?_
          rintro e w1 ⟨rfl, rfl⟩
          rw [show (r1 ||| s == s) = true from h1]
          go_wp2_with fail
          refine (In_any r2 s b2 hs _).mono ?_
          rintro e w1 ⟨rfl, rfl⟩
          rw [show (r2 ||| s == s) = false from h2]
          clear h1 h2
          go_wp2
          go_ret
          exact ⟨ret_bool HS.out.symm, hb2⟩
      | false =>
        have HS := Lib.hid (closed_take HC.out HR.out (fun h => by rw [h] at h1; cases h1))
        go_wp2_with fail
        refine (In_any r1 s b1 hs _).mono ?_
        rintro e w1 ⟨rfl, rfl⟩
        rw [show (r1 ||| s == s) = false from h1]
        clear h1
        go_wp2
        go_roundw
        case rel => exact ⟨k + 1, by go_num, by omega, HS.out, hb2⟩
        case measure => simp [intOf]; omega
    · have HS := Lib.hid (show closedB rs s = true by have := HC.out; rw [List.take_of_length_le (by omega)] at this; exact this)
      go_wp2
      go_ret
      exact ⟨ret_bool HS.out.symm, hbel⟩

end Go.Proofs.Ytlokldjookngkaa
