/- truth.full. -/
import Derived.Test.YtcokpjffgeihbaaLev
import Derived.Test.YtcokpjffgeihbaaMapT
import Derived.Test.YtcokpjffgeihbaaWTo5
namespace Go.Proofs.Ytcokpjffgeihbaa
open Go.RowKit
open Go.ChangeMaps (setBlock)

set_option maxHeartbeats 1000000 in
theorem tFull_any (n : Nat) (hn : n ≤ 4) (f : List Bool) (A : Option Addr) (c : Nat) (w : World) (hf : f.length = one n) (hr : Row w A (boolsC f)) :
    Calls Try.prog 32 #[.slice A f.length c] w fun e w' => e = .returned (.map (some w.heap.size)) ∧ (∃ l, MapIs w' w.heap.size l ∧ LevL n (atB f) 0 l) ∧ Below w.heap.size w w' := by
  have h16 := one_le_16 hn
  have h1p := one_pos n
  have HF := Lib.hid hf
  rw [hf]
  clear hf
  have hmm := @run_makeMap Try.prog
  have HM := Lib.hid (mapIs_new w)
  have HB := Lib.hid ((Below.refl w.heap.size w).alloc (Nat.le_refl _) (.map #[] 0))
  go_enter Try.func32, Try.ntmps32
  go_wp2
  clear hmm
  go_loopw [9] (fun v wr => ∃ s : Nat, v = .int .i64 s ∧ s ≤ one n ∧ (∃ l, MapIs wr w.heap.size l ∧ ∀ q, q ∈ l ↔ ∃ t, t < s ∧ atB f t = true ∧ q = (t, full n - t)) ∧ Below w.heap.size w wr) (fun v _ => one n - (intOf v).toNat)
  case atStart => exact ⟨0, rfl, Nat.zero_le _, ⟨[], HM.out, by simp⟩, HB.out⟩
  case round =>
    clear HM HB
    obtain ⟨s, rfl, hs, ⟨l, hmap, hmem⟩, hb⟩ := hrel
    have HM := Lib.hid hmap
    have HL := Lib.hid hmem
    have HB := Lib.hid hb
    clear hmap hmem hb
    by_cases hlt : s < one n
    · obtain ⟨b, off, rfl, c1⟩ := atB_cell (hr.below HB.out) (k := s) (by rw [HF.out]; exact hlt)
      obtain ⟨x, hx⟩ : ∃ x, x = atB f s := ⟨_, rfl⟩
      rw [← hx] at c1
      have HX := Lib.hid hx
      clear hx
      cases x with
      | false =>
        have HN := Lib.hid (show ∀ q, q ∈ l ↔ ∃ t, t < s + 1 ∧ atB f t = true ∧ q = (t, full n - t) by
          intro q
          rw [HL.out]
          constructor
          · rintro ⟨t, h1, h2⟩; exact ⟨t, by omega, h2⟩
          · rintro ⟨t, h1, h2, h3⟩
            refine ⟨t, ?_, h2, h3⟩
            by_cases e : t = s
            · rw [e, ← HX.out] at h2; cases h2
            · omega)
        go_wp2
        go_roundw
        case rel => exact ⟨s + 1, by go_num, by omega, ⟨l, HM.out, HN.out⟩, HB.out⟩
        case measure => simp [intOf]; omega
      | true =>
        obtain ⟨o, l', hrun, hmap', hmem'⟩ := HM.out.store (s, full n - s)
        have ho : (one n : Int) - 1 - (s : Int) = ((full n - s : Nat) : Int) := by unfold full; omega
        have hou : full n - s < 16 := by have := full_lt n; omega
        unfold clV at hrun
        simp only at hrun
        generalize hk : full n - s = k at *
        have HM2 := Lib.hid hmap'
        have HB2 := Lib.hid (below_set HB.out (Nat.le_refl _) o)
        have HN := Lib.hid (show ∀ q, q ∈ l' ↔ ∃ t, t < s + 1 ∧ atB f t = true ∧ q = (t, full n - t) by
          intro q
          rw [hmem', HL.out]
          constructor
          · rintro (⟨t, h1, h2⟩ | rfl)
            · exact ⟨t, by omega, h2⟩
            · exact ⟨s, by omega, HX.out.symm, by rw [hk]⟩
          · rintro ⟨t, h1, h2, h3⟩
            by_cases e : t = s
            · subst e; exact .inr (by rw [h3, hk])
            · exact .inl ⟨t, by omega, h2, h3⟩)
        clear hmap' hmem' hk
        go_wp2
        go_roundw
        case rel => exact ⟨s + 1, by go_num, by omega, ⟨l', HM2.out, HN.out⟩, HB2.out⟩
        case measure => simp [intOf]; omega
    · obtain rfl : s = one n := by omega
      have HN := Lib.hid (show LevL n (atB f) 0 l by
        intro p
        rw [HL.out, ← full_lev hn])
      go_wp2
      go_ret
      exact ⟨rfl, ⟨l, HM.out, HN.out⟩, HB.out⟩

end Go.Proofs.Ytcokpjffgeihbaa
