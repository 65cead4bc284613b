/- clause.Refute. -/
import Derived.Test.YtjbefclfhehhaaaWIo4
namespace Go.Proofs.Ytjbefclfhehhaaa
open Go.RowKit
open Go.ChangeMaps (setBlock)

theorem own_row_pairs {w : World} {B e : Nat} {v : Value} {l : List (Int × Int)} (h : w.ownsRow B e 2 v l.length (pairsC l)) : ∃ Av cv, v = .slice Av l.length cv ∧ Row w Av (pairsC l) := by
  rcases h.2 with ⟨hv, hn⟩ | ⟨g, cap, cur, hv, hg, hh, h1, h2, h3, h4⟩
  · have : l = [] := List.eq_nil_of_length_eq_zero hn
    subst this
    exact ⟨none, 0, hv, .inl rfl⟩
  · subst hv
    refine ⟨some ⟨g, 0, none⟩, cap, rfl, .inr ⟨g, 0, rfl, fun j u hu => ?_⟩⟩
    have := World.ownsRow.cells h (g := g) rfl j u hu
    by_cases h0 : j = 0
    · subst h0; simpa [Addr.add] using this
    · simpa [Addr.add, h0] using this

set_option maxHeartbeats 1000000 in
theorem IRefute_ok : IRefuteOk 15 := by
  intro n l A c w h32 hl hr hX
  have hsol := ISolve_ok n l A c w h32 hl hr hX
  by_cases hc : codeC n l = 0
  · obtain ⟨n, rfl, hn1, hn6, hl16, hft⟩ := codeC_zero hc
    cases hf : firstS n l with
    | some s =>
      rw [codeS_some hc hf, solS_some hc hf] at hsol
      have HU := Lib.hid (codeU_some hc hf)
      clear hc hf hft
      go_enter Try.func15, Try.ntmps15
      go_wp2_with fail
      refine hsol.mono ?_
      rintro e w1 ⟨rfl, hb1⟩
      clear hsol
      go_wp2
      go_ret2
      exact ⟨none, 0, [], by rw [HU.out]; rfl, fun h => (by rw [HU.out] at h; cases h), fun _ => rfl, by simp, .inl rfl, hb1⟩
    | none =>
      rw [codeS_none hc hf, solS_none hc hf] at hsol
      have HU := Lib.hid (codeU_none hc hf)
      have HF := Lib.hid hf
      have hmm := @run_makeMap Try.prog
      clear hc hf
      go_enter Try.func15, Try.ntmps15
      go_wp2_with fail
      refine hsol.mono ?_
      rintro e w1 ⟨rfl, hb1⟩
      clear hsol
      have HR := Lib.hid (hr.below hb1)
      have HB1 := Lib.hid hb1
      clear hb1
      have hB0 : Rft w1 (w1.heap.size + 1) w1.heap.size [] l.length [] (.slice none 0 0) ((w1.alloc (.map #[] 0)).alloc (.cells #[.map (some w1.heap.size), .int .i64 (l.length : Int), .slice none 0 0] 49)) := by
        have hs : (w1.alloc (.map #[] 0)).heap.size = w1.heap.size + 1 := by simp
        refine ⟨?_, World.ownsRow_nil _ _ _ _, (numK_new w1).below ((Below.refl _ _).alloc (Nat.le_refl _) _), ?_, by omega, Nat.le_refl _⟩
        · rw [← hs]; exact heap_alloc_new _ _
        · exact ((Below.refl _ _).alloc (Nat.le_refl _) _).alloc (by simp) _
      have HB0 := Lib.hid hB0
      clear hB0
      go_wp2
      go_loopw [30] (fun iv wr => ∃ k : Nat, iv = .int .i64 k ∧ k ≤ l.length ∧ Rft w1 (w1.heap.size + 1) w1.heap.size (l.take k) l.length [] (.slice none 0 0) wr) (fun iv _ => l.length - (intOf iv).toNat)
      case atStart => exact ⟨0, rfl, Nat.zero_le _, HB0.out⟩
      case round =>
        clear HB0 hmm
        obtain ⟨k, rfl, hk, hB⟩ := hrel
        by_cases hlt : k < l.length
        · obtain ⟨r, hrk⟩ := get_some hlt
          obtain ⟨x, y⟩ := r
          obtain ⟨b, off, rfl, c1, c2⟩ := RowC.at (HR.out.below hB.below) hrk
          have HT := Lib.hid (show l.take (k + 1) = l.take k ++ [(x, y)] by rw [List.take_add_one, hrk]; rfl)
          have HL := Lib.hid (show (l.take k).length = k by rw [List.length_take]; omega)
          have hB2 := hB.grow ((Below.refl _ _).alloc (Nat.le_refl _) (.cells #[.int .u32 (x : Int), .int .u32 (y : Int)] 32))
          obtain ⟨d0, d1⟩ := two_cells (heap_alloc_new wr (.cells #[.int .u32 (x : Int), .int .u32 (y : Int)] 32))
          obtain ⟨e0, _, _⟩ := hB2.cell
          have HB2 := Lib.hid hB2
          clear hrk hB
          by_cases hin : (x, y) ∈ l.take k
          · obtain ⟨i, _, hlk⟩ := hB2.map.yes hin
            have hlook : (Instr.lookup 47 (.map (some w1.heap.size)) (.agg #[.int .u32 (x : Int), .int .u32 (y : Int)]) true).run Try.prog (wr.alloc (.cells #[.int .u32 (x : Int), .int .u32 (y : Int)] 32)) = .ok (.tuple #[.int .i64 (i : Int), .bool true]) (wr.alloc (.cells #[.int .u32 (x : Int), .int .u32 (y : Int)] 32)) := hlk 0
            have HK := Lib.hid (show Rft w1 (w1.heap.size + 1) w1.heap.size (l.take (k + 1)) l.length [] (.slice none 0 0) (wr.alloc (.cells #[.int .u32 (x : Int), .int .u32 (y : Int)] 32)) by
              rw [HT.out]
              exact ⟨hB2.blk, hB2.own, hB2.map.again hin, hB2.below, hB2.hg, hB2.hm⟩)
            clear hlk hin hB2
            go_wp2
            go_roundw
            case rel => exact ⟨k + 1, by go_num, by omega, HK.out⟩
            case measure => simp [intOf]; omega
          · have hlook : (Instr.lookup 47 (.map (some w1.heap.size)) (.agg #[.int .u32 (x : Int), .int .u32 (y : Int)]) true).run Try.prog (wr.alloc (.cells #[.int .u32 (x : Int), .int .u32 (y : Int)] 32)) = .ok (.tuple #[.int .i64 0, .bool false]) (wr.alloc (.cells #[.int .u32 (x : Int), .int .u32 (y : Int)] 32)) := hB2.map.no hin 0
            obtain ⟨o, ho⟩ := hB2.map.store hin
            rw [HL.out] at ho
            have hst : (Instr.mapUpdate 47 (.map (some w1.heap.size)) (.agg #[.int .u32 (x : Int), .int .u32 (y : Int)]) (.int .i64 (k : Int))).run Try.prog (wr.alloc (.cells #[.int .u32 (x : Int), .int .u32 (y : Int)] 32)) = .ok () (setBlock (wr.alloc (.cells #[.int .u32 (x : Int), .int .u32 (y : Int)] 32)) w1.heap.size o) := (ho 0).1
            have HK := Lib.hid (show Rft w1 (w1.heap.size + 1) w1.heap.size (l.take (k + 1)) l.length [] (.slice none 0 0) (setBlock (wr.alloc (.cells #[.int .u32 (x : Int), .int .u32 (y : Int)] 32)) w1.heap.size o) by
              rw [HT.out]
              exact Rft.know hB2 (ho 0).2)
            clear ho hin hB2
            go_wp2
            go_roundw
            case rel => exact ⟨k + 1, by go_num, by omega, HK.out⟩
            case measure => simp [intOf]; omega
        · have HE := Lib.hid (show Rft w1 (w1.heap.size + 1) w1.heap.size l l.length [] (.slice none 0 0) wr by rw [List.take_of_length_le (by omega)] at hB; exact hB)
          have h64 := one_le_64 hn6
          have call := iExclude_any l hn6 hl16 HF.out hft n (Nat.le_refl _) 0 l [] _ wr (one_pos _) rfl (by simp; omega) HE.out
          rw [Nat.sub_self] at call
          clear hB
          go_wp2_with fail
          refine call.mono ?_
          rintro e w2 ⟨x, y, all, ps, v, rfl, hE, hA, hln, hB2, hK⟩
          have HX := Lib.hid (hE.refutes hA)
          obtain ⟨Av, cv, rfl, hrow⟩ := own_row_pairs hB2.own
          obtain ⟨_, _, e2⟩ := hB2.cell
          have hb2 := HB1.out.trans (hB2.below.mono HB1.out.size)
          have hpl : ps.length ≤ 1000000 := by simp at hln; omega
          clear call hE hA hB2 hK HE
          go_wp2
          go_ret2
          exact ⟨Av, cv, ps, by rw [HU.out]; rfl, fun _ => HX.out, fun h => absurd HU.out h, hpl, hrow, hb2⟩
  · have HC := Lib.hid hc
    rw [codeS_err hc, solS_err hc] at hsol
    have HU := Lib.hid (codeU_err hc)
    have h0 : (codeC n l == 0) = false := by simpa using hc
    have h5 : (codeC n l != 5) = true := by
      rcases codeC_range n l with h | h | h <;> rw [h] <;> rfl
    rw [HU.out]
    clear hc
    generalize codeC n l = q at *
    go_enter Try.func15, Try.ntmps15
    go_wp2_with fail
    refine hsol.mono ?_
    rintro e w1 ⟨rfl, hb1⟩
    clear hsol
    go_wp2
    go_ret2
    exact ⟨none, 0, [], rfl, fun h => absurd h HC.out, fun _ => rfl, by simp, .inl rfl, hb1⟩

end Go.Proofs.Ytjbefclfhehhaaa
