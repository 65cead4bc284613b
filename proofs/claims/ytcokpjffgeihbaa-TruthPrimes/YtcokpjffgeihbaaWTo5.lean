/- truth.Dual, truth.Sums, truth.Class, truth.Whole. -/
import Derived.Test.YtcokpjffgeihbaaWTo4
namespace Go.Proofs.Ytcokpjffgeihbaa
open Go.RowKit

/-- One table in a list of its own. -/
theorem tabs_one {w : World} {A : Option Addr} {f : List Bool} {c : Nat} {t : TypeId} (hl : f.length ≤ maxLen) (hr : Row w A (boolsC f)) :
    Tabs (w.alloc (.cells #[.slice A f.length c] t)) (some ⟨w.heap.size, 0, none⟩) [f] := by
  refine ⟨[.slice A f.length c], rfl, .inr ⟨w.heap.size, 0, rfl, fun j v hv => ?_⟩, fun i g hg => ?_⟩
  · cases j with
    | zero =>
      simp only [List.getElem?_cons_zero, Option.some.injEq] at hv
      subst hv
      exact cell_one_new _ _ _ 0 _ rfl
    | succ j => simp at hv
  · cases i with
    | zero =>
      simp only [List.getElem?_cons_zero, Option.some.injEq] at hg
      subst hg
      exact ⟨hl, A, c, rfl, hr.below ((Below.refl _ _).alloc (Nat.le_refl _) _)⟩
    | succ i => simp at hg

set_option maxHeartbeats 1000000 in
theorem TDual_ok : TDualOk 12 := by
  intro n f A c w hl hr hX
  have hck := tCheck_any n [f] (some ⟨w.heap.size, 0, none⟩) 1 (w.alloc (.cells #[.slice A f.length c] 22)) (by simp [maxLen]) (tabs_one hl hr)
  rw [codeF_one] at hck
  simp only [List.length_cons, List.length_nil, Nat.zero_add] at hck
  have hb0 : Below w.heap.size w (w.alloc (.cells #[.slice A f.length c] 22)) := (Below.refl _ _).alloc (Nat.le_refl _) _
  by_cases hc : codeT n f.length = 0
  · obtain ⟨k, rfl, hk, hlen⟩ := codeT_zero hc
    rw [hc] at hck ⊢
    have hd := tDual_any k hk f A c _ hlen (hr.below hb0)
    rw [hlen] at hd hck hb0 ⊢
    clear hc hlen
    go_enter Try.func12, Try.ntmps12
    go_wp2_with fail
    refine hck.mono ?_
    rintro e w1 ⟨rfl, hw1⟩
    rw [hw1] at hd hb0
    clear hck hw1
    go_wp2_with fail
    refine hd.mono ?_
    rintro e w2 ⟨rfl, hown, hb2⟩
    have HO := Lib.hid hown
    have HB := Lib.hid (hb0.trans (hb2.mono hb0.size))
    clear hown hb2 hb0 hd
    go_wp2
    go_ret2
    exact ⟨_, one k, tabB (one k) (dualF k (atB f)), by rw [tabB_length]; rfl, by simp, HO.out.row, HB.out⟩
  · have HC := Lib.hid hc
    have hne : (codeT n f.length != 0) = true := by simpa using hc
    clear hc
    generalize codeT n f.length = q at *
    go_enter Try.func12, Try.ntmps12
    go_wp2_with fail
    refine hck.mono ?_
    rintro e w1 ⟨rfl, hw1⟩
    rw [hw1] at hb0
    have HB := Lib.hid hb0
    clear hck hw1 hb0
    go_wp2
    go_ret2
    exact ⟨_, 0, [], rfl, by first | rfl | rw [if_neg HC.out], .inl rfl, HB.out⟩

set_option maxHeartbeats 1000000 in
theorem TSums_ok : TSumsOk 16 := by
  intro n f A c w hl hr hX
  have hck := tCheck_any n [f] (some ⟨w.heap.size, 0, none⟩) 1 (w.alloc (.cells #[.slice A f.length c] 22)) (by simp [maxLen]) (tabs_one hl hr)
  rw [codeF_one] at hck
  simp only [List.length_cons, List.length_nil, Nat.zero_add] at hck
  have hb0 : Below w.heap.size w (w.alloc (.cells #[.slice A f.length c] 22)) := (Below.refl _ _).alloc (Nat.le_refl _) _
  by_cases hc : codeT n f.length = 0
  · obtain ⟨k, rfl, hk, hlen⟩ := codeT_zero hc
    rw [hc] at hck ⊢
    have hd := tSums_any k hk f A c _ hlen (hr.below hb0)
    rw [hlen] at hd hck hb0 ⊢
    clear hc hlen
    go_enter Try.func16, Try.ntmps16
    go_wp2_with fail
    refine hck.mono ?_
    rintro e w1 ⟨rfl, hw1⟩
    rw [hw1] at hd hb0
    clear hck hw1
    go_wp2_with fail
    refine hd.mono ?_
    rintro e w2 ⟨g, cap, rfl, hown, hb2⟩
    have HO := Lib.hid hown
    have HB := Lib.hid (hb0.trans (hb2.mono hb0.size))
    clear hown hb2 hb0 hd
    go_wp2
    go_ret2
    exact ⟨_, cap, tabB (one k) (mob k (atB f)), by rw [tabB_length]; rfl, by simp, HO.out.row, HB.out⟩
  · have HC := Lib.hid hc
    have hne : (codeT n f.length != 0) = true := by simpa using hc
    clear hc
    generalize codeT n f.length = q at *
    go_enter Try.func16, Try.ntmps16
    go_wp2_with fail
    refine hck.mono ?_
    rintro e w1 ⟨rfl, hw1⟩
    rw [hw1] at hb0
    have HB := Lib.hid hb0
    clear hck hw1 hb0
    go_wp2
    go_ret2
    exact ⟨_, 0, [], rfl, by first | rfl | rw [if_neg HC.out], .inl rfl, HB.out⟩

set_option maxHeartbeats 1000000 in
theorem TClass_ok : TClassOk 18 := by
  intro n f A c w hl hr hX
  have hck := tCheck_any n [f] (some ⟨w.heap.size, 0, none⟩) 1 (w.alloc (.cells #[.slice A f.length c] 22)) (by simp [maxLen]) (tabs_one hl hr)
  rw [codeF_one] at hck
  simp only [List.length_cons, List.length_nil, Nat.zero_add] at hck
  have hb0 : Below w.heap.size w (w.alloc (.cells #[.slice A f.length c] 22)) := (Below.refl _ _).alloc (Nat.le_refl _) _
  by_cases hc : codeT n f.length = 0
  · obtain ⟨k, rfl, hk, hlen⟩ := codeT_zero hc
    rw [hc] at hck ⊢
    have hd := tClass_any k hk f A c _ hlen (hr.below hb0)
    rw [hlen] at hd hck hb0 ⊢
    clear hc hlen
    go_enter Try.func18, Try.ntmps18
    go_wp2_with fail
    refine hck.mono ?_
    rintro e w1 ⟨rfl, hw1⟩
    rw [hw1] at hd hb0
    clear hck hw1
    go_wp2_with fail
    refine hd.mono ?_
    rintro e w2 ⟨rfl, hb2⟩
    have HB := Lib.hid (hb0.trans (hb2.mono hb0.size))
    clear hb2 hb0 hd
    go_wp2
    go_ret2
    exact ⟨by simp, HB.out⟩
  · have HC := Lib.hid hc
    have hne : (codeT n f.length != 0) = true := by simpa using hc
    clear hc
    generalize codeT n f.length = q at *
    go_enter Try.func18, Try.ntmps18
    go_wp2_with fail
    refine hck.mono ?_
    rintro e w1 ⟨rfl, hw1⟩
    rw [hw1] at hb0
    have HB := Lib.hid hb0
    clear hck hw1 hb0
    go_wp2
    go_ret2
    exact ⟨by first | rfl | (rw [if_neg HC.out]; rfl), HB.out⟩

set_option maxHeartbeats 2000000 in
theorem TWhole_ok : TWholeOk 20 := by
  intro n fs A c w hl ht hX
  have hll : fs.length < 9223372036854775808 := by unfold maxLen at hl; omega
  by_cases h10 : 10 < fs.length
  · have HC := Lib.hid (codeW_large (n := n) (fs := fs) (.inr (.inr h10)))
    go_enter Try.func20, Try.ntmps20
    go_wp2
    go_ret2
    exact ⟨by rw [HC.out]; rfl, Below.refl _ _⟩
  · have hck := tCheck_any n fs A c w hl ht
    rw [← codeF_whole (n := n) (fs := fs) (by omega)] at hck
    generalize hq : codeW n fs = q at *
    by_cases hc : q = 0
    · subst hc
      have hall : ∃ k : Nat, n = k ∧ k ≤ 4 ∧ ∀ f ∈ fs, f.length = one k := by
        by_cases h1 : LargeW n fs.length
        · rw [codeW_large h1] at hq; cases hq
        · by_cases h2 : ∀ f ∈ fs, f.length = one n.toNat
          · obtain ⟨k, rfl⟩ := Int.eq_ofNat_of_zero_le (show 0 ≤ n by unfold LargeW at h1; omega)
            exact ⟨k, rfl, by unfold LargeW at h1; omega, h2⟩
          · rw [codeW_bad h1 h2] at hq; cases hq
      obtain ⟨k, rfl, hk, hal⟩ := hall
      have HA := Lib.hid hal
      have HT := Lib.hid ht
      clear hal hq ht
      go_enter Try.func20, Try.ntmps20
      go_wp2_with fail
      refine hck.mono ?_
      rintro e w1 ⟨rfl, rfl⟩
      clear hck
      go_wp2
      go_loopw [7, 21] (fun sv v wr => ∃ (j s : Nat), v = .int .i64 j ∧ j ≤ fs.length ∧ sv = .int .u32 s ∧ s = allC k fs j ∧ Below w.heap.size w wr) (fun _ v _ => fs.length - (intOf v).toNat)
      case atStart => exact ⟨0, 31, rfl, Nat.zero_le _, rfl, rfl, Below.refl _ _⟩
      case round =>
        obtain ⟨j, s, rfl, hj, rfl, hs, hb⟩ := hrel
        have hs32 : s < 32 := by rw [hs]; exact allC_lt _ _ _
        have HS := Lib.hid hs
        have HB := Lib.hid hb
        clear hs hb
        by_cases hlt : j < fs.length
        · obtain ⟨f, hf⟩ := get_some hlt
          obtain ⟨hfl, b, off, B, d, rfl, hcell, hrow⟩ := (HT.out.below HB.out).at hf
          have hfl' : f.length < 9223372036854775808 := by unfold maxLen at hfl; omega
          have hcls := tClass_any k hk f B d wr (HA.out f (List.mem_of_getElem? hf)) hrow
          have hq32 := class_lt k (atB f)
          obtain ⟨q, hq⟩ : ∃ q, q = classF k (atB f) := ⟨_, rfl⟩
          rw [← hq] at hcls hq32
          have HN := Lib.hid (show s &&& q = allC k fs (j + 1) by rw [allC_succ hf, HS.out, hq])
          have hand := u32_and_nat s q (by omega) (by omega)
          clear hq hf hrow
          go_wp2_with fail
          refine hcls.mono ?_
          rintro e w2 ⟨rfl, hb2⟩
          have HB2 := Lib.hid (HB.out.trans (hb2.mono HB.out.size))
          clear hb2 hcls
          go_wp2
          go_roundw
          case rel => exact ⟨j + 1, s &&& q, by go_num, by omega, by first | rfl | go_num, HN.out, HB2.out⟩
          case measure => simp [intOf]; omega
        · obtain rfl : j = fs.length := by omega
          have HV := Lib.hid (show ((s : Int) == 0) = (allC k fs fs.length == 0) by
            rw [← HS.out, Bool.eq_iff_iff, beq_iff_eq, beq_iff_eq]
            omega)
          go_wp2
          go_ret2
          exact ⟨by rw [HV.out]; rfl, HB.out⟩
    · have HC := Lib.hid hc
      have hne : (q != 0) = true := by simpa using hc
      clear hc hq
      go_enter Try.func20, Try.ntmps20
      go_wp2_with fail
      refine hck.mono ?_
      rintro e w1 ⟨rfl, rfl⟩
      clear hck
      go_wp2
      go_ret2
      exact ⟨by rw [show (q == 0) = false from by simpa using HC.out]; rfl, Below.refl _ _⟩

end Go.Proofs.Ytcokpjffgeihbaa
