/- lattice.Shared, lattice.Modular. -/
import Derived.Test.YtogjkkaohaljpaaDoorWAlw
namespace Go.Proofs.YtogjkkaohaljpaaDoor
open Go.RowKit

theorem shB_all (n : Nat) (ps : List (Int × Int)) : allB n (distB n ps) = shB n ps true := by
  rw [Bool.eq_iff_iff, shB_iff]
  unfold allB
  rw [@decide_eq_true_iff _ (Classical.propDecidable _)]
  constructor
  · intro h a b c ha hb hc _ _
    simpa [distB] using h a b c ha hb hc
  · intro h a b c ha hb hc
    simpa [distB] using h a b c ha hb hc (.inl ha) (.inl rfl)
/-- What Modular asks of a, b, c. -/
noncomputable def modB (n : Nat) (ps : List (Int × Int)) (a b c : Nat) : Bool := !(upT n ps c).testBit a || distB n ps a b c
theorem shB_mod (n : Nat) (ps : List (Int × Int)) : allB n (modB n ps) = shB n ps false := by
  rw [Bool.eq_iff_iff, shB_iff]
  unfold allB
  rw [@decide_eq_true_iff _ (Classical.propDecidable _)]
  constructor
  · intro h a b c ha hb hc _ k
    have := h a b c ha hb hc
    have ku : under ps c a = true := k.resolve_left (by decide)
    rw [modB, upT_testBit, ku] at this
    simpa [distB, ha] using this
  · intro h a b c ha hb hc
    rw [modB, upT_testBit]
    cases hu : under ps c a with
    | false => simp
    | true => simpa [distB, ha] using h a b c ha hb hc (.inl ha) (.inr hu)

theorem dist_enters (args : Array Value) (w : World) : (callFunc 33 args).run Tryd.prog w = .ok (.enter 33 args) w := enters_of Tryd.func33 (by kernel_rfl) rfl args w
theorem mod1_enters (args : Array Value) (w : World) : (callFunc 34 args).run Tryd.prog w = .ok (.enter 34 args) w := enters_of Tryd.func34 (by kernel_rfl) rfl args w

set_option maxHeartbeats 2000000 in
theorem Shared_ok : ShOk 18 true := by
  intro n ps A c w hm hr hX
  go_enter Tryd.func18, Tryd.ntmps18
  go_wp2_with fail
  refine (read_any n ps A c _ hm hr hX).mono ?_
  rintro e w1 (⟨hcl, g, Vj, Vm, rfl, htab, hmj, hmm, hb1⟩ | ⟨hcl, rfl, hb1⟩)
  · have hc0 : code n ps = 0 := by
      by_cases h : code n ps = 0
      · exact h
      · rw [codeL_err h] at hcl; exact hcl
    obtain ⟨h2, h3, h4⟩ := code_zero hc0
    obtain ⟨n, rfl⟩ := Int.eq_ofNat_of_zero_le (show 0 ≤ n by unfold Large at h2; omega)
    obtain ⟨hn1, hn6, hl⟩ : 1 ≤ n ∧ n ≤ 6 ∧ ps.length ≤ 20 := by unfold Large at h2; omega
    rw [Int.toNat_natCast] at htab hmj hmm
    rw [Int.toNat_natCast]
    obtain ⟨gj, rfl⟩ := hmj.shape
    obtain ⟨gm, rfl⟩ := hmm.shape
    have HCL := Lib.hid hcl
    have HL := Lib.hid (codeL_zero hcl).2
    have hb2 := (Below.refl w1.heap.size w1).alloc (Nat.le_refl _) (.cells #[.slice (some ⟨g, 0, none⟩) n n, .slice (some ⟨gj, 0, none⟩) n n, .slice (some ⟨gm, 0, none⟩) n n] 46)
    have HMj := Lib.hid (hmj.below hb2)
    have HMm := Lib.hid (hmm.below hb2)
    have HB := Lib.hid (hb1.alloc hb1.size (.cells #[.slice (some ⟨g, 0, none⟩) n n, .slice (some ⟨gj, 0, none⟩) n n, .slice (some ⟨gm, 0, none⟩) n n] 46))
    clear hc0 h2 h3 h4 hcl htab hmj hmm hb1 hb2
    go_wp2_with fail
    generalize w1.alloc (.cells #[.slice (some ⟨g, 0, none⟩) n n, .slice (some ⟨gj, 0, none⟩) n n, .slice (some ⟨gm, 0, none⟩) n n] 46) = w2 at *
    have key := always_any n (some ⟨g, 0, none⟩) n gj gm 33 #[.agg #[.slice (some ⟨g, 0, none⟩) n n, .slice (some ⟨gj, 0, none⟩) n n, .slice (some ⟨gm, 0, none⟩) n n]] #[] (distB n ps) w2 hn6 dist_enters
      (fun a b c W ha hb hc hW => dist_any n ps (some ⟨g, 0, none⟩) n _ _ a b c _ _ W HL.out (HMj.out.below hW) (HMm.out.below hW) ha hb hc)
    rw [shB_all] at key
    with_reducible refine key.mono ?_
    rintro e w3 ⟨rfl, hb3⟩
    have HE := Lib.hid (HB.out.trans (hb3.mono HB.out.size))
    clear hb3 key
    go_wp2
    go_ret2
    exact ⟨by rw [HCL.out]; rfl, HE.out⟩
  · have HN := Lib.hid hcl
    have hk2 : (codeL n ps != 0) = true := by simpa using hcl
    have HB := Lib.hid (hb1.alloc hb1.size (.cells #[.slice none 0 0, .slice none 0 0, .slice none 0 0] 46))
    clear hcl hb1
    go_wp2
    go_ret2
    exact ⟨by rw [show (codeL n ps == 0) = false from by simpa using HN.out, Bool.false_and]; rfl, HB.out⟩

set_option maxHeartbeats 2000000 in
theorem mod1_any (n : Nat) (ps : List (Int × Int)) (g gj gm Bj Bm a b c p : Nat) (w : World) (hn6 : n ≤ 6) (hL : latB n ps = true)
    (h3 : Three w p (.slice (some ⟨g, 0, none⟩) n n) (.slice (some ⟨gj, 0, none⟩) n n) (.slice (some ⟨gm, 0, none⟩) n n)) (ht : Tab w (some ⟨g, 0, none⟩) n (upT n ps))
    (hj : MatR w Bj (.slice (some ⟨gj, 0, none⟩) n n) n (jn n ps)) (hm : MatR w Bm (.slice (some ⟨gm, 0, none⟩) n n) n (mt n ps)) (ha : a < n) (hb : b < n) (hc : c < n) :
    Calls Tryd.prog 34 #[.int .i64 a, .int .i64 b, .int .i64 c, .pointer (some ⟨p, 0, none⟩)] w fun e w' => e = .returned (.bool (modB n ps a b c)) ∧ Below w.heap.size w w' := by
  have c0 := h3.c0
  have c1 := h3.c1
  have c2 := h3.c2
  obtain ⟨g', off, eg, hcell⟩ := ht.cell (by omega)
  have hcx := hcell c hc
  simp only [Option.some.injEq, Addr.mk.injEq, and_true] at eg
  obtain ⟨rfl, rfl⟩ := eg
  have hcu := upT_u32 hn6 ps c
  have HL := Lib.hid hL
  have HJ := Lib.hid hj
  have HM := Lib.hid hm
  clear h3 ht hcell hL hj hm
  rw [Nat.zero_add] at hcx
  cases hbit : (upT n ps c).testBit a with
  | true =>
    have HR := Lib.hid (show modB n ps a b c = distB n ps a b c by rw [modB, hbit]; rfl)
    have HBit := Lib.hid hbit
    clear hbit
    go_enter Tryd.func34, Tryd.ntmps34
    go_wp2_with fail
    refine (lhas_any (upT n ps c) a (by omega) hcu _).mono ?_
    rintro e w' ⟨rfl, rfl⟩
    rw [HBit.out]
    go_wp2_with fail
    refine (dist_any n ps _ n _ _ a b c _ _ _ HL.out HJ.out HM.out ha hb hc).mono ?_
    rintro e w1 ⟨rfl, hb1⟩
    go_wp2
    go_ret
    exact ⟨ret_bool HR.out.symm, hb1⟩
  | false =>
    have HR := Lib.hid (show modB n ps a b c = true by rw [modB, hbit]; rfl)
    have HBit := Lib.hid hbit
    clear hbit
    go_enter Tryd.func34, Tryd.ntmps34
    go_wp2_with fail
    refine (lhas_any (upT n ps c) a (by omega) hcu _).mono ?_
    rintro e w' ⟨rfl, rfl⟩
    rw [HBit.out]
    go_wp2
    go_ret
    exact ⟨ret_bool HR.out.symm, Below.refl _ _⟩

set_option maxHeartbeats 2000000 in
theorem Modular_ok : ShOk 21 false := by
  intro n ps A c w hm hr hX
  go_enter Tryd.func21, Tryd.ntmps21
  go_wp2_with fail
  refine (read_any n ps A c _ hm hr hX).mono ?_
  rintro e w1 (⟨hcl, g, Vj, Vm, rfl, htab, hmj, hmm, hb1⟩ | ⟨hcl, rfl, hb1⟩)
  · have hc0 : code n ps = 0 := by
      by_cases h : code n ps = 0
      · exact h
      · rw [codeL_err h] at hcl; exact hcl
    obtain ⟨h2, h3, h4⟩ := code_zero hc0
    obtain ⟨n, rfl⟩ := Int.eq_ofNat_of_zero_le (show 0 ≤ n by unfold Large at h2; omega)
    obtain ⟨hn1, hn6, hl⟩ : 1 ≤ n ∧ n ≤ 6 ∧ ps.length ≤ 20 := by unfold Large at h2; omega
    rw [Int.toNat_natCast] at htab hmj hmm
    rw [Int.toNat_natCast]
    obtain ⟨gj, rfl⟩ := hmj.shape
    obtain ⟨gm, rfl⟩ := hmm.shape
    have HCL := Lib.hid hcl
    have HL := Lib.hid (codeL_zero hcl).2
    have hb2 := (Below.refl w1.heap.size w1).alloc (Nat.le_refl _) (.cells #[.slice (some ⟨g, 0, none⟩) n n, .slice (some ⟨gj, 0, none⟩) n n, .slice (some ⟨gm, 0, none⟩) n n] 46)
    have HMj := Lib.hid (hmj.below hb2)
    have HMm := Lib.hid (hmm.below hb2)
    have HTab := Lib.hid (htab.below hb2)
    have H3 := Lib.hid (three_new w1 (.slice (some ⟨g, 0, none⟩) n n) (.slice (some ⟨gj, 0, none⟩) n n) (.slice (some ⟨gm, 0, none⟩) n n) 46)
    have HB := Lib.hid (hb1.alloc hb1.size (.cells #[.slice (some ⟨g, 0, none⟩) n n, .slice (some ⟨gj, 0, none⟩) n n, .slice (some ⟨gm, 0, none⟩) n n] 46))
    clear hc0 h2 h3 h4 hcl htab hmj hmm hb1 hb2
    go_wp2_with fail
    generalize w1.alloc (.cells #[.slice (some ⟨g, 0, none⟩) n n, .slice (some ⟨gj, 0, none⟩) n n, .slice (some ⟨gm, 0, none⟩) n n] 46) = w2 at *
    have key := always_any n (some ⟨g, 0, none⟩) n gj gm 34 #[] #[.pointer (some ⟨w1.heap.size, 0, none⟩)] (modB n ps) w2 hn6 mod1_enters
      (fun a b c W ha hb hc hW => mod1_any n ps g gj gm _ _ a b c w1.heap.size W hn6 HL.out (H3.out.below hW) (HTab.out.below hW) (HMj.out.below hW) (HMm.out.below hW) ha hb hc)
    rw [shB_mod] at key
    with_reducible refine key.mono ?_
    rintro e w3 ⟨rfl, hb3⟩
    have HE := Lib.hid (HB.out.trans (hb3.mono HB.out.size))
    clear hb3 key
    go_wp2
    go_ret2
    exact ⟨by rw [HCL.out]; rfl, HE.out⟩
  · have HN := Lib.hid hcl
    have hk2 : (codeL n ps != 0) = true := by simpa using hcl
    have HB := Lib.hid (hb1.alloc hb1.size (.cells #[.slice none 0 0, .slice none 0 0, .slice none 0 0] 46))
    clear hcl hb1
    go_wp2
    go_ret2
    exact ⟨by rw [show (codeL n ps == 0) = false from by simpa using HN.out, Bool.false_and]; rfl, HB.out⟩

end Go.Proofs.YtogjkkaohaljpaaDoor
