/- lattice.Join, lattice.Meet, lattice.Is, lattice.read. -/
import Derived.Test.YtmlggmopkelcfaaDoorWBuild
namespace Go.Proofs.YtmlggmopkelcfaaDoor
open Go.RowKit

/-- What read hands back: the errors of Table, or what build hands back. -/
def ReadPost (n : Int) (ps : List (Int × Int)) (w : World) (e : Ending) (w' : World) : Prop :=
  (codeL n ps = 0 ∧ ∃ g Vj Vm, e = .returned (.tuple #[.agg #[.slice (some ⟨g, 0, none⟩) n.toNat n.toNat, Vj, Vm], .int .i64 0]) ∧ Tab w' (some ⟨g, 0, none⟩) n.toNat (upT n.toNat ps) ∧ MatR w' w.heap.size Vj n.toNat (jn n.toNat ps) ∧ MatR w' w.heap.size Vm n.toNat (mt n.toNat ps) ∧ Below w.heap.size w w') ∨
  (codeL n ps ≠ 0 ∧ e = .returned (.tuple #[.agg #[.slice none 0 0, .slice none 0 0, .slice none 0 0], .int .i64 (codeL n ps)]) ∧ Below w.heap.size w w')

set_option maxHeartbeats 2000000 in
theorem read_any (n : Int) (ps : List (Int × Int)) (A : Option Addr) (c : Nat) (w : World) (hm : ps.length ≤ maxLen) (hr : Row w A (pairsC ps)) (hX : Laid w) :
    Calls Tryd.prog 9 #[.int .i64 n, .slice A ps.length c] w (ReadPost n ps w) := by
  by_cases hc : code n ps = 0
  · obtain ⟨h2, h3, h4⟩ := code_zero hc
    obtain ⟨n, rfl⟩ := Int.eq_ofNat_of_zero_le (show 0 ≤ n by unfold Large at h2; omega)
    have HC := Lib.hid hc
    clear h2 h3 h4 hc
    go_enter Tryd.func9, Tryd.ntmps9
    go_wp2_with fail
    have hb0 := (Below.refl w.heap.size w).alloc (Nat.le_refl _) (.cells #[.slice none 0 0, .slice none 0 0, .slice none 0 0] 39)
    have h30 := three_new w (.slice none 0 0) (.slice none 0 0) (.slice none 0 0) 39
    have hsz : (w.alloc (.cells #[.slice none 0 0, .slice none 0 0, .slice none 0 0] 39)).heap.size = w.heap.size + 1 := by simp
    generalize w.alloc (.cells #[.slice none 0 0, .slice none 0 0, .slice none 0 0] 39) = w0 at *
    have HZ := Lib.hid hsz
    clear hsz
    refine (Table_ok n ps A c _ hm (hr.below hb0) HC.out).mono ?_
    rintro e w1 ⟨g, rfl, hown, hb1⟩
    have HO := Lib.hid hown
    have H31 := Lib.hid (h30.below hb1)
    have hb01 := hb0.trans (hb1.mono hb0.size)
    have HZ1 := Lib.hid (show w.heap.size < w1.heap.size by have := hb1.size; have := HZ.out; omega)
    have HG := Lib.hid (show w.heap.size < g by have := hown.base; have := HZ.out; omega)
    clear hown hb0 hb1 h30 HZ
    go_wp2_with fail
    refine (build_any n ps _ n _ HO.out.tab (hX.below hb01) HC.out).mono ?_
    rintro e w2 (⟨hL, Vj, Vm, rfl, hmj, hmm, hb2⟩ | ⟨hL, rfl, hb2⟩)
    · obtain ⟨gj, rfl⟩ := hmj.shape
      obtain ⟨gm, rfl⟩ := hmm.shape
      have HMj := Lib.hid hmj
      have HMm := Lib.hid hmm
      have HCL := Lib.hid (codeL_ok HC.out hL)
      have HB := Lib.hid (hb01.trans (hb2.mono hb01.size))
      have HTab := Lib.hid (HO.out.below hb2)
      have h32 := H31.out.below hb2
      have hc0 := h32.c0
      have hc1 := h32.c1
      have hc2 := h32.c2
      have hf := h32.free
      clear hb01 hb2 hL hmj hmm h32 HO H31
      go_wp2
      refine bodyPost_ret (v := .tuple #[.agg #[.slice (some ⟨g, 0, none⟩) n n, .slice (some ⟨gj, 0, none⟩) n n, .slice (some ⟨gm, 0, none⟩) n n], .int .i64 0]) (by simp [results, Tryd.results9, go_sem, hc0, hc1, hc2]) rfl ?_
      have hw : ∀ x y z, Below w.heap.size w (((w2.setCell ⟨w.heap.size, 0, none⟩ x).setCell ⟨w.heap.size, 1, none⟩ y).setCell ⟨w.heap.size, 2, none⟩ z) := fun x y z => ((HB.out.setCell (Nat.le_refl _) _).setCell (Nat.le_refl _) _).setCell (Nat.le_refl _) _
      have hset : ∀ {V : Value} {F : Nat → Nat → Nat} {B : Nat}, w.heap.size < B → MatR w2 B V n F → ∀ x y z, MatR (((w2.setCell ⟨w.heap.size, 0, none⟩ x).setCell ⟨w.heap.size, 1, none⟩ y).setCell ⟨w.heap.size, 2, none⟩ z) w.heap.size V n F := fun hB h x y z => (((h.set hB _).set hB _).set hB _).mono (Nat.le_of_lt hB)
      have htab : ∀ x y z, Tab (((w2.setCell ⟨w.heap.size, 0, none⟩ x).setCell ⟨w.heap.size, 1, none⟩ y).setCell ⟨w.heap.size, 2, none⟩ z) (some ⟨g, 0, none⟩) n (upT n ps) := fun x y z => by
        have hg := HG.out
        refine .inr ⟨g, 0, rfl, fun j v hv => ?_⟩
        have hj : j < n := by have := (List.getElem?_eq_some_iff.1 hv).1; simpa using this
        rw [words_at (tab_at _ hj)] at hv
        obtain rfl := Option.some.inj hv
        rw [Nat.zero_add]
        exact cell_far (ad_block (by omega)) (cell_far (ad_block (by omega)) (cell_far (ad_block (by omega)) (HTab.out.cell hj)))
      exact .inl ⟨HCL.out, g, _, _, rfl, htab _ _ _, hset HZ1.out HMj.out _ _ _, hset HZ1.out HMm.out _ _ _, hw _ _ _⟩
    · have HCL := Lib.hid (codeL_no HC.out hL)
      have HB := Lib.hid (hb01.trans (hb2.mono hb01.size))
      have h32 := H31.out.below hb2
      have hc0 := h32.c0
      have hc1 := h32.c1
      have hc2 := h32.c2
      have hf := h32.free
      clear hb01 hb2 hL h32 HO H31
      go_wp2
      refine bodyPost_ret (v := .tuple #[.agg #[.slice none 0 0, .slice none 0 0, .slice none 0 0], .int .i64 3]) (by simp [results, Tryd.results9, go_sem, hc0, hc1, hc2]) rfl ?_
      exact .inr ⟨by rw [HCL.out]; decide, by rw [HCL.out], ((HB.out.setCell (Nat.le_refl _) _).setCell (Nat.le_refl _) _).setCell (Nat.le_refl _) _⟩
  · have HCL := Lib.hid (codeL_err hc)
    have HC := Lib.hid hc
    go_enter Tryd.func9, Tryd.ntmps9
    go_wp2_with fail
    have hb0 := (Below.refl w.heap.size w).alloc (Nat.le_refl _) (.cells #[.slice none 0 0, .slice none 0 0, .slice none 0 0] 39)
    have h30 := three_new w (.slice none 0 0) (.slice none 0 0) (.slice none 0 0) 39
    generalize w.alloc (.cells #[.slice none 0 0, .slice none 0 0, .slice none 0 0] 39) = w0 at *
    refine (Table_err n ps A c _ hm (hr.below hb0) HC.out).mono ?_
    rintro e w1 ⟨rfl, hb1⟩
    have HB := Lib.hid (hb0.trans (hb1.mono hb0.size))
    have h31 := h30.below hb1
    have hc0 := h31.c0
    have hc1 := h31.c1
    have hc2 := h31.c2
    have hf := h31.free
    have HK := Lib.hid (show (code n ps != 0) = true by simpa using hc)
    obtain ⟨k, hk⟩ : ∃ k, k = code n ps := ⟨_, rfl⟩
    have HKK := Lib.hid hk
    have hk2 : (k != 0) = true := by rw [hk]; exact HK.out
    rw [← hk]
    clear hc hb0 hb1 h30 h31 hk
    go_wp2
    refine bodyPost_ret (v := .tuple #[.agg #[.slice none 0 0, .slice none 0 0, .slice none 0 0], .int .i64 k]) (by simp [results, Tryd.results9, go_sem, hc0, hc1, hc2]) rfl ?_
    exact .inr ⟨by rw [HCL.out]; exact HC.out, by rw [HCL.out, HKK.out], ((HB.out.setCell (Nat.le_refl _) _).setCell (Nat.le_refl _) _).setCell (Nat.le_refl _) _⟩

end Go.Proofs.YtmlggmopkelcfaaDoor
