/- slices.SortFunc of clauses, by Yes and then by No. -/
import Derived.Test.YtcokpjffgeihbaaTr3
import Derived.Test.YtcokpjffgeihbaaSortK
namespace Go.Proofs.Ytcokpjffgeihbaa
open Go.RowKit Go.Sort Go.Shelf

def sortKRen : Go.Shelf.Ren := ⟨fun | 6 => 34 | 15 => 44 | 14 => 43 | 28 => 55 | 29 => 56 | 20 => 47 | 21 => 48 | 22 => 49 | 23 => 50 | 24 => 51 | 25 => 52 | 26 => 53 | 27 => 54 | 46 => 59 | 47 => 60 | 48 => 61 | 49 => 62 | 50 => 63 | 57 => 64 | n => n, fun | 22 => 39 | 24 => 49 | 25 => 61 | 3 => 3 | 39 => 45 | 0 => 0 | 53 => 31 | 55 => 77 | 4 => 4 | 46 => 70 | 45 => 69 | 50 => 74 | 5 => 5 | 9 => 9 | 66 => 78 | 70 => 82 | 76 => 84 | 77 => 85 | n => n, fun n => n⟩
theorem sortK : SlLaysF0.n6 Try.prog sortKRen where
  mixed := by kernel_rfl
  f6 := ⟨ "slices.SortFunc[[]syllogist/api.Clause,syllogist/api.Clause]", by decide, Try.func34.trans (congrArg some (by kernel_rfl))⟩
  f14 := ⟨ "slices.pdqsortCmpFunc[syllogist/api.Clause]", by decide, Try.func43.trans (congrArg some (by kernel_rfl))⟩
  f15 := Try.func44.trans (congrArg some (by kernel_rfl))
  f20 := ⟨ "slices.insertionSortCmpFunc[syllogist/api.Clause]", by decide, Try.func47.trans (congrArg some (by kernel_rfl))⟩
  f21 := ⟨ "slices.heapSortCmpFunc[syllogist/api.Clause]", by decide, Try.func48.trans (congrArg some (by kernel_rfl))⟩
  f22 := ⟨ "slices.breakPatternsCmpFunc[syllogist/api.Clause]", by decide, Try.func49.trans (congrArg some (by kernel_rfl))⟩
  f23 := ⟨ "slices.choosePivotCmpFunc[syllogist/api.Clause]", by decide, Try.func50.trans (congrArg some (by kernel_rfl))⟩
  f24 := ⟨ "slices.reverseRangeCmpFunc[syllogist/api.Clause]", by decide, Try.func51.trans (congrArg some (by kernel_rfl))⟩
  f25 := ⟨ "slices.partialInsertionSortCmpFunc[syllogist/api.Clause]", by decide, Try.func52.trans (congrArg some (by kernel_rfl))⟩
  f26 := ⟨ "slices.partitionEqualCmpFunc[syllogist/api.Clause]", by decide, Try.func53.trans (congrArg some (by kernel_rfl))⟩
  f27 := ⟨ "slices.partitionCmpFunc[syllogist/api.Clause]", by decide, Try.func54.trans (congrArg some (by kernel_rfl))⟩
  f28 := Try.func55.trans (congrArg some (by kernel_rfl))
  f29 := Try.func56.trans (congrArg some (by kernel_rfl))
  f46 := ⟨ "slices.siftDownCmpFunc[syllogist/api.Clause]", by decide, Try.func59.trans (congrArg some (by kernel_rfl))⟩
  f47 := Try.func60.trans (congrArg some (by kernel_rfl))
  f48 := Try.func61.trans (congrArg some (by kernel_rfl))
  f49 := ⟨ "slices.medianAdjacentCmpFunc[syllogist/api.Clause]", by decide, Try.func62.trans (congrArg some (by kernel_rfl))⟩
  f50 := ⟨ "slices.medianCmpFunc[syllogist/api.Clause]", by decide, Try.func63.trans (congrArg some (by kernel_rfl))⟩
  f57 := ⟨ "slices.order2CmpFunc[syllogist/api.Clause]", by decide, Try.func64.trans (congrArg some (by kernel_rfl))⟩
  t0 := Try.underlying0
  a0 := Try.isAgg0
  z0 := Try.sizeOf0
  v0 := Try.zeroValue0
  t3 := Try.underlying3
  a3 := Try.isAgg3
  z3 := Try.sizeOf3
  v3 := Try.zeroValue3
  t4 := Try.underlying4
  a4 := Try.isAgg4
  z4 := Try.sizeOf4
  v4 := Try.zeroValue4
  t5 := Try.underlying5
  a5 := Try.isAgg5
  z5 := Try.sizeOf5
  v5 := Try.zeroValue5
  t9 := Try.underlying9
  a9 := Try.isAgg9
  z9 := Try.sizeOf9
  v9 := Try.zeroValue9
  t22 := Try.underlying39
  a22 := Try.isAgg39
  z22 := Try.sizeOf39
  v22 := Try.zeroValue39
  t25 := Try.underlying61
  a25 := Try.isAgg61
  z25 := Try.sizeOf61
  v25 := Try.zeroValue61
  t39 := Try.underlying45
  a39 := Try.isAgg45
  z39 := Try.sizeOf45
  v39 := Try.zeroValue45
  t45 := Try.underlying69
  a45 := Try.isAgg69
  z45 := Try.sizeOf69
  v45 := Try.zeroValue69
  t46 := Try.underlying70
  a46 := Try.isAgg70
  z46 := Try.sizeOf70
  v46 := Try.zeroValue70
  t50 := Try.underlying74
  a50 := Try.isAgg74
  z50 := Try.sizeOf74
  v50 := Try.zeroValue74
  t53 := Try.underlying31
  a53 := Try.isAgg31
  z53 := Try.sizeOf31
  v53 := Try.zeroValue31
  t55 := Try.underlying77
  a55 := Try.isAgg77
  z55 := Try.sizeOf77
  v55 := Try.zeroValue77
  t66 := Try.underlying78
  a66 := Try.isAgg78
  z66 := Try.sizeOf78
  v66 := Try.zeroValue78
  t70 := Try.underlying82
  a70 := Try.isAgg82
  z70 := Try.sizeOf82
  v70 := Try.zeroValue82
  t76 := Try.underlying84
  a76 := Try.isAgg84
  z76 := Try.sizeOf84
  v76 := Try.zeroValue84
  t77 := Try.underlying85
  a77 := Try.isAgg85
  z77 := Try.sizeOf85
  v77 := Try.zeroValue85

set_option maxHeartbeats 400000 in
theorem isNaNk_any (x : Int) (w : World) : Calls Try.prog 45 #[.int .u32 x] w fun e w' => e = .returned (.bool false) ∧ w = w' := by
  go_enter Try.func45, Try.ntmps45
  go_wp2
  go_ret
  exact ⟨by simp, rfl⟩
set_option maxHeartbeats 1000000 in
theorem cmpK_any (x y : Int) (w : World) : Calls Try.prog 37 #[.int .u32 x, .int .u32 y] w fun e w' => e = .returned (.int .i64 (Lib.compareInt x y)) ∧ w' = w := by
  go_enter Try.func37, Try.ntmps37
  go_wp2_with fail
  refine (isNaNk_any x _).mono ?_
  rintro e w1 ⟨rfl, rfl⟩
  go_wp2_with fail
  refine (isNaNk_any y _).mono ?_
  rintro e w1 ⟨rfl, rfl⟩
  go_wp2
  all_goals (go_ret; refine ⟨?_, rfl⟩; unfold Lib.compareInt; (repeat' split) <;> first | rfl | (exfalso; omega))
/-- The first of two that is not nought. -/
def orI (x y : Int) : Int := if x = 0 then y else x
set_option maxHeartbeats 1000000 in
theorem orK_any (x y : Int) (g : Nat) (w : World) (h0 : w.cell? ⟨g, 0, none⟩ = some (.int .i64 x)) (h1 : w.cell? ⟨g, 1, none⟩ = some (.int .i64 y)) :
    Calls Try.prog 36 #[.slice (some ⟨g, 0, none⟩) 2 2] w fun e w' => e = .returned (.int .i64 (orI x y)) ∧ w = w' := by
  by_cases hx : x = 0
  · subst hx
    have e1 : orI 0 y = y := if_pos rfl
    rw [e1]
    by_cases hy : y = 0
    · subst hy
      clear e1
      go_enter Try.func36, Try.ntmps36
      go_wp2
      refine wp_loop_rounds 3 ?_
      rw [rounds_succ]; go_wp2
      rw [rounds_succ]; go_wp2
      rw [rounds_succ]; go_wp2
      go_ret
      exact ⟨rfl, rfl⟩
    · have hd : (y != 0) = true := by simpa using hy
      clear hy e1
      go_enter Try.func36, Try.ntmps36
      go_wp2
      refine wp_loop_rounds 3 ?_
      rw [rounds_succ]; go_wp2
      rw [rounds_succ]; go_wp2
      go_ret
      exact ⟨rfl, rfl⟩
  · have e1 : orI x y = x := if_neg hx
    rw [e1]
    have hd : (x != 0) = true := by simpa using hx
    clear hx e1
    go_enter Try.func36, Try.ntmps36
    go_wp2
    refine wp_loop_rounds 3 ?_
    rw [rounds_succ]; go_wp2
    go_ret
    exact ⟨rfl, rfl⟩

set_option maxHeartbeats 1000000 in
theorem closK (x1 x2 y1 y2 : Int) (W : World) : Calls Try.prog 35 #[.agg #[.int .u32 x1, .int .u32 x2], .agg #[.int .u32 y1, .int .u32 y2]] W fun e w' => e = .returned (.int .i64 (orI (Lib.compareInt x1 y1) (Lib.compareInt x2 y2))) ∧ ∃ q os', w' = grow (W.drewN q) os' := by
  have hcon1 := fun W' => cmpK_any x1 y1 W'
  have hcon2 := fun W' => cmpK_any x2 y2 W'
  generalize Lib.compareInt x1 y1 = r1 at hcon1 ⊢
  generalize Lib.compareInt x2 y2 = r2 at hcon2 ⊢
  go_enter Try.func35, Try.ntmps35
  go_wp2
  have a0 : ((W.alloc (.cells #[.int .u32 x1, .int .u32 x2] 49)).alloc (.cells #[.int .u32 y1, .int .u32 y2] 49)).cell? ⟨W.heap.size, 0, none⟩ = some (.int .u32 x1) := by simp
  have a1 : ((W.alloc (.cells #[.int .u32 x1, .int .u32 x2] 49)).alloc (.cells #[.int .u32 y1, .int .u32 y2] 49)).cell? ⟨W.heap.size, 1, none⟩ = some (.int .u32 x2) := by simp
  have b0 : ((W.alloc (.cells #[.int .u32 x1, .int .u32 x2] 49)).alloc (.cells #[.int .u32 y1, .int .u32 y2] 49)).cell? ⟨W.heap.size + 1, 0, none⟩ = some (.int .u32 y1) := by simp
  have b1 : ((W.alloc (.cells #[.int .u32 x1, .int .u32 x2] 49)).alloc (.cells #[.int .u32 y1, .int .u32 y2] 49)).cell? ⟨W.heap.size + 1, 1, none⟩ = some (.int .u32 y2) := by simp
  obtain ⟨w2, hw2⟩ : ∃ w2, w2 = (W.alloc (.cells #[.int .u32 x1, .int .u32 x2] 49)).alloc (.cells #[.int .u32 y1, .int .u32 y2] 49) := ⟨_, rfl⟩
  rw [← hw2] at a0 a1 b0 b1 ⊢
  have HW := Lib.hid hw2
  clear hw2
  generalize W.heap.size + 1 = g2 at *
  generalize W.heap.size = g1 at *
  refine wp_region_still_tail 10 (by kernel_rfl) (by kernel_rfl) ?_
  simp only [List.take_succ_cons, List.take_zero, List.drop_succ_cons, List.drop_zero]
  iterate 4 still_step
  still_call (hcon1 _)
  iterate 4 still_step
  still_call (hcon2 _)
  refine wpStill_nil ?_
  go_wp2_with fail
  have d0 : (w2.alloc (.cells #[.int .i64 r1, .int .i64 r2] 3)).cell? ⟨w2.heap.size, 0, none⟩ = some (.int .i64 r1) := by simp
  have d1 : (w2.alloc (.cells #[.int .i64 r1, .int .i64 r2] 3)).cell? ⟨w2.heap.size, 1, none⟩ = some (.int .i64 r2) := by simp
  refine (orK_any r1 r2 w2.heap.size (w2.alloc (.cells #[.int .i64 r1, .int .i64 r2] 3)).drew d0 d1).mono ?_
  rintro e w3 ⟨rfl, rfl⟩
  go_wp2
  go_ret
  exact ⟨rfl, 1, _, by rw [HW.out, alloc_eq_grow, alloc_eq_grow, alloc_eq_grow, grow_grow, grow_grow]; rfl⟩

/-! ## The order -/
def cfK (a b : Nat × Nat) : Int := orI (Lib.compareInt (a.1 : Int) (b.1 : Int)) (Lib.compareInt (a.2 : Int) (b.2 : Int))
/-- By Yes and then by No. -/
def LexP (a b : Nat × Nat) : Prop := a.1 < b.1 ∨ (a.1 = b.1 ∧ a.2 < b.2)
theorem lt_lex (x y : Nat × Nat) : ltOf cfK x y = true ↔ LexP x y := by
  unfold ltOf cfK orI Lib.compareInt LexP
  by_cases h1 : (x.1 : Int) < y.1
  · simp [h1]; omega
  · by_cases h2 : (y.1 : Int) < x.1
    · simp [h1, h2]; omega
    · by_cases h3 : (x.2 : Int) < y.2
      · simp [h1, h2, h3]; omega
      · by_cases h4 : (y.2 : Int) < x.2
        · simp [h1, h2, h3, h4]; omega
        · simp [h1, h2, h3, h4]; omega
theorem lt_lex_no (x y : Nat × Nat) : ltOf cfK x y = false ↔ ¬ LexP x y := by
  rw [← lt_lex]
  cases ltOf cfK x y <;> simp
theorem swo_lex : SWO (ltOf cfK) where
  irrefl x := by rw [lt_lex_no]; unfold LexP; omega
  trans x y z h1 h2 := by rw [lt_lex] at *; unfold LexP at *; omega
  ntrans x y z h1 h2 := by rw [lt_lex_no] at *; unfold LexP at *; omega
theorem tot_lex (x y : Nat × Nat) (h1 : ltOf cfK x y = false) (h2 : ltOf cfK y x = false) : x = y := by
  rw [lt_lex_no] at *
  unfold LexP at *
  exact Prod.ext (by omega) (by omega)
theorem lex_nodup {k : List (Nat × Nat)} (hk : k.Pairwise LexP) : k.Nodup := hk.imp fun h e => by subst e; unfold LexP at h; omega
theorem merge_lex {l k : List (Nat × Nat)} (hl : l.Nodup) (hk : k.Pairwise LexP) (h : ∀ a, a ∈ l ↔ a ∈ k) : (l.mergeSort fun x y => !(ltOf cfK) y x) = k := by
  refine List.Perm.eq_of_pairwise (le := fun a b => (!(ltOf cfK) b a) = true) (fun a b _ _ h1 h2 => ?_) (List.pairwise_mergeSort ?_ ?_ _) (hk.imp fun {a b} h => ?_) ((List.mergeSort_perm _ _).trans ((List.perm_ext_iff_of_nodup hl (lex_nodup hk)).2 h))
  · simp only [Bool.not_eq_true'] at h1 h2
    exact tot_lex a b h2 h1
  · intro a b c h1 h2
    simp only [Bool.not_eq_true', lt_lex_no] at *
    unfold LexP at *
    omega
  · intro a b
    cases h1 : ltOf cfK b a with
    | false => simp
    | true =>
      rw [lt_lex] at h1
      have : ltOf cfK a b = false := by rw [lt_lex_no]; unfold LexP at *; omega
      simp [this]
  · simp only [Bool.not_eq_true', lt_lex_no]
    unfold LexP at *
    omega
theorem primL_lex (n : Nat) (F : Nat → Bool) (k : Nat) : (primL n F k).Pairwise LexP := by
  unfold primL
  rw [List.pairwise_flatMap]
  constructor
  · intro y _
    unfold rowL
    rw [List.pairwise_map]
    exact (List.pairwise_lt_range.filter _).imp fun h => .inr ⟨rfl, h⟩
  · refine List.pairwise_lt_range.imp fun {a b} h x hx z hz => ?_
    rw [mem_rowL] at hx hz
    exact .inl (by omega)

def encK (p : Nat × Nat) : List Value := [.int .u32 (p.1 : Int), .int .u32 (p.2 : Int)]
theorem sortK_any (l k : List (Nat × Nat)) (B g cap : Nat) (w : World) (hB : B ≤ g) (hg : g < w.heap.size) (hc : Row w (some ⟨g, 0, none⟩) (rulesC l)) (hf : ∀ j, w.frozen? ⟨g, j, none⟩ = false)
    (hl : l.length ≤ 1000000) (hn : l.Nodup) (hk : k.Pairwise LexP) (hm : ∀ a, a ∈ l ↔ a ∈ k) :
    Calls Try.prog 34 #[.slice (some ⟨g, 0, none⟩) l.length cap, .func (.func 35) #[] #[]] w fun e w' =>
      e = .returned (.tuple #[]) ∧ Row w' (some ⟨g, 0, none⟩) (rulesC k) ∧ Below B w w' := by
  have eg : ∀ args w, (callFunc 35 args).run Try.prog w = .ok (.enter 35 args) w := enters_of Try.func35 (by kernel_rfl) rfl
  have hlen : ∀ x, (encK x).length = 2 := fun _ => rfl
  have hR : ∀ l : List (Nat × Nat), l.flatMap encK = rulesC l := fun _ => rfl
  have hH : HoldsK encK 2 w g 0 l.toArray := by
    refine holdsK_of hlen (by decide) (fun j v hv => ?_) hf
    rw [hR] at hv
    obtain ⟨b, off, he, hcell⟩ := hc.at (List.getElem?_eq_some_iff.1 hv).1
    simp only [Option.some.injEq, Addr.mk.injEq, and_true] at he
    obtain ⟨rfl, rfl⟩ := he
    have := hcell j v hv
    rwa [Nat.zero_add] at this
  have key := AnyQ.slices_SortFunc_total (P := Try.prog) sortK 2 Try.isAgg49 Try.sizeOf49 encK hlen (fun x v hv => by simp [encK] at hv; rcases hv with rfl | rfl <;> rfl)
    cfK swo_lex 35 #[] g 0 cap l.toArray w eg (fun m os dk _ x y => closK _ _ _ _ _) hH hg (by simp; omega) tot_lex
  refine Calls.mono (show Calls Try.prog 34 #[.slice (some ⟨g, 0, none⟩) l.length cap, .func (.func 35) #[] #[]] w _ from key) ?_
  rintro e w' ⟨he, n, os, hw⟩
  have e1 : (l.toArray).toList = l := rfl
  rw [e1, merge_lex hn hk hm] at hw
  subst hw
  refine ⟨he, ?_, below_sortK _ _ _ _ _ _ _ hB hg⟩
  rw [← hR]
  refine row_of_holdsK hlen (by decide) (holdsK_sortWorldK_c _ _ _ _ _ l.toArray _ _ _ hH hg ?_)
  have := ((List.perm_ext_iff_of_nodup hn (lex_nodup hk)).2 hm).length_eq
  simp [this]
theorem sortK_nil (p : Option Addr) (cap : Nat) (fv : Value) (w : World) : Calls Try.prog 34 #[.slice p 0 cap, fv] w fun e w' => e = .returned (.tuple #[]) ∧ w' = w :=
  AnyF.slices_SortFunc_none (P := Try.prog) sortK p cap fv w

end Go.Proofs.Ytcokpjffgeihbaa
