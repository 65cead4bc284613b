/- slices.SortFunc of concepts by their marks. -/
import Derived.Test.YtlokldjookngkaaWCo3
import Derived.Test.YtlokldjookngkaaSortK
namespace Go.Proofs.Ytlokldjookngkaa
open Go.RowKit Go.Sort Go.Shelf

def sortCRen : Go.Shelf.Ren := ⟨fun | 6 => 33 | 15 => 39 | 14 => 38 | 28 => 49 | 29 => 50 | 20 => 41 | 21 => 42 | 22 => 43 | 23 => 44 | 24 => 45 | 25 => 46 | 26 => 47 | 27 => 48 | 46 => 51 | 47 => 52 | 48 => 53 | 49 => 54 | 50 => 55 | 57 => 56 | n => n, fun | 22 => 31 | 24 => 36 | 25 => 58 | 3 => 3 | 39 => 47 | 0 => 0 | 53 => 23 | 55 => 73 | 4 => 4 | 46 => 65 | 45 => 64 | 50 => 69 | 5 => 5 | 9 => 9 | 66 => 74 | 70 => 78 | 76 => 80 | 77 => 81 | n => n, fun n => n⟩
theorem sortC : SlLaysF0.n6 Try.prog sortCRen where
  mixed := by kernel_rfl
  f6 := ⟨ "slices.SortFunc[[]syllogist/api.Concept,syllogist/api.Concept]", by decide, Try.func33.trans (congrArg some (by kernel_rfl))⟩
  f14 := ⟨ "slices.pdqsortCmpFunc[syllogist/api.Concept]", by decide, Try.func38.trans (congrArg some (by kernel_rfl))⟩
  f15 := Try.func39.trans (congrArg some (by kernel_rfl))
  f20 := ⟨ "slices.insertionSortCmpFunc[syllogist/api.Concept]", by decide, Try.func41.trans (congrArg some (by kernel_rfl))⟩
  f21 := ⟨ "slices.heapSortCmpFunc[syllogist/api.Concept]", by decide, Try.func42.trans (congrArg some (by kernel_rfl))⟩
  f22 := ⟨ "slices.breakPatternsCmpFunc[syllogist/api.Concept]", by decide, Try.func43.trans (congrArg some (by kernel_rfl))⟩
  f23 := ⟨ "slices.choosePivotCmpFunc[syllogist/api.Concept]", by decide, Try.func44.trans (congrArg some (by kernel_rfl))⟩
  f24 := ⟨ "slices.reverseRangeCmpFunc[syllogist/api.Concept]", by decide, Try.func45.trans (congrArg some (by kernel_rfl))⟩
  f25 := ⟨ "slices.partialInsertionSortCmpFunc[syllogist/api.Concept]", by decide, Try.func46.trans (congrArg some (by kernel_rfl))⟩
  f26 := ⟨ "slices.partitionEqualCmpFunc[syllogist/api.Concept]", by decide, Try.func47.trans (congrArg some (by kernel_rfl))⟩
  f27 := ⟨ "slices.partitionCmpFunc[syllogist/api.Concept]", by decide, Try.func48.trans (congrArg some (by kernel_rfl))⟩
  f28 := Try.func49.trans (congrArg some (by kernel_rfl))
  f29 := Try.func50.trans (congrArg some (by kernel_rfl))
  f46 := ⟨ "slices.siftDownCmpFunc[syllogist/api.Concept]", by decide, Try.func51.trans (congrArg some (by kernel_rfl))⟩
  f47 := Try.func52.trans (congrArg some (by kernel_rfl))
  f48 := Try.func53.trans (congrArg some (by kernel_rfl))
  f49 := ⟨ "slices.medianAdjacentCmpFunc[syllogist/api.Concept]", by decide, Try.func54.trans (congrArg some (by kernel_rfl))⟩
  f50 := ⟨ "slices.medianCmpFunc[syllogist/api.Concept]", by decide, Try.func55.trans (congrArg some (by kernel_rfl))⟩
  f57 := ⟨ "slices.order2CmpFunc[syllogist/api.Concept]", by decide, Try.func56.trans (congrArg some (by kernel_rfl))⟩
  t0 := Try.underlying0
  a0 := Try.isAgg0
  z0 := Try.sizeOf0
  v0 := Try.zeroValue0
  t3 := Try.underlying3
  a3 := Try.isAgg3
  z3 := Try.sizeOf3
  v3 := Try.zeroValue3
  t4 := Try.underlying4
  a4 := Try.isAgg4
  z4 := Try.sizeOf4
  v4 := Try.zeroValue4
  t5 := Try.underlying5
  a5 := Try.isAgg5
  z5 := Try.sizeOf5
  v5 := Try.zeroValue5
  t9 := Try.underlying9
  a9 := Try.isAgg9
  z9 := Try.sizeOf9
  v9 := Try.zeroValue9
  t22 := Try.underlying31
  a22 := Try.isAgg31
  z22 := Try.sizeOf31
  v22 := Try.zeroValue31
  t25 := Try.underlying58
  a25 := Try.isAgg58
  z25 := Try.sizeOf58
  v25 := Try.zeroValue58
  t39 := Try.underlying47
  a39 := Try.isAgg47
  z39 := Try.sizeOf47
  v39 := Try.zeroValue47
  t45 := Try.underlying64
  a45 := Try.isAgg64
  z45 := Try.sizeOf64
  v45 := Try.zeroValue64
  t46 := Try.underlying65
  a46 := Try.isAgg65
  z46 := Try.sizeOf65
  v46 := Try.zeroValue65
  t50 := Try.underlying69
  a50 := Try.isAgg69
  z50 := Try.sizeOf69
  v50 := Try.zeroValue69
  t53 := Try.underlying23
  a53 := Try.isAgg23
  z53 := Try.sizeOf23
  v53 := Try.zeroValue23
  t55 := Try.underlying73
  a55 := Try.isAgg73
  z55 := Try.sizeOf73
  v55 := Try.zeroValue73
  t66 := Try.underlying74
  a66 := Try.isAgg74
  z66 := Try.sizeOf74
  v66 := Try.zeroValue74
  t70 := Try.underlying78
  a70 := Try.isAgg78
  z70 := Try.sizeOf78
  v70 := Try.zeroValue78
  t76 := Try.underlying80
  a76 := Try.isAgg80
  z76 := Try.sizeOf80
  v76 := Try.zeroValue80
  t77 := Try.underlying81
  a77 := Try.isAgg81
  z77 := Try.sizeOf81
  v77 := Try.zeroValue81

set_option maxHeartbeats 400000 in
theorem isNaNu_any (x : Int) (w : World) : Calls Try.prog 40 #[.int .u32 x] w fun e w' => e = .returned (.bool false) ∧ w = w' := by
  go_enter Try.func40, Try.ntmps40
  go_wp2
  go_ret
  exact ⟨by simp, rfl⟩
set_option maxHeartbeats 1000000 in
theorem cmpU_any (x y : Int) (w : World) : Calls Try.prog 35 #[.int .u32 x, .int .u32 y] w fun e w' => e = .returned (.int .i64 (Lib.compareInt x y)) ∧ w = w' := by
  go_enter Try.func35, Try.ntmps35
  go_wp2_with fail
  refine (isNaNu_any x _).mono ?_
  rintro e w1 ⟨rfl, rfl⟩
  go_wp2_with fail
  refine (isNaNu_any y _).mono ?_
  rintro e w1 ⟨rfl, rfl⟩
  go_wp2
  all_goals (go_ret; refine ⟨?_, rfl⟩; unfold Lib.compareInt; (repeat' split) <;> first | rfl | (exfalso; omega))

set_option maxHeartbeats 1000000 in
theorem closC (x1 x2 y1 y2 : Int) (W : World) : Calls Try.prog 34 #[.agg #[.int .u32 x1, .int .u32 x2], .agg #[.int .u32 y1, .int .u32 y2]] W fun e w' => e = .returned (.int .i64 (Lib.compareInt x2 y2)) ∧ ∃ q os', w' = grow (W.drewN q) os' := by
  have hcon := fun W' => cmpU_any x2 y2 W'
  generalize Lib.compareInt x2 y2 = r at hcon ⊢
  go_enter Try.func34, Try.ntmps34
  go_wp2_with fail
  refine (hcon _).mono ?_
  rintro e w1 ⟨rfl, rfl⟩
  go_wp2
  go_ret
  exact ⟨rfl, 0, _, by rw [alloc_eq_grow, alloc_eq_grow, grow_grow]; rfl⟩

/-- A concept's two cells, by its marks. -/
def encC (rows : List Nat) (m : Nat) : List Value := [.int .u32 (ownW rows m : Nat), .int .u32 (m : Int)]
theorem encC_rules (rows l : List Nat) : l.flatMap (encC rows) = rulesC (l.map fun m => (ownW rows m, m)) := by
  unfold rulesC
  rw [List.flatMap_map]
  rfl
theorem sortC_any (rows l k : List Nat) (B g cap : Nat) (w : World) (hB : B ≤ g) (hg : g < w.heap.size) (hc : Row w (some ⟨g, 0, none⟩) (rulesC (l.map fun m => (ownW rows m, m)))) (hf : ∀ j, w.frozen? ⟨g, j, none⟩ = false)
    (hl : l.length ≤ 64) (hn : l.Nodup) (hk : k.Pairwise (· < ·)) (hm : ∀ a, a ∈ l ↔ a ∈ k) :
    Calls Try.prog 33 #[.slice (some ⟨g, 0, none⟩) l.length cap, .func (.func 34) #[] #[]] w fun e w' =>
      e = .returned (.tuple #[]) ∧ Row w' (some ⟨g, 0, none⟩) (rulesC (k.map fun m => (ownW rows m, m))) ∧ Below B w w' := by
  have eg : ∀ args w, (callFunc 34 args).run Try.prog w = .ok (.enter 34 args) w := enters_of Try.func34 (by kernel_rfl) rfl
  have hlen : ∀ x, (encC rows x).length = 2 := fun _ => rfl
  have hH : HoldsK (encC rows) 2 w g 0 l.toArray := by
    refine holdsK_of hlen (by decide) (fun j v hv => ?_) hf
    rw [encC_rules] at hv
    obtain ⟨b, off, he, hcell⟩ := hc.at (List.getElem?_eq_some_iff.1 hv).1
    simp only [Option.some.injEq, Addr.mk.injEq, and_true] at he
    obtain ⟨rfl, rfl⟩ := he
    have := hcell j v hv
    rwa [Nat.zero_add] at this
  have key := AnyQ.slices_SortFunc_total (P := Try.prog) sortC 2 Try.isAgg36 Try.sizeOf36 (encC rows) hlen (fun x v hv => by simp [encC] at hv; rcases hv with rfl | rfl <;> rfl)
    (fun a b : Nat => Lib.compareInt (a : Int) (b : Int)) swo_nat 34 #[] g 0 cap l.toArray w eg (fun m os dk _ x y => closC _ _ _ _ _) hH hg (by simp; omega) tot_nat
  refine Calls.mono (show Calls Try.prog 33 #[.slice (some ⟨g, 0, none⟩) l.length cap, .func (.func 34) #[] #[]] w _ from key) ?_
  rintro e w' ⟨he, n, os, hw⟩
  have e1 : (l.toArray).toList = l := rfl
  rw [e1, merge_nat hn hk hm] at hw
  subst hw
  refine ⟨he, ?_, below_sortK _ _ _ _ _ _ _ hB hg⟩
  rw [← encC_rules]
  refine row_of_holdsK hlen (by decide) (holdsK_sortWorldK_c _ _ _ _ _ l.toArray _ _ _ hH hg ?_)
  have hnk : k.Nodup := hk.imp fun h => Nat.ne_of_lt h
  have := ((List.perm_ext_iff_of_nodup hn hnk).2 hm).length_eq
  simp [this]

end Go.Proofs.Ytlokldjookngkaa
