/- lattice.isJoined, lattice.Irreducible. -/
import Derived.Test.YtmlggmopkelcfaaDoorWKind
namespace Go.Proofs.YtmlggmopkelcfaaDoor
open Go.RowKit

theorem irB_no {n : Nat} {ps : List (Int × Int)} {x b c : Nat} (hL : latB n ps = true) (hb : b < n) (hc : c < n) (h1 : b ≠ x) (h2 : c ≠ x) (h : jn n ps b c = x) : irB n ps x n 0 = false := by
  rw [Bool.eq_false_iff]
  intro k
  rcases irB_iff.1 k b c (.inl ⟨hb, hc⟩) (by rw [(jn_isJ hL hb hc).1, h]) with e | e
  · exact h1 e
  · exact h2 e
theorem Ir.more {n : Nat} {ps : List (Int × Int)} {x i j : Nat} (h : Ir n ps x i j) (k : joined n ps i j = x → i = x ∨ j = x) : Ir n ps x i (j + 1) := by
  intro a b hab
  by_cases e : a = i ∧ b = j
  · obtain ⟨rfl, rfl⟩ := e; exact k
  · exact h a b (by omega)
def JndW (n gj : Nat) (A : Option Addr) (k : Nat) (w wr : World) : Prop :=
  wr.cell? ⟨w.heap.size, 0, none⟩ = some (.slice A n k) ∧ wr.cell? ⟨w.heap.size, 1, none⟩ = some (.slice (some ⟨gj, 0, none⟩) n n) ∧ Below w.heap.size w wr

set_option maxHeartbeats 2000000 in
theorem isJoined_any (n : Nat) (ps : List (Int × Int)) (A : Option Addr) (k Bj x gj gm : Nat) (w : World) (hn6 : n ≤ 6) (hL : latB n ps = true) (hj : MatR w Bj (.slice (some ⟨gj, 0, none⟩) n n) n (jn n ps)) (hx : x < n) :
    Calls Tryd.prog 15 #[.agg #[.slice A n k, .slice (some ⟨gj, 0, none⟩) n n, .slice (some ⟨gm, 0, none⟩) n n], .int .i64 x] w fun e w' => e = .returned (.bool (!irB n ps x n 0)) ∧ Below w.heap.size w w' := by
  have hb1 := (Below.refl w.heap.size w).alloc (Nat.le_refl _) (.cells #[.slice A n k, .slice (some ⟨gj, 0, none⟩) n n, .slice (some ⟨gm, 0, none⟩) n n] 39)
  have h3 := three_new w (.slice A n k) (.slice (some ⟨gj, 0, none⟩) n n) (.slice (some ⟨gm, 0, none⟩) n n) 39
  have c0 := h3.c0
  have HW := Lib.hid (show JndW n gj A k w _ from ⟨h3.c0, h3.c1, hb1⟩)
  have HL := Lib.hid hL
  have HJ := Lib.hid hj
  clear hb1 h3 hL hj
  go_enter Tryd.func15, Tryd.ntmps15
  go_wp2
  go_loopw [10] (fun v wr => ∃ i : Nat, v = .int .i64 i ∧ i ≤ n ∧ Ir n ps x i 0 ∧ JndW n gj A k w wr) (fun v _ => n - (intOf v).toNat)
  case atStart => exact ⟨0, rfl, Nat.zero_le _, irB_iff.1 (irB_start n ps x), HW.out⟩
  case round =>
    clear c0 HW
    obtain ⟨i, rfl, hi, hp, hw⟩ := hrel
    have HP := Lib.hid hp
    have HW := Lib.hid hw
    clear hp
    by_cases hlt : i < n
    · have cb := hw.1
      clear hw
      go_wp2
      go_loopw [16] (fun v wr => ∃ j : Nat, v = .int .i64 j ∧ j ≤ n ∧ Ir n ps x i j ∧ JndW n gj A k w wr) (fun v _ => n - (intOf v).toNat)
      case atStart => exact ⟨0, rfl, Nat.zero_le _, HP.out, HW.out⟩
      case round =>
        clear cb HP HW
        obtain ⟨j, rfl, hj, hp, hw⟩ := hrel
        have HP := Lib.hid hp
        have HW := Lib.hid hw
        clear hp
        by_cases hjlt : j < n
        · have cb := hw.1
          have cj := hw.2.1
          obtain ⟨gj', blj, ej, _, _, j1, j2⟩ := HJ.out.below hw.2.2
          obtain rfl : gj = gj' := by simpa using ej
          have d1 := j1 i hlt
          have d2 := j2 i j hlt hjlt
          have HQ := Lib.hid (jn_isJ HL.out hlt hjlt).1
          obtain ⟨y, hy⟩ : ∃ y, y = jn n ps i j := ⟨_, rfl⟩
          have HY := Lib.hid hy
          rw [← hy] at d2
          clear hw j1 j2 ej hy
          by_cases e1 : i = x
          · subst e1
            go_wp2
            go_roundw
            case rel => exact ⟨j + 1, by go_num, by omega, HP.out.more fun _ => .inl rfl, HW.out⟩
            case measure => simp [intOf]; omega
          · have t1 : ((i : Int) != (x : Int)) = true := by rw [bne_iff_ne]; omega
            by_cases e2 : j = x
            · subst e2
              go_wp2
              go_roundw
              case rel => exact ⟨j + 1, by go_num, by omega, HP.out.more fun _ => .inr rfl, HW.out⟩
              case measure => simp [intOf]; omega
            · have t2 : ((j : Int) != (x : Int)) = true := by rw [bne_iff_ne]; omega
              by_cases e3 : y = x
              · have HR := Lib.hid (irB_no HL.out hlt hjlt e1 e2 (by rw [← HY.out]; exact e3))
                have t3 : ((y : Int) == (x : Int)) = true := by rw [beq_iff_eq]; omega
                clear e3
                go_wp2
                go_ret
                exact ⟨ret_bool (by rw [HR.out]; rfl), HW.out.2.2⟩
              · have t3 : ((y : Int) == (x : Int)) = false := by rw [beq_eq_false_iff_ne]; omega
                have HE := Lib.hid e3
                clear e3
                go_wp2
                go_roundw
                case rel => exact ⟨j + 1, by go_num, by omega, HP.out.more fun h => by rw [HQ.out, ← HY.out] at h; exact absurd (by omega) HE.out, HW.out⟩
                case measure => simp [intOf]; omega
        · clear hw
          go_wp2
          go_roundw
          case rel => exact ⟨i + 1, by go_num, by omega, fun a b hab => HP.out a b (by omega), HW.out⟩
          case measure => simp [intOf]; omega
    · obtain rfl : i = n := by omega
      have HR := Lib.hid (irB_iff.2 HP.out)
      clear hw
      go_wp2
      go_ret
      exact ⟨ret_bool (by rw [HR.out]; rfl), HW.out.2.2⟩

/-- The word of all things. -/
def allW (n : Nat) : Nat := wordOf n fun _ => true
theorem least_iff (ps : List (Int × Int)) (x n : Nat) : leastB ps x n = true ↔ ∀ d : Nat, d < n → under ps x d = true := by
  induction n with
  | zero => simp [leastB]
  | succ n ih =>
    rw [leastB, Bool.and_eq_true, ih]
    constructor
    · rintro ⟨h1, h2⟩ d hd
      by_cases e : d = n
      · subst e; exact h2
      · exact h1 d (by omega)
    · exact fun h => ⟨fun d hd => h d (by omega), h n (by omega)⟩
theorem least_all {n : Nat} {ps : List (Int × Int)} {x : Nat} : upT n ps x = allW n ↔ leastB ps x n = true := by
  rw [least_iff]
  constructor
  · intro h d hd
    have h1 : (upT n ps x).testBit d = (allW n).testBit d := by rw [h]
    rw [upT_testBit, allW, testBit_wordOf] at h1
    simpa [hd] using h1
  · intro h
    exact wordOf_congr fun d hd => h d hd

theorem irr1_enters (args : Array Value) (w : World) : (callFunc 13 args).run Tryd.prog w = .ok (.enter 13 args) w := enters_of Tryd.func13 (by kernel_rfl) rfl args w
theorem irr2_enters (args : Array Value) (w : World) : (callFunc 14 args).run Tryd.prog w = .ok (.enter 14 args) w := enters_of Tryd.func14 (by kernel_rfl) rfl args w
set_option maxHeartbeats 400000 in
theorem irr1_any (a : Nat) (w : World) : Calls Tryd.prog 13 #[.int .i64 a] w fun e w' => e = .returned (.bool true) ∧ w' = w := by
  go_enter Tryd.func13, Tryd.ntmps13
  go_wp2
  go_ret
  exact ⟨rfl, rfl⟩

set_option maxHeartbeats 2000000 in
theorem irr2_any (n : Nat) (ps : List (Int × Int)) (g gj gm Bj x p q : Nat) (w : World) (hn6 : n ≤ 6) (hL : latB n ps = true)
    (h3 : Three w p (.slice (some ⟨g, 0, none⟩) n n) (.slice (some ⟨gj, 0, none⟩) n n) (.slice (some ⟨gm, 0, none⟩) n n)) (hq : w.cell? ⟨q, 0, none⟩ = some (.int .u32 (allW n))) (ht : Tab w (some ⟨g, 0, none⟩) n (upT n ps))
    (hj : MatR w Bj (.slice (some ⟨gj, 0, none⟩) n n) n (jn n ps)) (hx : x < n) :
    Calls Tryd.prog 14 #[.int .i64 x, .pointer (some ⟨p, 0, none⟩), .pointer (some ⟨q, 0, none⟩)] w fun e w' => e = .returned (.bool (irrB n ps x)) ∧ Below w.heap.size w w' := by
  have c0 := h3.c0
  have c1 := h3.c1
  have c2 := h3.c2
  obtain ⟨g', off, eg, hcell⟩ := ht.cell (by omega)
  have hcx := hcell x hx
  simp only [Option.some.injEq, Addr.mk.injEq, and_true] at eg
  obtain ⟨rfl, rfl⟩ := eg
  have HL := Lib.hid hL
  have HJ := Lib.hid hj
  clear h3 ht hcell hL hj
  rw [Nat.zero_add] at hcx
  by_cases hu : upT n ps x = allW n
  · have HR := Lib.hid (show irrB n ps x = false by rw [irrB, least_all.1 hu]; simp)
    rw [hu] at hcx
    have hd : ((allW n : Int) != (allW n : Int)) = false := by simp
    clear hu
    go_enter Tryd.func14, Tryd.ntmps14
    go_wp2
    go_quiet (fail)
    go_wp2
    go_ret
    exact ⟨ret_bool HR.out.symm, below_drewN (Below.refl _ _) _⟩
  · have HR := Lib.hid (show irrB n ps x = irB n ps x n 0 by
      rw [irrB]
      have : leastB ps x n = false := by rw [Bool.eq_false_iff]; exact fun h => hu (least_all.2 h)
      rw [this]; simp)
    have hd : (((upT n ps x : Nat) : Int) != (allW n : Int)) = true := by rw [bne_iff_ne]; omega
    clear hu
    go_enter Tryd.func14, Tryd.ntmps14
    go_wp2
    refine wp_region_still_tail 10 (by kernel_rfl) (by kernel_rfl) ?_
    simp only [List.take_succ_cons, List.take_zero, List.drop_succ_cons, List.drop_zero]
    iterate 10 still_step
    refine wpStill_nil ?_
    go_wp2_with fail
    refine (isJoined_any n ps _ n Bj x gj gm w.drew hn6 HL.out HJ.out hx).mono ?_
    rintro e w1 ⟨rfl, hb1⟩
    have HB := Lib.hid (show Below w.heap.size w w1 from (Below.refl w.heap.size w).drew.trans hb1)
    clear hb1
    cases hi : irB n ps x n 0 with
    | true =>
      rw [hi] at HR
      clear hi
      go_wp2
      go_ret
      exact ⟨ret_bool HR.out.symm, HB.out⟩
    | false =>
      rw [hi] at HR
      clear hi
      go_wp2
      go_ret
      exact ⟨ret_bool HR.out.symm, HB.out⟩

set_option maxHeartbeats 2000000 in
theorem Irreducible_ok : IrrOk 5 := by
  intro n ps A c w hm hr hX
  go_enter Tryd.func5, Tryd.ntmps5
  go_wp2_with fail
  refine (read_any n ps A c _ hm hr hX).mono ?_
  rintro e w1 (⟨hcl, g, Vj, Vm, rfl, htab, hmj, hmm, hb1⟩ | ⟨hcl, rfl, hb1⟩)
  · have hc0 : code n ps = 0 := by
      by_cases h : code n ps = 0
      · exact h
      · rw [codeL_err h] at hcl; exact hcl
    obtain ⟨h2, h3, h4⟩ := code_zero hc0
    obtain ⟨n, rfl⟩ := Int.eq_ofNat_of_zero_le (show 0 ≤ n by unfold Large at h2; omega)
    obtain ⟨hn1, hn6, hl⟩ : 1 ≤ n ∧ n ≤ 6 ∧ ps.length ≤ 20 := by unfold Large at h2; omega
    rw [Int.toNat_natCast] at htab hmj hmm
    rw [Int.toNat_natCast]
    obtain ⟨gj, rfl⟩ := hmj.shape
    obtain ⟨gm, rfl⟩ := hmm.shape
    have HCL := Lib.hid hcl
    have HL := Lib.hid (codeL_zero hcl).2
    have hb2 := (Below.refl w1.heap.size w1).alloc (Nat.le_refl _) (.cells #[.slice (some ⟨g, 0, none⟩) n n, .slice (some ⟨gj, 0, none⟩) n n, .slice (some ⟨gm, 0, none⟩) n n] 39)
    have HMj := Lib.hid (hmj.below hb2)
    have HTab := Lib.hid (htab.below hb2)
    have H3 := Lib.hid (three_new w1 (.slice (some ⟨g, 0, none⟩) n n) (.slice (some ⟨gj, 0, none⟩) n n) (.slice (some ⟨gm, 0, none⟩) n n) 39)
    have HB := Lib.hid (hb1.alloc hb1.size (.cells #[.slice (some ⟨g, 0, none⟩) n n, .slice (some ⟨gj, 0, none⟩) n n, .slice (some ⟨gm, 0, none⟩) n n] 39))
    clear hc0 h2 h3 h4 hcl htab hmj hmm hb1 hb2
    go_wp2_with fail
    generalize w1.alloc (.cells #[.slice (some ⟨g, 0, none⟩) n n, .slice (some ⟨gj, 0, none⟩) n n, .slice (some ⟨gm, 0, none⟩) n n] 39) = w2 at *
    have key := choose_any (fun W => W = w2) n 13 #[] (fun _ => true) w2 (by omega) rfl irr1_enters
      (fun a W _ hW => (irr1_any a W).mono fun _ _ ⟨he, hw⟩ => ⟨he, hw.trans hW⟩)
    with_reducible refine key.mono ?_
    rintro e w3 ⟨rfl, rfl⟩
    rw [show wordOf n (fun _ => true) = allW n from rfl]
    have hb4 := (Below.refl w3.heap.size w3).alloc (Nat.le_refl _) (.cells #[.int .u32 (allW n)] 27)
    have hq4 : (w3.alloc (.cells #[.int .u32 (allW n)] 27)).cell? ⟨w3.heap.size, 0, none⟩ = some (.int .u32 (allW n)) := by simp
    have HMj4 := Lib.hid (HMj.out.below hb4)
    have HTab4 := Lib.hid (HTab.out.below hb4)
    have H34 := Lib.hid (H3.out.below hb4)
    have HB4 := Lib.hid (HB.out.trans (hb4.mono HB.out.size))
    have HQ4 := Lib.hid hq4
    clear hb4 hq4 key
    go_wp2_with fail
    generalize w3.alloc (.cells #[.int .u32 (allW n)] 27) = w4 at *
    have key := choose_any (fun W => Below w4.heap.size w4 W) n 14 #[.pointer (some ⟨w1.heap.size, 0, none⟩), .pointer (some ⟨w3.heap.size, 0, none⟩)] (irrB n ps) w4 (by omega) (Below.refl _ _) irr2_enters
      (fun x W hx hW => (irr2_any n ps g gj gm _ x w1.heap.size w3.heap.size W hn6 HL.out (H34.out.below hW) (cell_below hW (block_lt_of_cell HQ4.out) HQ4.out) (HTab4.out.below hW) (HMj4.out.below hW) hx).mono
        fun _ _ ⟨he, hb⟩ => ⟨he, hW.trans (hb.mono hW.size)⟩)
    with_reducible refine key.mono ?_
    rintro e w5 ⟨rfl, hb5⟩
    have HE := Lib.hid (HB4.out.trans (hb5.mono HB4.out.size))
    clear hb5 key
    go_wp2
    go_ret2
    exact ⟨rfl, HE.out⟩
  · have HN := Lib.hid hcl
    have hk2 : (codeL n ps != 0) = true := by simpa using hcl
    have HB := Lib.hid (hb1.alloc hb1.size (.cells #[.slice none 0 0, .slice none 0 0, .slice none 0 0] 39))
    clear hcl hb1
    go_wp2
    all_goals first | exact absurd (by assumption) HN.out | (go_ret2; exact ⟨rfl, HB.out⟩)

end Go.Proofs.YtmlggmopkelcfaaDoor
