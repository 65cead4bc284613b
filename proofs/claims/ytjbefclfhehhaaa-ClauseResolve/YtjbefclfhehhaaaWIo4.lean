/- The refuter of package clause: exclude. -/
import Derived.Test.YtjbefclfhehhaaaWIo3
namespace Go.Proofs.Ytjbefclfhehhaaa
open Go.RowKit
open Go.ChangeMaps (setBlock)

theorem one_dbl (k : Nat) : one (k + 1) = 2 * one k := by unfold one; rw [Nat.pow_succ]; omega
theorem and_bitB (x k : Nat) (hx : x < 4294967296) (hk : k < 32) : (bits .and .u32 (x : Int) (one k : Int) == 0) = !x.testBit k := by
  have := u32_has x k hx hk
  rw [← this]
  simp [bne]

/-- What exclude does, in the world. -/
def ExcPost (w0 : World) (g m : Nat) (l : List Cla) (k s d : Nat) (all : List Cla) (ps : List (Int × Int)) (v : Value) (w : World) (e : Ending) (w' : World) : Prop :=
  ∃ (x y : Nat) (all' : List Cla) (ps' : List (Int × Int)) (v' : Value), e = .returned (.agg #[.int .u32 (x : Int), .int .u32 (y : Int)]) ∧ ExP k s all all' (x, y) ∧ addAll l ps' = some all' ∧ ps'.length + 1 ≤ ps.length + one d ∧
    Rft w0 g m all' all'.length ps' v' w' ∧ Keeps g m v v' w w'

set_option maxHeartbeats 2000000 in
theorem iExclude_any {w0 : World} {g m n : Nat} (l : List Cla) (hn : n ≤ 6) (hl : l.length ≤ 16) (hnone : firstS n l = none) (hfit : FitR n l) :
    ∀ (d : Nat), d ≤ n → ∀ (s : Nat) (all : List Cla) (ps : List (Int × Int)) (v : Value) (w : World), s < one (n - d) → addAll l ps = some all → ps.length + one d ≤ 100 → Rft w0 g m all all.length ps v w →
    Calls Try.prog 25 #[.pointer (some ⟨g, 0, none⟩), .int .i64 ((n - d : Nat) : Int), .int .u32 (s : Int)] w (ExcPost w0 g m l (n - d) s d all ps v w) := by
  intro d
  induction d with
  | zero =>
    intro _ s all ps v w hs hadd hlen hB
    have h64 := one_le_64 hn
    rw [Nat.sub_zero] at *
    have hB1 := hB.grow ((Below.refl _ _).alloc (Nat.le_refl _) (.cells #[.int .u32 0, .int .u32 0] 32))
    have hb1 := (Below.refl w.heap.size w).alloc (Nat.le_refl _) (.cells #[.int .u32 0, .int .u32 0] 32)
    have hz := heap_alloc_new w (.cells #[.int .u32 0, .int .u32 0] 32)
    have hfind := iFind_any n s _ hn (by omega) hB1
    have hfar := hB.far (Nat.le_refl _)
    have HE := Lib.hid (show ∃ c ∈ all, OutC n s c by
      obtain ⟨c, h1, h2⟩ := excl_base hnone hfit hs
      obtain ⟨der, rfl⟩ := addAll_pre hadd
      exact ⟨c, List.mem_append_left _ h1, h2⟩)
    have HA := Lib.hid hadd
    clear hadd hB1
    go_enter Try.func25, Try.ntmps25
    go_wp2_with fail
    refine hfind.mono ?_
    rintro e w1 ⟨hF, hB2, hb2⟩
    rcases hF with ⟨x, y, rfl, hO, hin⟩ | ⟨rfl, hno⟩
    · have hz2 := blk_alloc (blk_keep hb2 hz) (.cells #[.int .u32 (x : Int), .int .u32 (y : Int)] 32)
      have hbel := (hb1.trans (hb2.mono hb1.size))
      have hb3 := hbel.alloc hbel.size (.cells #[.int .u32 (x : Int), .int .u32 (y : Int)] 32)
      have HB3 := Lib.hid (hB2.grow ((Below.refl _ _).alloc (Nat.le_refl _) (.cells #[.int .u32 (x : Int), .int .u32 (y : Int)] 32)))
      obtain ⟨d0, d1⟩ := two_cells (heap_alloc_new w1 (.cells #[.int .u32 (x : Int), .int .u32 (y : Int)] 32))
      have f0 : (w1.alloc (.cells #[.int .u32 (x : Int), .int .u32 (y : Int)] 32)).frozen? ⟨w.heap.size, 0, none⟩ = false := by simp [World.frozen?, hz2]
      have f1 : (w1.alloc (.cells #[.int .u32 (x : Int), .int .u32 (y : Int)] 32)).frozen? ⟨w.heap.size, 1, none⟩ = false := by simp [World.frozen?, hz2]
      have z0 := (two_cells hz2).1
      have z1 := (two_cells hz2).2
      have R := Lib.hid (two_cells (twoC_setCell (u := .int .u32 (x : Int)) (v := .int .u32 (y : Int)) hz2))
      have HX := Lib.hid (ExP.found hO hin)
      clear hfind hz hz2 hB2 hb2 hb1 hbel hO hin HE
      go_wp2
      refine bodyPost_ret (v := .agg #[.int .u32 (x : Int), .int .u32 (y : Int)]) (by simp [results, Try.results25, go_sem, R.out.1, R.out.2]) rfl ?_
      exact ⟨x, y, all, ps, v, rfl, HX.out, HA.out, Nat.le_refl _, (HB3.out.aside _ hfar.1 hfar.2.1 hfar.2.2.1 hfar.2.2.2).aside _ hfar.1 hfar.2.1 hfar.2.2.1 hfar.2.2.2, ((Keeps.below hb3).set _ (.inr (Nat.le_refl _))).set _ (.inr (Nat.le_refl _))⟩
    · obtain ⟨c, h1, h2⟩ := HE.out
      exact absurd h2 (hno c h1)
  | succ d ih =>
    intro hd s all ps v w hs hadd hlen hB
    have h64 := one_le_64 hn
    obtain ⟨k, hk⟩ : ∃ k, k = n - (d + 1) := ⟨_, rfl⟩
    have hkd : n - d = k + 1 := by omega
    have hkn : k < n := by omega
    rw [← hk] at hs ⊢
    have hd1 := one_dbl d
    have hd2 := one_pos d
    have h1k := one_int k (by omega)
    have hk64 : one k < 64 := Nat.lt_of_lt_of_le (one_lt_one hkn) h64
    have hor : s ||| one k < one (k + 1) := or_lt_one (by rw [one_dbl]; omega) (by rw [one_dbl]; have := one_pos k; omega)
    have hk1 : one (k + 1) ≤ 64 := one_le_64 (by omega)
    have hor2 := u32_or_nat s (one k) (by omega) (by omega)
    have hB1 := hB.grow ((Below.refl _ _).alloc (Nat.le_refl _) (.cells #[.int .u32 0, .int .u32 0] 32))
    have hb1 := (Below.refl w.heap.size w).alloc (Nat.le_refl _) (.cells #[.int .u32 0, .int .u32 0] 32)
    have hz := heap_alloc_new w (.cells #[.int .u32 0, .int .u32 0] 32)
    have hfind := iFind_any k s _ (by omega) (by omega) hB1
    have hfar := hB.far (Nat.le_refl _)
    have HA := Lib.hid hadd
    rw [hkd, show ((k + 1 : Nat) : Int) = (k : Int) + 1 by omega] at ih
    have ih2 := fun s all ps v w h1 h2 h3 h4 => ih (by omega) s all ps v w h1 h2 h3 h4
    have HD1 := Lib.hid hd1
    clear hadd hB1 ih hd1 hk hkd
    go_enter Try.func25, Try.ntmps25
    go_wp2_with fail
    refine hfind.mono ?_
    rintro e w1 ⟨hF, hB2, hb2⟩
    rcases hF with ⟨x, y, rfl, hO, hin⟩ | ⟨rfl, hno⟩
    · have hz2 := blk_alloc (blk_keep hb2 hz) (.cells #[.int .u32 (x : Int), .int .u32 (y : Int)] 32)
      have hbel := (hb1.trans (hb2.mono hb1.size))
      have hb3 := hbel.alloc hbel.size (.cells #[.int .u32 (x : Int), .int .u32 (y : Int)] 32)
      have HB3 := Lib.hid (hB2.grow ((Below.refl _ _).alloc (Nat.le_refl _) (.cells #[.int .u32 (x : Int), .int .u32 (y : Int)] 32)))
      obtain ⟨d0, d1⟩ := two_cells (heap_alloc_new w1 (.cells #[.int .u32 (x : Int), .int .u32 (y : Int)] 32))
      have f0 : (w1.alloc (.cells #[.int .u32 (x : Int), .int .u32 (y : Int)] 32)).frozen? ⟨w.heap.size, 0, none⟩ = false := by simp [World.frozen?, hz2]
      have f1 : (w1.alloc (.cells #[.int .u32 (x : Int), .int .u32 (y : Int)] 32)).frozen? ⟨w.heap.size, 1, none⟩ = false := by simp [World.frozen?, hz2]
      have z0 := (two_cells hz2).1
      have z1 := (two_cells hz2).2
      have R := Lib.hid (two_cells (twoC_setCell (u := .int .u32 (x : Int)) (v := .int .u32 (y : Int)) hz2))
      have HX := Lib.hid (ExP.found hO hin)
      clear hfind hz hz2 hB2 hb2 hb1 hbel hO hin ih2
      go_wp2
      refine bodyPost_ret (v := .agg #[.int .u32 (x : Int), .int .u32 (y : Int)]) (by simp [results, Try.results25, go_sem, R.out.1, R.out.2]) rfl ?_
      exact ⟨x, y, all, ps, v, rfl, HX.out, HA.out, by have := HD1.out; omega, (HB3.out.aside _ hfar.1 hfar.2.1 hfar.2.2.1 hfar.2.2.2).aside _ hfar.1 hfar.2.1 hfar.2.2.1 hfar.2.2.2, ((Keeps.below hb3).set _ (.inr (Nat.le_refl _))).set _ (.inr (Nat.le_refl _))⟩
    · have HNo := Lib.hid hno
      have hbel := hb1.trans (hb2.mono hb1.size)
      have hb3 := hbel.alloc hbel.size (.cells #[.int .u32 0, .int .u32 0] 32)
      have hB3 := hB2.grow ((Below.refl _ _).alloc (Nat.le_refl _) (.cells #[.int .u32 0, .int .u32 0] 32))
      have HZ3 := Lib.hid (blk_alloc (blk_keep hb2 hz) (.cells #[.int .u32 0, .int .u32 0] 32))
      have call1 := ih2 s all ps v _ (by rw [one_dbl]; omega) HA.out (by have := HD1.out; omega) hB3
      have HP3 := Lib.hid (show Keeps g m v v w _ from Keeps.below hb3)
      have HSz := Lib.hid (show w.heap.size < (w1.alloc (.cells #[.int .u32 0, .int .u32 0] 32)).heap.size from lt_of_block HZ3.out)
      clear hfind hz hB2 hb2 hb1 hbel hno hB3 hb3
      go_wp2_with fail
      generalize w1.alloc (.cells #[.int .u32 0, .int .u32 0] 32) = w2 at *
      rw [h1k]
      refine call1.mono ?_
      rintro e w3 ⟨a1, a2, all1, ps1, v1, rfl, hE1, hA1, hl1, hB3, hK3⟩
      clear call1 h1k
      have hlen1 := addAll_len hA1
      have hoa := hE1.1.1
      have ha1 : a1 < 4294967296 := by have := hoa.1; simp only at this; omega
      have ha2 : a2 < 4294967296 := by have := hoa.2; simp only at this; omega
      have hz3 : w3.heap[w.heap.size]? = some (.cells #[.int .u32 0, .int .u32 0] 32 (0, 0)) := (hK3.2.1 _ HSz.out hfar.2.1 hfar.2.2.1 hfar.2.2.2).trans HZ3.out
      have HZ4 := Lib.hid (blk_alloc hz3 (.cells #[.int .u32 (a1 : Int), .int .u32 (a2 : Int)] 32))
      have hb4 := (Below.refl w3.heap.size w3).alloc (Nat.le_refl _) (.cells #[.int .u32 (a1 : Int), .int .u32 (a2 : Int)] 32)
      have HB4 := Lib.hid (hB3.grow hb4)
      have HP4 := Lib.hid ((HP3.out.trans hK3).trans (Keeps.below hb4))
      have HW4 := Lib.hid (heap_alloc_new w3 (.cells #[.int .u32 (a1 : Int), .int .u32 (a2 : Int)] 32))
      have hv1 : v1.ownBlock ≠ some w.heap.size := fun e => by
        rcases hK3.2.2 _ e with h | h
        · exact hfar.2.2.2 h
        · have := HSz.out; omega
      have HSz3 := Lib.hid (show w.heap.size < w3.heap.size from lt_of_block hz3)
      have hfar3 := hB3.far (Nat.le_refl _)
      have HE1 := Lib.hid hE1
      have HA1 := Lib.hid hA1
      have HL1 := Lib.hid hl1
      have HLen1 := Lib.hid hlen1
      obtain ⟨d0, d1⟩ := two_cells HW4.out
      clear hz3 hb4 hB3 hK3 hoa hE1 hA1 hl1 hlen1 HZ3 HP3 HSz
      have hbit := and_bitB a1 k ha1 (by omega)
      cases ht1 : a1.testBit k with
      | false =>
        rw [ht1, Bool.not_false] at hbit
        have HX := Lib.hid (HE1.out.left hs ht1)
        clear ht1 ih2
        have f0 : (w3.alloc (.cells #[.int .u32 (a1 : Int), .int .u32 (a2 : Int)] 32)).frozen? ⟨w.heap.size, 0, none⟩ = false := by simp [World.frozen?, HZ4.out]
        have f1 : (w3.alloc (.cells #[.int .u32 (a1 : Int), .int .u32 (a2 : Int)] 32)).frozen? ⟨w.heap.size, 1, none⟩ = false := by simp [World.frozen?, HZ4.out]
        obtain ⟨z0, z1⟩ := two_cells HZ4.out
        have R := Lib.hid (two_cells (twoC_setCell (u := .int .u32 (a1 : Int)) (v := .int .u32 (a2 : Int)) HZ4.out))
        go_wp2
        refine bodyPost_ret (v := .agg #[.int .u32 (a1 : Int), .int .u32 (a2 : Int)]) (by simp [results, Try.results25, go_sem, R.out.1, R.out.2]) rfl ?_
        exact ⟨a1, a2, all1, ps1, v1, rfl, HX.out, HA1.out, by have := HD1.out; have := HL1.out; omega, (HB4.out.aside _ hfar.1 hfar.2.1 hfar.2.2.1 hv1).aside _ hfar.1 hfar.2.1 hfar.2.2.1 hv1, (HP4.out.set _ (.inr (Nat.le_refl _))).set _ (.inr (Nat.le_refl _))⟩
      | true =>
        rw [ht1, Bool.not_true] at hbit
        have HT1 := Lib.hid ht1
        clear ht1
        have call2 := ih2 (s ||| one k) all1 ps1 v1 _ hor HA1.out (by have := HD1.out; have := HL1.out; omega) HB4.out
        clear ih2
        go_wp2_with fail
        generalize w3.alloc (.cells #[.int .u32 (a1 : Int), .int .u32 (a2 : Int)] 32) = w4 at *
        refine call2.mono ?_
        rintro e w5 ⟨b1, b2, all2, ps2, v2, rfl, hE2, hA2, hl2, hB5, hK5⟩
        clear call2
        have hlen2 := addAll_len hA2
        have hob := hE2.1.1
        have hb1 : b1 < 4294967296 := by have := hob.1; simp only at this; omega
        have hb2 : b2 < 4294967296 := by have := hob.2; simp only at this; omega
        have hs4 : w3.heap.size < w4.heap.size := lt_of_block HW4.out
        have HS4 := Lib.hid hs4
        have hz5 : w5.heap[w.heap.size]? = some (.cells #[.int .u32 0, .int .u32 0] 32 (0, 0)) := (hK5.2.1 _ (by have := HSz3.out; omega) hfar.2.1 hfar.2.2.1 hv1).trans HZ4.out
        have hw5 : w5.heap[w3.heap.size]? = some (.cells #[.int .u32 (a1 : Int), .int .u32 (a2 : Int)] 32 (0, 0)) := (hK5.2.1 _ hs4 hfar3.2.1 hfar3.2.2.1 hfar3.2.2.2).trans HW4.out
        have HZ6 := Lib.hid (blk_alloc hz5 (.cells #[.int .u32 (b1 : Int), .int .u32 (b2 : Int)] 32))
        have HV6 := Lib.hid (blk_alloc hw5 (.cells #[.int .u32 (b1 : Int), .int .u32 (b2 : Int)] 32))
        have hb6 := (Below.refl w5.heap.size w5).alloc (Nat.le_refl _) (.cells #[.int .u32 (b1 : Int), .int .u32 (b2 : Int)] 32)
        have HB6 := Lib.hid (hB5.grow hb6)
        have HP6 := Lib.hid ((HP4.out.trans hK5).trans (Keeps.below hb6))
        have HW6 := Lib.hid (heap_alloc_new w5 (.cells #[.int .u32 (b1 : Int), .int .u32 (b2 : Int)] 32))
        have hv2 : v2.ownBlock ≠ some w.heap.size := fun e => by
          rcases hK5.2.2 _ e with h | h
          · exact hv1 h
          · have := HSz3.out; omega
        have HE2 := Lib.hid hE2
        have HA2 := Lib.hid hA2
        have HL2 := Lib.hid hl2
        have HLen2 := Lib.hid hlen2
        obtain ⟨p0, p1⟩ := two_cells HV6.out
        obtain ⟨q0, q1⟩ := two_cells HW6.out
        clear hz5 hw5 hb6 hB5 hK5 hob hE2 hA2 hl2 hlen2 HZ4 HB4 HP4 HW4 d0 d1 hs4 HS4
        have hbit2 := and_bitB b2 k hb2 (by omega)
        cases ht2 : b2.testBit k with
        | false =>
          rw [ht2, Bool.not_false] at hbit2
          have HX := Lib.hid (ExP.right HE1.out HT1.out HE2.out ht2 HNo.out)
          clear ht2
          have f0 : (w5.alloc (.cells #[.int .u32 (b1 : Int), .int .u32 (b2 : Int)] 32)).frozen? ⟨w.heap.size, 0, none⟩ = false := by simp [World.frozen?, HZ6.out]
          have f1 : (w5.alloc (.cells #[.int .u32 (b1 : Int), .int .u32 (b2 : Int)] 32)).frozen? ⟨w.heap.size, 1, none⟩ = false := by simp [World.frozen?, HZ6.out]
          obtain ⟨z0, z1⟩ := two_cells HZ6.out
          have R := Lib.hid (two_cells (twoC_setCell (u := .int .u32 (b1 : Int)) (v := .int .u32 (b2 : Int)) HZ6.out))
          go_wp2
          refine bodyPost_ret (v := .agg #[.int .u32 (b1 : Int), .int .u32 (b2 : Int)]) (by simp [results, Try.results25, go_sem, R.out.1, R.out.2]) rfl ?_
          exact ⟨b1, b2, all2, ps2, v2, rfl, HX.out, HA2.out, by have := HD1.out; have := HL1.out; have := HL2.out; omega, (HB6.out.aside _ hfar.1 hfar.2.1 hfar.2.2.1 hv2).aside _ hfar.1 hfar.2.1 hfar.2.2.1 hv2, (HP6.out.set _ (.inr (Nat.le_refl _))).set _ (.inr (Nat.le_refl _))⟩
        | true =>
          rw [ht2, Bool.not_true] at hbit2
          obtain ⟨hres, hO⟩ := out_res (by omega) HE1.out.1 HE2.out.1 hs HT1.out ht2 ha1 hb2
          obtain ⟨hX, hnin, hia, hib⟩ := ExP.res HE1.out HT1.out HE2.out ht2 HNo.out hO
          have call3 := iResolve_any (a1, a2) (b1, b2) k _ (by omega) ⟨ha1, ha2⟩ ⟨hb1, hb2⟩ HB6.out hia hib hnin (by have := HD1.out; have := HL1.out; have := HL2.out; omega) (by have := HD1.out; have := HL1.out; have := HL2.out; have := HLen2.out; omega)
          unfold clV at call3
          simp only at call3
          have HR := Lib.hid hres
          have HX := Lib.hid hX
          clear ht2 hres hO hX hnin hia hib
          go_wp2_with fail
          generalize w5.alloc (.cells #[.int .u32 (b1 : Int), .int .u32 (b2 : Int)] 32) = w6 at *
          refine call3.mono ?_
          rintro e w7 ⟨rfl, i, j, v3, hi, hj, hB7, hK7⟩
          clear call3
          have HA3 := Lib.hid (addAll_more HA2.out hi hj HR.out)
          have HB7 := Lib.hid (show Rft w0 g m (all2 ++ [resV (a1, a2) (b1, b2) k]) (all2 ++ [resV (a1, a2) (b1, b2) k]).length (ps2 ++ [((i : Int), (j : Int))]) v3 w7 by rw [List.length_append]; exact hB7)
          have hz7 : w7.heap[w.heap.size]? = some (.cells #[.int .u32 0, .int .u32 0] 32 (0, 0)) := (hK7.2.1 _ (lt_of_block HZ6.out) hfar.2.1 hfar.2.2.1 hv2).trans HZ6.out
          have hv3 : v3.ownBlock ≠ some w.heap.size := fun e => by
            rcases hK7.2.2 _ e with h | h
            · exact hv2 h
            · have := lt_of_block HZ6.out; omega
          have HP7 := Lib.hid (HP6.out.trans hK7)
          obtain ⟨c1, hc1⟩ : ∃ c1, c1 = (resV (a1, a2) (b1, b2) k).1 := ⟨_, rfl⟩
          obtain ⟨c2, hc2⟩ : ∃ c2, c2 = (resV (a1, a2) (b1, b2) k).2 := ⟨_, rfl⟩
          rw [show resV (a1, a2) (b1, b2) k = (c1, c2) by rw [hc1, hc2]] at HX HA3 HB7
          rw [← hc1, ← hc2]
          clear hi hj hB7 hK7 HR hc1 hc2
          have f0 : w7.frozen? ⟨w.heap.size, 0, none⟩ = false := by simp [World.frozen?, hz7]
          have f1 : w7.frozen? ⟨w.heap.size, 1, none⟩ = false := by simp [World.frozen?, hz7]
          obtain ⟨z0, z1⟩ := two_cells hz7
          have R := Lib.hid (two_cells (twoC_setCell (u := .int .u32 (c1 : Int)) (v := .int .u32 (c2 : Int)) hz7))
          clear hz7
          go_wp2
          refine bodyPost_ret (v := .agg #[.int .u32 (c1 : Int), .int .u32 (c2 : Int)]) (by simp [results, Try.results25, go_sem, R.out.1, R.out.2]) rfl ?_
          exact ⟨c1, c2, _, _, v3, rfl, HX.out, HA3.out, by have := HD1.out; have := HL1.out; have := HL2.out; simp only [List.length_append, List.length_singleton]; omega, (HB7.out.aside _ hfar.1 hfar.2.1 hfar.2.2.1 hv3).aside _ hfar.1 hfar.2.1 hfar.2.2.1 hv3, (HP7.out.set _ (.inr (Nat.le_refl _))).set _ (.inr (Nat.le_refl _))⟩

end Go.Proofs.Ytjbefclfhehhaaa
