/- mark.join, under, checkDeed, own. -/
import Derived.Test.YtdiaglaokgehbaaMSpec
import Derived.Test.YtdiaglaokgehbaaWLo
import Derived.Test.YtdiaglaokgehbaaOwn
import Derived.Test.YtdiaglaokgehbaaRm
import Derived.Test.YtdiaglaokgehbaaWSl
namespace Go.Proofs.Ytdiaglaokgehbaa
open Go.RowKit

set_option maxHeartbeats 1000000 in
theorem mJoin_any (l1 l2 : Int) (p1 p2 : Nat) (w : World) (ha : LabOk (l1, p1)) (hb : LabOk (l2, p2)) :
    Calls Try.prog 36 #[.agg #[.int .i64 l1, .int .u32 p1], .agg #[.int .i64 l2, .int .u32 p2]] w fun e w' => e = .returned (labV (joinL (l1, p1) (l2, p2))) ∧ Below w.heap.size w w' := by
  have hT := twoBox (l1, p1) (l2, p2) w
  have hT3 := hT.three
  simp only at hT3
  obtain ⟨a0, b0, z0, hbel⟩ := hT3
  have h1 := ha.2.2
  have h2 := hb.2.2
  simp only at h1 h2
  obtain ⟨lj, pj, hj⟩ : ∃ lj pj, joinL (l1, p1) (l2, p2) = (lj, pj) := ⟨_, _, rfl⟩
  have kA := fun W => lJoin_any l1 l2 p1 p2 W (by omega) (by omega)
  rw [codeLL_ok ha hb, if_pos rfl, hj] at kA
  rw [hj]
  simp only [labV] at kA ⊢
  generalize hw3 : (((w.alloc (.cells #[.int .i64 l1, .int .u32 (p1 : Int)] 40)).alloc (.cells #[.int .i64 l2, .int .u32 (p2 : Int)] 40)).alloc (.cells #[.int .i64 0, .int .u32 0] 40)) = w3 at *
  have HZ := Lib.hid z0
  obtain ⟨ca0, ca1⟩ := ltwo_cells a0
  obtain ⟨cb0, cb1⟩ := ltwo_cells b0
  clear hT a0 b0 z0 hj ha hb
  go_enter Try.func36, Try.ntmps36
  go_wp2_with fail
  refine (kA _).mono ?_
  rintro e w4 ⟨rfl, hb4⟩
  have z4 := lblk_alloc (lblk_keep hb4 HZ.out) (.cells #[.int .i64 lj, .int .u32 (pj : Int)] 40)
  have f0 : (w4.alloc (.cells #[.int .i64 lj, .int .u32 (pj : Int)] 40)).frozen? ⟨w.heap.size + 1 + 1, 0, none⟩ = false := by unfold World.frozen?; rw [z4]; simp
  have f1 : (w4.alloc (.cells #[.int .i64 lj, .int .u32 (pj : Int)] 40)).frozen? ⟨w.heap.size + 1 + 1, 1, none⟩ = false := by unfold World.frozen?; rw [z4]; simp
  obtain ⟨dz0, dz1⟩ := ltwo_cells z4
  obtain ⟨n0, n1⟩ := ltwo_cells (heap_alloc_new w4 (.cells #[.int .i64 lj, .int .u32 (pj : Int)] 40))
  have HF := Lib.hid (ltwo_cells (ltwo_set1 (u := .int .u32 (pj : Int)) (ltwo_set0 (u := .int .i64 lj) z4)))
  have hbq := (hbel.trans (hb4.mono hbel.size))
  have hb5 := Lib.hid (((hbq.alloc hbq.size (.cells #[.int .i64 lj, .int .u32 (pj : Int)] 40)).setCell (p := ⟨w.heap.size + 1 + 1, 0, none⟩) (by simp; omega) (.int .i64 lj)).setCell (p := ⟨w.heap.size + 1 + 1, 1, none⟩) (by simp; omega) (.int .u32 (pj : Int)))
  clear hb4 hbel hbq z4
  go_wp2
  refine bodyPost_ret (v := .agg #[.int .i64 lj, .int .u32 (pj : Int)]) (by simp [results, Try.results36, go_sem, HF.out.1, HF.out.2]) rfl ?_
  exact ⟨rfl, hb5.out⟩

set_option maxHeartbeats 1000000 in
theorem mUnder_any (l1 l2 : Int) (p1 p2 : Nat) (w : World) (ha : LabOk (l1, p1)) (hb : LabOk (l2, p2)) :
    Calls Try.prog 37 #[.agg #[.int .i64 l1, .int .u32 p1], .agg #[.int .i64 l2, .int .u32 p2]] w fun e w' => e = .returned (.bool (underL (l1, p1) (l2, p2))) ∧ Below w.heap.size w w' := by
  have hT := twoBox (l1, p1) (l2, p2) w
  obtain ⟨a0, a1⟩ := hT.atA
  obtain ⟨b0, b1⟩ := hT.atB
  have hbel := hT.bel
  have h1 := ha.2.2
  have h2 := hb.2.2
  simp only at h1 h2 a0 a1 b0 b1 hbel
  have kA := fun W => lUnder_any l1 l2 p1 p2 W (by omega) (by omega)
  rw [codeLL_ok ha hb, show (((0 : Int) == 0) && underL (l1, p1) (l2, p2)) = underL (l1, p1) (l2, p2) from rfl] at kA
  generalize underL (l1, p1) (l2, p2) = u at *
  clear hT ha hb
  go_enter Try.func37, Try.ntmps37
  go_wp2_with fail
  refine (kA _).mono ?_
  rintro e w4 ⟨rfl, hb4⟩
  have hb5 := Lib.hid (hbel.trans (hb4.mono hbel.size))
  clear hb4 hbel
  go_wp2
  go_ret
  exact ⟨rfl, hb5.out⟩

/-- The code of a deed of which it is not yet asked whether it is denied. -/
def codeD (nc nt : Nat) (d : Dd) : Int := if d.kind < 1 ∨ 3 < d.kind then 6 else if ArgBad nc nt d then 2 else 0
theorem ddBox (w : World) (d : Dd) : (w.alloc (.cells #[.int .i64 d.kind, .int .i64 d.who, .int .i64 d.tgt, .int .i64 d.lev, .int .u32 (d.parts : Int), .int .i64 d.val] 62)).cell? ⟨w.heap.size, 0, none⟩ = some (.int .i64 d.kind) ∧
    (w.alloc (.cells #[.int .i64 d.kind, .int .i64 d.who, .int .i64 d.tgt, .int .i64 d.lev, .int .u32 (d.parts : Int), .int .i64 d.val] 62)).cell? ⟨w.heap.size, 1, none⟩ = some (.int .i64 d.who) ∧
    (w.alloc (.cells #[.int .i64 d.kind, .int .i64 d.who, .int .i64 d.tgt, .int .i64 d.lev, .int .u32 (d.parts : Int), .int .i64 d.val] 62)).cell? ⟨w.heap.size, 2, none⟩ = some (.int .i64 d.tgt) := by
  have h := heap_alloc_new w (.cells #[.int .i64 d.kind, .int .i64 d.who, .int .i64 d.tgt, .int .i64 d.lev, .int .u32 (d.parts : Int), .int .i64 d.val] 62)
  refine ⟨?_, ?_, ?_⟩ <;> (unfold World.cell?; simp only [h]; rfl)

/-- The code of a deed whose kind must be one of these. -/
def codeK (ks : List Int) (nc nt : Nat) (d : Dd) : Int := if d.kind ∈ ks then (if ArgBad nc nt d then 2 else 0) else 6
theorem codeK_all (nc nt : Nat) (d : Dd) : codeK [1, 2, 3] nc nt d = codeD nc nt d := by
  unfold codeK codeD
  by_cases h : d.kind < 1 ∨ 3 < d.kind
  · rw [if_pos h, if_neg (by simp; omega)]
  · rw [if_neg h, if_pos (by simp; omega)]

set_option maxHeartbeats 2000000 in
theorem mDeed_any (ks : List Int) (AK : Option Addr) (cK : Nat) (hks : ks.length ≤ 1000000) (nc nt : Nat) (kind who tgt lev : Int) (parts : Nat) (val : Int) (w : World) (hrk : Row w AK (ints ks)) :
    Calls Try.prog 58 #[.int .i64 nc, .int .i64 nt, .slice AK ks.length cK, .agg #[.int .i64 kind, .int .i64 who, .int .i64 tgt, .int .i64 lev, .int .u32 parts, .int .i64 val]] w fun e w' => e = .returned (.int .i64 (codeK ks nc nt ⟨kind, who, tgt, lev, parts, val⟩)) ∧ Below w.heap.size w w' := by
  obtain ⟨c0, c1, c2⟩ := ddBox w ⟨kind, who, tgt, lev, parts, val⟩
  simp only at c0 c1 c2
  have HB := Lib.hid ((Below.refl w.heap.size w).alloc (Nat.le_refl _) (.cells #[.int .i64 kind, .int .i64 who, .int .i64 tgt, .int .i64 lev, .int .u32 (parts : Int), .int .i64 val] 62))
  have KC := Lib.hid (slContains_any ks AK cK kind _ (hrk.below HB.out) hks)
  clear hrk
  by_cases hk : kind ∈ ks
  · have HC := Lib.hid (show codeK ks nc nt ⟨kind, who, tgt, lev, parts, val⟩ = if ArgBad nc nt ⟨kind, who, tgt, lev, parts, val⟩ then 2 else 0 from if_pos hk)
    rw [decide_eq_true hk] at KC
    clear hk
    by_cases hw0 : who < 0
    · rw [if_pos (by unfold ArgBad; simp only; omega)] at HC
      go_enter Try.func58, Try.ntmps58
      go_wp2_with fail
      generalize w.alloc _ = w1 at *
      refine KC.out.mono ?_
      rintro e w2 ⟨rfl, rfl⟩
      go_wp2
      go_ret
      exact ⟨ret_int HC.out.symm, HB.out⟩
    · by_cases hw1 : (nc : Int) ≤ who
      · rw [if_pos (by unfold ArgBad; simp only; omega)] at HC
        go_enter Try.func58, Try.ntmps58
        go_wp2_with fail
        generalize w.alloc _ = w1 at *
        refine KC.out.mono ?_
        rintro e w2 ⟨rfl, rfl⟩
        go_wp2
        go_ret
        exact ⟨ret_int HC.out.symm, HB.out⟩
      · by_cases hk3 : kind = 3
        · rw [if_neg (by unfold ArgBad; simp only; omega)] at HC
          have h3 : (kind != 3) = false := by simpa using hk3
          clear hk3
          go_enter Try.func58, Try.ntmps58
          go_wp2_with fail
          generalize w.alloc _ = w1 at *
          refine KC.out.mono ?_
          rintro e w2 ⟨rfl, rfl⟩
          go_wp2
          go_ret
          exact ⟨ret_int HC.out.symm, HB.out⟩
        · have h3 : (kind != 3) = true := by simpa using hk3
          by_cases ht0 : tgt < 0
          · rw [if_pos (by unfold ArgBad; simp only; omega)] at HC
            clear hk3
            go_enter Try.func58, Try.ntmps58
            go_wp2_with fail
            generalize w.alloc _ = w1 at *
            refine KC.out.mono ?_
            rintro e w2 ⟨rfl, rfl⟩
            go_wp2
            go_ret
            exact ⟨ret_int HC.out.symm, HB.out⟩
          · by_cases ht1 : (nt : Int) ≤ tgt
            · rw [if_pos (by unfold ArgBad; simp only; omega)] at HC
              clear hk3
              go_enter Try.func58, Try.ntmps58
              go_wp2_with fail
              generalize w.alloc _ = w1 at *
              refine KC.out.mono ?_
              rintro e w2 ⟨rfl, rfl⟩
              go_wp2
              go_ret
              exact ⟨ret_int HC.out.symm, HB.out⟩
            · rw [if_neg (by unfold ArgBad; simp only; omega)] at HC
              clear hk3
              go_enter Try.func58, Try.ntmps58
              go_wp2_with fail
              generalize w.alloc _ = w1 at *
              refine KC.out.mono ?_
              rintro e w2 ⟨rfl, rfl⟩
              go_wp2
              go_ret
              exact ⟨ret_int HC.out.symm, HB.out⟩
  · have HC := Lib.hid (show codeK ks nc nt ⟨kind, who, tgt, lev, parts, val⟩ = 6 from if_neg hk)
    rw [decide_eq_false hk] at KC
    clear hk
    go_enter Try.func58, Try.ntmps58
    go_wp2_with fail
    generalize w.alloc _ = w1 at *
    refine KC.out.mono ?_
    rintro e w2 ⟨rfl, rfl⟩
    go_wp2
    go_ret
    exact ⟨ret_int HC.out.symm, HB.out⟩

set_option maxHeartbeats 1000000 in
theorem mOwn_any (n : Nat) (hn : n ≤ 8) (w : World) :
    Calls Try.prog 57 #[.int .i64 n] w fun e w' => ∃ A c, e = .returned (.slice A n c) ∧ RowsM w [⟨38, 1, .slice A n c, n, words (tabA n one)⟩] w' := by
  obtain ⟨i0, hi, hz0, hz1, hz2⟩ := info_parts info29
  have HI := Lib.hid (And.intro hi (And.intro hz0 (And.intro hz1 hz2)))
  clear hi hz0 hz1 hz2
  go_enter Try.func57, Try.ntmps57
  go_wp2
  go_loopw [3, 6] (fun sv v wr => ∃ (a : Nat) (A : Option Addr) (c : Nat), v = .int .i64 a ∧ a ≤ n ∧ sv = .slice A a c ∧ RowsM w [⟨38, 1, .slice A a c, a, words (tabA a one)⟩] wr) (fun _ v _ => n - (intOf v).toNat)
  case atStart => exact ⟨0, none, 0, rfl, Nat.zero_le _, rfl, (RowsM.nil w).newNil 38 1⟩
  case round =>
    obtain ⟨a, A, c, rfl, ha, rfl, hM⟩ := hrel
    have HM := Lib.hid hM
    by_cases hlt : a < n
    · have hab : (a : Int) < n := by omega
      have h1 := one_int a (by omega)
      have HMA := Lib.hid (show RowsM w [⟨38, 1, .slice A a c, a, words (tabA a one)⟩] (wr.alloc (.cells #[.int .u32 (one a : Nat)] 38)) from hM.grow ((Below.refl _ _).alloc (Nat.le_refl _) _))
      clear hM
      go_wp2_with (at_builtin; refine wpList_append_rm rfl _ _ 25 rfl 0 38 1 a _ (words (tabA a one)) HMA.out rfl i0 (.int .u32 0) 4 Try.underlying25 HI.out.1 HI.out.2.1 HI.out.2.2.1 HI.out.2.2.2 rfl (by decide) rfl ⟨wr.heap.size, 0, none⟩ 1 1 [.int .u32 (one a : Nat)] rfl rfl ?qnews ?qone ?q63 ?qby ?qnext)
      case qnews => exact cell_one_new _ _ _
      case qone => intro u hu; simp only [List.mem_cons, List.not_mem_nil, or_false] at hu; rcases hu with rfl; rfl
      case q63 => unfold maxLen; omega
      case qby => omega
      case qnext =>
        intro A9 c9 w9 hn9
        have HN := Lib.hid (show RowsM w [⟨38, 1, .slice A9 (a + 1) c9, a + 1, words (tabA (a + 1) one)⟩] w9 by
          rw [show words (tabA (a + 1) one) = words (tabA a one) ++ [.int .u32 (one a : Nat)] by rw [tabA_succ]; simp [words]]
          exact hn9)
        clear hn9 HMA HM
        go_wp2
        go_roundw
        case rel => exact ⟨a + 1, _, _, by go_num, by omega, by go_num, HN.out⟩
        case measure => simp [intOf]; omega
    · obtain rfl : a = n := by omega
      go_wp2
      go_ret
      exact ⟨_, _, rfl, HM.out⟩

end Go.Proofs.Ytdiaglaokgehbaa
