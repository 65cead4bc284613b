/- mark.join, under, checkDeed, own. -/
import Derived.Test.YtmmhggldknefoaaMSpec
import Derived.Test.YtmmhggldknefoaaWLo
import Derived.Test.YtmmhggldknefoaaOwn
namespace Go.Proofs.Ytmmhggldknefoaa
open Go.RowKit

set_option maxHeartbeats 1000000 in
theorem mJoin_any (l1 l2 : Int) (p1 p2 : Nat) (w : World) (ha : LabOk (l1, p1)) (hb : LabOk (l2, p2)) :
    Calls Try.prog 20 #[.agg #[.int .i64 l1, .int .u32 p1], .agg #[.int .i64 l2, .int .u32 p2]] w fun e w' => e = .returned (labV (joinL (l1, p1) (l2, p2))) ∧ Below w.heap.size w w' := by
  have hT := twoBox (l1, p1) (l2, p2) w
  have hT3 := hT.three
  simp only at hT3
  obtain ⟨a0, b0, z0, hbel⟩ := hT3
  have h1 := ha.2.2
  have h2 := hb.2.2
  simp only at h1 h2
  obtain ⟨lj, pj, hj⟩ : ∃ lj pj, joinL (l1, p1) (l2, p2) = (lj, pj) := ⟨_, _, rfl⟩
  have kA := fun W => lJoin_any l1 l2 p1 p2 W (by omega) (by omega)
  rw [codeLL_ok ha hb, if_pos rfl, hj] at kA
  rw [hj]
  simp only [labV] at kA ⊢
  generalize hw3 : (((w.alloc (.cells #[.int .i64 l1, .int .u32 (p1 : Int)] 40)).alloc (.cells #[.int .i64 l2, .int .u32 (p2 : Int)] 40)).alloc (.cells #[.int .i64 0, .int .u32 0] 40)) = w3 at *
  have HZ := Lib.hid z0
  obtain ⟨ca0, ca1⟩ := ltwo_cells a0
  obtain ⟨cb0, cb1⟩ := ltwo_cells b0
  clear hT a0 b0 z0 hj ha hb
  go_enter Try.func20, Try.ntmps20
  go_wp2_with fail
  refine (kA _).mono ?_
  rintro e w4 ⟨rfl, hb4⟩
  have z4 := lblk_alloc (lblk_keep hb4 HZ.out) (.cells #[.int .i64 lj, .int .u32 (pj : Int)] 40)
  have f0 : (w4.alloc (.cells #[.int .i64 lj, .int .u32 (pj : Int)] 40)).frozen? ⟨w.heap.size + 1 + 1, 0, none⟩ = false := by unfold World.frozen?; rw [z4]; simp
  have f1 : (w4.alloc (.cells #[.int .i64 lj, .int .u32 (pj : Int)] 40)).frozen? ⟨w.heap.size + 1 + 1, 1, none⟩ = false := by unfold World.frozen?; rw [z4]; simp
  obtain ⟨dz0, dz1⟩ := ltwo_cells z4
  obtain ⟨n0, n1⟩ := ltwo_cells (heap_alloc_new w4 (.cells #[.int .i64 lj, .int .u32 (pj : Int)] 40))
  have HF := Lib.hid (ltwo_cells (ltwo_set1 (u := .int .u32 (pj : Int)) (ltwo_set0 (u := .int .i64 lj) z4)))
  have hbq := (hbel.trans (hb4.mono hbel.size))
  have hb5 := Lib.hid (((hbq.alloc hbq.size (.cells #[.int .i64 lj, .int .u32 (pj : Int)] 40)).setCell (p := ⟨w.heap.size + 1 + 1, 0, none⟩) (by simp; omega) (.int .i64 lj)).setCell (p := ⟨w.heap.size + 1 + 1, 1, none⟩) (by simp; omega) (.int .u32 (pj : Int)))
  clear hb4 hbel hbq z4
  go_wp2
  refine bodyPost_ret (v := .agg #[.int .i64 lj, .int .u32 (pj : Int)]) (by simp [results, Try.results20, go_sem, HF.out.1, HF.out.2]) rfl ?_
  exact ⟨rfl, hb5.out⟩

set_option maxHeartbeats 1000000 in
theorem mUnder_any (l1 l2 : Int) (p1 p2 : Nat) (w : World) (ha : LabOk (l1, p1)) (hb : LabOk (l2, p2)) :
    Calls Try.prog 21 #[.agg #[.int .i64 l1, .int .u32 p1], .agg #[.int .i64 l2, .int .u32 p2]] w fun e w' => e = .returned (.bool (underL (l1, p1) (l2, p2))) ∧ Below w.heap.size w w' := by
  have hT := twoBox (l1, p1) (l2, p2) w
  obtain ⟨a0, a1⟩ := hT.atA
  obtain ⟨b0, b1⟩ := hT.atB
  have hbel := hT.bel
  have h1 := ha.2.2
  have h2 := hb.2.2
  simp only at h1 h2 a0 a1 b0 b1 hbel
  have kA := fun W => lUnder_any l1 l2 p1 p2 W (by omega) (by omega)
  rw [codeLL_ok ha hb, show (((0 : Int) == 0) && underL (l1, p1) (l2, p2)) = underL (l1, p1) (l2, p2) from rfl] at kA
  generalize underL (l1, p1) (l2, p2) = u at *
  clear hT ha hb
  go_enter Try.func21, Try.ntmps21
  go_wp2_with fail
  refine (kA _).mono ?_
  rintro e w4 ⟨rfl, hb4⟩
  have hb5 := Lib.hid (hbel.trans (hb4.mono hbel.size))
  clear hb4 hbel
  go_wp2
  go_ret
  exact ⟨rfl, hb5.out⟩

/-- The code of a deed of which it is not yet asked whether it is denied. -/
def codeD (nc nt : Nat) (d : Dd) : Int := if d.kind < 1 ∨ 3 < d.kind then 6 else if ArgBad nc nt d then 2 else 0
theorem ddBox (w : World) (d : Dd) : (w.alloc (.cells #[.int .i64 d.kind, .int .i64 d.who, .int .i64 d.tgt, .int .i64 d.lev, .int .u32 (d.parts : Int), .int .i64 d.val] 49)).cell? ⟨w.heap.size, 0, none⟩ = some (.int .i64 d.kind) ∧
    (w.alloc (.cells #[.int .i64 d.kind, .int .i64 d.who, .int .i64 d.tgt, .int .i64 d.lev, .int .u32 (d.parts : Int), .int .i64 d.val] 49)).cell? ⟨w.heap.size, 1, none⟩ = some (.int .i64 d.who) ∧
    (w.alloc (.cells #[.int .i64 d.kind, .int .i64 d.who, .int .i64 d.tgt, .int .i64 d.lev, .int .u32 (d.parts : Int), .int .i64 d.val] 49)).cell? ⟨w.heap.size, 2, none⟩ = some (.int .i64 d.tgt) := by
  have h := heap_alloc_new w (.cells #[.int .i64 d.kind, .int .i64 d.who, .int .i64 d.tgt, .int .i64 d.lev, .int .u32 (d.parts : Int), .int .i64 d.val] 49)
  refine ⟨?_, ?_, ?_⟩ <;> (unfold World.cell?; simp only [h]; rfl)

set_option maxHeartbeats 2000000 in
theorem mDeed_any (nc nt : Nat) (kind who tgt lev : Int) (parts : Nat) (val : Int) (w : World) :
    Calls Try.prog 22 #[.int .i64 nc, .int .i64 nt, .agg #[.int .i64 kind, .int .i64 who, .int .i64 tgt, .int .i64 lev, .int .u32 parts, .int .i64 val]] w fun e w' => e = .returned (.int .i64 (codeD nc nt ⟨kind, who, tgt, lev, parts, val⟩)) ∧ Below w.heap.size w w' := by
  obtain ⟨c0, c1, c2⟩ := ddBox w ⟨kind, who, tgt, lev, parts, val⟩
  simp only at c0 c1 c2
  have HB := Lib.hid ((Below.refl w.heap.size w).alloc (Nat.le_refl _) (.cells #[.int .i64 kind, .int .i64 who, .int .i64 tgt, .int .i64 lev, .int .u32 (parts : Int), .int .i64 val] 49))
  by_cases hk : kind < 1 ∨ 3 < kind
  · have HC := Lib.hid (show codeD nc nt ⟨kind, who, tgt, lev, parts, val⟩ = 6 from if_pos hk)
    have h1 : (kind != 1) = true := by simp; omega
    have h2 : (kind != 2) = true := by simp; omega
    have h3 : (kind != 3) = true := by simp; omega
    clear hk
    go_enter Try.func22, Try.ntmps22
    go_wp2
    go_ret
    exact ⟨ret_int HC.out.symm, HB.out⟩
  · have HC := Lib.hid (show codeD nc nt ⟨kind, who, tgt, lev, parts, val⟩ = if ArgBad nc nt ⟨kind, who, tgt, lev, parts, val⟩ then 2 else 0 from if_neg hk)
    have hkk : kind = 1 ∨ kind = 2 ∨ kind = 3 := by omega
    clear hk
    rcases hkk with rfl | rfl | rfl
    all_goals
      by_cases hw0 : who < 0
      · rw [if_pos (by unfold ArgBad; simp only; omega)] at HC
        go_enter Try.func22, Try.ntmps22
        go_wp2
        go_ret
        exact ⟨ret_int HC.out.symm, HB.out⟩
      · by_cases hw1 : (nc : Int) ≤ who
        · rw [if_pos (by unfold ArgBad; simp only; omega)] at HC
          go_enter Try.func22, Try.ntmps22
          go_wp2
          go_ret
          exact ⟨ret_int HC.out.symm, HB.out⟩
        · first
          | (by_cases ht0 : tgt < 0
             · rw [if_pos (by unfold ArgBad; simp only; omega)] at HC
               go_enter Try.func22, Try.ntmps22
               go_wp2
               go_ret
               exact ⟨ret_int HC.out.symm, HB.out⟩
             · by_cases ht1 : (nt : Int) ≤ tgt
               · rw [if_pos (by unfold ArgBad; simp only; omega)] at HC
                 go_enter Try.func22, Try.ntmps22
                 go_wp2
                 go_ret
                 exact ⟨ret_int HC.out.symm, HB.out⟩
               · rw [if_neg (by unfold ArgBad; simp only; omega)] at HC
                 go_enter Try.func22, Try.ntmps22
                 go_wp2
                 go_ret
                 exact ⟨ret_int HC.out.symm, HB.out⟩)
          | (rw [if_neg (by unfold ArgBad; simp only; omega)] at HC
             go_enter Try.func22, Try.ntmps22
             go_wp2
             go_ret
             exact ⟨ret_int HC.out.symm, HB.out⟩)

set_option maxHeartbeats 1000000 in
theorem mOwn_any (n : Nat) (hn : n ≤ 8) (w : World) :
    Calls Try.prog 18 #[.int .i64 n] w fun e w' => ∃ g, e = .returned (.slice (some ⟨g, 0, none⟩) n n) ∧ w'.ownsRow w.heap.size 38 1 (.slice (some ⟨g, 0, none⟩) n n) n (words (tabA n one)) ∧ Below w.heap.size w w' := by
  obtain ⟨i0, hi, hz0, hz1, hz2⟩ := info_parts info29
  have HI := Lib.hid (And.intro hi (And.intro hz0 (And.intro hz1 hz2)))
  clear hi hz0 hz1 hz2
  go_enter Try.func18, Try.ntmps18
  go_wp2_with (at_make; refine wpList_make_full _ rfl _ _ 25 rfl w.heap.size 38 i0 (.int .u32 0) 1 Try.underlying25 HI.out.1 HI.out.2.1 HI.out.2.2.1 .i64 .i64 n n n rfl rfl rfl rfl ?b2 ?b3 (Nat.le_refl _) ?c5)
  case b2 => rw [HI.out.2.2.2]; omega
  case b3 => unfold maxLen; omega
  case c5 =>
    intro w1 hown hgrow
    have HO := Lib.hid (own_made hown)
    have HB := Lib.hid ((Below.refl w.heap.size w).grown hgrow (Nat.le_refl _) (by intro k hk; cases hk))
    clear hown hgrow
    go_wp2
    go_loopw [9] (fun v wr => ∃ a : Nat, v = .int .i64 a ∧ a ≤ n ∧ Own wr w.heap.size w.heap.size n (fun i => if i < a then one i else 0) ∧ Below w.heap.size w wr) (fun v _ => n - (intOf v).toNat)
    case atStart => exact ⟨0, rfl, Nat.zero_le _, HO.out.congr (tab_congr fun i _ => by simp), HB.out⟩
    case round =>
      clear HO HB
      obtain ⟨a, rfl, ha, hown, hbel⟩ := hrel
      have HO := Lib.hid hown
      have HB := Lib.hid hbel
      by_cases hlt : a < n
      · have hc := hown.cell hlt
        have hf := hown.free a
        have h1 := one_int a (by omega)
        have HN := Lib.hid (show Own (wr.setCell ⟨w.heap.size, a, none⟩ (.int .u32 (one a : Nat))) w.heap.size w.heap.size n (fun i => if i < a + 1 then one i else 0) from
          (hown.stored a (one a)).congr (tab_congr fun i _ => by
            unfold upd
            by_cases e : i = a
            · subst e; simp
            · rw [if_neg e]
              show (if i < a then one i else 0) = if i < a + 1 then one i else 0
              by_cases e2 : i < a
              · rw [if_pos e2, if_pos (by omega)]
              · rw [if_neg e2, if_neg (by omega)]))
        have HB2 := Lib.hid (HB.out.setCell (p := ⟨w.heap.size, a, none⟩) (Nat.le_refl _) (.int .u32 (one a : Nat)))
        clear hown hbel
        go_wp2
        go_roundw
        case rel => exact ⟨a + 1, by go_num, by omega, HN.out, HB2.out⟩
        case measure => simp [intOf]; omega
      · obtain rfl : a = n := by omega
        clear hown hbel
        go_wp2
        go_ret
        refine ⟨w.heap.size, rfl, ?_, HB.out⟩
        have h := HO.out
        unfold Own at h
        rw [show tabA a one = tab a (fun i => if i < a then one i else 0) from (tab_congr (n := a) (f := one) fun i hi => by simp [hi])]
        exact h

end Go.Proofs.Ytmmhggldknefoaa
