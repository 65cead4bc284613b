/- The law ClauseResolve. -/
import Derived.Test.YtjbefclfhehhaaaLawI1
namespace Go.Proofs.Ytjbefclfhehhaaa
open Go.RowKit

theorem newsC_grown {w w' : World} {row : Option Nat} {ad : Addr} {cs : List Value} (h : ∀ j u, cs[j]? = some u → w.cell? (ad.add j) = some u) (hg : w.grownBy w' row) (hne : row ≠ some ad.block) : ∀ j u, cs[j]? = some u → w'.cell? (ad.add j) = some u := fun j u hu =>
  hg.cell (h j u hu) (by
    have : (ad.add j).block = ad.block := by unfold Addr.add; split <;> rfl
    rw [this]; exact hne.symm)
theorem ownC_row {w : World} {B e size n : Nat} {v : Value} {cs : List Value} (h : w.ownsRow B e size v n cs) : ∃ A c, v = .slice A n c ∧ Row w A cs := by
  have hl := h.1
  rcases h.2 with ⟨hv, hn⟩ | ⟨g, cap, cur, hv, hg, hh, h1, h2, h3, h4⟩
  · subst hn
    exact ⟨none, 0, hv, .inl (List.eq_nil_of_length_eq_zero (by rw [hl]; simp))⟩
  · subst hv
    refine ⟨some ⟨g, 0, none⟩, cap, rfl, .inr ⟨g, 0, rfl, fun j u hu => ?_⟩⟩
    have hj : j < cs.length := (List.getElem?_eq_some_iff.1 hu).1
    rw [Nat.zero_add, World.ownsRow.cellAt h j (by omega)]
    exact hu
theorem first_empty (n : Nat) : firstS n [] = some 0 := first_some.2 ⟨one_pos n, rfl, fun _ ht => absurd ht (Nat.not_lt_zero _)⟩
theorem fit_more {n : Nat} {l : List Cla} {c : Cla} (h : FitR n l) (hc : c.1 < one n ∧ c.2 < one n) : FitR n (l ++ [c]) := by
  intro x hx
  rw [List.mem_append, List.mem_singleton] at hx
  rcases hx with hx | rfl
  · exact h x hx
  · exact hc
theorem w32_more {l : List Cla} {c : Cla} (h : W32 l) (hc : c.1 < 4294967296 ∧ c.2 < 4294967296) : W32 (l ++ [c]) := by
  intro x hx
  rw [List.mem_append, List.mem_singleton] at hx
  rcases hx with hx | rfl
  · exact h x hx
  · exact hc
theorem codeC_more {n : Nat} {l : List Cla} {c : Cla} (h : codeC n l = 0) (hl : l.length < 16) (hc : c.1 < one n ∧ c.2 < one n) : codeC n (l ++ [c]) = 0 := by
  obtain ⟨k, hk, h1, h2, h3, h4⟩ := codeC_zero h
  have : n = k := by omega
  subst this
  refine codeC_ok ?_ (fit_more h4 hc)
  unfold LargeC
  rw [List.length_append, List.length_singleton]
  omega
theorem code_same {n : Nat} {l : List Cla} {c : Cla} (h : codeC n l = 0) (h2 : codeC n (l ++ [c]) = 0) (hf : firstS n (l ++ [c]) = firstS n l) : codeS n (l ++ [c]) = codeS n l ∧ solS n (l ++ [c]) = solS n l := by
  unfold codeS solS
  rw [h, h2, Int.toNat_natCast, hf]
  exact ⟨rfl, rfl⟩
theorem codeS_ok {n : Nat} {l : List Cla} (h : codeC n l = 0) : codeS n l = 0 ∨ codeS n l = 5 := by
  cases e : firstS n l with
  | none => exact .inr (codeS_none h e)
  | some s => exact .inl (codeS_some h e)

/-- The cells of two clauses. -/
def FourC (g o i j a1 a2 b1 b2 : Nat) (w' : World) : Prop :=
  w'.cell? ⟨g, o + i * 2, none⟩ = some (.int .u32 (a1 : Int)) ∧ w'.cell? ⟨g, o + i * 2 + 1, none⟩ = some (.int .u32 (a2 : Int)) ∧
    w'.cell? ⟨g, o + j * 2, none⟩ = some (.int .u32 (b1 : Int)) ∧ w'.cell? ⟨g, o + j * 2 + 1, none⟩ = some (.int .u32 (b2 : Int))
theorem FourC.below {g o i j a1 a2 b1 b2 : Nat} {w w' : World} (h : FourC g o i j a1 a2 b1 b2 w) (hb : Below w.heap.size w w') : FourC g o i j a1 a2 b1 b2 w' :=
  ⟨cell_kp hb h.1, cell_kp hb h.2.1, cell_kp hb h.2.2.1, cell_kp hb h.2.2.2⟩

/-- The cells of the one that was made. -/
def TwoQ (g e1 e2 : Nat) (w' : World) : Prop := w'.cell? ⟨g, 0, none⟩ = some (.int .u32 (e1 : Int)) ∧ w'.cell? ⟨g, 1, none⟩ = some (.int .u32 (e2 : Int))
theorem TwoQ.below {g e1 e2 : Nat} {w w' : World} (h : TwoQ g e1 e2 w) (hb : Below w.heap.size w w') : TwoQ g e1 e2 w' := ⟨cell_kp hb h.1, cell_kp hb h.2⟩

set_option maxHeartbeats 4000000 in
theorem ClauseResolve_with (hF : ISolveOk 9) (n : Int) (rs : List Cla) (A : Option Addr) (c i j : Nat) (w : World) (hi : i < 256) (hj : j < 256) (h32 : W32 rs) (hm : rs.length ≤ maxLen) (hr : Row w A (rulesC rs)) (hX : Laid w) :
    Calls Try.prog 7 #[.int .i64 n, .slice A rs.length c, .int .u8 i, .int .u8 j] w fun e w' => e = .returned (.bool true) ∧ Below w.heap.size w w' := by
  have key := hF n rs A c w h32 hm hr hX
  by_cases hc : codeC n rs = 0
  · obtain ⟨n, rfl, hn1, hn6, hl16, hf⟩ := codeC_zero hc
    have HC := Lib.hid hc
    by_cases hnil : rs = []
    · subst hnil
      rw [codeS_some hc (first_empty n), solS_some hc (first_empty n)] at key
      clear hc
      go_enter Try.func7, Try.ntmps7
      go_wp2_with fail
      refine key.mono ?_
      rintro e w1 ⟨rfl, hb1⟩
      clear key
      go_wp2_with fail
      refine (sat_any n [] A c _ (.inl rfl)).mono ?_
      rintro e w2 ⟨rfl, hb2⟩
      rw [HC.out]
      have hb12 := hb1.trans (hb2.mono hb1.size)
      clear hb2 hb1
      go_wp2
      go_ret
      exact ⟨rfl, hb12⟩
    · have hpos : 0 < rs.length := List.length_pos_iff.2 hnil
      have hlz : ((rs.length : Int) == 0) = false := by rw [beq_eq_false_iff_ne]; omega
      have hlz2 : ¬ ((rs.length : Int) = 0) := by omega
      have hlz3 : ¬ (rs.length = 0) := by omega
      have hrem : ∀ k : Nat, IntKind.i64.wrap (Int.tmod (k : Int) (rs.length : Int)) = ((k % rs.length : Nat) : Int) := fun k => by
        rw [show Int.tmod (k : Int) (rs.length : Int) = ((k % rs.length : Nat) : Int) from rfl]
        have := Nat.mod_lt k hpos
        exact IntWalk.i64_in _ (by omega)
      have hri := hrem i
      have hrj := hrem j
      clear hrem
      have hmi : i % rs.length < rs.length := Nat.mod_lt _ hpos
      have hmj : j % rs.length < rs.length := Nat.mod_lt _ hpos
      obtain ⟨ii, hii⟩ : ∃ ii, i % rs.length = ii := ⟨_, rfl⟩
      obtain ⟨jj, hjj⟩ : ∃ jj, j % rs.length = jj := ⟨_, rfl⟩
      rw [hii] at hri hmi
      rw [hjj] at hrj hmj
      have hie : ((i : Int) % (rs.length : Int)) = (ii : Int) := by rw [← hii]; simp
      have hje : ((j : Int) % (rs.length : Int)) = (jj : Int) := by rw [← hjj]; simp
      have hwi : IntKind.i64.wrap (i : Int) = (i : Int) := IntWalk.i64_in _ (by omega)
      have hwj : IntKind.i64.wrap (j : Int) = (j : Int) := IntWalk.i64_in _ (by omega)
      have hit : Int.tmod (i : Int) (rs.length : Int) = (ii : Int) := by rw [← hii]; rfl
      have hjt : Int.tmod (j : Int) (rs.length : Int) = (jj : Int) := by rw [← hjj]; rfl
      have hi0 : (0 : Int) ≤ (ii : Int) := by omega
      have hj0 : (0 : Int) ≤ (jj : Int) := by omega
      have hi1 : (ii : Int) < (rs.length : Int) := by omega
      have hj1 : (jj : Int) < (rs.length : Int) := by omega
      obtain ⟨⟨a1, a2⟩, hai⟩ := get_some hmi
      obtain ⟨⟨b1, b2⟩, hbj⟩ := get_some hmj
      have hma := List.mem_of_getElem? hai
      have hmb := List.mem_of_getElem? hbj
      have ha32 := h32 _ hma
      have hb32 := h32 _ hmb
      obtain ⟨g, o, rfl, d1, d2⟩ := RowC.at hr hai
      obtain ⟨g', o', eg, d3, d4⟩ := RowC.at hr hbj
      simp only [Option.some.injEq, Addr.mk.injEq, and_true] at eg
      obtain ⟨rfl, rfl⟩ := eg
      have hS0 : FourC g o ii jj a1 a2 b1 b2 w := ⟨d1, d2, d3, d4⟩
      have HRes := Lib.hid (fun c (h : resv (a1, a2) (b1, b2) = some c) (hl : rs.length < 16) =>
        code_same hc (codeC_more hc hl (resv_lt h (hf _ hma) (hf _ hmb))) (first_congr fun s _ => resv_true h32 hma hmb h s))
      have HFit := Lib.hid (fun c (h : resv (a1, a2) (b1, b2) = some c) => resv_lt h (hf _ hma) (hf _ hmb))
      have HCS := Lib.hid (codeS_ok hc)
      have HTrue := Lib.hid (show codeS n rs = 0 → solS n rs < one n ∧ trueB rs (solS n rs) = true by
        intro h0
        cases e : firstS n rs with
        | none => rw [codeS_none hc e] at h0; omega
        | some s => rw [solS_some hc e]; exact ⟨(first_some.1 e).1, (first_some.1 e).2.1⟩)
      clear d1 d2 d3 d4 hai hbj hma hmb hc
      have keyR := fun W => Resolve_any (a1, a2) (b1, b2) W ha32 hb32
      go_enter Try.func7, Try.ntmps7
      go_wp2_with fail
      refine key.mono ?_
      rintro e w1 ⟨rfl, hb1⟩
      clear key
      obtain ⟨ef, hef⟩ : ∃ ef, codeS n rs = ef := ⟨_, rfl⟩
      obtain ⟨t, ht⟩ : ∃ t, solS n rs = t := ⟨_, rfl⟩
      rw [hef] at HCS HTrue ⊢
      rw [ht] at HTrue ⊢
      have HEF := Lib.hid hef
      have HT := Lib.hid ht
      clear hef ht
      go_wp2_with fail
      refine (sat_any n rs _ c _ (hr.below hb1)).mono ?_
      rintro e w2 ⟨rfl, hb2⟩
      rw [HC.out]
      have hb12 := hb1.trans (hb2.mono hb1.size)
      clear hb2 hb1
      have hS := hS0.below hb12
      have HB1 := Lib.hid (show Below w2.heap.size w2 w2.drew from (Below.refl _ _).drew)
      have HBZ := Lib.hid (show Below w2.heap.size w2 (w2.alloc (.cells #[.int .u32 0, .int .u32 0] 32)).drew from ((Below.refl _ _).alloc (Nat.le_refl _) _).drew)
      have FZ := Lib.hid (fun (W4 : World) (h : Below (w2.alloc (.cells #[.int .u32 0, .int .u32 0] 32)).drew.heap.size (w2.alloc (.cells #[.int .u32 0, .int .u32 0] 32)).drew W4) => two_facts h (show (w2.alloc (.cells #[.int .u32 0, .int .u32 0] 32)).drew.heap[w2.heap.size]? = some (.cells #[.int .u32 0, .int .u32 0] 32 (0, 0)) from heap_alloc_new w2 _))
      have HS1 := Lib.hid (hS.below HB1.out)
      have HSZ := Lib.hid (hS.below HBZ.out)
      cases hres : resv (a1, a2) (b1, b2) with
      | none =>
        rw [show resT (a1, a2) (b1, b2) = .tuple #[.agg #[.int .u32 0, .int .u32 0], .bool false] from by unfold resT; rw [hres]; rfl] at keyR
        clear hres
        go_wp2
        go_region_held3 (fun w' => w'.cell? ⟨g, o + ii * 2, none⟩ = some (.int .u32 (a1 : Int)) ∧ w'.cell? ⟨g, o + ii * 2 + 1, none⟩ = some (.int .u32 (a2 : Int)) ∧ w'.cell? ⟨g, o + jj * 2, none⟩ = some (.int .u32 (b1 : Int)) ∧ w'.cell? ⟨g, o + jj * 2 + 1, none⟩ = some (.int .u32 (b2 : Int)))
          (first | exact hS | exact HS1.out | exact HSZ.out | exact HS1.out.below HB4.out | exact HSZ.out.below HB4.out | exact (HS1.out.below HB4.out).below ((Below.refl _ _).alloc (Nat.le_refl _) _) | exact hS.below (((HBZ.out.trans (HB4.out.mono HBZ.out.size)).setCell (Nat.le_refl _) _).setCell (Nat.le_refl _) _) | go_keep)
          (first
          | (go_at_call 18
             refine (keyR _).mono ?_
             rintro e w4 ⟨rfl, hb4⟩
             have HB4 := Lib.hid hb4
             first
               | (obtain ⟨zb, f0, f1, z0, z1⟩ := FZ.out _ hb4
                  have HZB := Lib.hid zb
                  clear zb hb4)
               | clear hb4))
        all_goals
          have hB : Below w.heap.size w w2 := hb12
          rcases HCS.out with rfl | rfl
          all_goals
            go_wp2
            go_ret
            refine ⟨rfl, ?_⟩
            first
              | exact hb12.trans (((HB1.out.trans (HB4.out.mono HB1.out.size)).alloc (HB1.out.trans (HB4.out.mono HB1.out.size)).size _).mono hb12.size)
              | exact hb12.trans ((((HBZ.out.trans (HB4.out.mono HBZ.out.size)).setCell (Nat.le_refl _) _).setCell (Nat.le_refl _) _).mono hb12.size)
      | some cc =>
        obtain ⟨e1, e2⟩ := cc
        rw [show resT (a1, a2) (b1, b2) = .tuple #[.agg #[.int .u32 (e1 : Nat), .int .u32 (e2 : Nat)], .bool true] from by unfold resT; rw [hres]; rfl] at keyR
        have HRes2 := Lib.hid (HRes.out _ hres)
        have hfit := HFit.out _ hres
        clear hres HRes HFit
        go_wp2
        go_region_held3 (fun w' => w'.cell? ⟨g, o + ii * 2, none⟩ = some (.int .u32 (a1 : Int)) ∧ w'.cell? ⟨g, o + ii * 2 + 1, none⟩ = some (.int .u32 (a2 : Int)) ∧ w'.cell? ⟨g, o + jj * 2, none⟩ = some (.int .u32 (b1 : Int)) ∧ w'.cell? ⟨g, o + jj * 2 + 1, none⟩ = some (.int .u32 (b2 : Int)))
          (first | exact hS | exact HS1.out | exact HSZ.out | exact HS1.out.below HB4.out | exact HSZ.out.below HB4.out | exact (HS1.out.below HB4.out).below ((Below.refl _ _).alloc (Nat.le_refl _) _) | exact hS.below (((HBZ.out.trans (HB4.out.mono HBZ.out.size)).setCell (Nat.le_refl _) _).setCell (Nat.le_refl _) _) | go_keep)
          (first
          | (go_at_call 18
             refine (keyR _).mono ?_
             rintro e w4 ⟨rfl, hb4⟩
             have HB4 := Lib.hid hb4
             first
               | (obtain ⟨zb, f0, f1, z0, z1⟩ := FZ.out _ hb4
                  have HZB := Lib.hid zb
                  clear zb hb4)
               | clear hb4))
        all_goals
          first
            | (have hB4 := HB1.out.trans (HB4.out.mono HB1.out.size)
               have hB6 := hB4.alloc hB4.size (.cells #[.int .u32 (e1 : Int), .int .u32 (e2 : Int)] 32)
               have hq := two_cells (heap_alloc_new w4 (.cells #[.int .u32 (e1 : Int), .int .u32 (e2 : Int)] 32))
               have hB7 := hb12.trans (hB6.mono hb12.size)
               clear hB4 hB6 HB4 HBZ HSZ FZ HS1 HB1 hS keyR
               generalize w4.alloc (.cells #[.int .u32 (e1 : Int), .int .u32 (e2 : Int)] 32) = w6 at *
               generalize w4.heap.size = gq at *)
            | (have hB4 := HBZ.out.trans (HB4.out.mono HBZ.out.size)
               have hB6 := (hB4.setCell (p := ⟨w2.heap.size, 0, none⟩) (Nat.le_refl _) (.int .u32 (e1 : Int))).setCell (p := ⟨w2.heap.size, 1, none⟩) (Nat.le_refl _) (.int .u32 (e2 : Int))
               have hq := two_cells (twoC_setCell (u := .int .u32 (e1 : Int)) (v := .int .u32 (e2 : Int)) HZB.out)
               have hB7 := hb12.trans (hB6.mono hb12.size)
               clear hB4 hB6 HB4 HBZ HSZ FZ HS1 HB1 hS keyR HZB
               generalize (w4.setCell ⟨w2.heap.size, 0, none⟩ (.int .u32 (e1 : Int))).setCell ⟨w2.heap.size, 1, none⟩ (.int .u32 (e2 : Int)) = w6 at *
               generalize w2.heap.size = gq at *)
          clear hS0 hri hrj hie hje hit hjt hwi hwj
          by_cases h16 : rs.length = 16
          · have hq16 : ((rs.length : Int) == 16) = true := by rw [beq_iff_eq]; omega
            clear h16
            rcases HCS.out with rfl | rfl
            all_goals
              go_wp2
              go_ret
              exact ⟨rfl, hB7⟩
          · have hq16 : ((rs.length : Int) == 16) = false := by rw [beq_eq_false_iff_ne]; omega
            have hlt16 : rs.length < 16 := by omega
            obtain ⟨hcs, hss⟩ := HRes2.out hlt16
            rw [HEF.out] at hcs
            rw [HT.out] at hss
            have h1 := one_le_64 hn6
            have he1 : e1 < 4294967296 := by have := hfit.1; omega
            have he2 : e2 < 4294967296 := by have := hfit.2; omega
            have key3 : ∀ (A8 : Option Addr) (c8 : Nat) (W : World), Row W A8 (rulesC (rs ++ [(e1, e2)])) → Below w6.heap.size w6 W → Calls Try.prog 9 #[.int .i64 n, .slice A8 (rs.length + 1) c8] W fun e w' => e = .returned (.tuple #[.int .u32 t, .int .i64 ef]) ∧ Below W.heap.size W w' := by
              intro A8 c8 W hrow hbW
              have := hF n (rs ++ [(e1, e2)]) A8 c8 W (w32_more h32 ⟨he1, he2⟩) (by rw [List.length_append, List.length_singleton]; unfold maxLen; omega) hrow ((hX.below hB7).below hbW)
              rw [hcs, hss, List.length_append, List.length_singleton] at this
              exact this
            have hrow4 := hr.below hB7
            obtain ⟨i0, hi0', hz0, hz1, hz2⟩ := info_parts infoCl
            have HB1 := Lib.hid (show Below w6.heap.size w6 (w6.alloc (.cells #[] 32)).drew from ((Below.refl _ _).alloc (Nat.le_refl _) _).drew)
            have HOwn0 := Lib.hid (show ((w6.alloc (.cells #[] 32)).drew).ownsRow w6.heap.size 32 2 (.slice (some ⟨w6.heap.size, 0, none⟩) 0 0) 0 [] from World.ownsRow_lit w6 #[] 0 (Nat.le_refl _) (by simp [maxLen]) rfl)
            have HN0 := Lib.hid (row_news (hrow4.below HB1.out))
            have HL0 := Lib.hid (show (rulesC rs).length = rs.length * 2 by rw [rulesC_length]; omega)
            have HM0 := Lib.hid (show 0 + rs.length ≤ maxLen by unfold maxLen; omega)
            have HY0 := Lib.hid (show (0 + rs.length) * 8 ≤ 140737488355328 by omega)
            have HM1 := Lib.hid (show 0 + rs.length + 1 ≤ maxLen by unfold maxLen; omega)
            have HY1 := Lib.hid (show (0 + rs.length + 1) * 8 ≤ 140737488355328 by omega)
            have hTwo : TwoQ gq e1 e2 w6 := hq
            have HS4 := Lib.hid hTwo
            have HS5 := Lib.hid (hTwo.below HB1.out)
            have HB2 := Lib.hid (show Below w6.heap.size w6 ((w6.alloc (.cells #[] 32)).alloc (.cells #[.int .u32 (e1 : Int), .int .u32 (e2 : Int)] 32)).drew from (((Below.refl w6.heap.size w6).alloc (Nat.le_refl _) _).alloc (by simp) _).drew)
            have HB3 := Lib.hid (show Below w6.heap.size w6 ((w6.alloc (.cells #[.int .u32 (e1 : Int), .int .u32 (e2 : Int)] 32)).alloc (.cells #[] 32)).drew from (((Below.refl w6.heap.size w6).alloc (Nat.le_refl _) _).alloc (by simp) _).drew)
            have HB4 := Lib.hid (show Below w6.heap.size w6 (w6.alloc (.cells #[.int .u32 (e1 : Int), .int .u32 (e2 : Int)] 32)) from (Below.refl w6.heap.size w6).alloc (Nat.le_refl _) _)
            have HSb := Lib.hid (hTwo.below HB2.out)
            have HSc := Lib.hid (hTwo.below HB3.out)
            have HSd := Lib.hid (hTwo.below HB4.out)
            have HOwnB := Lib.hid (show (((w6.alloc (.cells #[] 32)).alloc (.cells #[.int .u32 (e1 : Int), .int .u32 (e2 : Int)] 32)).drew).ownsRow w6.heap.size 32 2 (.slice (some ⟨w6.heap.size, 0, none⟩) 0 0) 0 [] from World.ownsRow.alloc (World.ownsRow_lit w6 #[] 0 (Nat.le_refl _) (by simp [maxLen]) rfl) _)
            have HOwnC := Lib.hid (show (((w6.alloc (.cells #[.int .u32 (e1 : Int), .int .u32 (e2 : Int)] 32)).alloc (.cells #[] 32)).drew).ownsRow w6.heap.size 32 2 (.slice (some ⟨w6.heap.size + 1, 0, none⟩) 0 0) 0 [] by
              have h := World.ownsRow_lit (base := w6.heap.size) (size := 2) (e := 32) (w6.alloc (.cells #[.int .u32 (e1 : Int), .int .u32 (e2 : Int)] 32)) #[] 0 (by simp) (by simp [maxLen]) rfl
              have h2 : ((w6.alloc (.cells #[.int .u32 (e1 : Int), .int .u32 (e2 : Int)] 32)).alloc (.cells #[] 32)).ownsRow w6.heap.size 32 2 (.slice (some ⟨w6.heap.size + 1, 0, none⟩) 0 0) 0 [] := by simpa using h
              exact h2)
            have HN0b := Lib.hid (row_news (hrow4.below HB2.out))
            have HN0c := Lib.hid (row_news (hrow4.below HB3.out))
            have HNb := Lib.hid (show ∀ j u, (rulesC [(e1, e2)])[j]? = some u → (((w6.alloc (.cells #[] 32)).alloc (.cells #[.int .u32 (e1 : Int), .int .u32 (e2 : Int)] 32)).drew).cell? ((⟨w6.heap.size + 1, 0, none⟩ : Addr).add j) = some u by
              have h := news_two (w6.alloc (.cells #[] 32)) e1 e2 32
              simp only [World.size_alloc] at h
              exact h)
            have HNc := Lib.hid (show ∀ j u, (rulesC [(e1, e2)])[j]? = some u → (((w6.alloc (.cells #[.int .u32 (e1 : Int), .int .u32 (e2 : Int)] 32)).alloc (.cells #[] 32)).drew).cell? ((⟨w6.heap.size, 0, none⟩ : Addr).add j) = some u from
              row_news ((row_new w6 w6.heap.size rfl (rulesC [(e1, e2)]) 32).below (((Below.refl _ _).alloc (Nat.le_refl _) _).drew)))
            clear hTwo hcs hss h1
            go_wp2
            go_region_held3 (fun w' => w'.cell? ⟨gq, 0, none⟩ = some (.int .u32 (e1 : Int)) ∧ w'.cell? ⟨gq, 1, none⟩ = some (.int .u32 (e2 : Int))) (first | exact HS4.out | exact HS5.out | exact HS9.out | exact HS7.out | exact HS8.out | exact HSb.out | exact HSc.out | exact HSd.out | exact HS10.out | go_keep)
              (first
              | (refine step_append_any rfl (.tmp 71) (.tmp 72) 22 rfl w6.heap.size 32 i0 (.agg #[.int .u32 0, .int .u32 0]) 2 8 Try.underlying22 hi0' hz0 hz1 hz2 rfl (by decide) (.slice (some ⟨w6.heap.size, 0, none⟩) 0 0) 0 [] (by simp [Act.eval]) HOwn0.out ⟨g, o, none⟩ rs.length c (rulesC rs) (by simp [Act.eval]) HL0.out HN0.out (rulesC_cell _) HM0.out HY0.out HB1.out.size ?_
                 intro v7 w7 hown7 hgrow7 _
                 have HB7 := Lib.hid (HB1.out.grown hgrow7 HB1.out.size (by intro k hk; simp [Value.ownBlock] at hk; omega))
                 have HOwn7 := Lib.hid hown7
                 have HS7 := Lib.hid (HS4.out.below HB7.out)
                 have HN7 := Lib.hid (news_two w7 e1 e2 32)
                 have HO7 := Lib.hid (fun o : Obj => show (w7.alloc o).ownsRow w6.heap.size 32 2 v7 (0 + rs.length) ([] ++ rulesC rs) from World.ownsRow.alloc HOwn7.out o)
                 have HB8 := Lib.hid (fun o : Obj => show Below w6.heap.size w6 (w7.alloc o) from HB7.out.alloc HB7.out.size o)
                 have HS9 := Lib.hid (HS4.out.below (HB8.out (.cells #[.int .u32 (e1 : Int), .int .u32 (e2 : Int)] 32)))
                 clear hown7 hgrow7)
              | (refine step_append_any rfl (.tmp 71) (.tmp 72) 22 rfl w6.heap.size 32 i0 (.agg #[.int .u32 0, .int .u32 0]) 2 8 Try.underlying22 hi0' hz0 hz1 hz2 rfl (by decide) (.slice (some ⟨w6.heap.size, 0, none⟩) 0 0) 0 [] (by simp [Act.eval]) HOwnB.out ⟨g, o, none⟩ rs.length c (rulesC rs) (by simp [Act.eval]) HL0.out HN0b.out (rulesC_cell _) HM0.out HY0.out HB2.out.size ?_
                 intro v7 w7 hown7 hgrow7 _
                 have HB7 := Lib.hid (HB2.out.grown hgrow7 HB2.out.size (by intro k hk; simp [Value.ownBlock] at hk; omega))
                 have HOwn7 := Lib.hid hown7
                 have HS7 := Lib.hid (HS4.out.below HB7.out)
                 have HNB := Lib.hid (newsC_grown HNb.out hgrow7 (by simp [Value.ownBlock]))
                 clear hown7 hgrow7)
              | (refine step_append_any rfl (.tmp 71) (.tmp 72) 22 rfl w6.heap.size 32 i0 (.agg #[.int .u32 0, .int .u32 0]) 2 8 Try.underlying22 hi0' hz0 hz1 hz2 rfl (by decide) (.slice (some ⟨w6.heap.size + 1, 0, none⟩) 0 0) 0 [] (by simp [Act.eval]) HOwnC.out ⟨g, o, none⟩ rs.length c (rulesC rs) (by simp [Act.eval]) HL0.out HN0c.out (rulesC_cell _) HM0.out HY0.out HB3.out.size ?_
                 intro v7 w7 hown7 hgrow7 _
                 have HB7 := Lib.hid (HB3.out.grown hgrow7 HB3.out.size (by intro k hk; simp [Value.ownBlock] at hk; omega))
                 have HOwn7 := Lib.hid hown7
                 have HS7 := Lib.hid (HS4.out.below HB7.out)
                 have HNC := Lib.hid (newsC_grown HNc.out hgrow7 (by simp [Value.ownBlock]))
                 clear hown7 hgrow7)
              | (refine step_append_any rfl (.tmp 73) (.tmp 75) 22 rfl w6.heap.size 32 i0 (.agg #[.int .u32 0, .int .u32 0]) 2 8 Try.underlying22 hi0' hz0 hz1 hz2 rfl (by decide) v7 (0 + rs.length) ([] ++ rulesC rs) (by simp [Act.eval]) (HO7.out _) ⟨w7.heap.size, 0, none⟩ 1 1 (rulesC [(e1, e2)]) (by simp [Act.eval]) rfl HN7.out (rulesC_cell _) HM1.out HY1.out (HB8.out _).size ?_
                 intro v8 w8 hown8 hgrow8 _
                 have hb9 := (HB8.out _).grown hgrow8 (HB8.out _).size (fun k hk => (World.ownsRow.lt HOwn7.out k hk).1)
                 rw [Nat.zero_add, List.nil_append, ← rulesC_app] at hown8
                 obtain ⟨A8, c8, rfl, hrow8⟩ := ownC_row hown8
                 have HB9 := Lib.hid hb9
                 have HR8 := Lib.hid hrow8
                 have HS8 := Lib.hid (HS4.out.below hb9)
                 clear hown8 hgrow8 hrow8 hb9)
              | (refine step_append_any rfl (.tmp 73) (.tmp 75) 22 rfl w6.heap.size 32 i0 (.agg #[.int .u32 0, .int .u32 0]) 2 8 Try.underlying22 hi0' hz0 hz1 hz2 rfl (by decide) v7 (0 + rs.length) ([] ++ rulesC rs) (by simp [Act.eval]) HOwn7.out ⟨w6.heap.size + 1, 0, none⟩ 1 1 (rulesC [(e1, e2)]) (by simp [Act.eval]) rfl HNB.out (rulesC_cell _) HM1.out HY1.out HB7.out.size ?_
                 intro v8 w8 hown8 hgrow8 _
                 have hb9 := HB7.out.grown hgrow8 HB7.out.size (fun k hk => (World.ownsRow.lt HOwn7.out k hk).1)
                 rw [Nat.zero_add, List.nil_append, ← rulesC_app] at hown8
                 obtain ⟨A8, c8, rfl, hrow8⟩ := ownC_row hown8
                 have HB9 := Lib.hid hb9
                 have HR8 := Lib.hid hrow8
                 have HS8 := Lib.hid (HS4.out.below hb9)
                 clear hown8 hgrow8 hrow8 hb9)
              | (refine step_append_any rfl (.tmp 73) (.tmp 75) 22 rfl w6.heap.size 32 i0 (.agg #[.int .u32 0, .int .u32 0]) 2 8 Try.underlying22 hi0' hz0 hz1 hz2 rfl (by decide) v7 (0 + rs.length) ([] ++ rulesC rs) (by simp [Act.eval]) HOwn7.out ⟨w6.heap.size, 0, none⟩ 1 1 (rulesC [(e1, e2)]) (by simp [Act.eval]) rfl HNC.out (rulesC_cell _) HM1.out HY1.out HB7.out.size ?_
                 intro v8 w8 hown8 hgrow8 _
                 have hb9 := HB7.out.grown hgrow8 HB7.out.size (fun k hk => (World.ownsRow.lt HOwn7.out k hk).1)
                 rw [Nat.zero_add, List.nil_append, ← rulesC_app] at hown8
                 obtain ⟨A8, c8, rfl, hrow8⟩ := ownC_row hown8
                 have HB9 := Lib.hid hb9
                 have HR8 := Lib.hid hrow8
                 have HS8 := Lib.hid (HS4.out.below hb9)
                 clear hown8 hgrow8 hrow8 hb9)
              | (go_at_call 9
                 refine (key3 A8 c8 _ HR8.out HB9.out).mono ?_
                 rintro e w10 ⟨rfl, hb10⟩
                 have HB10 := Lib.hid (HB9.out.trans (hb10.mono HB9.out.size))
                 have HS10 := Lib.hid (HS4.out.below HB10.out)
                 clear hb10))
            all_goals
              have hB11 := hB7.trans (HB10.out.mono hB7.size)
              rcases HCS.out with rfl | rfl
              · obtain ⟨ht1, ht2⟩ := HTrue.out rfl
                have ht32 : t < 4294967296 := by have := one_le_64 hn6; omega
                have HT2 := Lib.hid ht2
                clear ht2
                go_simp
                go_wp2_with fail
                refine (True_any rs _ c t _ (hr.below hB11) h32 ht32 hm).mono ?_
                rintro e w12 ⟨rfl, hb12'⟩
                have hB13 := hB11.trans (hb12'.mono hB11.size)
                rw [HT2.out]
                clear hb12' hB11
                go_wp2
                go_ret
                exact ⟨ret_bool (by simp), hB13⟩
              · go_simp
                go_wp2
                go_ret
                exact ⟨ret_bool (by simp), hB11⟩
  · rw [codeS_err hc, solS_err hc] at key
    go_enter Try.func7, Try.ntmps7
    go_wp2_with fail
    refine key.mono ?_
    rintro e w1 ⟨rfl, hb1⟩
    clear key
    go_wp2_with fail
    refine (sat_any n rs A c _ (hr.below hb1)).mono ?_
    rintro e w2 ⟨rfl, hb2⟩
    have hb12 := hb1.trans (hb2.mono hb1.size)
    clear hb2 hb1
    generalize codeC n rs = k at *
    have hk1 : (k == 0) = false := by simpa using hc
    have hk2 : (k != 0) = true := by simpa using hc
    rw [hk1]
    clear hc
    go_wp2
    go_ret
    exact ⟨ret_bool (by simp), hb12⟩

end Go.Proofs.Ytjbefclfhehhaaa
