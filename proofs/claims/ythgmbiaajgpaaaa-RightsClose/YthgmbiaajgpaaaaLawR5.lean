/- The law RightsClose, walked from the contract of Close. -/
import Derived.Test.YthgmbiaajgpaaaaLawR1
import Derived.Test.YthgmbiaajgpaaaaMx3
namespace Go.Proofs.Ythgmbiaajgpaaaa
open Go.RowKit

theorem infoCh : (Try.prog.info? 44).map (fun i => (i.zero, i.size, i.bytes)) = some (some (.agg #[.int .u32 0, .int .u32 0, .int .u32 0]), 3, 12) := by kernel_rfl

theorem keepX {w W : World} (hb : Below w.heap.size w W) {b o : Nat} {v : Value} (h : w.cell? ⟨b, o, none⟩ = some v) : W.cell? ⟨b, o, none⟩ = some v := (hb.cell (p := ⟨b, o, none⟩) (block_lt_of_cell h)).trans h
theorem chnsC_len (l : List Chn) : (chnsC l).length = l.length * 3 := by induction l with | nil => rfl | cons c l ih => simp only [chnsC, List.flatMap_cons, List.length_append, List.length_cons, chC, List.length_nil] at *; omega
theorem chnsC_oneCell (l : List Chn) : ∀ u ∈ chnsC l, u.oneCell' = true := by
  intro u hu
  unfold chnsC at hu
  rw [List.mem_flatMap] at hu
  obtain ⟨r, _, hr⟩ := hu
  simp [chC] at hr
  rcases hr with rfl | rfl | rfl <;> rfl
theorem append_noneCh (w : World) (ty : TypeId) (A : Option Addr) (m c c2 : Nat) (h : m ≤ c) : (Builtin.append_ #[24, 24] ty #[.slice A m c, .slice none 0 c2]).run Try.prog w = .ok (.slice A m c) w := by
  cases A <;> simp [Builtin.append_, run_underlying Try.underlying24, Try.sizeOf44, Builtin.lenOf, Builtin.firstCells, storeCells, h]
/-- append of whatever chains to a row. -/
theorem wp_append_ch {w w0 : World} {rs : List Rw} {o : Oper} {a : Act} {K : Act → World → Prop} {Q : Exit → Act → World → Prop} (s x : Operand)
    (ho : o.op = .call { callee := .builtin .append, args := #[s, x], argTypes := #[24, 24] })
    (k n : Nat) (v : Value) (xs : List Value) (nm : Nat) (ys : List Value) (hM : RowsM w0 rs w) (hr : rs[k]? = some ⟨44, 3, v, n, xs⟩) (hs : a.eval s = v)
    (A : Option Addr) (m c : Nat) (news : List Value) (hx : a.eval x = .slice A m c) (hl : news.length = m * 3) (hrow : Row w A news) (h1 : ∀ u ∈ news, u.oneCell' = true) (hb : n + m ≤ 1000000) (hnm : n + m = nm) (hys : xs ++ news = ys)
    (h : ∀ A' c' w', RowsM w0 (rs.set k ⟨44, 3, .slice A' nm c', nm, ys⟩) w' → K (a.put o.dst (.slice A' nm c')) w') : o.wp Try.prog a w K Q := by
  obtain ⟨i0, hi, hz0, hz1, hz2⟩ := info_parts infoCh
  subst hnm hys
  cases A with
  | none =>
    have hn0 : news = [] := by
      rcases hrow with h | ⟨b, off, e, _⟩
      · exact h
      · cases e
    subst hn0
    obtain rfl : m = 0 := by simp at hl; omega
    obtain ⟨A0, c0, e, hc, _⟩ := hM.form hr
    simp only at e hc
    subst e
    unfold Oper.wp execOp
    simp only [ho, resolve, invoke, builtin, Sem.run_bind, Sem.run_pure, Result.andThen_ok, List.map_toArray, List.map_cons, List.map_nil, hs, hx, append_noneCh _ _ _ _ _ _ hc]
    refine h _ _ w ?_
    rw [List.append_nil, Nat.add_zero]
    have hk := (List.getElem?_eq_some_iff.1 hr)
    obtain ⟨hk1, hk2⟩ := hk
    rw [← hk2, List.set_getElem_self]
    exact hM
  | some ad =>
    have hnews : ∀ j u, news[j]? = some u → w.cell? (ad.add j) = some u := by
      rcases hrow with e | ⟨b, off, e, hc⟩
      · subst e; intro j u hu; simp at hu
      · obtain rfl := Option.some.inj e
        exact row_news (.inr ⟨b, off, rfl, hc⟩)
    refine wp_append_any s x 24 ho w0.heap.size 44 i0 (.agg #[.int .u32 0, .int .u32 0, .int .u32 0]) 3 12 Try.underlying24 hi hz0 hz1 hz2 rfl (by decide) v n xs hs (hM.at_ k _ hr) ad m c news hx hl hnews h1 (by unfold maxLen; omega) (by omega) hM.below.size (fun v' w' q1 q2 q3 => ?_)
    have hN := hM.push (n' := n + m) (v' := v') (xs' := xs ++ news) hr q1 q2 q3
    obtain ⟨A0, c0, e1, _, _⟩ := hN.form (k := k) (List.getElem?_set_self (List.getElem?_eq_some_iff.1 hr).1)
    simp only at e1
    subst e1
    exact h _ _ _ hN

set_option maxRecDepth 100000 in
set_option maxHeartbeats 8000000 in
theorem RightsClose_with {fn : Nat} (hfn : fn = 8) (hP : RtCloseOk fn) (n : Int) (m : Mat) (A : Option Addr) (c : Nat) (l : List Chn) (A2 : Option Addr) (c2 : Nat) (d : Chn) (w : World) (hm : m.length ≤ maxLen) (hcap : m.length ≤ c) (hr : Mats w A m) (hm2 : l.length ≤ maxLen) (hcap2 : l.length ≤ c2) (hc32 : C32 l) (hr2 : Row w A2 (chnsC l)) (hd : d.a < 4294967296 ∧ d.b < 4294967296 ∧ d.c < 4294967296) (hX : Laid w) :
    Calls Try.prog 6 #[.int .i64 n, .slice A m.length c, .slice A2 l.length c2, .agg #[.int .u32 (d.a : Int), .int .u32 (d.b : Int), .int .u32 (d.c : Int)]] w fun e w' => e = .returned (.bool true) ∧ Below w.heap.size w w' := by
  subst hfn
  have HK := Lib.hid (fun W (hb : Below w.heap.size w W) => hP n m A c l A2 c2 W hm hcap (hr.below hb) hm2 hcap2 hc32 (hr2.below hb) (hX.below hb))
  have HM1 := Lib.hid ((RowsM.nil w).newAlloc (cs := #[.int .u32 (d.a : Int), .int .u32 (d.b : Int), .int .u32 (d.c : Int)]) (t := 44) 3 1 (by decide) rfl)
  have HC := Lib.hid (fun W (hb : Below w.heap.size w W) => MatrixCheck_any n m A c A2 l.length c2 W hm (hr.below hb))
  by_cases h0 : codeX n m l.length = 0
  · obtain ⟨i0, hi0, hz0, hz1, hz2⟩ := info_parts infoCh
    have HI := Lib.hid (And.intro hi0 (And.intro hz0 (And.intro hz1 hz2)))
    clear hi0 hz0 hz1 hz2
    obtain ⟨g1, g2, g3, g4⟩ := codeX_zero h0
    obtain ⟨n, rfl⟩ := Int.eq_ofNat_of_zero_le (show 0 ≤ n by omega)
    have hF := Lib.hid hr.u2
    have e1 : m = tab2 n (atM m) := sq_tab2 g4
    have hlen : m.length = n := by rw [e1, tab2_len]
    have hn6 : n ≤ 6 := by omega
    have hn1 : 1 ≤ n := by omega
    have hG := Lib.hid (show U2 (closeX n l (atM m)) from iterX_u32 hF.out hc32 _)
    have HR := Lib.hid (fun g (h : CloseR n m l g) => show g = tab2 n (closeX n l (atM m)) from h.1 h0)
    have HK2 := Lib.hid (fun (B : Option Addr) (k : Nat) (W : World) (hb : Below w.heap.size w W) (hk : n ≤ k) (h : Mats W B (tab2 n (closeX n l (atM m)))) =>
      show Calls Try.prog 8 #[.int .i64 (n : Int), .slice B n k, .slice A2 l.length c2] W fun e w' => ∃ (B' : Option Addr) (k' : Nat), e = .returned (.tuple #[.slice B' n k', .int .i64 0]) ∧ n ≤ k' ∧ Mats w' B' (tab2 n (closeX n l (atM m))) ∧ Below W.heap.size W w' from by
        have q := hP n (tab2 n (closeX n l (atM m))) B k l A2 c2 W (by rw [tab2_len]; unfold maxLen; omega) (by rw [tab2_len]; omega) h hm2 hcap2 hc32 (hr2.below hb) (hX.below hb)
        have hc0 : codeX n (tab2 n (closeX n l (atM m))) l.length = 0 := codeX_ok (by omega) (sq_of_tab2 n _)
        rw [tab2_len, hc0] at q
        refine q.mono ?_
        rintro e w' ⟨B', k', g, rfl, hres, hk', hg, hb'⟩
        have e2 := hres.1 hc0
        rw [Int.toNat_natCast, close_again hn6 hF.out hc32] at e2
        subst e2
        rw [tab2_len] at *
        exact ⟨B', k', rfl, hk', hg, hb'⟩)
    have hd32 : C32 (l ++ [d]) := fun h hh => by
      rw [List.mem_append, List.mem_singleton] at hh
      rcases hh with hh | rfl
      · exact hc32 h hh
      · exact hd
    have HK3 := Lib.hid (fun (B : Option Addr) (k : Nat) (W : World) (hb : Below w.heap.size w W) (hk : l.length + 1 ≤ k) (h : Row W B (chnsC (l ++ [d]))) =>
      show Calls Try.prog 8 #[.int .i64 (n : Int), .slice A n c, .slice B (l.length + 1) k] W fun e w' => ∃ (B' : Option Addr) (k' : Nat) (N : Nat) (D : Nat → Nat → Nat) (q5 : Int), e = .returned (.tuple #[.slice B' N k', .int .i64 q5]) ∧ (q5 = if l.length = 10 then 1 else 0) ∧ (l.length ≠ 10 → N = n ∧ U2 D ∧ LeX n (closeX n l (atM m)) D ∧ Mats w' B' (tab2 n D)) ∧ Below W.heap.size W w' from by
        have q := hP n m A c (l ++ [d]) B k W hm hcap (hr.below hb) (by simp; unfold maxLen; omega) (by simpa using hk) hd32 h (hX.below hb)
        rw [List.length_append, List.length_singleton, hlen] at q
        by_cases h10 : l.length = 10
        · rw [codeX_large (m := m) (by omega)] at q
          refine q.mono ?_
          rintro e w' ⟨B', k', g, rfl, hres, hk', hg, hb'⟩
          exact ⟨B', k', g.length, fun _ _ => 0, 1, rfl, by rw [if_pos h10], fun h => absurd h10 h, hb'⟩
        · rw [codeX_ok (by omega) g4] at q
          refine q.mono ?_
          rintro e w' ⟨B', k', g, rfl, hres, hk', hg, hb'⟩
          have e2 := hres.1 (by rw [List.length_append, List.length_singleton]; exact codeX_ok (by omega) g4)
          rw [Int.toNat_natCast] at e2
          subst e2
          rw [tab2_len]
          exact ⟨B', k', n, closeX n (l ++ [d]) (atM m), 0, rfl, by rw [if_neg h10], fun _ => ⟨rfl, iterX_u32 hF.out hd32 _, close_more hn6 hF.out hd32 fun c hc => List.mem_append_left _ hc, hg⟩, hb'⟩)
    have HLe := Lib.hid (le_close n l (atM m))
    have HM0 := Lib.hid (show Mats w A (tab2 n (atM m)) by rw [← e1]; exact hr)
    have HR2 := Lib.hid hr2
    rw [h0] at HK HC
    clear hX hcap2 hP
    generalize closeX n l (atM m) = G at *
    clear h0 g1 g2 g4 e1 hr hc32 hd32 hr2 hm hm2 hcap
    rw [hlen] at HK HC ⊢
    clear hlen
    generalize atM m = F at *
    go_enter Try.func6, Try.ntmps6
    go_wp2_with fail
    refine (HK.out _ HM1.out.below).mono ?_
    rintro e w1 ⟨B1, k1, g, rfl, hres, hk1, hg1, hb1⟩
    obtain rfl := HR.out _ hres
    have HM2 := Lib.hid (HM1.out.grow hb1)
    have HG1 := Lib.hid hg1
    clear hres hb1 hg1 HM1
    rw [tab2_len] at *
    go_wp2_with fail
    refine (HC.out _ HM2.out.below).mono ?_
    rintro e w2 ⟨rfl, rfl⟩
    go_wp2_with fail
    refine (HK2.out _ _ _ HM2.out.below hk1 HG1.out).mono ?_
    rintro e w3 ⟨B3, k3, rfl, hk3, hg3, hb3⟩
    have km := Matrices_any (tab2 n G) (tab2 n G) B1 B3 k1 k3 w3 (HG1.out.below hb3) hg3 (fun r hr => by rw [tab2_rows r hr]; omega) (fun r hr => by rw [tab2_rows r hr]; omega) (by rw [tab2_len]; omega) (by rw [tab2_len]; omega)
    rw [tab2_len, decide_eq_true rfl] at km
    have HM3 := Lib.hid (HM2.out.grow hb3)
    have HG3 := Lib.hid (HG1.out.below hb3)
    clear hg3 hb3 HK HC HR HK2 HM2
    go_wp2_with fail
    refine km.mono ?_
    rintro e w4 ⟨rfl, dd, rfl⟩
    clear km
    have HM4 := Lib.hid (HM3.out.drewN dd)
    have HG4 := Lib.hid (show Mats (w3.drewN dd) B1 (tab2 n G) from HG3.out)
    clear HM3 HG3
    generalize w3.drewN dd = w4 at *
    generalize hsz : w.heap.size = sz at *
    have b0 := HM4.out.cell (k := 0) rfl (j := 0) rfl
    have b1 := HM4.out.cell (k := 0) rfl (j := 1) rfl
    have b2 := HM4.out.cell (k := 0) rfl (j := 2) rfl
    have HS := Lib.hid (fun W (hb : Below w4.heap.size w4 W) => show (fun W => W.cell? ⟨sz, 0, none⟩ = some (.int .u32 (d.a : Int)) ∧ W.cell? ⟨sz, 1, none⟩ = some (.int .u32 (d.b : Int)) ∧ W.cell? ⟨sz, 2, none⟩ = some (.int .u32 (d.c : Int))) W from ⟨keepX hb b0, keepX hb b1, keepX hb b2⟩)
    clear b0 b1 b2
    go_upto_region 7 with fail
    go_cut [13, 14] (fun v13 v14 wx => ∃ (B5 : Option Addr) (k5 N : Nat) (D : Nat → Nat → Nat) (q5 : Int), v13 = .slice B5 N k5 ∧ v14 = .int .i64 q5 ∧ (q5 = if l.length = 10 then 1 else 0) ∧ (l.length ≠ 10 → N = n ∧ U2 D ∧ LeX n G D ∧ Mats wx B5 (tab2 n D)) ∧ Below w4.heap.size w4 wx)
    case first =>
      refine wp_region_held_drew (S := fun W => W.cell? ⟨sz, 0, none⟩ = some (.int .u32 (d.a : Int)) ∧ W.cell? ⟨sz, 1, none⟩ = some (.int .u32 (d.b : Int)) ∧ W.cell? ⟨sz, 2, none⟩ = some (.int .u32 (d.c : Int))) (by kernel_rfl) (HS.out _ (Below.refl _ _).drew) (fun hHeld => ?_)
      refine' wpAnyH_take (i := 0) (oi := ⟨some 51, _, _, _, _, none⟩) (v := _) rfl (by kernel_rfl) (by kernel_rfl) (by kernel_rfl) (fun _ _ _ h => h) (Or.inl ⟨by rfl, ?hym0⟩) hHeld ?restm0
      case hym0 => (intro W hSw; obtain ⟨s1, s2, s3⟩ := hSw; go_simp; try with_reducible rfl)
      simp only [Act.put, List.setIfInBounds_toArray, List.set_cons_zero, List.set_cons_succ]
      refine' wpAnyH_take (i := 1) (oi := ⟨some 52, _, _, _, _, none⟩) (v := _) rfl (by kernel_rfl) (by kernel_rfl) (by kernel_rfl) (fun _ _ _ h => h) (Or.inl ⟨by rfl, ?hym1⟩) hHeld ?restm1
      case hym1 => (intro W hSw; obtain ⟨s1, s2, s3⟩ := hSw; go_simp; try with_reducible rfl)
      simp only [Act.put, List.setIfInBounds_toArray, List.set_cons_zero, List.set_cons_succ]
      refine' wpAnyH_take (i := 3) (oi := ⟨some 54, _, _, _, _, none⟩) (v := _) rfl (by kernel_rfl) (by kernel_rfl) (by kernel_rfl) (fun _ _ _ h => h) (Or.inl ⟨by rfl, ?hym3⟩) hHeld ?restm3
      case hym3 => (intro W hSw; obtain ⟨s1, s2, s3⟩ := hSw; go_simp; try with_reducible rfl)
      simp only [Act.put, List.setIfInBounds_toArray, List.set_cons_zero, List.set_cons_succ]
      refine' wpAnyH_take (i := 5) (oi := ⟨some 56, _, _, _, _, none⟩) (v := _) rfl (by kernel_rfl) (by kernel_rfl) (by kernel_rfl) (fun _ _ _ h => h) (Or.inl ⟨by rfl, ?hym5⟩) hHeld ?restm5
      case hym5 => (intro W hSw; obtain ⟨s1, s2, s3⟩ := hSw; go_simp; try with_reducible rfl)
      simp only [Act.put, List.setIfInBounds_toArray, List.set_cons_zero, List.set_cons_succ]
      have HM40 := Lib.hid ((RowsM.nil w4).drew)
      generalize w4.drew = wd at *
      refine wpAnyH_ready (rs := [2, 6]) (by kernel_rfl) (by simp) ?_
      refine AllReadyH.cons (o := ⟨some 53, _, _, _, _, none⟩) rfl (fun K hK => ?_) (AllReadyH.cons (o := ⟨some 57, _, _, _, _, none⟩) rfl (fun K hK => ?_) AllReadyH.nil)
      · go_simp
        obtain ⟨wdg, hgwd⟩ : ∃ x, x = wd.heap.size := ⟨_, rfl⟩
        have HA := Lib.hid (show RowsM w4 [⟨44, 3, .slice (some ⟨wdg, 0, none⟩) 0 0, 0, []⟩] (wd.alloc (.cells #[] 44)) by rw [hgwd]; exact HM40.out.newAlloc (cs := #[]) (t := 44) 3 0 (by decide) rfl)
        rw [← hgwd]
        clear hgwd 
        refine hK.out _ _ (HS.out _ HA.out.below) (fun hHeld => ?_)
        clear hK K
        generalize wd.alloc _ = wa at *
        refine wpAnyH_ready (rs := [4, 6]) (by kernel_rfl) (by simp) ?_
        refine AllReadyH.cons (o := ⟨some 55, _, _, _, _, none⟩) rfl (fun K hK => ?_) (AllReadyH.cons (o := ⟨some 57, _, _, _, _, none⟩) rfl (fun K hK => ?_) AllReadyH.nil)
        · refine wp_append_ch (.tmp 53) (.tmp 54) rfl 0 0 _ _ l.length (chnsC l) HA.out rfl rfl A2 l.length c2 (chnsC l) rfl (chnsC_len l) (HR2.out.below (HM4.out.below.trans (HA.out.below.mono HM4.out.below.size))) (chnsC_oneCell l) (by omega) (by omega) rfl ?_
          intro A9 c9 wb hn9
          have HB := Lib.hid (show RowsM w4 [⟨44, 3, .slice A9 l.length c9, l.length, chnsC l⟩] wb from hn9)
          clear hn9 HA
          simp only [Act.put, List.setIfInBounds_toArray, List.set_cons_zero, List.set_cons_succ]
          refine hK.out _ _ (HS.out _ HB.out.below) (fun hHeld => ?_)
          clear hK K
          refine wpAnyH_ready (rs := [6]) (by kernel_rfl) (by simp) ?_
          refine AllReadyH.cons (o := ⟨some 57, _, _, _, _, none⟩) rfl (fun K hK => ?_) AllReadyH.nil
          go_simp
          obtain ⟨wbg, hgwb⟩ : ∃ x, x = wb.heap.size := ⟨_, rfl⟩
          have HC := Lib.hid (show RowsM w4 [⟨44, 3, .slice A9 l.length c9, l.length, chnsC l⟩, ⟨44, 3, .slice (some ⟨wbg, 0, none⟩) 1 1, 1, [.int .u32 (d.a : Int), .int .u32 (d.b : Int), .int .u32 (d.c : Int)]⟩] (wb.alloc (.cells #[.int .u32 (d.a : Int), .int .u32 (d.b : Int), .int .u32 (d.c : Int)] 44)) by rw [hgwb]; exact HB.out.newAlloc (cs := #[.int .u32 (d.a : Int), .int .u32 (d.b : Int), .int .u32 (d.c : Int)]) (t := 44) 3 1 (by decide) rfl)
          rw [← hgwb]
          clear hgwb HB
          refine hK.out _ _ (HS.out _ HC.out.below) (fun hHeld => ?_)
          clear hK K
          generalize wb.alloc _ = wc at *
          refine wpAnyH_ready (rs := [7]) (by kernel_rfl) (by simp) ?_
          refine AllReadyH.cons (o := ⟨some 58, _, _, _, _, none⟩) rfl (fun K hK => ?_) AllReadyH.nil
          refine wp_append_ch (.tmp 55) (.tmp 57) rfl 0 l.length _ _ (l.length + 1) (chnsC (l ++ [d])) HC.out rfl rfl (some ⟨wbg, 0, none⟩) 1 1 [.int .u32 (d.a : Int), .int .u32 (d.b : Int), .int .u32 (d.c : Int)] rfl rfl (HC.out.row (k := 1) rfl) (by simp [Value.oneCell']) (by omega) rfl (by simp [chnsC, chC]) ?_
          intro A10 c10 wy hn10
          have HY := Lib.hid (show RowsM w4 [⟨44, 3, .slice A10 (l.length + 1) c10, l.length + 1, chnsC (l ++ [d])⟩, ⟨44, 3, .slice (some ⟨wbg, 0, none⟩) 1 1, 1, [.int .u32 (d.a : Int), .int .u32 (d.b : Int), .int .u32 (d.c : Int)]⟩] wy from hn10)
          clear hn10 HC
          simp only [Act.put, List.setIfInBounds_toArray, List.set_cons_zero, List.set_cons_succ]
          refine hK.out _ _ (HS.out _ HY.out.below) (fun hHeld => ?_)
          clear hK K
          refine wpAnyH_ready (rs := [8]) (by kernel_rfl) (by simp) ?_
          refine AllReadyH.cons (o := ⟨some 59, _, _, _, _, none⟩) rfl (fun K hK => ?_) AllReadyH.nil
          go_simp
          refine (HK3.out _ _ _ (by rw [← hsz]; exact HM4.out.below.trans (HY.out.below.mono HM4.out.below.size)) (by obtain ⟨_, _, e, h, _⟩ := HY.out.form (k := 0) rfl; simp only [Value.slice.injEq] at e; obtain ⟨_, _, rfl⟩ := e; exact h) (HY.out.row (k := 0) rfl)).mono ?_
          rintro e wz ⟨B5, k5, N, D, q5, rfl, hq5, hD, hb5⟩
          have HQ5 := Lib.hid hq5
          have HB5 := Lib.hid (HY.out.below.trans (hb5.mono HY.out.below.size))
          have HD := Lib.hid hD
          refine hK.out _ _ (HS.out _ HB5.out) (fun hHeld => ?_)
          clear hK K hb5 hD HY hq5
          refine' wpAnyH_take (i := 9) (oi := ⟨some 50, _, _, _, _, none⟩) (v := _) rfl (by kernel_rfl) (by kernel_rfl) (by kernel_rfl) (fun _ _ _ h => h) (Or.inl ⟨by rfl, ?hyz90wbg⟩) hHeld ?restz90wbg
          case hyz90wbg => (intro W hSw; obtain ⟨s1, s2, s3⟩ := hSw; go_simp; try with_reducible rfl)
          simp only [Act.put, List.setIfInBounds_toArray, List.set_cons_zero, List.set_cons_succ]
          refine' wpAnyH_take (i := 10) (oi := ⟨some 60, _, _, _, _, none⟩) (v := _) rfl (by kernel_rfl) (by kernel_rfl) (by kernel_rfl) (fun _ _ _ h => h) (Or.inl ⟨by rfl, ?hyz100wbg⟩) hHeld ?restz100wbg
          case hyz100wbg => (intro W hSw; obtain ⟨s1, s2, s3⟩ := hSw; go_simp; try with_reducible rfl)
          simp only [Act.put, List.setIfInBounds_toArray, List.set_cons_zero, List.set_cons_succ]
          refine' wpAnyH_take (i := 11) (oi := ⟨some 61, _, _, _, _, none⟩) (v := _) rfl (by kernel_rfl) (by kernel_rfl) (by kernel_rfl) (fun _ _ _ h => h) (Or.inl ⟨by rfl, ?hyz110wbg⟩) hHeld ?restz110wbg
          case hyz110wbg => (intro W hSw; obtain ⟨s1, s2, s3⟩ := hSw; go_simp; try with_reducible rfl)
          simp only [Act.put, List.setIfInBounds_toArray, List.set_cons_zero, List.set_cons_succ]
          refine' wpAnyH_take (i := 12) (oi := ⟨some 13, _, _, _, _, none⟩) (v := _) rfl (by kernel_rfl) (by kernel_rfl) (by kernel_rfl) (fun _ _ _ h => h) (Or.inl ⟨by rfl, ?hyz120wbg⟩) hHeld ?restz120wbg
          case hyz120wbg => (intro W hSw; obtain ⟨s1, s2, s3⟩ := hSw; go_simp; try with_reducible rfl)
          simp only [Act.put, List.setIfInBounds_toArray, List.set_cons_zero, List.set_cons_succ]
          refine' wpAnyH_take (i := 13) (oi := ⟨some 14, _, _, _, _, none⟩) (v := _) rfl (by kernel_rfl) (by kernel_rfl) (by kernel_rfl) (fun _ _ _ h => h) (Or.inl ⟨by rfl, ?hyz130wbg⟩) hHeld ?restz130wbg
          case hyz130wbg => (intro W hSw; obtain ⟨s1, s2, s3⟩ := hSw; go_simp; try with_reducible rfl)
          simp only [Act.put, List.setIfInBounds_toArray, List.set_cons_zero, List.set_cons_succ]
          refine wpAnyH_done (by kernel_rfl) ?_ _
          go_wp2_with fail
          go_meet
          exact ⟨B5, k5, N, D, q5, rfl, rfl, HQ5.out, HD.out, HB5.out⟩
        · go_simp
          obtain ⟨wag, hgwa⟩ : ∃ x, x = wa.heap.size := ⟨_, rfl⟩
          have HB := Lib.hid (show RowsM w4 [⟨44, 3, .slice (some ⟨wdg, 0, none⟩) 0 0, 0, []⟩, ⟨44, 3, .slice (some ⟨wag, 0, none⟩) 1 1, 1, [.int .u32 (d.a : Int), .int .u32 (d.b : Int), .int .u32 (d.c : Int)]⟩] (wa.alloc (.cells #[.int .u32 (d.a : Int), .int .u32 (d.b : Int), .int .u32 (d.c : Int)] 44)) by rw [hgwa]; exact HA.out.newAlloc (cs := #[.int .u32 (d.a : Int), .int .u32 (d.b : Int), .int .u32 (d.c : Int)]) (t := 44) 3 1 (by decide) rfl)
          rw [← hgwa]
          clear hgwa HA
          refine hK.out _ _ (HS.out _ HB.out.below) (fun hHeld => ?_)
          clear hK K
          generalize wa.alloc _ = wb at *
          refine wpAnyH_ready (rs := [4]) (by kernel_rfl) (by simp) ?_
          refine AllReadyH.cons (o := ⟨some 55, _, _, _, _, none⟩) rfl (fun K hK => ?_) AllReadyH.nil
          refine wp_append_ch (.tmp 53) (.tmp 54) rfl 0 0 _ _ l.length (chnsC l) HB.out rfl rfl A2 l.length c2 (chnsC l) rfl (chnsC_len l) (HR2.out.below (HM4.out.below.trans (HB.out.below.mono HM4.out.below.size))) (chnsC_oneCell l) (by omega) (by omega) rfl ?_
          intro A9 c9 wc hn9
          have HC := Lib.hid (show RowsM w4 [⟨44, 3, .slice A9 l.length c9, l.length, chnsC l⟩, ⟨44, 3, .slice (some ⟨wag, 0, none⟩) 1 1, 1, [.int .u32 (d.a : Int), .int .u32 (d.b : Int), .int .u32 (d.c : Int)]⟩] wc from hn9)
          clear hn9 HB
          simp only [Act.put, List.setIfInBounds_toArray, List.set_cons_zero, List.set_cons_succ]
          refine hK.out _ _ (HS.out _ HC.out.below) (fun hHeld => ?_)
          clear hK K
          refine wpAnyH_ready (rs := [7]) (by kernel_rfl) (by simp) ?_
          refine AllReadyH.cons (o := ⟨some 58, _, _, _, _, none⟩) rfl (fun K hK => ?_) AllReadyH.nil
          refine wp_append_ch (.tmp 55) (.tmp 57) rfl 0 l.length _ _ (l.length + 1) (chnsC (l ++ [d])) HC.out rfl rfl (some ⟨wag, 0, none⟩) 1 1 [.int .u32 (d.a : Int), .int .u32 (d.b : Int), .int .u32 (d.c : Int)] rfl rfl (HC.out.row (k := 1) rfl) (by simp [Value.oneCell']) (by omega) rfl (by simp [chnsC, chC]) ?_
          intro A10 c10 wy hn10
          have HY := Lib.hid (show RowsM w4 [⟨44, 3, .slice A10 (l.length + 1) c10, l.length + 1, chnsC (l ++ [d])⟩, ⟨44, 3, .slice (some ⟨wag, 0, none⟩) 1 1, 1, [.int .u32 (d.a : Int), .int .u32 (d.b : Int), .int .u32 (d.c : Int)]⟩] wy from hn10)
          clear hn10 HC
          simp only [Act.put, List.setIfInBounds_toArray, List.set_cons_zero, List.set_cons_succ]
          refine hK.out _ _ (HS.out _ HY.out.below) (fun hHeld => ?_)
          clear hK K
          refine wpAnyH_ready (rs := [8]) (by kernel_rfl) (by simp) ?_
          refine AllReadyH.cons (o := ⟨some 59, _, _, _, _, none⟩) rfl (fun K hK => ?_) AllReadyH.nil
          go_simp
          refine (HK3.out _ _ _ (by rw [← hsz]; exact HM4.out.below.trans (HY.out.below.mono HM4.out.below.size)) (by obtain ⟨_, _, e, h, _⟩ := HY.out.form (k := 0) rfl; simp only [Value.slice.injEq] at e; obtain ⟨_, _, rfl⟩ := e; exact h) (HY.out.row (k := 0) rfl)).mono ?_
          rintro e wz ⟨B5, k5, N, D, q5, rfl, hq5, hD, hb5⟩
          have HQ5 := Lib.hid hq5
          have HB5 := Lib.hid (HY.out.below.trans (hb5.mono HY.out.below.size))
          have HD := Lib.hid hD
          refine hK.out _ _ (HS.out _ HB5.out) (fun hHeld => ?_)
          clear hK K hb5 hD HY hq5
          refine' wpAnyH_take (i := 9) (oi := ⟨some 50, _, _, _, _, none⟩) (v := _) rfl (by kernel_rfl) (by kernel_rfl) (by kernel_rfl) (fun _ _ _ h => h) (Or.inl ⟨by rfl, ?hyz90wag⟩) hHeld ?restz90wag
          case hyz90wag => (intro W hSw; obtain ⟨s1, s2, s3⟩ := hSw; go_simp; try with_reducible rfl)
          simp only [Act.put, List.setIfInBounds_toArray, List.set_cons_zero, List.set_cons_succ]
          refine' wpAnyH_take (i := 10) (oi := ⟨some 60, _, _, _, _, none⟩) (v := _) rfl (by kernel_rfl) (by kernel_rfl) (by kernel_rfl) (fun _ _ _ h => h) (Or.inl ⟨by rfl, ?hyz100wag⟩) hHeld ?restz100wag
          case hyz100wag => (intro W hSw; obtain ⟨s1, s2, s3⟩ := hSw; go_simp; try with_reducible rfl)
          simp only [Act.put, List.setIfInBounds_toArray, List.set_cons_zero, List.set_cons_succ]
          refine' wpAnyH_take (i := 11) (oi := ⟨some 61, _, _, _, _, none⟩) (v := _) rfl (by kernel_rfl) (by kernel_rfl) (by kernel_rfl) (fun _ _ _ h => h) (Or.inl ⟨by rfl, ?hyz110wag⟩) hHeld ?restz110wag
          case hyz110wag => (intro W hSw; obtain ⟨s1, s2, s3⟩ := hSw; go_simp; try with_reducible rfl)
          simp only [Act.put, List.setIfInBounds_toArray, List.set_cons_zero, List.set_cons_succ]
          refine' wpAnyH_take (i := 12) (oi := ⟨some 13, _, _, _, _, none⟩) (v := _) rfl (by kernel_rfl) (by kernel_rfl) (by kernel_rfl) (fun _ _ _ h => h) (Or.inl ⟨by rfl, ?hyz120wag⟩) hHeld ?restz120wag
          case hyz120wag => (intro W hSw; obtain ⟨s1, s2, s3⟩ := hSw; go_simp; try with_reducible rfl)
          simp only [Act.put, List.setIfInBounds_toArray, List.set_cons_zero, List.set_cons_succ]
          refine' wpAnyH_take (i := 13) (oi := ⟨some 14, _, _, _, _, none⟩) (v := _) rfl (by kernel_rfl) (by kernel_rfl) (by kernel_rfl) (fun _ _ _ h => h) (Or.inl ⟨by rfl, ?hyz130wag⟩) hHeld ?restz130wag
          case hyz130wag => (intro W hSw; obtain ⟨s1, s2, s3⟩ := hSw; go_simp; try with_reducible rfl)
          simp only [Act.put, List.setIfInBounds_toArray, List.set_cons_zero, List.set_cons_succ]
          refine wpAnyH_done (by kernel_rfl) ?_ _
          go_wp2_with fail
          go_meet
          exact ⟨B5, k5, N, D, q5, rfl, rfl, HQ5.out, HD.out, HB5.out⟩
      · go_simp
        obtain ⟨wdg, hgwd⟩ : ∃ x, x = wd.heap.size := ⟨_, rfl⟩
        have HA := Lib.hid (show RowsM w4 [⟨44, 3, .slice (some ⟨wdg, 0, none⟩) 1 1, 1, [.int .u32 (d.a : Int), .int .u32 (d.b : Int), .int .u32 (d.c : Int)]⟩] (wd.alloc (.cells #[.int .u32 (d.a : Int), .int .u32 (d.b : Int), .int .u32 (d.c : Int)] 44)) by rw [hgwd]; exact HM40.out.newAlloc (cs := #[.int .u32 (d.a : Int), .int .u32 (d.b : Int), .int .u32 (d.c : Int)]) (t := 44) 3 1 (by decide) rfl)
        rw [← hgwd]
        clear hgwd 
        refine hK.out _ _ (HS.out _ HA.out.below) (fun hHeld => ?_)
        clear hK K
        generalize wd.alloc _ = wa at *
        refine wpAnyH_ready (rs := [2]) (by kernel_rfl) (by simp) ?_
        refine AllReadyH.cons (o := ⟨some 53, _, _, _, _, none⟩) rfl (fun K hK => ?_) AllReadyH.nil
        go_simp
        obtain ⟨wag, hgwa⟩ : ∃ x, x = wa.heap.size := ⟨_, rfl⟩
        have HB := Lib.hid (show RowsM w4 [⟨44, 3, .slice (some ⟨wdg, 0, none⟩) 1 1, 1, [.int .u32 (d.a : Int), .int .u32 (d.b : Int), .int .u32 (d.c : Int)]⟩, ⟨44, 3, .slice (some ⟨wag, 0, none⟩) 0 0, 0, []⟩] (wa.alloc (.cells #[] 44)) by rw [hgwa]; exact HA.out.newAlloc (cs := #[]) (t := 44) 3 0 (by decide) rfl)
        rw [← hgwa]
        clear hgwa HA
        refine hK.out _ _ (HS.out _ HB.out.below) (fun hHeld => ?_)
        clear hK K
        generalize wa.alloc _ = wb at *
        refine wpAnyH_ready (rs := [4]) (by kernel_rfl) (by simp) ?_
        refine AllReadyH.cons (o := ⟨some 55, _, _, _, _, none⟩) rfl (fun K hK => ?_) AllReadyH.nil
        refine wp_append_ch (.tmp 53) (.tmp 54) rfl 1 0 _ _ l.length (chnsC l) HB.out rfl rfl A2 l.length c2 (chnsC l) rfl (chnsC_len l) (HR2.out.below (HM4.out.below.trans (HB.out.below.mono HM4.out.below.size))) (chnsC_oneCell l) (by omega) (by omega) rfl ?_
        intro A9 c9 wc hn9
        have HC := Lib.hid (show RowsM w4 [⟨44, 3, .slice (some ⟨wdg, 0, none⟩) 1 1, 1, [.int .u32 (d.a : Int), .int .u32 (d.b : Int), .int .u32 (d.c : Int)]⟩, ⟨44, 3, .slice A9 l.length c9, l.length, chnsC l⟩] wc from hn9)
        clear hn9 HB
        simp only [Act.put, List.setIfInBounds_toArray, List.set_cons_zero, List.set_cons_succ]
        refine hK.out _ _ (HS.out _ HC.out.below) (fun hHeld => ?_)
        clear hK K
        refine wpAnyH_ready (rs := [7]) (by kernel_rfl) (by simp) ?_
        refine AllReadyH.cons (o := ⟨some 58, _, _, _, _, none⟩) rfl (fun K hK => ?_) AllReadyH.nil
        refine wp_append_ch (.tmp 55) (.tmp 57) rfl 1 l.length _ _ (l.length + 1) (chnsC (l ++ [d])) HC.out rfl rfl (some ⟨wdg, 0, none⟩) 1 1 [.int .u32 (d.a : Int), .int .u32 (d.b : Int), .int .u32 (d.c : Int)] rfl rfl (HC.out.row (k := 0) rfl) (by simp [Value.oneCell']) (by omega) rfl (by simp [chnsC, chC]) ?_
        intro A10 c10 wy hn10
        have HY := Lib.hid (show RowsM w4 [⟨44, 3, .slice (some ⟨wdg, 0, none⟩) 1 1, 1, [.int .u32 (d.a : Int), .int .u32 (d.b : Int), .int .u32 (d.c : Int)]⟩, ⟨44, 3, .slice A10 (l.length + 1) c10, l.length + 1, chnsC (l ++ [d])⟩] wy from hn10)
        clear hn10 HC
        simp only [Act.put, List.setIfInBounds_toArray, List.set_cons_zero, List.set_cons_succ]
        refine hK.out _ _ (HS.out _ HY.out.below) (fun hHeld => ?_)
        clear hK K
        refine wpAnyH_ready (rs := [8]) (by kernel_rfl) (by simp) ?_
        refine AllReadyH.cons (o := ⟨some 59, _, _, _, _, none⟩) rfl (fun K hK => ?_) AllReadyH.nil
        go_simp
        refine (HK3.out _ _ _ (by rw [← hsz]; exact HM4.out.below.trans (HY.out.below.mono HM4.out.below.size)) (by obtain ⟨_, _, e, h, _⟩ := HY.out.form (k := 1) rfl; simp only [Value.slice.injEq] at e; obtain ⟨_, _, rfl⟩ := e; exact h) (HY.out.row (k := 1) rfl)).mono ?_
        rintro e wz ⟨B5, k5, N, D, q5, rfl, hq5, hD, hb5⟩
        have HQ5 := Lib.hid hq5
        have HB5 := Lib.hid (HY.out.below.trans (hb5.mono HY.out.below.size))
        have HD := Lib.hid hD
        refine hK.out _ _ (HS.out _ HB5.out) (fun hHeld => ?_)
        clear hK K hb5 hD HY hq5
        refine' wpAnyH_take (i := 9) (oi := ⟨some 50, _, _, _, _, none⟩) (v := _) rfl (by kernel_rfl) (by kernel_rfl) (by kernel_rfl) (fun _ _ _ h => h) (Or.inl ⟨by rfl, ?hyz91wdg⟩) hHeld ?restz91wdg
        case hyz91wdg => (intro W hSw; obtain ⟨s1, s2, s3⟩ := hSw; go_simp; try with_reducible rfl)
        simp only [Act.put, List.setIfInBounds_toArray, List.set_cons_zero, List.set_cons_succ]
        refine' wpAnyH_take (i := 10) (oi := ⟨some 60, _, _, _, _, none⟩) (v := _) rfl (by kernel_rfl) (by kernel_rfl) (by kernel_rfl) (fun _ _ _ h => h) (Or.inl ⟨by rfl, ?hyz101wdg⟩) hHeld ?restz101wdg
        case hyz101wdg => (intro W hSw; obtain ⟨s1, s2, s3⟩ := hSw; go_simp; try with_reducible rfl)
        simp only [Act.put, List.setIfInBounds_toArray, List.set_cons_zero, List.set_cons_succ]
        refine' wpAnyH_take (i := 11) (oi := ⟨some 61, _, _, _, _, none⟩) (v := _) rfl (by kernel_rfl) (by kernel_rfl) (by kernel_rfl) (fun _ _ _ h => h) (Or.inl ⟨by rfl, ?hyz111wdg⟩) hHeld ?restz111wdg
        case hyz111wdg => (intro W hSw; obtain ⟨s1, s2, s3⟩ := hSw; go_simp; try with_reducible rfl)
        simp only [Act.put, List.setIfInBounds_toArray, List.set_cons_zero, List.set_cons_succ]
        refine' wpAnyH_take (i := 12) (oi := ⟨some 13, _, _, _, _, none⟩) (v := _) rfl (by kernel_rfl) (by kernel_rfl) (by kernel_rfl) (fun _ _ _ h => h) (Or.inl ⟨by rfl, ?hyz121wdg⟩) hHeld ?restz121wdg
        case hyz121wdg => (intro W hSw; obtain ⟨s1, s2, s3⟩ := hSw; go_simp; try with_reducible rfl)
        simp only [Act.put, List.setIfInBounds_toArray, List.set_cons_zero, List.set_cons_succ]
        refine' wpAnyH_take (i := 13) (oi := ⟨some 14, _, _, _, _, none⟩) (v := _) rfl (by kernel_rfl) (by kernel_rfl) (by kernel_rfl) (fun _ _ _ h => h) (Or.inl ⟨by rfl, ?hyz131wdg⟩) hHeld ?restz131wdg
        case hyz131wdg => (intro W hSw; obtain ⟨s1, s2, s3⟩ := hSw; go_simp; try with_reducible rfl)
        simp only [Act.put, List.setIfInBounds_toArray, List.set_cons_zero, List.set_cons_succ]
        refine wpAnyH_done (by kernel_rfl) ?_ _
        go_wp2_with fail
        go_meet
        exact ⟨B5, k5, N, D, q5, rfl, rfl, HQ5.out, HD.out, HB5.out⟩
    case rest =>
    obtain ⟨B5, k5, N, D, q5, rfl, rfl, hq5, hD, hb5⟩ := hcut
    have HQ := Lib.hid hq5
    have HEnd := Lib.hid (show Below sz w wc by rw [← hsz]; exact HM4.out.below.trans (hb5.mono HM4.out.below.size))
    have HMm := Lib.hid (show Mats wc A (tab2 n F) from HM0.out.below (by rw [hsz]; exact HEnd.out))
    have HMg := Lib.hid (show Mats wc B1 (tab2 n G) from HG4.out.below hb5)
    have HD := Lib.hid hD
    clear hq5 hb5 hD HM4 HM0 HG4 HS HK3 HR2
    by_cases h10 : l.length = 10
    · obtain rfl : q5 = 1 := by rw [HQ.out, if_pos h10]
      have hd10 : ((l.length : Int) == 10) = true := by simp [h10]
      clear HQ HD h10
      go_wp2
      go_loopw [15] (fun v wr => ∃ i q : Nat, v = .int .i64 i ∧ i ≤ n ∧ wr = wc.drewN q) (fun v _ => n - (intOf v).toNat)
      case atStart => exact ⟨0, 0, rfl, Nat.zero_le _, rfl⟩
      case round =>
        obtain ⟨i, q, rfl, hi, rfl⟩ := hrel
        generalize hw5 : wc.drewN q = w5 at *
        have HW := Lib.hid hw5
        clear hw5
        by_cases hlt : i < n
        · have hib : (i : Int) < n := by omega
          go_wp2
          go_loopw [16] (fun v wr => ∃ j p : Nat, v = .int .i64 j ∧ j ≤ n ∧ wr = w5.drewN p) (fun v _ => n - (intOf v).toNat)
          case atStart => exact ⟨0, 0, rfl, Nat.zero_le _, rfl⟩
          case round =>
            obtain ⟨j, p, rfl, hj, rfl⟩ := hrel
            have k1 : Mats (w5.drewN p) A (tab2 n F) := by rw [← HW.out]; exact HMm.out
            have k2 : Mats (w5.drewN p) B1 (tab2 n G) := by rw [← HW.out]; exact HMg.out
            generalize hw6 : w5.drewN p = w6 at *
            have HW6 := Lib.hid hw6
            clear hw6
            by_cases hlj : j < n
            · have hjb : (j : Int) < n := by omega
              obtain ⟨bA, oA, Ai, ci, rfl, a0, _, _, _, row1⟩ := k1.row (i := i) (tabA_get _ hlt)
              rw [tabA_length] at a0
              obtain ⟨b1, o1, rfl, hb1⟩ := row1.at (k := j) (by simp [words]; omega)
              have y1 := hb1 j _ (words_at (tabA_get (F i) hlj))
              obtain ⟨bB, oB, Bi, di, rfl, a1, _, _, _, row2⟩ := k2.row (i := i) (tabA_get _ hlt)
              rw [tabA_length] at a1
              obtain ⟨b2, o2, rfl, hb2⟩ := row2.at (k := j) (by simp [words]; omega)
              have y2 := hb2 j _ (words_at (tabA_get (G i) hlj))
              have hI1 : ∀ q, Calls Try.prog 14 #[.int .u32 (F i j : Nat), .int .u32 (G i j : Nat)] (w6.drewN q) fun e w' => e = .returned (.bool true) ∧ ∃ m, w' = w6.drewN m := fun q => by
                have h := In_any (F i j) (G i j) (hF.out i j) (hG.out i j) (w6.drewN q)
                rw [show (F i j ||| G i j == G i j) = true from HLe.out i j hlt hlj] at h
                exact h.mono fun e w' ⟨he, hw⟩ => ⟨he, q, hw.symm⟩
              clear k1 k2 row1 row2 hb1 hb2
              go_wp2
              go_quiet (with_reducible first | exact hI1 _ )
              go_wp2
              go_roundw
              case rel => exact ⟨j + 1, p + nq, by go_num, by omega, by rw [← HW6.out, World.drewN_drewN]⟩
              case measure => simp [intOf]; omega
            · obtain rfl : j = n := by omega
              have hjb : ¬ ((j : Int) < j) := by omega
              clear k1 k2 
              go_wp2
              go_roundw
              case rel => exact ⟨i + 1, q + p, by go_num, by omega, by rw [← HW6.out, ← HW.out, World.drewN_drewN]⟩
              case measure => simp [intOf]; omega
        · obtain rfl : i = n := by omega
          have hib : ¬ ((i : Int) < i) := by omega
          go_wp2
          go_ret
          exact ⟨rfl, by rw [← HW.out]; exact below_drewN HEnd.out q⟩
    · obtain rfl : q5 = 0 := by rw [HQ.out, if_neg h10]
      obtain ⟨hNn, hU, hLe2, hMd⟩ := HD.out h10
      have hnN := hNn.symm
      clear hNn
      subst hnN
      have HMd := Lib.hid hMd
      have HU2 := Lib.hid hU
      have HLe2 := Lib.hid hLe2
      clear HQ HD h10 hU hLe2 hMd
      go_wp2
      go_loopw [15] (fun v wr => ∃ i q : Nat, v = .int .i64 i ∧ i ≤ n ∧ wr = wc.drewN q) (fun v _ => n - (intOf v).toNat)
      case atStart => exact ⟨0, 0, rfl, Nat.zero_le _, rfl⟩
      case round =>
        obtain ⟨i, q, rfl, hi, rfl⟩ := hrel
        generalize hw5 : wc.drewN q = w5 at *
        have HW := Lib.hid hw5
        clear hw5
        by_cases hlt : i < n
        · have hib : (i : Int) < n := by omega
          go_wp2
          go_loopw [16] (fun v wr => ∃ j p : Nat, v = .int .i64 j ∧ j ≤ n ∧ wr = w5.drewN p) (fun v _ => n - (intOf v).toNat)
          case atStart => exact ⟨0, 0, rfl, Nat.zero_le _, rfl⟩
          case round =>
            obtain ⟨j, p, rfl, hj, rfl⟩ := hrel
            have k1 : Mats (w5.drewN p) A (tab2 n F) := by rw [← HW.out]; exact HMm.out
            have k2 : Mats (w5.drewN p) B1 (tab2 n G) := by rw [← HW.out]; exact HMg.out
            have k3 : Mats (w5.drewN p) B5 (tab2 n D) := by rw [← HW.out]; exact HMd.out
            generalize hw6 : w5.drewN p = w6 at *
            have HW6 := Lib.hid hw6
            clear hw6
            by_cases hlj : j < n
            · have hjb : (j : Int) < n := by omega
              obtain ⟨bA, oA, Ai, ci, rfl, a0, _, _, _, row1⟩ := k1.row (i := i) (tabA_get _ hlt)
              rw [tabA_length] at a0
              obtain ⟨b1, o1, rfl, hb1⟩ := row1.at (k := j) (by simp [words]; omega)
              have y1 := hb1 j _ (words_at (tabA_get (F i) hlj))
              obtain ⟨bB, oB, Bi, di, rfl, a1, _, _, _, row2⟩ := k2.row (i := i) (tabA_get _ hlt)
              rw [tabA_length] at a1
              obtain ⟨b2, o2, rfl, hb2⟩ := row2.at (k := j) (by simp [words]; omega)
              have y2 := hb2 j _ (words_at (tabA_get (G i) hlj))
              have hI1 : ∀ q, Calls Try.prog 14 #[.int .u32 (F i j : Nat), .int .u32 (G i j : Nat)] (w6.drewN q) fun e w' => e = .returned (.bool true) ∧ ∃ m, w' = w6.drewN m := fun q => by
                have h := In_any (F i j) (G i j) (hF.out i j) (hG.out i j) (w6.drewN q)
                rw [show (F i j ||| G i j == G i j) = true from HLe.out i j hlt hlj] at h
                exact h.mono fun e w' ⟨he, hw⟩ => ⟨he, q, hw.symm⟩
              obtain ⟨bD, oD, Di, fi, rfl, a2, _, _, _, row3⟩ := k3.row (i := i) (tabA_get _ hlt)
              rw [tabA_length] at a2
              obtain ⟨b3, o3, rfl, hb3⟩ := row3.at (k := j) (by simp [words]; omega)
              have y3 := hb3 j _ (words_at (tabA_get (D i) hlj))
              have hI2 : ∀ q, Calls Try.prog 14 #[.int .u32 (G i j : Nat), .int .u32 (D i j : Nat)] (w6.drewN q) fun e w' => e = .returned (.bool true) ∧ ∃ m, w' = w6.drewN m := fun q => by
                have h := In_any (G i j) (D i j) (hG.out i j) (HU2.out i j) (w6.drewN q)
                rw [show (G i j ||| D i j == D i j) = true from HLe2.out i j hlt hlj] at h
                exact h.mono fun e w' ⟨he, hw⟩ => ⟨he, q, hw.symm⟩
              clear k3 row3 hb3
              clear k1 k2 row1 row2 hb1 hb2
              go_wp2
              go_quiet (with_reducible first | exact hI1 _ | exact hI2 _)
              go_wp2
              go_roundw
              case rel => exact ⟨j + 1, p + nq, by go_num, by omega, by rw [← HW6.out, World.drewN_drewN]⟩
              case measure => simp [intOf]; omega
            · obtain rfl : j = n := by omega
              have hjb : ¬ ((j : Int) < j) := by omega
              clear k1 k2 k3
              go_wp2
              go_roundw
              case rel => exact ⟨i + 1, q + p, by go_num, by omega, by rw [← HW6.out, ← HW.out, World.drewN_drewN]⟩
              case measure => simp [intOf]; omega
        · obtain rfl : i = n := by omega
          have hib : ¬ ((i : Int) < i) := by omega
          go_wp2
          go_ret
          exact ⟨rfl, by rw [← HW.out]; exact below_drewN HEnd.out q⟩
  · have HR := Lib.hid (fun g (h : CloseR n m l g) => show g = [] from h.2 h0)
    have hne : (codeX n m l.length != 0) = true := by simpa using h0
    clear h0 hr hc32 hr2 hm hm2 hcap hX hcap2
    generalize codeX n m l.length = q at *
    go_enter Try.func6, Try.ntmps6
    go_wp2_with fail
    refine (HK.out _ HM1.out.below).mono ?_
    rintro e w1 ⟨B, k, g, rfl, hres, hk, hg, hb1⟩
    obtain rfl := HR.out _ hres
    have HB1 := Lib.hid (HM1.out.grow hb1).below
    clear hres hb1 hg
    go_wp2_with fail
    refine (HC.out _ HB1.out).mono ?_
    rintro e w2 ⟨rfl, rfl⟩
    go_wp2
    go_ret
    exact ⟨rfl, HB1.out⟩

end Go.Proofs.Ythgmbiaajgpaaaa
