/- slices.Grow of nothing, slices.Concat of two slices of labels; mark.check. -/
import Derived.Test.YtdiaglaokgehbaaWMo1
import Derived.Test.YtdiaglaokgehbaaRm
import Derived.Test.YtdiaglaokgehbaaWM1b
import Derived.Lib.AppendZeros
import Derived.LoopN
namespace Go.Proofs.Ytdiaglaokgehbaa
open Go.RowKit

/-- Labels of a call's own. -/
def OwnLb (w : World) (B : Nat) (v : Value) (l : List Lab) : Prop := w.ownsRow B 40 2 v l.length (labsC l)

set_option maxHeartbeats 1000000 in
theorem lbGrow_nil (m : Nat) (hm : m ≤ 1000000) (w : World) :
    Calls Try.prog 63 #[.slice none 0 0, .int .i64 m] w fun e w' => ∃ v, e = .returned v ∧ OwnLb w' w.heap.size v [] ∧ Below w.heap.size w w' := by
  by_cases h0 : m = 0
  · subst h0
    go_enter Try.func63, Try.ntmps63
    go_wp2
    go_ret
    exact ⟨_, rfl, World.ownsRow_nil _ _ _ _, Below.refl _ _⟩
  · obtain ⟨i0, hi, hz0, hz1, hz2⟩ := info_parts infoLb
    have hrz : ∀ ty, (Builtin.append_ #[22, 3] ty #[.slice none 0 0, .int .i64 (m : Int)]).run Try.prog w =
        .ok (.slice (some ⟨w.heap.size, 0, none⟩) m (grownCap w m 0 40)) (w.drew.alloc (.cells (Builtin.zeroCells (Value.agg #[.int .i64 0, .int .u32 0]).cells m ++ Builtin.zeroCells (Value.agg #[.int .i64 0, .int .u32 0]).cells (grownCap w m 0 40 - m)) 40)) := fun ty =>
      Lib.run_append_nil_zeros w 22 3 ty 40 i0 _ .i64 .i64 Try.underlying22 Try.underlying3 hi hz0 m (by omega) (by rw [hz1]; decide) (by omega) (by rw [hz2]; omega)
    have hGn : m ≤ grownCap w m 0 40 := grownCap_ge w _ _ _
    obtain ⟨G, hG⟩ : ∃ G, G = grownCap w m 0 40 := ⟨_, rfl⟩
    rw [← hG] at hrz hGn
    have hG63 : G ≤ maxLen := by
      rw [hG]
      exact grownCap_le_maxLen w m 0 40 (by unfold maxLen; omega)
    have HG := Lib.hid hG63
    have hG63' : G ≤ 9223372036854775807 := by unfold maxLen at hG63; omega
    clear hG hG63
    obtain ⟨cur, hcur⟩ : ∃ cur, cur = (Builtin.zeroCells (Value.agg #[.int .i64 0, .int .u32 0]).cells m ++ Builtin.zeroCells (Value.agg #[.int .i64 0, .int .u32 0]).cells (G - m)) := ⟨_, rfl⟩
    rw [← hcur] at hrz
    have HS := Lib.hid (show cur.size = G * 2 by
      rw [hcur, Array.size_append, size_zeroCells, size_zeroCells]
      show m * 2 + (G - m) * 2 = G * 2
      omega)
    clear hcur hi hz0 hz1 hz2
    go_enter Try.func63, Try.ntmps63
    go_wp2_with (at_builtin; refine Lib.wpList_append_run _ rfl _ _ _ _ rfl _ _ rfl rfl _ _ (hrz _) ?_)
    all_goals go_ret
    exact ⟨_, rfl, ⟨rfl, .inr ⟨w.heap.size, G, cur, rfl, Nat.le_refl _, heap_alloc_new w.drew _, Nat.zero_le _, HG.out, HS.out, rfl⟩⟩, (Below.refl _ _).drew.alloc (Nat.le_refl _) _⟩

theorem labsC_oneCell (l : List Lab) : ∀ u ∈ labsC l, u.oneCell' = true := by
  intro u hu
  unfold labsC at hu
  rw [List.mem_flatMap] at hu
  obtain ⟨r, _, hr⟩ := hu
  simp [labC] at hr
  rcases hr with rfl | rfl <;> rfl
theorem append_noneL (w : World) (ty : TypeId) (A : Option Addr) (m c c2 : Nat) (h : m ≤ c) : (Builtin.append_ #[22, 22] ty #[.slice A m c, .slice none 0 c2]).run Try.prog w = .ok (.slice A m c) w := by
  cases A <;> simp [Builtin.append_, run_underlying Try.underlying22, Try.sizeOf40, Builtin.lenOf, Builtin.firstCells, storeCells, h]
theorem wpList_append_any2L {w : World} {ops : Array Oper} {rest : List Oper} {o : Oper} {a : Act} {Q : Exit → Act → World → Prop} (hgd : o.guard = none) (s x : Operand)
    (ho : o.op = .call { callee := .builtin .append, args := #[s, x], argTypes := #[22, 22] })
    (base : Nat) (v : Value) (l : List Lab) (hs : a.eval s = v) (hown : OwnLb w base v l) (ad : Addr) (m : List Lab) (c : Nat) (hx : a.eval x = .slice (some ad) m.length c) (hn : ∀ j u, (labsC m)[j]? = some u → w.cell? (ad.add j) = some u) (hl : l.length + m.length ≤ 1000000) (hbase : base ≤ w.heap.size)
    (h : ∀ v' w', OwnLb w' base v' (l ++ m) → w.grownBy w' v.ownBlock → wpList Try.prog ops Q rest (a.put o.dst v') w') : wpList Try.prog ops Q (o :: rest) a w := by
  obtain ⟨i0, hi, hz0, hz1, hz2⟩ := info_parts infoLb
  refine wpList_plain hgd fun K hK => wp_append_any s x 22 ho base 40 i0 (.agg #[.int .i64 0, .int .u32 0]) 2 16 Try.underlying22 hi hz0 hz1 hz2 rfl (by decide) v l.length (labsC l) hs hown ad m.length c (labsC m) hx (by rw [labsC_length]; omega) hn (labsC_oneCell m) (by unfold maxLen; omega) (by omega) hbase (fun v' w' h1 h2 _ => hK _ _ (h v' w' ?_ h2))
  unfold OwnLb
  rw [List.length_append, labsC_append]
  exact h1
theorem wpList_append_lb {w : World} {ops : Array Oper} {rest : List Oper} {o : Oper} {a : Act} {Q : Exit → Act → World → Prop} (hgd : o.guard = none) (s x : Operand)
    (ho : o.op = .call { callee := .builtin .append, args := #[s, x], argTypes := #[22, 22] })
    (base : Nat) (v : Value) (l : List Lab) (hs : a.eval s = v) (hown : OwnLb w base v l) (A : Option Addr) (m : List Lab) (c : Nat) (hx : a.eval x = .slice A m.length c) (hrow : Row w A (labsC m)) (hl : l.length + m.length ≤ 1000000) (hbase : base ≤ w.heap.size)
    (h : ∀ v' w', OwnLb w' base v' (l ++ m) → w.grownBy w' v.ownBlock → wpList Try.prog ops Q rest (a.put o.dst v') w') : wpList Try.prog ops Q (o :: rest) a w := by
  obtain ⟨i0, hi, hz0, hz1, hz2⟩ := info_parts infoLb
  have hnone : ∀ c2, a.eval x = .slice none 0 c2 → m = [] → wpList Try.prog ops Q (o :: rest) a w := by
    intro c2 hx2 hm
    clear hx
    subst hm
    obtain ⟨A1, c1, e1, _, hcap⟩ := own_slice hown
    subst e1
    refine wpList_plain hgd fun K hK => ?_
    unfold Oper.wp execOp
    simp only [ho, resolve, invoke, builtin, Sem.run_bind, Sem.run_pure, Result.andThen_ok, List.map_toArray, List.map_cons, List.map_nil, hs, hx2, append_noneL _ _ _ _ _ _ hcap]
    refine hK _ _ (h _ w (by rw [List.append_nil]; exact hown) ?_)
    exact ⟨rfl, rfl, rfl, Nat.le_refl _, fun _ _ _ => rfl⟩
  rcases hrow with hrow | ⟨b, off, rfl, hc⟩
  · have hm0 : m = [] := by
      cases m with
      | nil => rfl
      | cons a m => simp [labsC, labC] at hrow
    subst hm0
    cases A with
    | none => exact hnone c hx rfl
    | some ad =>
      refine wpList_append_any2L hgd s x ho base v l hs hown ad [] c hx (fun j u hu => by simp [labsC] at hu) hl hbase h
  · exact wpList_append_any2L hgd s x ho base v l hs hown ⟨b, off, none⟩ m c hx (row_news (.inr ⟨b, off, rfl, hc⟩)) hl hbase h

theorem ownLb_below {w w' : World} {B : Nat} {v : Value} {l : List Lab} (h : OwnLb w B v l) (hb : Below w.heap.size w w') : OwnLb w' B v l :=
  World.ownsRow.kept h (row := none) ⟨hb.os, hb.tape, hb.output, hb.size, fun k hk _ => hb.block k hk⟩ (by cases hv : v.ownBlock <;> simp)

set_option maxHeartbeats 2000000 in
theorem lbConcat_any (l1 l2 : List Lab) (A1 A2 : Option Addr) (c1 c2 g : Nat) (w : World) (h1 : Row w A1 (labsC l1)) (h2 : Row w A2 (labsC l2)) (hl1 : l1.length ≤ 1000) (hl2 : l2.length ≤ 1000)
    (d0 : w.cell? ⟨g, 0, none⟩ = some (.slice A1 l1.length c1)) (d1 : w.cell? ⟨g, 1, none⟩ = some (.slice A2 l2.length c2)) :
    Calls Try.prog 53 #[.slice (some ⟨g, 0, none⟩) 2 2] w fun e w' => ∃ v, e = .returned v ∧ OwnLb w' w.heap.size v (l1 ++ l2) ∧ Below w.heap.size w w' := by
  have hg : g < w.heap.size := block_lt_of_cell d0
  go_enter Try.func53, Try.ntmps53
  go_wp2
  refine wp_loop_rounds 3 ?_
  rw [rounds_succ]; go_wp2
  rw [rounds_succ]; go_wp2
  rw [rounds_succ]
  go_wp2_with fail
  have hsum : ((l1.length : Int) + (l2.length : Int)) = ((l1.length + l2.length : Nat) : Int) := by omega
  rw [hsum]
  refine (lbGrow_nil (l1.length + l2.length) (by omega) _).mono ?_
  rintro e w1 ⟨v, rfl, hown, hb1⟩
  have d0' := (Below.cell hb1 (p := ⟨g, 0, none⟩) hg).trans d0
  have d1' := (Below.cell hb1 (p := ⟨g, 1, none⟩) hg).trans d1
  have HN1 := Lib.hid (h1.below hb1)
  have HO1 := Lib.hid hown
  clear hown hsum
  go_wp2
  refine wp_loop_rounds 3 ?_
  rw [rounds_succ]
  go_wp2_with (first | (at_builtin; refine wpList_append_lb rfl _ _ rfl w.heap.size v [] rfl HO1.out A1 l1 c1 rfl HN1.out ?b1 hb1.size ?b3))
  case b1 => simp; omega
  case b3 =>
    intro v2 w2 hown2 hgrow2
    have hb2 : Below w.heap.size w w2 := hb1.grown hgrow2 hb1.size (fun k hk => (World.ownsRow.lt HO1.out k hk).1)
    have HN2 := Lib.hid (h2.below hb2)
    have e0 := (Below.cell hb2 (p := ⟨g, 0, none⟩) hg).trans d0
    have e1 := (Below.cell hb2 (p := ⟨g, 1, none⟩) hg).trans d1
    have HO2 := Lib.hid hown2
    clear hown2 hgrow2 d0' d1' d0 d1
    go_wp2
    rw [rounds_succ]
    go_wp2_with (first | (at_builtin; refine wpList_append_lb rfl _ _ rfl w.heap.size v2 l1 rfl HO2.out A2 l2 c2 rfl HN2.out ?q1 hb2.size ?q3))
    case q1 => omega
    case q3 =>
      intro v3 w3 hown3 hgrow3
      have HB3 := Lib.hid (hb2.grown hgrow3 hb2.size (fun k hk => (World.ownsRow.lt HO2.out k hk).1))
      have HO3 := Lib.hid hown3
      clear hown3 hgrow3 e0 e1
      go_wp2
      rw [rounds_succ]
      go_wp2
      go_ret
      exact ⟨v3, rfl, HO3.out, HB3.out⟩

set_option maxHeartbeats 1000000 in
theorem mCheck_any (cs ts : List Lab) (A A2 A3 : Option Addr) (c c2 c3 nd : Nat) (w : World) (hr : Row w A (labsC cs)) (hr2 : Row w A2 (labsC ts)) :
    Calls Try.prog 34 #[.slice A cs.length c, .slice A2 ts.length c2, .slice A3 nd c3] w fun e w' => e = .returned (.int .i64 (codeM cs ts nd)) ∧ Below w.heap.size w w' := by
  by_cases hL : LargeM cs.length ts.length nd
  · have HC := Lib.hid (codeM_large hL)
    rw [HC.out]
    unfold LargeM at hL
    by_cases h1 : cs.length < 1
    · clear hL; go_enter Try.func34, Try.ntmps34; go_wp2; go_ret; exact ⟨rfl, Below.refl _ _⟩
    · by_cases h2 : 5 < cs.length
      · clear hL; go_enter Try.func34, Try.ntmps34; go_wp2; go_ret; exact ⟨rfl, Below.refl _ _⟩
      · by_cases h3 : 8 < ts.length
        · clear hL; go_enter Try.func34, Try.ntmps34; go_wp2; go_ret; exact ⟨rfl, Below.refl _ _⟩
        · have h4 : 30 < nd := by omega
          clear hL; go_enter Try.func34, Try.ntmps34; go_wp2; go_ret; exact ⟨rfl, Below.refl _ _⟩
  · have HL := Lib.hid hL
    obtain ⟨g1, g2, g3, g4⟩ : 1 ≤ cs.length ∧ cs.length ≤ 5 ∧ ts.length ≤ 8 ∧ nd ≤ 30 := by unfold LargeM at hL; omega
    have hb0 := (Below.refl w.heap.size w).alloc (Nat.le_refl _) (.cells #[.slice A cs.length c, .slice A2 ts.length c2] 22)
    obtain ⟨hd0, hd1⟩ := ltwo_cells (heap_alloc_new w (.cells #[.slice A cs.length c, .slice A2 ts.length c2] 22))
    have kC := lbConcat_any cs ts A A2 c c2 w.heap.size _ (hr.below hb0) (hr2.below hb0) (by omega) (by omega) hd0 hd1
    have HB0 := Lib.hid hb0
    clear hL hd0 hd1 hb0
    go_enter Try.func34, Try.ntmps34
    go_wp2_with fail
    refine kC.mono ?_
    rintro e w1 ⟨v, rfl, hown, hb1⟩
    obtain ⟨A9, c9, rfl, _, hrow9⟩ := own_row hown
    have HB1 := Lib.hid (HB0.out.trans (hb1.mono HB0.out.size))
    have HR := Lib.hid hrow9
    have HAll := Lib.hid (show (∀ a ∈ cs ++ ts, LabOk a) ↔ (∀ a ∈ cs, LabOk a) ∧ ∀ a ∈ ts, LabOk a by simp only [List.mem_append]; exact ⟨fun h => ⟨fun a ha => h a (.inl ha), fun a ha => h a (.inr ha)⟩, fun h a ha => ha.elim (h.1 a) (h.2 a)⟩)
    have hlen : (cs ++ ts).length ≤ 13 := by rw [List.length_append]; omega
    clear hown hb1 kC hrow9
    generalize cs ++ ts = L at *
    go_wp2
    go_loopw [33] (fun v wr => ∃ j : Nat, v = .int .i64 j ∧ j ≤ L.length ∧ (∀ a ∈ L.take j, LabOk a) ∧ Below w1.heap.size w1 wr) (fun v _ => L.length - (intOf v).toNat)
    case atStart => exact ⟨0, rfl, Nat.zero_le _, by simp, Below.refl _ _⟩
    case round =>
      obtain ⟨j, rfl, hj, hal, hb⟩ := hrel
      have HA2 := Lib.hid hal
      have HB := Lib.hid (HB1.out.trans (hb.mono HB1.out.size))
      have HBw := Lib.hid hb
      clear hal
      by_cases hlt2 : j < L.length
      · obtain ⟨a, ha⟩ := get_some hlt2
        obtain ⟨b, off, rfl, d1, d2⟩ := RowL.cells (HR.out.below hb) ha
        have HX := Lib.hid ha
        have HBA := Lib.hid (hb.alloc hb.size (.cells #[.int .i64 a.1, .int .u32 (a.2 : Int)] 40))
        obtain ⟨q1, q2⟩ := LabAt.new wr a 40
        have kc := fun W => lCheck_any a.1 a.2 W
        clear ha hb
        obtain ⟨a1, a2⟩ := a
        simp only at d1 d2 q1 q2 kc HBA
        by_cases hok : LabOk (a1, a2)
        · have HN := Lib.hid (show ∀ x ∈ L.take (j + 1), LabOk x by
            intro x hx
            rw [List.take_add_one, HX.out, List.mem_append] at hx
            rcases hx with hx | hx
            · exact HA2.out x hx
            · simp at hx; rw [hx]; exact hok)
          rw [codeL_ok hok] at kc
          clear hok
          go_wp2_with fail
          refine (kc _).mono ?_
          rintro e w3 ⟨rfl, hb3⟩
          have HB3 := Lib.hid (HBA.out.trans (hb3.mono HBA.out.size))
          clear hb3 q1 q2 kc
          go_wp2
          go_roundw
          case rel => exact ⟨j + 1, by go_num, by omega, HN.out, HB3.out⟩
          case measure => simp [intOf]; omega
        · have HC := Lib.hid (codeM_bad HL.out (cs := cs) (ts := ts) (nd := nd) (fun h => hok (HAll.out.2 h _ (List.mem_of_getElem? HX.out))))
          rw [codeL_bad hok] at kc
          clear hok
          go_wp2_with fail
          refine (kc _).mono ?_
          rintro e w3 ⟨rfl, hb3⟩
          have HB3 := Lib.hid (HB1.out.trans ((HBA.out.trans (hb3.mono HBA.out.size)).mono HB1.out.size))
          clear hb3 q1 q2 kc
          go_wp2
          go_ret
          exact ⟨ret_int HC.out.symm, HB3.out⟩
      · obtain rfl : j = L.length := by omega
        have HN := Lib.hid (show ∀ a ∈ L, LabOk a from fun a ha => HA2.out a (by rw [List.take_length]; exact ha))
        have HC := Lib.hid (codeM_ok HL.out (HAll.out.1 HN.out).1 (HAll.out.1 HN.out).2)
        clear hb
        go_wp2
        go_ret
        exact ⟨ret_int HC.out.symm, HB.out⟩

end Go.Proofs.Ytdiaglaokgehbaa
