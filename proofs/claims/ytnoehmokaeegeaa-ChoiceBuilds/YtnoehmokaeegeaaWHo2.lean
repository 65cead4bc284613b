/- The builder of package choice: its memory; node. -/
import Derived.Test.YtnoehmokaeegeaaWHo1
import Derived.Test.YtnoehmokaeegeaaMapN
import Derived.Test.YtnoehmokaeegeaaAppAny
namespace Go.Proofs.Ytnoehmokaeegeaa
open Go.RowKit
open Go.ChangeMaps (setBlock)

/-- The builder in block g, its map in block m: the nodes are ln, the map knows those of lm. -/
structure Bld (w0 : World) (g m n : Nat) (A : Option Addr) (len c : Nat) (ln lm : List Nd) (v : Value) (w : World) : Prop where
  blk : w.heap[g]? = some (.cells #[v, .map (some m), .int .i64 (n : Int), .slice A len c] 46 (0, 0))
  own : w.ownsRow w0.heap.size 52 3 v ln.length (nodesC ln)
  map : NumIs w m lm
  below : Below w0.heap.size w0 w
  hg : w0.heap.size ≤ g
  hm : w0.heap.size ≤ m

section
variable {w0 w : World} {g m n : Nat} {A : Option Addr} {len c : Nat} {ln lm : List Nd} {v : Value}
theorem Bld.lt (h : Bld w0 g m n A len c ln lm v w) : g < w.heap.size := (Array.getElem?_eq_some_iff.1 h.blk).1
theorem Bld.cell (h : Bld w0 g m n A len c ln lm v w) : w.cell? ⟨g, 0, none⟩ = some v ∧ w.cell? ⟨g, 1, none⟩ = some (.map (some m)) ∧ w.cell? ⟨g, 2, none⟩ = some (.int .i64 (n : Int)) ∧ w.cell? ⟨g, 3, none⟩ = some (.slice A len c) :=
  ⟨cell_of_row w g 0 _ _ _ h.blk, cell_of_row w g 1 _ _ _ h.blk, cell_of_row w g 2 _ _ _ h.blk, cell_of_row w g 3 _ _ _ h.blk⟩
theorem Bld.free (h : Bld w0 g m n A len c ln lm v w) (j : Nat) : w.frozen? ⟨g, j, none⟩ = false := by simp [World.frozen?, h.blk]
theorem Bld.ne (h : Bld w0 g m n A len c ln lm v w) : v.ownBlock ≠ some g ∧ v.ownBlock ≠ some m ∧ g ≠ m := by
  obtain ⟨es, clock, hm, _⟩ := h.map
  have hgb := h.blk
  refine ⟨?_, ?_, ?_⟩
  · rcases h.own.2 with ⟨hv, _⟩ | ⟨g', cap, cur, hv, _, hh, _⟩
    · rw [hv]; simp [Value.ownBlock]
    · intro e
      rw [hv] at e
      simp only [Value.ownBlock, Option.some.injEq] at e
      subst e
      rw [hh] at hgb
      simp only [Option.some.injEq, Obj.cells.injEq] at hgb
      exact absurd hgb.2.1 (by decide)
  · rcases h.own.2 with ⟨hv, _⟩ | ⟨g', cap, cur, hv, _, hh, _⟩
    · rw [hv]; simp [Value.ownBlock]
    · intro e
      rw [hv] at e
      simp only [Value.ownBlock, Option.some.injEq] at e
      subst e
      rw [hh] at hm
      simp at hm
  · rintro rfl
    rw [hm] at hgb
    simp at hgb
theorem Bld.grow {w' : World} (h : Bld w0 g m n A len c ln lm v w) (hb : Below w.heap.size w w') : Bld w0 g m n A len c ln lm v w' :=
  ⟨(hb.block g h.lt).trans h.blk, World.ownsRow.kept h.own (row := none) ⟨hb.os, hb.tape, hb.output, hb.size, fun k hk _ => hb.block k hk⟩ (by cases v.ownBlock <;> simp), h.map.below hb, h.below.trans (hb.mono h.below.size), h.hg, h.hm⟩
theorem Bld.drewN (h : Bld w0 g m n A len c ln lm v w) (k : Nat) : Bld w0 g m n A len c ln lm v (w.drewN k) :=
  ⟨h.blk, h.own, h.map, below_drewN h.below k, h.hg, h.hm⟩
theorem Bld.drew (h : Bld w0 g m n A len c ln lm v w) : Bld w0 g m n A len c ln lm v w.drew := ⟨h.blk, h.own, h.map, h.below.drew, h.hg, h.hm⟩
/-- The nodes have grown, and the field is set. -/
theorem Bld.append {w' : World} {ln' : List Nd} {v' : Value} (h : Bld w0 g m n A len c ln lm v w) (ho : w'.ownsRow w0.heap.size 52 3 v' ln'.length (nodesC ln')) (hgr : w.grownBy w' v.ownBlock) (hv : v'.ownBlock ≠ some g) :
    Bld w0 g m n A len c ln' lm v' (w'.setCell ⟨g, 0, none⟩ v') := by
  obtain ⟨n1, n2, n3⟩ := h.ne
  have hb' : w'.heap[g]? = some (.cells #[v, .map (some m), .int .i64 (n : Int), .slice A len c] 46 (0, 0)) := (hgr.block g h.lt (fun e => n1 e.symm)).trans h.blk
  have hbel : Below w0.heap.size w0 w' := h.below.grown hgr h.below.size (fun k hk => (World.ownsRow.lt h.own k hk).1)
  have hoth : ∀ k, k ≠ g → (w'.setCell ⟨g, 0, none⟩ v').heap[k]? = w'.heap[k]? := by
    intro k hk
    simp only [World.setCell]
    rw [Array.getElem?_modify, if_neg (fun e => hk e.symm)]
  refine ⟨?_, ?_, ?_, hbel.setCell h.hg _, h.hg, h.hm⟩
  · simp only [World.setCell]
    rw [Array.getElem?_modify, if_pos rfl, hb']
    rfl
  · refine World.ownsRow.kept ho (row := some g) ⟨rfl, rfl, rfl, by simp [World.setCell], fun k _ hk => hoth k (fun e => hk (by rw [e]))⟩ (.inr hv)
  · refine h.map.same ?_
    rw [hoth m (fun e => n3 e.symm), hgr.block m h.map.lt (fun e => n2 e.symm)]
/-- The map knows one more. -/
theorem Bld.know {lm' : List Nd} {o : Obj} (h : Bld w0 g m n A len c ln lm v w) (hm : NumIs (setBlock w m o) m lm') : Bld w0 g m n A len c ln lm' v (setBlock w m o) := by
  obtain ⟨n1, n2, n3⟩ := h.ne
  refine ⟨(blockSet_other o n3).trans h.blk, ?_, hm, blockSet_below h.below h.hm o, h.hg, h.hm⟩
  exact World.ownsRow.kept h.own (row := some m) ⟨rfl, rfl, rfl, by rw [blockSet_size]; exact Nat.le_refl _, fun k _ hk => blockSet_other o (fun e => hk (by rw [e]))⟩ (.inr n2)
end

/-- What node does: the nodes, and the number. -/
def nodeR (l : List Nd) (p : Nd) : List Nd × Int := if p.2.1 = p.2.2 then (l, p.2.1) else addN l p

theorem own_form {w : World} {B e size : Nat} {v : Value} {k : Nat} {cs : List Value} (h : w.ownsRow B e size v k cs) : ∃ Av cv, v = .slice Av k cv := by
  rcases h.2 with ⟨hv, hn⟩ | ⟨g, cap, cur, hv, _⟩
  · exact ⟨none, 0, by rw [hv, hn]⟩
  · exact ⟨_, cap, hv⟩

theorem infoNd : (Try.prog.info? 52).map (fun i => (i.zero, i.size, i.bytes)) = some (some (.agg #[.int .i64 0, .int .i64 0, .int .i64 0]), 3, 24) := by kernel_rfl

set_option maxHeartbeats 4000000 in
theorem cNode_any {w0 : World} {g m n : Nat} {A : Option Addr} {len c : Nat} {l : List Nd} {v : Value} (pv lo hi : Int) (w : World) (hB : Bld w0 g m n A len c l l v w) (hlen : l.length ≤ 1000) :
    Calls Try.prog 27 #[.pointer (some ⟨g, 0, none⟩), .agg #[.int .i64 pv, .int .i64 lo, .int .i64 hi]] w fun e w' => e = .returned (.int .i64 (nodeR l (pv, lo, hi)).2) ∧ ∃ v', Bld w0 g m n A len c (nodeR l (pv, lo, hi)).1 (nodeR l (pv, lo, hi)).1 v' w' := by
  have hB1 := hB.grow ((Below.refl _ _).alloc (Nat.le_refl _) (.cells #[.int .i64 pv, .int .i64 lo, .int .i64 hi] 52))
  obtain ⟨d0, d1, d2⟩ := NdC.made w pv lo hi 52
  by_cases h1 : lo = hi
  · subst h1
    have HR := Lib.hid (show nodeR l (pv, lo, lo) = (l, lo) by simp [nodeR])
    go_enter Try.func27, Try.ntmps27
    go_wp2
    go_ret
    exact ⟨ret_int (by rw [HR.out]), v, by rw [HR.out]; exact hB1⟩
  · have hne : (lo == hi) = false := by simpa using h1
    have HR := Lib.hid (show nodeR l (pv, lo, hi) = addN l (pv, lo, hi) by simp [nodeR, h1])
    clear h1
    obtain ⟨c0, c1, _, _⟩ := hB1.cell
    by_cases h2 : (pv, lo, hi) ∈ l
    · have HA := Lib.hid (show addN l (pv, lo, hi) = (l, (l.idxOf (pv, lo, hi) : Int) + 2) by simp [addN, h2])
      have hlook := fun q => (hB1.drewN q).map.yes (pv, lo, hi) h2
      unfold ndV at hlook
      simp only at hlook
      have HB1 := Lib.hid hB1
      clear h2 hB1
      go_enter Try.func27, Try.ntmps27
      go_wp2
      generalize w.alloc _ = w1 at *
      go_quiet (fail)
      go_wp2
      go_ret
      exact ⟨ret_int (by rw [HR.out, HA.out]), v, by rw [HR.out, HA.out]; exact HB1.out.drewN _⟩
    · have HA := Lib.hid (show addN l (pv, lo, hi) = (l ++ [(pv, lo, hi)], (l.length : Int) + 2) by simp [addN, h2])
      have hlook := fun q => (hB1.drewN q).map.no (pv, lo, hi) h2
      unfold ndV at hlook
      simp only at hlook
      have HB1 := Lib.hid hB1
      have HNo := Lib.hid h2
      obtain ⟨Av, cv, rfl⟩ := own_form hB1.own
      clear h2 hB1
      go_enter Try.func27, Try.ntmps27
      go_wp2
      generalize w.alloc _ = w1 at *
      go_quiet (fail)
      go_wp2
      have HB2 := Lib.hid (HB1.out.drewN nq)
      have e0 : (w1.drewN nq).cell? ⟨w.heap.size, 0, none⟩ = some (.int .i64 pv) := d0
      have e1 : (w1.drewN nq).cell? ⟨w.heap.size, 1, none⟩ = some (.int .i64 lo) := d1
      have e2 : (w1.drewN nq).cell? ⟨w.heap.size, 2, none⟩ = some (.int .i64 hi) := d2
      have hgw : w.heap.size ≠ g := by have := hB.lt; omega
      have HOb := Lib.hid (show (Value.slice Av l.length cv).ownBlock ≠ some w.heap.size from fun e => by have := (World.ownsRow.lt hB.own _ e).2; omega)
      clear HB1 d0 d1 d2 c0 c1 hlook hB
      generalize w1.drewN nq = w2 at *
      obtain ⟨c0, c1, _, _⟩ := HB2.out.cell
      obtain ⟨i0, hi0, hz0, hz1, hz2⟩ := info_parts infoNd
      have ea : ∀ o, Below w2.heap.size w2 (w2.alloc o) := fun o => (Below.refl _ _).alloc (Nat.le_refl _) o
      have HSz := Lib.hid (block_lt_of_cell e0)
      have c0' : ∀ o, (w2.alloc o).cell? ⟨g, 0, none⟩ = some (.slice Av l.length cv) := fun o => ((ea o).cell (p := ⟨g, 0, none⟩) HB2.out.lt).trans c0
      have HB3 := Lib.hid (fun o => (HB2.out.grow (ea o)))
      have HC := Lib.hid (fun o => (HB2.out.grow (ea o)).cell.1)
      have HF := Lib.hid (fun o => (HB2.out.grow (ea o)).free 0)
      have HOwn := Lib.hid (fun o : Obj => show ((w2.alloc o).drew).ownsRow w0.heap.size 52 3 (.slice Av l.length cv) l.length (nodesC l) from HB2.out.own.alloc o)
      have HNews := Lib.hid (show ∀ j u, (ndC (pv, lo, hi))[j]? = some u → ((w2.alloc (.cells #[.int .i64 pv, .int .i64 lo, .int .i64 hi] 52)).drew).cell? ((⟨w2.heap.size, 0, none⟩ : Addr).add j) = some u from news_three w2 (pv, lo, hi) 52)
      have H63 := Lib.hid (show l.length + 1 ≤ maxLen by unfold maxLen; omega)
      have HBy := Lib.hid (show (l.length + 1) * 24 ≤ 140737488355328 by omega)
      have HBase := Lib.hid (fun o : Obj => show w0.heap.size ≤ ((w2.alloc o).drew).heap.size by show _ ≤ (w2.alloc o).heap.size; have := HB2.out.below.size; simp; omega)
      have HNe := Lib.hid HB2.out.ne
      have HGl := Lib.hid HB2.out.lt
      clear ea
      go_region_law ((refine step_append_any rfl (.tmp 35) (.tmp 37) 23 rfl w0.heap.size 52 i0 (.agg #[.int .i64 0, .int .i64 0, .int .i64 0]) 3 24 Try.underlying23 hi0 hz0 hz1 hz2 rfl (by decide) (.slice Av l.length cv) l.length (nodesC l) (by simp [Act.eval]) (HOwn.out _) ⟨w2.heap.size, 0, none⟩ 1 1 (ndC (pv, lo, hi)) (by simp [Act.eval]) rfl HNews.out (nodesC_oneCell [(pv, lo, hi)]) H63.out HBy.out (HBase.out _) ?_
                      intro v6 w6 hown6 hgrow6 hat6
                      obtain ⟨A6, cap6, rfl⟩ := own_form hown6
                      have c6 : w6.cell? ⟨g, 0, none⟩ = some (.slice Av l.length cv) := hgrow6.cell (a := ⟨g, 0, none⟩) (HC.out _) (fun e => HNe.out.1 e.symm)
                      have f6 : w6.frozen? ⟨g, 0, none⟩ = false := (hgrow6.frozen_far ⟨g, 0, none⟩ (by show g < (w2.alloc _).heap.size; have := HGl.out; simp; omega) (fun e => HNe.out.1 e.symm)).trans (HF.out _)))
      all_goals
        have hk := HB3.out (.cells #[.int .i64 pv, .int .i64 lo, .int .i64 hi] 52)
        have HB7 := Lib.hid (show Bld w0 g m n A len c (l ++ [(pv, lo, hi)]) l (.slice A6 (l.length + 1) cap6) (w6.setCell ⟨g, 0, none⟩ (.slice A6 (l.length + 1) cap6)) from
          Bld.append hk.drew (by rw [nodesC_append, List.length_append]; exact hown6) hgrow6 (by
            rcases hat6 with e | e
            · rw [e]; exact HNe.out.1
            · rw [e]
              intro e2
              have h2 := hk.lt
              simp only [Option.some.injEq] at e2
              have h3 : (w2.alloc (.cells #[.int .i64 pv, .int .i64 lo, .int .i64 hi] 52)).drew.heap.size = (w2.alloc (.cells #[.int .i64 pv, .int .i64 lo, .int .i64 hi] 52)).heap.size := rfl
              omega))
        have hcell : ∀ j u, w2.cell? ⟨w.heap.size, j, none⟩ = some u → (w6.setCell ⟨g, 0, none⟩ (.slice A6 (l.length + 1) cap6)).cell? ⟨w.heap.size, j, none⟩ = some u := by
          intro j u hu
          rw [World.cell?_setCell_far _ _ _ _ (fun e => hgw e.symm)]
          refine hgrow6.cell (a := ⟨w.heap.size, j, none⟩) ?_ (fun e => HOb.out e.symm)
          exact (((Below.refl _ _).alloc (Nat.le_refl _) _).cell (p := ⟨w.heap.size, j, none⟩) HSz.out).trans hu
        have t0 := hcell _ _ e0
        have t1 := hcell _ _ e1
        have t2 := hcell _ _ e2
        clear hcell hk hown6 hgrow6 hat6 c6 f6 HB3 HC HF HOwn HNews HBase c0 c0' e0 e1 e2 c1
        go_simp
        go_wp2
        generalize w6.setCell ⟨g, 0, none⟩ (.slice A6 (l.length + 1) cap6) = w7 at *
        obtain ⟨_, x1, _, _⟩ := HB7.out.cell
        obtain ⟨o, ho⟩ := HB7.out.map.store (pv, lo, hi) HNo.out
        have hst : (Instr.mapUpdate 42 (.map (some m)) (.agg #[.int .i64 pv, .int .i64 lo, .int .i64 hi]) (.int .i64 (2 + l.length))).run Try.prog w7.drew = .ok () (setBlock w7.drew m o) := by
          rw [show (2 : Int) + l.length = l.length + 2 by omega]
          exact (ho 1).1
        have HK := Lib.hid (show Bld w0 g m n A len c (l ++ [(pv, lo, hi)]) (l ++ [(pv, lo, hi)]) (.slice A6 (l.length + 1) cap6) (setBlock w7.drew m o) from Bld.know HB7.out.drew (ho 1).2)
        clear ho
        refine wp_region_still_tail 6 (by kernel_rfl) (by kernel_rfl) ?_
        simp only [List.take_succ_cons, List.take_zero, List.drop_succ_cons, List.drop_zero]
        iterate 6 still_step
        refine wpStill_nil ?_
        go_wp2
        go_ret
        exact ⟨ret_int (by rw [HR.out, HA.out]; simp only; omega), _, by rw [HR.out, HA.out]; exact HK.out⟩

end Go.Proofs.Ytnoehmokaeegeaa
