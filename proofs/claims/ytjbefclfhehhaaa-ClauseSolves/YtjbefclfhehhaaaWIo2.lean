/- The refuter of package clause: its memory; find. -/
import Derived.Test.YtjbefclfhehhaaaWIo1
import Derived.Test.YtjbefclfhehhaaaWI2
import Derived.Test.YtjbefclfhehhaaaMapK
import Derived.Test.YtjbefclfhehhaaaAppAny
import Derived.StillTailTactics
namespace Go.Proofs.Ytjbefclfhehhaaa
open Go.RowKit
open Go.ChangeMaps (setBlock)

/-- The refuter in block g, its map in block m: the clauses are all, the pairs are ps. -/
structure Rft (w0 : World) (g m : Nat) (all : List Cla) (nx : Nat) (ps : List (Int × Int)) (v : Value) (w : World) : Prop where
  blk : w.heap[g]? = some (.cells #[.map (some m), .int .i64 (nx : Int), v] 49 (0, 0))
  own : w.ownsRow w0.heap.size 52 2 v ps.length (pairsC ps)
  map : NumK w m all
  below : Below w0.heap.size w0 w
  hg : w0.heap.size ≤ g
  hm : w0.heap.size ≤ m

section
variable {w0 w : World} {g m nx : Nat} {all : List Cla} {ps : List (Int × Int)} {v : Value}
theorem Rft.lt (h : Rft w0 g m all nx ps v w) : g < w.heap.size := (Array.getElem?_eq_some_iff.1 h.blk).1
theorem Rft.cell (h : Rft w0 g m all nx ps v w) : w.cell? ⟨g, 0, none⟩ = some (.map (some m)) ∧ w.cell? ⟨g, 1, none⟩ = some (.int .i64 (nx : Int)) ∧ w.cell? ⟨g, 2, none⟩ = some v :=
  ⟨cell_of_row w g 0 _ _ _ h.blk, cell_of_row w g 1 _ _ _ h.blk, cell_of_row w g 2 _ _ _ h.blk⟩
theorem Rft.free (h : Rft w0 g m all nx ps v w) (j : Nat) : w.frozen? ⟨g, j, none⟩ = false := by simp [World.frozen?, h.blk]
theorem Rft.ne (h : Rft w0 g m all nx ps v w) : v.ownBlock ≠ some g ∧ v.ownBlock ≠ some m ∧ g ≠ m := by
  obtain ⟨es, clock, _, hm, _⟩ := h.map
  have hgb := h.blk
  refine ⟨?_, ?_, ?_⟩
  · rcases h.own.2 with ⟨hv, _⟩ | ⟨g', cap, cur, hv, _, hh, _⟩
    · rw [hv]; simp [Value.ownBlock]
    · intro e
      rw [hv] at e
      simp only [Value.ownBlock, Option.some.injEq] at e
      subst e
      rw [hh] at hgb
      simp only [Option.some.injEq, Obj.cells.injEq] at hgb
      exact absurd hgb.2.1 (by decide)
  · rcases h.own.2 with ⟨hv, _⟩ | ⟨g', cap, cur, hv, _, hh, _⟩
    · rw [hv]; simp [Value.ownBlock]
    · intro e
      rw [hv] at e
      simp only [Value.ownBlock, Option.some.injEq] at e
      subst e
      rw [hh] at hm
      simp at hm
  · rintro rfl
    rw [hm] at hgb
    simp at hgb
theorem Rft.grow {w' : World} (h : Rft w0 g m all nx ps v w) (hb : Below w.heap.size w w') : Rft w0 g m all nx ps v w' :=
  ⟨(hb.block g h.lt).trans h.blk, World.ownsRow.kept h.own (row := none) ⟨hb.os, hb.tape, hb.output, hb.size, fun k hk _ => hb.block k hk⟩ (by cases v.ownBlock <;> simp), h.map.below hb, h.below.trans (hb.mono h.below.size), h.hg, h.hm⟩
theorem Rft.drewN (h : Rft w0 g m all nx ps v w) (k : Nat) : Rft w0 g m all nx ps v (w.drewN k) :=
  ⟨h.blk, h.own, h.map, below_drewN h.below k, h.hg, h.hm⟩
theorem Rft.drew (h : Rft w0 g m all nx ps v w) : Rft w0 g m all nx ps v w.drew := ⟨h.blk, h.own, h.map, h.below.drew, h.hg, h.hm⟩
theorem setCell_other (w : World) {g j k : Nat} (v : Value) (hk : k ≠ g) : (w.setCell ⟨g, j, none⟩ v).heap[k]? = w.heap[k]? := by
  simp only [World.setCell]
  rw [Array.getElem?_modify, if_neg (fun e => hk e.symm)]
/-- The pairs have grown, and the field is set. -/
theorem Rft.append {w' : World} {ps' : List (Int × Int)} {v' : Value} (h : Rft w0 g m all nx ps v w) (ho : w'.ownsRow w0.heap.size 52 2 v' ps'.length (pairsC ps')) (hgr : w.grownBy w' v.ownBlock) (hv : v'.ownBlock ≠ some g) :
    Rft w0 g m all nx ps' v' (w'.setCell ⟨g, 2, none⟩ v') := by
  obtain ⟨n1, n2, n3⟩ := h.ne
  have hb' : w'.heap[g]? = some (.cells #[.map (some m), .int .i64 (nx : Int), v] 49 (0, 0)) := (hgr.block g h.lt (fun e => n1 e.symm)).trans h.blk
  have hbel : Below w0.heap.size w0 w' := h.below.grown hgr h.below.size (fun k hk => (World.ownsRow.lt h.own k hk).1)
  refine ⟨?_, ?_, ?_, hbel.setCell h.hg _, h.hg, h.hm⟩
  · simp only [World.setCell]
    rw [Array.getElem?_modify, if_pos rfl, hb']
    rfl
  · refine World.ownsRow.kept ho (row := some g) ⟨rfl, rfl, rfl, by simp [World.setCell], fun k _ hk => setCell_other _ _ (fun e => hk (by rw [e]))⟩ (.inr hv)
  · refine h.map.same ?_
    rw [setCell_other _ _ (fun e => n3 e.symm), hgr.block m h.map.lt (fun e => n2 e.symm)]
/-- The map knows more. -/
theorem Rft.know {all' : List Cla} {o : Obj} (h : Rft w0 g m all nx ps v w) (hm : NumK (setBlock w m o) m all') : Rft w0 g m all' nx ps v (setBlock w m o) := by
  obtain ⟨n1, n2, n3⟩ := h.ne
  refine ⟨(blockSet_other o n3).trans h.blk, ?_, hm, blockSet_below h.below h.hm o, h.hg, h.hm⟩
  exact World.ownsRow.kept h.own (row := some m) ⟨rfl, rfl, rfl, by rw [blockSet_size]; exact Nat.le_refl _, fun k _ hk => blockSet_other o (fun e => hk (by rw [e]))⟩ (.inr n2)
/-- The next number. -/
theorem Rft.next (h : Rft w0 g m all nx ps v w) (k : Nat) : Rft w0 g m all k ps v (w.setCell ⟨g, 1, none⟩ (.int .i64 (k : Int))) := by
  obtain ⟨n1, n2, n3⟩ := h.ne
  refine ⟨?_, ?_, ?_, h.below.setCell h.hg _, h.hg, h.hm⟩
  · simp only [World.setCell]
    rw [Array.getElem?_modify, if_pos rfl, h.blk]
    rfl
  · exact World.ownsRow.kept h.own (row := some g) ⟨rfl, rfl, rfl, by simp [World.setCell], fun k _ hk => setCell_other _ _ (fun e => hk (by rw [e]))⟩ (.inr n1)
  · refine h.map.same ?_
    rw [setCell_other _ _ (fun e => n3 e.symm)]
/-- A cell that lies elsewhere is set. -/
theorem Rft.aside (h : Rft w0 g m all nx ps v w) {b j : Nat} (u : Value) (hb : w0.heap.size ≤ b) (h1 : b ≠ g) (h2 : b ≠ m) (h3 : v.ownBlock ≠ some b) : Rft w0 g m all nx ps v (w.setCell ⟨b, j, none⟩ u) := by
  refine ⟨(setCell_other _ _ (fun e => h1 e.symm)).trans h.blk, ?_, ?_, h.below.setCell hb _, h.hg, h.hm⟩
  · exact World.ownsRow.kept h.own (row := some b) ⟨rfl, rfl, rfl, by simp [World.setCell], fun k _ hk => setCell_other _ _ (fun e => hk (by rw [e]))⟩ (.inr h3)
  · refine h.map.same ?_
    rw [setCell_other _ _ (fun e => h2 e.symm)]
/-- What is made later lies elsewhere. -/
theorem Rft.far (h : Rft w0 g m all nx ps v w) {b : Nat} (hb : w.heap.size ≤ b) : w0.heap.size ≤ b ∧ b ≠ g ∧ b ≠ m ∧ v.ownBlock ≠ some b := by
  refine ⟨Nat.le_trans h.below.size hb, ?_, ?_, ?_⟩
  · have := h.lt; omega
  · have := h.map.lt; omega
  · intro e
    have := (World.ownsRow.lt h.own _ e).2
    omega
end

/-- Nothing but the refuter, its map and its pairs is changed; the pairs stay, or are laid anew. -/
def Keeps (g m : Nat) (v v' : Value) (w w' : World) : Prop :=
  w.heap.size ≤ w'.heap.size ∧ (∀ b, b < w.heap.size → b ≠ g → b ≠ m → v.ownBlock ≠ some b → w'.heap[b]? = w.heap[b]?) ∧ ∀ b, v'.ownBlock = some b → v.ownBlock = some b ∨ w.heap.size ≤ b
theorem Keeps.below {g m : Nat} {v : Value} {w w' : World} (h : Below w.heap.size w w') : Keeps g m v v w w' := ⟨h.size, fun b hb _ _ _ => h.block b hb, fun _ hb => .inl hb⟩
theorem Keeps.trans {g m : Nat} {v v1 v2 : Value} {w w1 w2 : World} (h : Keeps g m v v1 w w1) (k : Keeps g m v1 v2 w1 w2) : Keeps g m v v2 w w2 := by
  refine ⟨Nat.le_trans h.1 k.1, fun b hb h1 h2 h3 => ?_, fun b hb => ?_⟩
  · rw [k.2.1 b (by have := h.1; omega) h1 h2 (fun e => (h.2.2 b e).elim h3 (fun z => by omega)), h.2.1 b hb h1 h2 h3]
  · rcases k.2.2 b hb with e | e
    · exact h.2.2 b e
    · exact .inr (Nat.le_trans h.1 e)
theorem Keeps.append {g m : Nat} {v v' : Value} {w w' : World} (h : w.grownBy w' v.ownBlock) (hs : w.heap.size ≤ w'.heap.size) (k : v'.ownBlock = v.ownBlock ∨ v'.ownBlock = some w.heap.size) : Keeps g m v v' w w' := by
  refine ⟨hs, fun b hb _ _ h3 => h.block b hb (fun e => h3 e.symm), fun b hb => ?_⟩
  rcases k with e | e
  · exact .inl (by rw [← e]; exact hb)
  · rw [e] at hb
    simp only [Option.some.injEq] at hb
    exact .inr (Nat.le_of_eq hb)
theorem Keeps.set {g m b j : Nat} {v v' : Value} {w w' : World} (h : Keeps g m v v' w w') (u : Value) (hb : b = g ∨ w.heap.size ≤ b) : Keeps g m v v' w (w'.setCell ⟨b, j, none⟩ u) := by
  refine ⟨by simp [World.setCell]; exact h.1, fun c hc h1 h2 h3 => ?_, h.2.2⟩
  rw [setCell_other _ _ (by rcases hb with rfl | hb; exact h1; omega)]
  exact h.2.1 c hc h1 h2 h3
theorem Keeps.drew {g m : Nat} {v v' : Value} {w w' : World} (h : Keeps g m v v' w w') : Keeps g m v v' w w'.drew := h
theorem Keeps.map {g m : Nat} {v v' : Value} {w w' : World} (h : Keeps g m v v' w w') (o : Obj) : Keeps g m v v' w (setBlock w' m o) := by
  refine ⟨by rw [blockSet_size]; exact h.1, fun c hc h1 h2 h3 => ?_, h.2.2⟩
  rw [blockSet_other o h2]
  exact h.2.1 c hc h1 h2 h3

/-- What find answers. -/
def FindP (k s : Nat) (all : List Cla) (e : Ending) : Prop :=
  (∃ x y : Nat, e = .returned (.tuple #[.agg #[.int .u32 (x : Int), .int .u32 (y : Int)], .bool true]) ∧ OutC k s (x, y) ∧ (x, y) ∈ all) ∨ (e = .returned (.tuple #[.agg #[.int .u32 0, .int .u32 0], .bool false]) ∧ ∀ x ∈ all, ¬ OutC k s x)

set_option maxHeartbeats 2000000 in
theorem iFind_any {w0 : World} {g m nx : Nat} {all : List Cla} {ps : List (Int × Int)} {v : Value} (k s : Nat) (w : World) (hk : k ≤ 6) (hs : s < 64) (hB : Rft w0 g m all nx ps v w) :
    Calls Try.prog 26 #[.pointer (some ⟨g, 0, none⟩), .int .i64 k, .int .u32 s] w fun e w' => FindP k s all e ∧ Rft w0 g m all nx ps v w' ∧ Below w.heap.size w w' := by
  have h1n := one_int k (by omega)
  have h64 := one_le_64 hk
  have h64' := one_pos k
  have HB := Lib.hid (hB.grow ((Below.refl _ _).alloc (Nat.le_refl _) (.cells #[.int .u32 0, .int .u32 0] 32)))
  have hz0 := heap_alloc_new w (.cells #[.int .u32 0, .int .u32 0] 32)
  have HB0 := Lib.hid ((Below.refl w.heap.size w).alloc (Nat.le_refl _) (.cells #[.int .u32 0, .int .u32 0] 32))
  have hfar := hB.far (Nat.le_refl _)
  clear hB
  go_enter Try.func26, Try.ntmps26
  go_wp2
  rw [h1n]
  clear h1n
  generalize hw1 : w.alloc (.cells #[.int .u32 0, .int .u32 0] 32) = w1 at *
  go_loopw [14] (fun pv wr => ∃ p : Nat, pv = .int .u32 p ∧ p ≤ one k ∧ (∀ q, q < p → partC q s ∉ all) ∧ Rft w0 g m all nx ps v wr ∧ Below w.heap.size w wr ∧ wr.heap[w.heap.size]? = some (.cells #[.int .u32 0, .int .u32 0] 32 (0, 0))) (fun pv _ => one k - (intOf pv).toNat)
  case atStart => exact ⟨0, rfl, Nat.zero_le _, fun t ht => absurd ht (Nat.not_lt_zero _), HB.out, HB0.out, hz0⟩
  case round =>
    clear HB HB0 hz0 hw1
    obtain ⟨p, rfl, hp, hno, hBr, hbel, hz⟩ := hrel
    have HN := Lib.hid hno
    clear hno
    by_cases hlt : p < one k
    · have hp32 : p < 4294967296 := by omega
      have q1 := u32_wo hp32 (show s < 4294967296 by omega)
      have q2 := u32_and_nat p s hp32 (by omega)
      have HP := Lib.hid (show partC p s = (wo p s, p &&& s) from rfl)
      have HO := Lib.hid (part_out (k := k) (s := s) hlt hp32 (by omega))
      generalize wo p s = x at *
      generalize p &&& s = y at *
      rw [HP.out] at HO
      have hb2 := (Below.refl wr.heap.size wr).alloc (Nat.le_refl _) (.cells #[.int .u32 (x : Int), .int .u32 (y : Int)] 32)
      have hB2 := hBr.grow hb2
      have HL2 := Lib.hid (hbel.trans (hb2.mono hbel.size))
      have hz2 := blk_alloc hz (.cells #[.int .u32 (x : Int), .int .u32 (y : Int)] 32)
      have hnew := two_cells (heap_alloc_new wr (.cells #[.int .u32 (x : Int), .int .u32 (y : Int)] 32))
      obtain ⟨d0, d1⟩ := hnew
      obtain ⟨c0, _, _⟩ := hB2.cell
      have f0 : ∀ q, ((wr.alloc (.cells #[.int .u32 (x : Int), .int .u32 (y : Int)] 32)).drewN q).frozen? ⟨w.heap.size, 0, none⟩ = false := fun q => by simp [World.frozen?, hz2]
      have f1 : ∀ q, ((wr.alloc (.cells #[.int .u32 (x : Int), .int .u32 (y : Int)] 32)).drewN q).frozen? ⟨w.heap.size, 1, none⟩ = false := fun q => by simp [World.frozen?, hz2]
      have z0 := (two_cells hz2).1
      have z1 := (two_cells hz2).2
      have hh := two_cells (twoC_setCell (u := .int .u32 (x : Int)) (v := .int .u32 (y : Int)) hz2)
      have R := Lib.hid hh
      have HB2 := Lib.hid hB2
      have HZ := Lib.hid hz2
      by_cases hin : (x, y) ∈ all
      · obtain ⟨i, _, hl⟩ := hB2.map.yes hin
        have hlook := fun q => hl q
        have HI := Lib.hid hin
        unfold clV at hlook
        simp only at hlook
        clear hl hin hh hz2 hB2 hb2 hBr hz hbel
        go_wp2
        generalize wr.alloc _ = w2 at *
        go_quiet (fail)
        go_wp2
        have R2 : ((w2.drewN nq).setCell ⟨w.heap.size, 0, none⟩ (.int .u32 (x : Int))).setCell ⟨w.heap.size, 1, none⟩ (.int .u32 (y : Int)) = ((w2.setCell ⟨w.heap.size, 0, none⟩ (.int .u32 (x : Int))).setCell ⟨w.heap.size, 1, none⟩ (.int .u32 (y : Int))).drewN nq := rfl
        rw [R2]
        refine bodyPost_ret (v := .tuple #[.agg #[.int .u32 (x : Int), .int .u32 (y : Int)], .bool true]) (by simp [results, Try.results26, go_sem, R.out.1, R.out.2]) rfl ?_
        exact ⟨.inl ⟨x, y, rfl, HO.out, HI.out⟩, ((HB2.out.aside _ hfar.1 hfar.2.1 hfar.2.2.1 hfar.2.2.2).aside _ hfar.1 hfar.2.1 hfar.2.2.1 hfar.2.2.2).drewN _, below_drewN ((HL2.out.setCell (Nat.le_refl _) _).setCell (Nat.le_refl _) _) _⟩
      · have hlook := fun q => hB2.map.no hin q
        have HI := Lib.hid hin
        unfold clV at hlook
        simp only at hlook
        have HN2 := Lib.hid (show ∀ q, q < p + 1 → partC q s ∉ all from fun q hq => by
          by_cases e : q = p
          · subst e; rw [HP.out]; exact HI.out
          · exact HN.out q (by omega))
        clear hin hh hz2 hB2 hb2 hBr hz hbel
        go_wp2
        generalize wr.alloc _ = w2 at *
        go_quiet (fail)
        go_wp2
        go_roundw
        case rel => exact ⟨p + 1, by go_num, by omega, HN2.out, HB2.out.drewN _, below_drewN HL2.out _, HZ.out⟩
        case measure => simp [intOf]; omega
    · have HF := Lib.hid (show ∀ x ∈ all, OutC k s x → False from fun x hx ho => by
        have h1 := ho.1
        have hl : x.1 < 4294967296 ∧ x.2 < 4294967296 := by unfold Over at h1; omega
        obtain ⟨t1, t2⟩ := out_part ho hl.1 hl.2 (by omega)
        exact HN.out (x.1 ||| x.2) (by omega) (by rw [t2]; exact hx))
      have f0 : wr.frozen? ⟨w.heap.size, 0, none⟩ = false := by simp [World.frozen?, hz]
      have f1 : wr.frozen? ⟨w.heap.size, 1, none⟩ = false := by simp [World.frozen?, hz]
      have z0 := (two_cells hz).1
      have z1 := (two_cells hz).2
      have hh := two_cells (twoC_setCell (u := .int .u32 0) (v := .int .u32 0) hz)
      have R := Lib.hid hh
      have HBr := Lib.hid hBr
      clear hh hz hBr
      go_wp2
      refine bodyPost_ret (v := .tuple #[.agg #[.int .u32 0, .int .u32 0], .bool false]) (by simp [results, Try.results26, go_sem, R.out.1, R.out.2]) rfl ?_
      exact ⟨.inr ⟨rfl, HF.out⟩, (HBr.out.aside _ hfar.1 hfar.2.1 hfar.2.2.1 hfar.2.2.2).aside _ hfar.1 hfar.2.1 hfar.2.2.1 hfar.2.2.2, (hbel.setCell (Nat.le_refl _) _).setCell (Nat.le_refl _) _⟩

end Go.Proofs.Ytjbefclfhehhaaa
