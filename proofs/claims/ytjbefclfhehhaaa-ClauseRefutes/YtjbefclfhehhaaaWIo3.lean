/- The refuter of package clause: resolve. -/
import Derived.Test.YtjbefclfhehhaaaWIo2
import Derived.Deep.RegionHeld3
namespace Go.Proofs.Ytjbefclfhehhaaa
open Go.RowKit
open Go.ChangeMaps (setBlock)

theorem infoPr : (Try.prog.info? 52).map (fun i => (i.zero, i.size, i.bytes)) = some (some (.agg #[.int .i64 0, .int .i64 0]), 2, 16) := by kernel_rfl
theorem pairsC_more (xs ys : List (Int × Int)) : pairsC (xs ++ ys) = pairsC xs ++ pairsC ys := by simp [pairsC]
theorem cell_two (w : World) (x y : Value) (t : TypeId) : ∀ j u, [x, y][j]? = some u → (w.alloc (.cells #[x, y] t)).cell? ((⟨w.heap.size, 0, none⟩ : Addr).add j) = some u := by
  intro j u hu
  match j, hu with
  | 0, hu => simp at hu; subst hu; simp [Addr.add]
  | 1, hu => simp at hu; subst hu; simp [Addr.add]
theorem own_form {w : World} {B e size : Nat} {v : Value} {k : Nat} {cs : List Value} (h : w.ownsRow B e size v k cs) : ∃ Av cv, v = .slice Av k cv := by
  rcases h.2 with ⟨hv, hn⟩ | ⟨g, cap, cur, hv, _⟩
  · exact ⟨none, 0, by rw [hv, hn]⟩
  · exact ⟨_, cap, hv⟩

/-- What resolve finds: two clauses of its own, the answer's place, the new clause. -/
structure RsW (a b c : Cla) (w w4 : World) : Prop where
  a1 : w4.cell? ⟨w.heap.size, 0, none⟩ = some (.int .u32 (a.1 : Int))
  a2 : w4.cell? ⟨w.heap.size, 1, none⟩ = some (.int .u32 (a.2 : Int))
  b1 : w4.cell? ⟨w.heap.size + 1, 0, none⟩ = some (.int .u32 (b.1 : Int))
  b2 : w4.cell? ⟨w.heap.size + 1, 1, none⟩ = some (.int .u32 (b.2 : Int))
  z : w4.heap[w.heap.size + 1 + 1]? = some (.cells #[.int .u32 0, .int .u32 0] 32 (0, 0))
  c1 : w4.cell? ⟨w.heap.size + 1 + 1 + 1, 0, none⟩ = some (.int .u32 (c.1 : Int))
  c2 : w4.cell? ⟨w.heap.size + 1 + 1 + 1, 1, none⟩ = some (.int .u32 (c.2 : Int))
  bel : Below w.heap.size w w4
theorem rsW {a b : Cla} {w w3 : World} (h : ResW a b w w3) (hs : w3.heap.size = w.heap.size + 1 + 1 + 1) (c : Cla) : RsW a b c w (w3.alloc (.cells #[.int .u32 (c.1 : Int), .int .u32 (c.2 : Int)] 32)) := by
  have hb := (Below.refl w3.heap.size w3).alloc (Nat.le_refl _) (.cells #[.int .u32 (c.1 : Int), .int .u32 (c.2 : Int)] 32)
  have k := two_cells (heap_alloc_new w3 (.cells #[.int .u32 (c.1 : Int), .int .u32 (c.2 : Int)] 32))
  rw [hs] at k
  exact ⟨(hb.cell (block_lt_of_cell h.a1)).trans h.a1, (hb.cell (block_lt_of_cell h.a2)).trans h.a2, (hb.cell (block_lt_of_cell h.b1)).trans h.b1, (hb.cell (block_lt_of_cell h.b2)).trans h.b2, blk_alloc h.z _, k.1, k.2, h.bel.trans (hb.mono h.bel.size)⟩

/-- What the loads of the region read. -/
def RsS (a1 a2 b1 b2 m sz g : Nat) (w : World) : Prop :=
  w.cell? ⟨sz, 0, none⟩ = some (.int .u32 (a1 : Int)) ∧ w.cell? ⟨sz, 1, none⟩ = some (.int .u32 (a2 : Int)) ∧ w.cell? ⟨sz + 1, 0, none⟩ = some (.int .u32 (b1 : Int)) ∧ w.cell? ⟨sz + 1, 1, none⟩ = some (.int .u32 (b2 : Int)) ∧ w.cell? ⟨g, 0, none⟩ = some (.map (some m))
theorem rsS_below {a b c : Cla} {w w4 w' : World} {m g : Nat} (h : RsW a b c w w4) (hc : w4.cell? ⟨g, 0, none⟩ = some (.map (some m))) (hg : g < w4.heap.size) (hb : Below w4.heap.size w4 w') : RsS a.1 a.2 b.1 b.2 m w.heap.size g w' :=
  ⟨(hb.cell (block_lt_of_cell h.a1)).trans h.a1, (hb.cell (block_lt_of_cell h.a2)).trans h.a2, (hb.cell (block_lt_of_cell h.b1)).trans h.b1, (hb.cell (block_lt_of_cell h.b2)).trans h.b2, (hb.cell (p := ⟨g, 0, none⟩) hg).trans hc⟩
theorem rsS_grown {a1 a2 b1 b2 m sz g : Nat} {w w' : World} {row : Option Nat} (h : RsS a1 a2 b1 b2 m sz g w) (hgr : w.grownBy w' row) (h1 : row ≠ some sz) (h2 : row ≠ some (sz + 1)) (h3 : row ≠ some g) : RsS a1 a2 b1 b2 m sz g w' :=
  ⟨hgr.cell (a := ⟨sz, 0, none⟩) h.1 h1.symm, hgr.cell (a := ⟨sz, 1, none⟩) h.2.1 h1.symm, hgr.cell (a := ⟨sz + 1, 0, none⟩) h.2.2.1 h2.symm, hgr.cell (a := ⟨sz + 1, 1, none⟩) h.2.2.2.1 h2.symm, hgr.cell (a := ⟨g, 0, none⟩) h.2.2.2.2 h3.symm⟩
theorem rsS_set {a1 a2 b1 b2 m sz g : Nat} {w : World} (h : RsS a1 a2 b1 b2 m sz g w) (h1 : sz ≠ g) (h2 : sz + 1 ≠ g) (u : Value) : RsS a1 a2 b1 b2 m sz g (w.setCell ⟨g, 2, none⟩ u) := by
  obtain ⟨x1, x2, x3, x4, x5⟩ := h
  refine ⟨?_, ?_, ?_, ?_, ?_⟩
  · rw [World.cell?_setCell_far _ _ _ _ (fun e => h1 e.symm)]; exact x1
  · rw [World.cell?_setCell_far _ _ _ _ (fun e => h1 e.symm)]; exact x2
  · rw [World.cell?_setCell_far _ _ _ _ (fun e => h2 e.symm)]; exact x3
  · rw [World.cell?_setCell_far _ _ _ _ (fun e => h2 e.symm)]; exact x4
  · rw [World.cell?_setCell_other w ⟨g, 2, none⟩ ⟨g, 0, none⟩ u (by simp)]; exact x5

/-- The loads and the two questions to the map. -/
def RsL (a1 a2 b1 b2 m sz g i j : Nat) (w : World) : Prop :=
  RsS a1 a2 b1 b2 m sz g w ∧ (Instr.lookup 47 (.map (some m)) (.agg #[.int .u32 (a1 : Int), .int .u32 (a2 : Int)]) false).run Try.prog w = .ok (.int .i64 (i : Int)) w ∧
    (Instr.lookup 47 (.map (some m)) (.agg #[.int .u32 (b1 : Int), .int .u32 (b2 : Int)]) false).run Try.prog w = .ok (.int .i64 (j : Int)) w

/-- The answer's place and the new clause. -/
def RsX (x y sz : Nat) (w : World) : Prop :=
  w.heap[sz + 1 + 1]? = some (.cells #[.int .u32 0, .int .u32 0] 32 (0, 0)) ∧ w.cell? ⟨sz + 1 + 1 + 1, 0, none⟩ = some (.int .u32 (x : Int)) ∧ w.cell? ⟨sz + 1 + 1 + 1, 1, none⟩ = some (.int .u32 (y : Int))
theorem rsX_set {x y sz g j : Nat} {w : World} (h : RsX x y sz w) (h1 : sz + 1 + 1 ≠ g) (h2 : sz + 1 + 1 + 1 ≠ g) (u : Value) : RsX x y sz (w.setCell ⟨g, j, none⟩ u) :=
  ⟨(setCell_other _ _ h1).trans h.1, (World.cell?_setCell_far _ _ _ _ (fun e => h2 e.symm)).trans h.2.1, (World.cell?_setCell_far _ _ _ _ (fun e => h2 e.symm)).trans h.2.2⟩
theorem cell_block {w w' : World} {p : Addr} (h : w'.heap[p.block]? = w.heap[p.block]?) : w'.cell? p = w.cell? p := by unfold World.cell?; rw [h]
theorem rsX_know {x y sz m : Nat} {w : World} (h : RsX x y sz w) (h1 : sz + 1 + 1 ≠ m) (h2 : sz + 1 + 1 + 1 ≠ m) (o : Obj) : RsX x y sz (setBlock w.drew m o) := by
  have e : ∀ b, b ≠ m → (setBlock w.drew m o).heap[b]? = w.heap[b]? := fun b hb => blockSet_other o hb
  exact ⟨(e _ h1).trans h.1, (cell_block (e _ h2)).trans h.2.1, (cell_block (e _ h2)).trans h.2.2⟩
theorem rsW_after {a b c : Cla} {w w4 w6 : World} {v : Value} {m g B : Nat} {o : Obj} (h : RsW a b c w w4) (hgr : ((w4.alloc o).drew).grownBy w6 v.ownBlock) (hf : ∀ q, w.heap.size ≤ q → B ≤ q ∧ q ≠ g ∧ q ≠ m ∧ v.ownBlock ≠ some q) (u : Value) : RsX c.1 c.2 w.heap.size (w6.setCell ⟨g, 2, none⟩ u) := by
  have h1 : w.heap.size + 1 + 1 + 1 < w4.heap.size := block_lt_of_cell h.c1
  have e : ∀ q, w.heap.size ≤ q → q < w4.heap.size → (w6.setCell ⟨g, 2, none⟩ u).heap[q]? = w4.heap[q]? := by
    intro q hq hq2
    obtain ⟨_, n1, _, n2⟩ := hf q hq
    rw [setCell_other _ _ n1, hgr.block q (by show q < (w4.alloc o).heap.size; simp; omega) (fun e => n2 e.symm)]
    show (w4.alloc o).heap[q]? = _
    exact ((Below.refl w4.heap.size w4).alloc (Nat.le_refl _) o).block q hq2
  exact ⟨(e _ (by omega) (by omega)).trans h.z, (cell_block (e _ (by simp only; omega) h1)).trans h.c1, (cell_block (e _ (by simp only; omega) h1)).trans h.c2⟩

set_option maxHeartbeats 4000000 in
theorem iResolve_any {w0 : World} {g m : Nat} {all : List Cla} {ps : List (Int × Int)} {v : Value} (a b : Cla) (k : Nat) (w : World) (hk : k < 32) (ha : a.1 < 4294967296 ∧ a.2 < 4294967296) (hb : b.1 < 4294967296 ∧ b.2 < 4294967296)
    (hB : Rft w0 g m all all.length ps v w) (hina : a ∈ all) (hinb : b ∈ all) (hno : resV a b k ∉ all) (hlen : ps.length ≤ 1000) (hlen2 : all.length ≤ 100000) :
    Calls Try.prog 27 #[.pointer (some ⟨g, 0, none⟩), clV a, clV b, .int .u32 (one k)] w fun e w' => e = .returned (clV (resV a b k)) ∧
      ∃ (i j : Nat) (v' : Value), all[i]? = some a ∧ all[j]? = some b ∧ Rft w0 g m (all ++ [resV a b k]) (all.length + 1) (ps ++ [((i : Int), (j : Int))]) v' w' ∧ Keeps g m v v' w w' := by
  have HV := Lib.hid (show resV a b k = (wo a.1 (one k) ||| b.1, a.2 ||| wo b.2 (one k)) from rfl)
  have hW := resW a b w
  obtain ⟨a1, a2⟩ := a
  obtain ⟨b1, b2⟩ := b
  obtain ⟨ha1, ha2⟩ := ha
  obtain ⟨hb1, hb2⟩ := hb
  unfold clV
  simp only at ha1 ha2 hb1 hb2 hW HV ⊢
  have hov := one_lt hk
  have l1 := Nat.lt_of_le_of_lt (wo_le a1 (one k)) ha1
  have l2 := Nat.lt_of_le_of_lt (wo_le b2 (one k)) hb2
  have q1 := u32_wo ha1 hov
  have q2 := u32_wo hb2 hov
  have q3 := u32_or_nat (wo a1 (one k)) b1 l1 hb1
  have q4 := u32_or_nat a2 (wo b2 (one k)) ha2 l2
  have hsz : (((w.alloc (.cells #[.int .u32 (a1 : Int), .int .u32 (a2 : Int)] 32)).alloc (.cells #[.int .u32 (b1 : Int), .int .u32 (b2 : Int)] 32)).alloc (.cells #[.int .u32 0, .int .u32 0] 32)).heap.size = w.heap.size + 1 + 1 + 1 := by simp
  have HW := Lib.hid (rsW hW hsz (resV (a1, a2) (b1, b2) k))
  have HS := Lib.hid hsz
  rw [HV.out] at HW hno
  have h3 := hW
  clear hW hsz
  have e1 := h3.a1
  have e2 := h3.a2
  have e3 := h3.b1
  have e4 := h3.b2
  clear h3
  go_enter Try.func27, Try.ntmps27
  go_wp2
  have HB4 := Lib.hid (hB.grow HW.out.bel)
  have HFar := Lib.hid (fun (q : Nat) (hq : w.heap.size ≤ q) => hB.far hq)
  clear e1 e2 e3 e4 q1 q2 q3 q4 l1 l2 HS hB
  generalize wo a1 (one k) ||| b1 = x at *
  generalize a2 ||| wo b2 (one k) = y at *
  generalize (((w.alloc (.cells #[.int .u32 (a1 : Int), .int .u32 (a2 : Int)] 32)).alloc (.cells #[.int .u32 (b1 : Int), .int .u32 (b2 : Int)] 32)).alloc (.cells #[.int .u32 0, .int .u32 0] 32)).alloc (.cells #[.int .u32 (x : Int), .int .u32 (y : Int)] 32) = w4 at *
  obtain ⟨i, hi, hli⟩ := HB4.out.map.yesAt hina
  obtain ⟨j, hj, hlj⟩ := HB4.out.map.yesAt hinb
  obtain ⟨Av, cv, rfl⟩ := own_form HB4.out.own
  have HI := Lib.hid hi
  have HJ := Lib.hid hj
  have HNo := Lib.hid hno
  have HLk := Lib.hid (show ∀ w' : World, w'.heap[m]? = w4.heap[m]? → RsS a1 a2 b1 b2 m w.heap.size g w' → RsL a1 a2 b1 b2 m w.heap.size g i j w' from fun w' h1 h2 => ⟨h2, (hli w' h1).2, (hlj w' h1).2⟩)
  have HMl := Lib.hid HB4.out.map.lt
  clear hi hj hli hlj hina hinb hno
  obtain ⟨c0, c1, c2⟩ := HB4.out.cell
  obtain ⟨i0, hi0, hz0, hz1, hz2⟩ := info_parts infoPr
  have ea : ∀ o, Below w4.heap.size w4 (w4.alloc o) := fun o => (Below.refl _ _).alloc (Nat.le_refl _) o
  have c2' : ∀ o, (w4.alloc o).cell? ⟨g, 2, none⟩ = some (.slice Av ps.length cv) := fun o => ((ea o).cell (p := ⟨g, 2, none⟩) HB4.out.lt).trans c2
  have HB5 := Lib.hid (fun o => (HB4.out.grow (ea o)))
  have HC := Lib.hid (fun o : Obj => show ((w4.alloc o).drew).cell? ⟨g, 2, none⟩ = some (.slice Av ps.length cv) from (HB4.out.grow (ea o)).cell.2.2)
  have HF := Lib.hid (fun o : Obj => show ((w4.alloc o).drew).frozen? ⟨g, 2, none⟩ = false from (HB4.out.grow (ea o)).free 2)
  have HOwn := Lib.hid (fun o : Obj => show ((w4.alloc o).drew).ownsRow w0.heap.size 52 2 (.slice Av ps.length cv) ps.length (pairsC ps) from HB4.out.own.alloc o)
  have HNews := Lib.hid (show ∀ jj u, ([.int .i64 (i : Int), .int .i64 (j : Int)] : List Value)[jj]? = some u → ((w4.alloc (.cells #[.int .i64 (i : Int), .int .i64 (j : Int)] 52)).drew).cell? ((⟨w4.heap.size, 0, none⟩ : Addr).add jj) = some u from cell_two w4 (.int .i64 (i : Int)) (.int .i64 (j : Int)) 52)
  have H63 := Lib.hid (show ps.length + 1 ≤ maxLen by unfold maxLen; omega)
  have HBy := Lib.hid (show (ps.length + 1) * 16 ≤ 140737488355328 by omega)
  have HBase := Lib.hid (fun o : Obj => show w0.heap.size ≤ ((w4.alloc o).drew).heap.size by show _ ≤ (w4.alloc o).heap.size; have := HB4.out.below.size; simp; omega)
  have HNe := Lib.hid HB4.out.ne
  have HGl := Lib.hid (fun o : Obj => show g < ((w4.alloc o).drew).heap.size by show g < (w4.alloc o).heap.size; have := HB4.out.lt; simp; omega)
  have HOne := Lib.hid (show ∀ u ∈ ([.int .i64 (i : Int), .int .i64 (j : Int)] : List Value), u.oneCell' = true by intro u hu; simp at hu; rcases hu with rfl | rfl <;> rfl)
  have HSa := Lib.hid (fun o : Obj => show RsL a1 a2 b1 b2 m w.heap.size g i j ((w4.alloc o).drew) from HLk.out _ ((ea o).block m HMl.out) (rsS_below HW.out c0 HB4.out.lt (ea o).drew))
  have HS0 := Lib.hid (show RsL a1 a2 b1 b2 m w.heap.size g i j w4.drew from HLk.out _ rfl (rsS_below HW.out c0 HB4.out.lt (Below.refl _ _).drew))
  have HSz := Lib.hid (show w.heap.size + 1 + 1 + 1 < w4.heap.size from block_lt_of_cell HW.out.c1)
  have HMa := Lib.hid (fun o : Obj => show m < ((w4.alloc o).drew).heap.size ∧ ((w4.alloc o).drew).heap[m]? = w4.heap[m]? from ⟨by show m < (w4.alloc o).heap.size; have := HMl.out; simp; omega, (ea o).block m HMl.out⟩)
  clear ea
  refine wp_region_held_drew (S := RsL a1 a2 b1 b2 m w.heap.size g i j) (by kernel_rfl) HS0.out (fun hHeld => ?_)
  refine' wpAnyH_take (i := 0) (oi := ⟨some 25, _, _, _, _, none⟩) (v := _) rfl (by kernel_rfl) (by kernel_rfl) (by kernel_rfl) (fun _ _ _ h => h) (Or.inl ⟨by rfl, ?hy0⟩) hHeld ?rest0
  case hy0 => (intro W hSw; obtain ⟨⟨s1, s2, s3, s4, s5⟩, s6, s7⟩ := hSw; go_simp; try with_reducible rfl)
  simp only [Act.put, List.setIfInBounds_toArray, List.set_cons_zero, List.set_cons_succ]
  refine' wpAnyH_take (i := 1) (oi := ⟨some 26, _, _, _, _, none⟩) (v := _) rfl (by kernel_rfl) (by kernel_rfl) (by kernel_rfl) (fun _ _ _ h => h) (Or.inl ⟨by rfl, ?hy1⟩) hHeld ?rest1
  case hy1 => (intro W hSw; obtain ⟨⟨s1, s2, s3, s4, s5⟩, s6, s7⟩ := hSw; go_simp; try with_reducible rfl)
  simp only [Act.put, List.setIfInBounds_toArray, List.set_cons_zero, List.set_cons_succ]
  refine' wpAnyH_take (i := 2) (oi := ⟨some 27, _, _, _, _, none⟩) (v := _) rfl (by kernel_rfl) (by kernel_rfl) (by kernel_rfl) (fun _ _ _ h => h) (Or.inl ⟨by rfl, ?hy2⟩) hHeld ?rest2
  case hy2 => (intro W hSw; obtain ⟨⟨s1, s2, s3, s4, s5⟩, s6, s7⟩ := hSw; go_simp; try with_reducible rfl)
  simp only [Act.put, List.setIfInBounds_toArray, List.set_cons_zero, List.set_cons_succ]
  refine' wpAnyH_take (i := 3) (oi := ⟨some 28, _, _, _, _, none⟩) (v := _) rfl (by kernel_rfl) (by kernel_rfl) (by kernel_rfl) (fun _ _ _ h => h) (Or.inl ⟨by rfl, ?hy3⟩) hHeld ?rest3
  case hy3 => (intro W hSw; obtain ⟨⟨s1, s2, s3, s4, s5⟩, s6, s7⟩ := hSw; go_simp; try with_reducible rfl)
  simp only [Act.put, List.setIfInBounds_toArray, List.set_cons_zero, List.set_cons_succ]
  refine' wpAnyH_take (i := 5) (oi := ⟨some 30, _, _, _, _, none⟩) (v := _) rfl (by kernel_rfl) (by kernel_rfl) (by kernel_rfl) (fun _ _ _ h => h) (Or.inl ⟨by rfl, ?hy5⟩) hHeld ?rest5
  case hy5 => (intro W hSw; obtain ⟨⟨s1, s2, s3, s4, s5⟩, s6, s7⟩ := hSw; go_simp; try with_reducible rfl)
  simp only [Act.put, List.setIfInBounds_toArray, List.set_cons_zero, List.set_cons_succ]
  refine' wpAnyH_take (i := 6) (oi := ⟨some 31, _, _, _, _, none⟩) (v := _) rfl (by kernel_rfl) (by kernel_rfl) (by kernel_rfl) (fun _ _ _ h => h) (Or.inl ⟨by rfl, ?hy6⟩) hHeld ?rest6
  case hy6 => (intro W hSw; obtain ⟨⟨s1, s2, s3, s4, s5⟩, s6, s7⟩ := hSw; go_simp; try with_reducible rfl)
  simp only [Act.put, List.setIfInBounds_toArray, List.set_cons_zero, List.set_cons_succ]
  refine' wpAnyH_take (i := 7) (oi := ⟨some 32, _, _, _, _, none⟩) (v := _) rfl (by kernel_rfl) (by kernel_rfl) (by kernel_rfl) (fun _ _ _ h => h) (Or.inl ⟨by rfl, ?hy7⟩) hHeld ?rest7
  case hy7 => (intro W hSw; obtain ⟨⟨s1, s2, s3, s4, s5⟩, s6, s7⟩ := hSw; go_simp; try with_reducible rfl)
  simp only [Act.put, List.setIfInBounds_toArray, List.set_cons_zero, List.set_cons_succ]
  refine' wpAnyH_take (i := 8) (oi := ⟨some 33, _, _, _, _, none⟩) (v := _) rfl (by kernel_rfl) (by kernel_rfl) (by kernel_rfl) (fun _ _ _ h => h) (Or.inl ⟨by rfl, ?hy8⟩) hHeld ?rest8
  case hy8 => (intro W hSw; obtain ⟨⟨s1, s2, s3, s4, s5⟩, s6, s7⟩ := hSw; go_simp; try with_reducible rfl)
  simp only [Act.put, List.setIfInBounds_toArray, List.set_cons_zero, List.set_cons_succ]
  refine' wpAnyH_take (i := 9) (oi := ⟨some 34, _, _, _, _, none⟩) (v := _) rfl (by kernel_rfl) (by kernel_rfl) (by kernel_rfl) (fun _ _ _ h => h) (Or.inl ⟨by rfl, ?hy9⟩) hHeld ?rest9
  case hy9 => (intro W hSw; obtain ⟨⟨s1, s2, s3, s4, s5⟩, s6, s7⟩ := hSw; go_simp; try with_reducible rfl)
  simp only [Act.put, List.setIfInBounds_toArray, List.set_cons_zero, List.set_cons_succ]
  refine' wpAnyH_take (i := 11) (oi := ⟨some 36, _, _, _, _, none⟩) (v := _) rfl (by kernel_rfl) (by kernel_rfl) (by kernel_rfl) (fun _ _ _ h => h) (Or.inl ⟨by rfl, ?hy11⟩) hHeld ?rest11
  case hy11 => (intro W hSw; obtain ⟨⟨s1, s2, s3, s4, s5⟩, s6, s7⟩ := hSw; go_simp; try with_reducible rfl)
  simp only [Act.put, List.setIfInBounds_toArray, List.set_cons_zero, List.set_cons_succ]
  refine' wpAnyH_take (i := 12) (oi := ⟨some 37, _, _, _, _, none⟩) (v := _) rfl (by kernel_rfl) (by kernel_rfl) (by kernel_rfl) (fun _ _ _ h => h) (Or.inl ⟨by rfl, ?hy12⟩) hHeld ?rest12
  case hy12 => (intro W hSw; obtain ⟨⟨s1, s2, s3, s4, s5⟩, s6, s7⟩ := hSw; go_simp; try with_reducible rfl)
  simp only [Act.put, List.setIfInBounds_toArray, List.set_cons_zero, List.set_cons_succ]
  refine' wpAnyH_take (i := 13) (oi := ⟨some 38, _, _, _, _, none⟩) (v := _) rfl (by kernel_rfl) (by kernel_rfl) (by kernel_rfl) (fun _ _ _ h => h) (Or.inl ⟨by rfl, ?hy13⟩) hHeld ?rest13
  case hy13 => (intro W hSw; obtain ⟨⟨s1, s2, s3, s4, s5⟩, s6, s7⟩ := hSw; go_simp; try with_reducible rfl)
  simp only [Act.put, List.setIfInBounds_toArray, List.set_cons_zero, List.set_cons_succ]
  refine' wpAnyH_take (i := 14) (oi := ⟨some 39, _, _, _, _, none⟩) (v := _) rfl (by kernel_rfl) (by kernel_rfl) (by kernel_rfl) (fun _ _ _ h => h) (Or.inl ⟨by rfl, ?hy14⟩) hHeld ?rest14
  case hy14 => (intro W hSw; obtain ⟨⟨s1, s2, s3, s4, s5⟩, s6, s7⟩ := hSw; go_simp; try with_reducible rfl)
  simp only [Act.put, List.setIfInBounds_toArray, List.set_cons_zero, List.set_cons_succ]
  refine' wpAnyH_take (i := 15) (oi := ⟨some 40, _, _, _, _, none⟩) (v := _) rfl (by kernel_rfl) (by kernel_rfl) (by kernel_rfl) (fun _ _ _ h => h) (Or.inl ⟨by rfl, ?hy15⟩) hHeld ?rest15
  case hy15 => (intro W hSw; obtain ⟨⟨s1, s2, s3, s4, s5⟩, s6, s7⟩ := hSw; go_simp; try with_reducible rfl)
  simp only [Act.put, List.setIfInBounds_toArray, List.set_cons_zero, List.set_cons_succ]
  refine' wpAnyH_take (i := 10) (oi := ⟨some 35, _, _, _, _, none⟩) (v := _) rfl (by kernel_rfl) (by kernel_rfl) (by kernel_rfl) (fun _ _ _ h => h) (Or.inl ⟨by rfl, ?hy10⟩) hHeld ?rest10
  case hy10 => (intro W hSw; obtain ⟨⟨s1, s2, s3, s4, s5⟩, s6, s7⟩ := hSw; go_simp; try with_reducible rfl)
  simp only [Act.put, List.setIfInBounds_toArray, List.set_cons_zero, List.set_cons_succ]
  refine' wpAnyH_take (i := 16) (oi := ⟨some 41, _, _, _, _, none⟩) (v := _) rfl (by kernel_rfl) (by kernel_rfl) (by kernel_rfl) (fun _ _ _ h => h) (Or.inl ⟨by rfl, ?hy16⟩) hHeld ?rest16
  case hy16 => (intro W hSw; obtain ⟨⟨s1, s2, s3, s4, s5⟩, s6, s7⟩ := hSw; go_simp; try with_reducible rfl)
  simp only [Act.put, List.setIfInBounds_toArray, List.set_cons_zero, List.set_cons_succ]
  refine' wpAnyH_take (i := 17) (oi := ⟨some 42, _, _, _, _, none⟩) (v := _) rfl (by kernel_rfl) (by kernel_rfl) (by kernel_rfl) (fun _ _ _ h => h) (Or.inl ⟨by rfl, ?hy17⟩) hHeld ?rest17
  case hy17 => (intro W hSw; obtain ⟨⟨s1, s2, s3, s4, s5⟩, s6, s7⟩ := hSw; go_simp; try with_reducible rfl)
  simp only [Act.put, List.setIfInBounds_toArray, List.set_cons_zero, List.set_cons_succ]
  refine wpAnyH_ready (rs := [4, 18]) (by kernel_rfl) (by simp) ?_
  refine AllReadyH.cons (o := ⟨some 29, _, _, _, _, none⟩) rfl (fun K hK => ?_) (AllReadyH.cons (o := ⟨some 43, _, _, _, _, none⟩) rfl (fun K hK => ?_) AllReadyH.nil)
  go_simp
  refine hK.out _ _ HS0.out (fun hHeld => ?_)
  clear hK K
  refine wpAnyH_ready (rs := [18]) (by kernel_rfl) (by simp) ?_
  refine AllReadyH.cons (o := ⟨some 43, _, _, _, _, none⟩) rfl (fun K hK => ?_) AllReadyH.nil
  go_simp
  refine hK.out _ _ (HSa.out _) (fun hHeld => ?_)
  clear hK K
  rotate_left
  go_simp
  refine hK.out _ _ (HSa.out _) (fun hHeld => ?_)
  clear hK K
  refine wpAnyH_ready (rs := [4]) (by kernel_rfl) (by simp) ?_
  refine AllReadyH.cons (o := ⟨some 29, _, _, _, _, none⟩) rfl (fun K hK => ?_) AllReadyH.nil
  go_simp
  refine hK.out _ _ (HSa.out _) (fun hHeld => ?_)
  clear hK K
  · refine wpAnyH_ready (rs := [19]) (by kernel_rfl) (by simp) ?_
    refine AllReadyH.cons (o := ⟨some 44, _, _, _, _, none⟩) rfl (fun K hK => ?_) AllReadyH.nil
    refine step_append_any rfl (.tmp 29) (.tmp 43) 36 rfl w0.heap.size 52 i0 (.agg #[.int .i64 0, .int .i64 0]) 2 16 Try.underlying36 hi0 hz0 hz1 hz2 rfl (by decide) (.slice Av ps.length cv) ps.length (pairsC ps) (by simp [Act.eval]) (HOwn.out _) ⟨w4.heap.size, 0, none⟩ 1 1 [.int .i64 (i : Int), .int .i64 (j : Int)] (by simp [Act.eval]) rfl HNews.out HOne.out H63.out HBy.out (HBase.out _) ?_
    intro v6 w6 hown6 hgrow6 hat6
    obtain ⟨A6, cap6, rfl⟩ := own_form hown6
    have c6 : w6.cell? ⟨g, 2, none⟩ = some (.slice Av ps.length cv) := hgrow6.cell (a := ⟨g, 2, none⟩) (HC.out _) (fun e => HNe.out.1 e.symm)
    have f6 : w6.frozen? ⟨g, 2, none⟩ = false := (hgrow6.frozen_far ⟨g, 2, none⟩ (HGl.out _) (fun e => HNe.out.1 e.symm)).trans (HF.out _)
    have hm6 : w6.heap[m]? = w4.heap[m]? := (hgrow6.block m (HMa.out _).1 (fun e => HNe.out.2.1 e.symm)).trans (HMa.out _).2
    have HS6 := Lib.hid (HLk.out w6 hm6 (rsS_grown (HSa.out _).1 hgrow6 (HFar.out _ (Nat.le_refl _)).2.2.2 (HFar.out _ (Nat.le_succ _)).2.2.2 HNe.out.1))
    have HS7 := Lib.hid (HLk.out (w6.setCell ⟨g, 2, none⟩ (.slice A6 (ps.length + 1) cap6)) ((setCell_other _ _ (fun e => HNe.out.2.2 e.symm)).trans hm6) (rsS_set HS6.out.1 (HFar.out _ (Nat.le_refl _)).2.1 (HFar.out _ (Nat.le_succ _)).2.1 (.slice A6 (ps.length + 1) cap6)))
    clear hm6
    refine hK.out _ _ HS6.out (fun hHeld => ?_)
    clear hK K
    simp only [Act.put, List.setIfInBounds_toArray, List.set_cons_zero, List.set_cons_succ]
    refine' wpAnyH_take (i := 20) (oi := ⟨some 45, _, _, _, _, none⟩) (v := _) rfl (by kernel_rfl) (by kernel_rfl) (by kernel_rfl) (fun _ _ _ h => h) (Or.inl ⟨by rfl, ?hy20a⟩) hHeld ?rest20a
    case hy20a => (intro W hSw; obtain ⟨⟨s1, s2, s3, s4, s5⟩, s6, s7⟩ := hSw; go_simp; try with_reducible rfl)
    simp only [Act.put, List.setIfInBounds_toArray, List.set_cons_zero, List.set_cons_succ]
    refine' wpAnyH_take (i := 21) (oi := ⟨some 46, _, _, _, _, none⟩) (v := _) rfl (by kernel_rfl) (by kernel_rfl) (by kernel_rfl) (fun _ _ _ h => h) (Or.inl ⟨by rfl, ?hy21a⟩) hHeld ?rest21a
    case hy21a => (intro W hSw; obtain ⟨⟨s1, s2, s3, s4, s5⟩, s6, s7⟩ := hSw; go_simp; try with_reducible rfl)
    simp only [Act.put, List.setIfInBounds_toArray, List.set_cons_zero, List.set_cons_succ]
    refine wpAnyH_ready (rs := [22]) (by kernel_rfl) (by simp) ?_
    refine AllReadyH.cons (o := ⟨none, _, _, _, _, none⟩) rfl (fun K hK => ?_) AllReadyH.nil
    go_simp
    refine hK.out _ _ HS7.out (fun hHeld => ?_)
    clear hK K hHeld
    refine wpAnyH_done (by kernel_rfl) ?_ _
    have hk5 := HB5.out (.cells #[.int .i64 (i : Int), .int .i64 (j : Int)] 52)
    have HB7 := Lib.hid (show Rft w0 g m all all.length (ps ++ [((i : Int), (j : Int))]) (.slice A6 (ps.length + 1) cap6) (w6.setCell ⟨g, 2, none⟩ (.slice A6 (ps.length + 1) cap6)) from
      Rft.append hk5.drew (by rw [pairsC_more, List.length_append]; exact hown6) hgrow6 (by
        rcases hat6 with e | e
        · rw [e]; exact HNe.out.1
        · rw [e]
          intro e2
          have h2 := hk5.lt
          simp only [Option.some.injEq] at e2
          have h3 : (w4.alloc (.cells #[.int .i64 (i : Int), .int .i64 (j : Int)] 52)).drew.heap.size = (w4.alloc (.cells #[.int .i64 (i : Int), .int .i64 (j : Int)] 52)).heap.size := rfl
          omega))
    have HP7 := Lib.hid (Keeps.set (g := g) (m := m) (b := g) (j := 2) ((Keeps.below ((HW.out.bel.alloc HW.out.bel.size (.cells #[.int .i64 (i : Int), .int .i64 (j : Int)] 52)).drew)).trans (Keeps.append hgrow6 hgrow6.size hat6)) (.slice A6 (ps.length + 1) cap6) (.inl rfl))
    have HX := Lib.hid (rsW_after HW.out hgrow6 HFar.out (.slice A6 (ps.length + 1) cap6))
    have HFar7 := Lib.hid (show (Value.slice A6 (ps.length + 1) cap6).ownBlock ≠ some (w.heap.size + 1 + 1) by
      rcases hat6 with e | e
      · rw [e]; exact (HFar.out _ (by omega)).2.2.2
      · rw [e]
        intro e2
        have h2 := HSz.out
        simp only [Option.some.injEq] at e2
        have h3 : (w4.alloc (.cells #[.int .i64 (i : Int), .int .i64 (j : Int)] 52)).drew.heap.size = w4.heap.size + 1 := by show (w4.alloc _).heap.size = _; simp
        omega)
    clear hk5 hown6 hgrow6 hat6 c6 f6 HS6 HS7 HSa HS0 HB5 HC HF HOwn HNews HBase c0 c1 c2 c2' HB4 HW HLk HMa
    go_simp
    generalize w6.setCell _ _ = w7 at *
    obtain ⟨o, ho⟩ := HB7.out.map.store HNo.out
    have hst : (Instr.mapUpdate 47 (.map (some m)) (.agg #[.int .u32 (x : Int), .int .u32 (y : Int)]) (.int .i64 (all.length : Int))).run Try.prog w7.drew = .ok () (setBlock w7.drew m o) := (ho 1).1
    have HK := Lib.hid (show Rft w0 g m (all ++ [(x, y)]) all.length (ps ++ [((i : Int), (j : Int))]) (.slice A6 (ps.length + 1) cap6) (setBlock w7.drew m o) from Rft.know HB7.out.drew (ho 1).2)
    have HP8 := Lib.hid (show Keeps g m (.slice Av ps.length cv) (.slice A6 (ps.length + 1) cap6) w (setBlock w7.drew m o) from HP7.out.drew.map o)
    have HX8 := Lib.hid (rsX_know HX.out (HFar.out _ (by omega : w.heap.size ≤ w.heap.size + 1 + 1)).2.2.1 (HFar.out _ (by omega : w.heap.size ≤ w.heap.size + 1 + 1 + 1)).2.2.1 o)
    obtain ⟨k0, k1, k2⟩ := HB7.out.cell
    obtain ⟨_, t0, t1⟩ := HX.out
    clear ho
    generalize setBlock w7.drew m o = w8 at *
    obtain ⟨m0, m1, m2⟩ := HK.out.cell
    have fm := HK.out.free 1
    have HK9 := Lib.hid (show Rft w0 g m (all ++ [(x, y)]) (all.length + 1) (ps ++ [((i : Int), (j : Int))]) (.slice A6 (ps.length + 1) cap6) (w8.setCell ⟨g, 1, none⟩ (.int .i64 ((all.length : Int) + 1))) by
      have := HK.out.next (all.length + 1)
      rwa [show ((all.length + 1 : Nat) : Int) = (all.length : Int) + 1 by omega] at this)
    have HX9 := Lib.hid (rsX_set (j := 1) HX8.out (HFar.out _ (by omega : w.heap.size ≤ w.heap.size + 1 + 1)).2.1 (HFar.out _ (by omega : w.heap.size ≤ w.heap.size + 1 + 1 + 1)).2.1 (.int .i64 ((all.length : Int) + 1)))
    obtain ⟨z9, s0, s1⟩ := HX9.out
    have f0 : (w8.setCell ⟨g, 1, none⟩ (.int .i64 ((all.length : Int) + 1))).frozen? ⟨w.heap.size + 1 + 1, 0, none⟩ = false := by simp [World.frozen?, z9]
    have f1 : (w8.setCell ⟨g, 1, none⟩ (.int .i64 ((all.length : Int) + 1))).frozen? ⟨w.heap.size + 1 + 1, 1, none⟩ = false := by simp [World.frozen?, z9]
    have d0 := (two_cells z9).1
    have d1 := (two_cells z9).2
    have hh := two_cells (twoC_setCell (u := .int .u32 (x : Int)) (v := .int .u32 (y : Int)) z9)
    have R := Lib.hid hh
    clear z9 hh
    go_wp2
    refine wp_region_still_tail 9 (by kernel_rfl) (by kernel_rfl) ?_
    simp only [List.take_succ_cons, List.take_zero, List.drop_succ_cons, List.drop_zero]
    iterate 9 still_step
    refine wpStill_nil ?_
    go_wp2
    refine bodyPost_ret (v := .agg #[.int .u32 (x : Int), .int .u32 (y : Int)]) (by simp [results, Try.results27, go_sem, R.out.1, R.out.2]) rfl ?_
    have hq := HFar.out (w.heap.size + 1 + 1) (by omega)
    rw [HV.out]
    exact ⟨rfl, i, j, _, HI.out, HJ.out, (HK9.out.aside _ hq.1 hq.2.1 hq.2.2.1 HFar7.out).aside _ hq.1 hq.2.1 hq.2.2.1 HFar7.out, ((HP8.out.set _ (.inl rfl)).set _ (.inr (by omega))).set _ (.inr (by omega))⟩
  · refine wpAnyH_ready (rs := [19]) (by kernel_rfl) (by simp) ?_
    refine AllReadyH.cons (o := ⟨some 44, _, _, _, _, none⟩) rfl (fun K hK => ?_) AllReadyH.nil
    refine step_append_any rfl (.tmp 29) (.tmp 43) 36 rfl w0.heap.size 52 i0 (.agg #[.int .i64 0, .int .i64 0]) 2 16 Try.underlying36 hi0 hz0 hz1 hz2 rfl (by decide) (.slice Av ps.length cv) ps.length (pairsC ps) (by simp [Act.eval]) (HOwn.out _) ⟨w4.heap.size, 0, none⟩ 1 1 [.int .i64 (i : Int), .int .i64 (j : Int)] (by simp [Act.eval]) rfl HNews.out HOne.out H63.out HBy.out (HBase.out _) ?_
    intro v6 w6 hown6 hgrow6 hat6
    obtain ⟨A6, cap6, rfl⟩ := own_form hown6
    have c6 : w6.cell? ⟨g, 2, none⟩ = some (.slice Av ps.length cv) := hgrow6.cell (a := ⟨g, 2, none⟩) (HC.out _) (fun e => HNe.out.1 e.symm)
    have f6 : w6.frozen? ⟨g, 2, none⟩ = false := (hgrow6.frozen_far ⟨g, 2, none⟩ (HGl.out _) (fun e => HNe.out.1 e.symm)).trans (HF.out _)
    have hm6 : w6.heap[m]? = w4.heap[m]? := (hgrow6.block m (HMa.out _).1 (fun e => HNe.out.2.1 e.symm)).trans (HMa.out _).2
    have HS6 := Lib.hid (HLk.out w6 hm6 (rsS_grown (HSa.out _).1 hgrow6 (HFar.out _ (Nat.le_refl _)).2.2.2 (HFar.out _ (Nat.le_succ _)).2.2.2 HNe.out.1))
    have HS7 := Lib.hid (HLk.out (w6.setCell ⟨g, 2, none⟩ (.slice A6 (ps.length + 1) cap6)) ((setCell_other _ _ (fun e => HNe.out.2.2 e.symm)).trans hm6) (rsS_set HS6.out.1 (HFar.out _ (Nat.le_refl _)).2.1 (HFar.out _ (Nat.le_succ _)).2.1 (.slice A6 (ps.length + 1) cap6)))
    clear hm6
    refine hK.out _ _ HS6.out (fun hHeld => ?_)
    clear hK K
    simp only [Act.put, List.setIfInBounds_toArray, List.set_cons_zero, List.set_cons_succ]
    refine' wpAnyH_take (i := 20) (oi := ⟨some 45, _, _, _, _, none⟩) (v := _) rfl (by kernel_rfl) (by kernel_rfl) (by kernel_rfl) (fun _ _ _ h => h) (Or.inl ⟨by rfl, ?hy20b⟩) hHeld ?rest20b
    case hy20b => (intro W hSw; obtain ⟨⟨s1, s2, s3, s4, s5⟩, s6, s7⟩ := hSw; go_simp; try with_reducible rfl)
    simp only [Act.put, List.setIfInBounds_toArray, List.set_cons_zero, List.set_cons_succ]
    refine' wpAnyH_take (i := 21) (oi := ⟨some 46, _, _, _, _, none⟩) (v := _) rfl (by kernel_rfl) (by kernel_rfl) (by kernel_rfl) (fun _ _ _ h => h) (Or.inl ⟨by rfl, ?hy21b⟩) hHeld ?rest21b
    case hy21b => (intro W hSw; obtain ⟨⟨s1, s2, s3, s4, s5⟩, s6, s7⟩ := hSw; go_simp; try with_reducible rfl)
    simp only [Act.put, List.setIfInBounds_toArray, List.set_cons_zero, List.set_cons_succ]
    refine wpAnyH_ready (rs := [22]) (by kernel_rfl) (by simp) ?_
    refine AllReadyH.cons (o := ⟨none, _, _, _, _, none⟩) rfl (fun K hK => ?_) AllReadyH.nil
    go_simp
    refine hK.out _ _ HS7.out (fun hHeld => ?_)
    clear hK K hHeld
    refine wpAnyH_done (by kernel_rfl) ?_ _
    have hk5 := HB5.out (.cells #[.int .i64 (i : Int), .int .i64 (j : Int)] 52)
    have HB7 := Lib.hid (show Rft w0 g m all all.length (ps ++ [((i : Int), (j : Int))]) (.slice A6 (ps.length + 1) cap6) (w6.setCell ⟨g, 2, none⟩ (.slice A6 (ps.length + 1) cap6)) from
      Rft.append hk5.drew (by rw [pairsC_more, List.length_append]; exact hown6) hgrow6 (by
        rcases hat6 with e | e
        · rw [e]; exact HNe.out.1
        · rw [e]
          intro e2
          have h2 := hk5.lt
          simp only [Option.some.injEq] at e2
          have h3 : (w4.alloc (.cells #[.int .i64 (i : Int), .int .i64 (j : Int)] 52)).drew.heap.size = (w4.alloc (.cells #[.int .i64 (i : Int), .int .i64 (j : Int)] 52)).heap.size := rfl
          omega))
    have HP7 := Lib.hid (Keeps.set (g := g) (m := m) (b := g) (j := 2) ((Keeps.below ((HW.out.bel.alloc HW.out.bel.size (.cells #[.int .i64 (i : Int), .int .i64 (j : Int)] 52)).drew)).trans (Keeps.append hgrow6 hgrow6.size hat6)) (.slice A6 (ps.length + 1) cap6) (.inl rfl))
    have HX := Lib.hid (rsW_after HW.out hgrow6 HFar.out (.slice A6 (ps.length + 1) cap6))
    have HFar7 := Lib.hid (show (Value.slice A6 (ps.length + 1) cap6).ownBlock ≠ some (w.heap.size + 1 + 1) by
      rcases hat6 with e | e
      · rw [e]; exact (HFar.out _ (by omega)).2.2.2
      · rw [e]
        intro e2
        have h2 := HSz.out
        simp only [Option.some.injEq] at e2
        have h3 : (w4.alloc (.cells #[.int .i64 (i : Int), .int .i64 (j : Int)] 52)).drew.heap.size = w4.heap.size + 1 := by show (w4.alloc _).heap.size = _; simp
        omega)
    clear hk5 hown6 hgrow6 hat6 c6 f6 HS6 HS7 HSa HS0 HB5 HC HF HOwn HNews HBase c0 c1 c2 c2' HB4 HW HLk HMa
    go_simp
    generalize w6.setCell _ _ = w7 at *
    obtain ⟨o, ho⟩ := HB7.out.map.store HNo.out
    have hst : (Instr.mapUpdate 47 (.map (some m)) (.agg #[.int .u32 (x : Int), .int .u32 (y : Int)]) (.int .i64 (all.length : Int))).run Try.prog w7.drew = .ok () (setBlock w7.drew m o) := (ho 1).1
    have HK := Lib.hid (show Rft w0 g m (all ++ [(x, y)]) all.length (ps ++ [((i : Int), (j : Int))]) (.slice A6 (ps.length + 1) cap6) (setBlock w7.drew m o) from Rft.know HB7.out.drew (ho 1).2)
    have HP8 := Lib.hid (show Keeps g m (.slice Av ps.length cv) (.slice A6 (ps.length + 1) cap6) w (setBlock w7.drew m o) from HP7.out.drew.map o)
    have HX8 := Lib.hid (rsX_know HX.out (HFar.out _ (by omega : w.heap.size ≤ w.heap.size + 1 + 1)).2.2.1 (HFar.out _ (by omega : w.heap.size ≤ w.heap.size + 1 + 1 + 1)).2.2.1 o)
    obtain ⟨k0, k1, k2⟩ := HB7.out.cell
    obtain ⟨_, t0, t1⟩ := HX.out
    clear ho
    generalize setBlock w7.drew m o = w8 at *
    obtain ⟨m0, m1, m2⟩ := HK.out.cell
    have fm := HK.out.free 1
    have HK9 := Lib.hid (show Rft w0 g m (all ++ [(x, y)]) (all.length + 1) (ps ++ [((i : Int), (j : Int))]) (.slice A6 (ps.length + 1) cap6) (w8.setCell ⟨g, 1, none⟩ (.int .i64 ((all.length : Int) + 1))) by
      have := HK.out.next (all.length + 1)
      rwa [show ((all.length + 1 : Nat) : Int) = (all.length : Int) + 1 by omega] at this)
    have HX9 := Lib.hid (rsX_set (j := 1) HX8.out (HFar.out _ (by omega : w.heap.size ≤ w.heap.size + 1 + 1)).2.1 (HFar.out _ (by omega : w.heap.size ≤ w.heap.size + 1 + 1 + 1)).2.1 (.int .i64 ((all.length : Int) + 1)))
    obtain ⟨z9, s0, s1⟩ := HX9.out
    have f0 : (w8.setCell ⟨g, 1, none⟩ (.int .i64 ((all.length : Int) + 1))).frozen? ⟨w.heap.size + 1 + 1, 0, none⟩ = false := by simp [World.frozen?, z9]
    have f1 : (w8.setCell ⟨g, 1, none⟩ (.int .i64 ((all.length : Int) + 1))).frozen? ⟨w.heap.size + 1 + 1, 1, none⟩ = false := by simp [World.frozen?, z9]
    have d0 := (two_cells z9).1
    have d1 := (two_cells z9).2
    have hh := two_cells (twoC_setCell (u := .int .u32 (x : Int)) (v := .int .u32 (y : Int)) z9)
    have R := Lib.hid hh
    clear z9 hh
    go_wp2
    refine wp_region_still_tail 9 (by kernel_rfl) (by kernel_rfl) ?_
    simp only [List.take_succ_cons, List.take_zero, List.drop_succ_cons, List.drop_zero]
    iterate 9 still_step
    refine wpStill_nil ?_
    go_wp2
    refine bodyPost_ret (v := .agg #[.int .u32 (x : Int), .int .u32 (y : Int)]) (by simp [results, Try.results27, go_sem, R.out.1, R.out.2]) rfl ?_
    have hq := HFar.out (w.heap.size + 1 + 1) (by omega)
    rw [HV.out]
    exact ⟨rfl, i, j, _, HI.out, HJ.out, (HK9.out.aside _ hq.1 hq.2.1 hq.2.2.1 HFar7.out).aside _ hq.1 hq.2.1 hq.2.2.1 HFar7.out, ((HP8.out.set _ (.inl rfl)).set _ (.inr (by omega))).set _ (.inr (by omega))⟩

end Go.Proofs.Ytjbefclfhehhaaa
