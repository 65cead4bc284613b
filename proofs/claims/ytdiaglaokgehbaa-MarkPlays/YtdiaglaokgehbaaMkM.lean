/- The memory of a marked script: three lists in a struct, and what each one knows. -/
import Derived.Test.YtdiaglaokgehbaaMk
import Derived.Test.YtdiaglaokgehbaaWL1
import Derived.Test.YtdiaglaokgehbaaAppAny
import Derived.Test.YtdiaglaokgehbaaOwnU
namespace Go.Proofs.Ytdiaglaokgehbaa
open Go.RowKit

theorem wpList_append_grow {P : Program} {w : World} {ops : Array Oper} {rest : List Oper} {o : Oper} {a : Act} {Q : Exit → Act → World → Prop} (hgd : o.guard = none) (s x : Operand) (t : TypeId)
    (ho : o.op = .call { callee := .builtin .append, args := #[s, x], argTypes := #[t, t] })
    (base : Nat) (e : TypeId) (i : TypeInfo) (z : Value) (size bytes : Nat) (ht : P.underlying t = some (.slice e)) (hi : P.info? e = some i) (hz : i.zero = some z)
    (hsize : i.size = size) (hby : i.bytes = bytes) (hzs : z.cells.size = size) (hsz : 0 < size)
    (v : Value) (n : Nat) (xs : List Value) (hs : a.eval s = v) (hown : w.ownsRow base e size v n xs)
    (ad : Addr) (m c : Nat) (news : List Value) (hx : a.eval x = .slice (some ad) m c) (hl : news.length = m * size) (hnews : ∀ j u, news[j]? = some u → w.cell? (ad.add j) = some u) (h1 : ∀ u ∈ news, u.oneCell' = true)
    (h63 : n + m ≤ maxLen) (hbytes : (n + m) * bytes ≤ 140737488355328) (hbase : base ≤ w.heap.size)
    (h : ∀ v' w', w'.ownsRow base e size v' (n + m) (xs ++ news) → w.grownBy w' v.ownBlock → wpList P ops Q rest (a.put o.dst v') w') : wpList P ops Q (o :: rest) a w :=
  wpList_plain hgd fun _ hK => wp_append_any s x t ho base e i z size bytes ht hi hz hsize hby hzs hsz v n xs hs hown ad m c news hx hl hnews h1 h63 hbytes hbase (fun v' w' h1 h2 _ => hK _ _ (h v' w' h1 h2))

section
variable {w w' : World} {B e size n : Nat} {v : Value} {xs : List Value}
theorem own_far (h : w.ownsRow B e size v n xs) {a : Addr} (u : Value) (hne : v.ownBlock ≠ some a.block) : (w.setCell a u).ownsRow B e size v n xs :=
  World.ownsRow.kept h (row := some a.block) ⟨rfl, rfl, rfl, by simp [World.setCell], fun k _ hk => Below.heap_setCell _ _ _ _ (fun e => hk (by rw [e]))⟩ (.inr hne)
theorem own_keep (h : w.ownsRow B e size v n xs) (hb : Below w.heap.size w w') : w'.ownsRow B e size v n xs :=
  World.ownsRow.kept h (row := none) ⟨hb.os, hb.tape, hb.output, hb.size, fun k hk _ => hb.block k hk⟩ (by cases v.ownBlock <;> simp)
theorem own_type {g : Nat} (h : w.ownsRow B e size v n xs) (hg : v.ownBlock = some g) : ∃ cur, w.heap[g]? = some (.cells cur e (0, 0)) := by
  rcases h.2 with ⟨hv, _⟩ | ⟨g', cap, cur, hv, _, hh, _⟩
  · rw [hv] at hg; simp [Value.ownBlock] at hg
  · rw [hv] at hg
    simp only [Value.ownBlock, Option.some.injEq] at hg
    subst hg
    exact ⟨cur, hh⟩
theorem own_apart {e2 size2 n2 : Nat} {v2 : Value} {xs2 : List Value} (h : w.ownsRow B e size v n xs) (h2 : w.ownsRow B e2 size2 v2 n2 xs2) (he : e ≠ e2) {g : Nat} (hg : v2.ownBlock = some g) : v.ownBlock ≠ some g := by
  intro k
  obtain ⟨c1, h1⟩ := own_type h k
  obtain ⟨c2, h3⟩ := own_type h2 hg
  rw [h1] at h3
  simp only [Option.some.injEq, Obj.cells.injEq] at h3
  exact he h3.2.1
theorem own_block {g t : Nat} {cur : Array Value} (h : w.ownsRow B e size v n xs) (hb : w.heap[g]? = some (.cells cur t (0, 0))) (he : e ≠ t) : v.ownBlock ≠ some g := by
  intro k
  obtain ⟨c1, h1⟩ := own_type h k
  rw [h1] at hb
  simp only [Option.some.injEq, Obj.cells.injEq] at hb
  exact he hb.2.1
theorem own_slice (h : w.ownsRow B e size v n xs) : ∃ A c, v = .slice A n c ∧ n ≤ maxLen ∧ n ≤ c := by
  rcases h.2 with ⟨hv, hn⟩ | ⟨g, cap, cur, hv, _, _, h1, h2, _⟩
  · subst hn; exact ⟨none, 0, hv, by simp [maxLen], Nat.le_refl _⟩
  · exact ⟨_, cap, hv, by omega, h1⟩
theorem own_some (h : w.ownsRow B e size v n xs) (hn : 0 < n) : ∃ g c, v = .slice (some ⟨g, 0, none⟩) n c ∧ n ≤ c := by
  rcases h.2 with ⟨hv, hn'⟩ | ⟨g, cap, cur, hv, _, _, h1, _⟩
  · omega
  · exact ⟨g, cap, hv, h1⟩
theorem own_row (h : w.ownsRow B e size v n xs) : ∃ A c, v = .slice A n c ∧ n ≤ c ∧ Row w A xs := by
  rcases h.2 with ⟨hv, hn⟩ | ⟨g, cap, cur, hv, hg, hh, h1, h2, h3, h4⟩
  · subst hn
    have : xs = [] := List.eq_nil_of_length_eq_zero (by simpa using h.1)
    exact ⟨none, 0, hv, Nat.le_refl _, .inl this⟩
  · subst hv
    refine ⟨_, cap, rfl, h1, .inr ⟨g, 0, rfl, fun j u hu => ?_⟩⟩
    have hj : j < xs.length := (List.getElem?_eq_some_iff.1 hu).1
    rw [Nat.zero_add, World.ownsRow.cellAt h j (by have := h.1; omega)]
    exact hu
end

theorem infoLb : (Try.prog.info? 40).map (fun i => (i.zero, i.size, i.bytes)) = some (some (.agg #[.int .i64 0, .int .u32 0]), 2, 16) := by kernel_rfl
theorem infoEr : (Try.prog.info? 28).map (fun i => (i.zero, i.size, i.bytes)) = some (some (.int .i64 0), 1, 8) := by kernel_rfl
theorem infoU32 : (Try.prog.info? 38).map (fun i => (i.zero, i.size, i.bytes)) = some (some (.int .u32 0), 1, 4) := by kernel_rfl

/-- The lists of a marked script, in a struct in block g, and what each one knows. -/
structure MkW (w0 : World) (g : Nat) (vc vm vf vk : Value) (codes : List Int) (marks : List Lab) (fr kn : List Nat) (w : World) : Prop where
  blk : w.heap[g]? = some (.cells #[vc, vm, vf] 27 (0, 0))
  oc : w.ownsRow w0.heap.size 28 1 vc codes.length (ints codes)
  om : w.ownsRow w0.heap.size 40 2 vm marks.length (labsC marks)
  of : w.ownsRow w0.heap.size 38 1 vf fr.length (words fr)
  ok : w.ownsRow w0.heap.size 38 1 vk kn.length (words kn)
  fk : ∀ b, vk.ownBlock = some b → vf.ownBlock ≠ some b
  below : Below w0.heap.size w0 w
  hg : w0.heap.size ≤ g

section
variable {w0 w w' : World} {g : Nat} {vc vm vf vk : Value} {codes : List Int} {marks : List Lab} {fr kn : List Nat}
theorem MkW.lt (h : MkW w0 g vc vm vf vk codes marks fr kn w) : g < w.heap.size := (Array.getElem?_eq_some_iff.1 h.blk).1
theorem MkW.cells (h : MkW w0 g vc vm vf vk codes marks fr kn w) : w.cell? ⟨g, 0, none⟩ = some vc ∧ w.cell? ⟨g, 1, none⟩ = some vm ∧ w.cell? ⟨g, 2, none⟩ = some vf :=
  ⟨cell_of_row w g 0 _ _ _ h.blk, cell_of_row w g 1 _ _ _ h.blk, cell_of_row w g 2 _ _ _ h.blk⟩
theorem MkW.free (h : MkW w0 g vc vm vf vk codes marks fr kn w) (j : Nat) : w.frozen? ⟨g, j, none⟩ = false := by simp [World.frozen?, h.blk]
theorem MkW.ne (h : MkW w0 g vc vm vf vk codes marks fr kn w) : vc.ownBlock ≠ some g ∧ vm.ownBlock ≠ some g ∧ vf.ownBlock ≠ some g ∧ vk.ownBlock ≠ some g :=
  ⟨own_block h.oc h.blk (by decide), own_block h.om h.blk (by decide), own_block h.of h.blk (by decide), own_block h.ok h.blk (by decide)⟩
theorem MkW.grow (h : MkW w0 g vc vm vf vk codes marks fr kn w) (hb : Below w.heap.size w w') : MkW w0 g vc vm vf vk codes marks fr kn w' :=
  ⟨(hb.block g h.lt).trans h.blk, own_keep h.oc hb, own_keep h.om hb, own_keep h.of hb, own_keep h.ok hb, h.fk, h.below.trans (hb.mono h.below.size), h.hg⟩
theorem MkW.drewN (h : MkW w0 g vc vm vf vk codes marks fr kn w) (k : Nat) : MkW w0 g vc vm vf vk codes marks fr kn (w.drewN k) := ⟨h.blk, h.oc, h.om, h.of, h.ok, h.fk, below_drewN h.below k, h.hg⟩
theorem MkW.drew (h : MkW w0 g vc vm vf vk codes marks fr kn w) : MkW w0 g vc vm vf vk codes marks fr kn w.drew := h.drewN 1

theorem grown_kept {row : Option Nat} {B e size n : Nat} {v : Value} {xs : List Value} (hg : w.grownBy w' row) (h : w.ownsRow B e size v n xs) (hne : ∀ b, row = some b → v.ownBlock ≠ some b) : w'.ownsRow B e size v n xs := by
  refine World.ownsRow.kept h hg ?_
  cases row with
  | none => cases v.ownBlock <;> simp
  | some b => exact .inr (hne b rfl)
theorem set_blk {a b c u : Value} {t : Nat} (h : w.heap[g]? = some (.cells #[a, b, c] t (0, 0))) :
    (w.setCell ⟨g, 0, none⟩ u).heap[g]? = some (.cells #[u, b, c] t (0, 0)) ∧ (w.setCell ⟨g, 1, none⟩ u).heap[g]? = some (.cells #[a, u, c] t (0, 0)) ∧ (w.setCell ⟨g, 2, none⟩ u).heap[g]? = some (.cells #[a, b, u] t (0, 0)) := by
  refine ⟨?_, ?_, ?_⟩ <;>
    · simp only [World.setCell]
      rw [Array.getElem?_modify, if_pos rfl, h]
      rfl
/-- One more code. -/
theorem MkW.code {vc' : Value} {codes' : List Int} (h : MkW w0 g vc vm vf vk codes marks fr kn w) (ho : w'.ownsRow w0.heap.size 28 1 vc' codes'.length (ints codes')) (hgr : w.grownBy w' vc.ownBlock) :
    MkW w0 g vc' vm vf vk codes' marks fr kn (w'.setCell ⟨g, 0, none⟩ vc') := by
  obtain ⟨n1, n2, n3, n4⟩ := h.ne
  have hb' : w'.heap[g]? = some (.cells #[vc, vm, vf] 27 (0, 0)) := (hgr.block g h.lt (fun e => n1 e.symm)).trans h.blk
  have hbel : Below w0.heap.size w0 w' := h.below.grown hgr h.below.size (fun k hk => (World.ownsRow.lt h.oc k hk).1)
  have k2 := grown_kept hgr h.om (fun b hb => own_apart h.om h.oc (by decide) hb)
  have k3 := grown_kept hgr h.of (fun b hb => own_apart h.of h.oc (by decide) hb)
  have k4 := grown_kept hgr h.ok (fun b hb => own_apart h.ok h.oc (by decide) hb)
  exact ⟨(set_blk hb').1, own_far ho _ (own_block ho hb' (by decide)), own_far k2 _ n2, own_far k3 _ n3, own_far k4 _ n4, h.fk, hbel.setCell h.hg _, h.hg⟩
/-- One more mark. -/
theorem MkW.mark {vm' : Value} {marks' : List Lab} (h : MkW w0 g vc vm vf vk codes marks fr kn w) (ho : w'.ownsRow w0.heap.size 40 2 vm' marks'.length (labsC marks')) (hgr : w.grownBy w' vm.ownBlock) :
    MkW w0 g vc vm' vf vk codes marks' fr kn (w'.setCell ⟨g, 1, none⟩ vm') := by
  obtain ⟨n1, n2, n3, n4⟩ := h.ne
  have hb' : w'.heap[g]? = some (.cells #[vc, vm, vf] 27 (0, 0)) := (hgr.block g h.lt (fun e => n2 e.symm)).trans h.blk
  have hbel : Below w0.heap.size w0 w' := h.below.grown hgr h.below.size (fun k hk => (World.ownsRow.lt h.om k hk).1)
  have k1 := grown_kept hgr h.oc (fun b hb => own_apart h.oc h.om (by decide) hb)
  have k3 := grown_kept hgr h.of (fun b hb => own_apart h.of h.om (by decide) hb)
  have k4 := grown_kept hgr h.ok (fun b hb => own_apart h.ok h.om (by decide) hb)
  exact ⟨(set_blk hb').2.1, own_far k1 _ n1, own_far ho _ (own_block ho hb' (by decide)), own_far k3 _ n3, own_far k4 _ n4, h.fk, hbel.setCell h.hg _, h.hg⟩
/-- One more thing, while nobody knows anything. -/
theorem MkW.thing {vf' : Value} {fr' : List Nat} (h : MkW w0 g vc vm vf (.slice none 0 0) codes marks fr [] w) (ho : w'.ownsRow w0.heap.size 38 1 vf' fr'.length (words fr')) (hgr : w.grownBy w' vf.ownBlock) :
    MkW w0 g vc vm vf' (.slice none 0 0) codes marks fr' [] (w'.setCell ⟨g, 2, none⟩ vf') := by
  obtain ⟨n1, n2, n3, n4⟩ := h.ne
  have hb' : w'.heap[g]? = some (.cells #[vc, vm, vf] 27 (0, 0)) := (hgr.block g h.lt (fun e => n3 e.symm)).trans h.blk
  have hbel : Below w0.heap.size w0 w' := h.below.grown hgr h.below.size (fun k hk => (World.ownsRow.lt h.of k hk).1)
  have k1 := grown_kept hgr h.oc (fun b hb => own_apart h.oc h.of (by decide) hb)
  have k2 := grown_kept hgr h.om (fun b hb => own_apart h.om h.of (by decide) hb)
  exact ⟨(set_blk hb').2.2, own_far k1 _ n1, own_far k2 _ n2, own_far ho _ (own_block ho hb' (by decide)), World.ownsRow_nil _ _ _ _, fun b hb => by simp [Value.ownBlock] at hb, hbel.setCell h.hg _, h.hg⟩
theorem grown_cell {row : Option Nat} {j : Nat} {v : Value} {cur : Array Value} {t : TypeId} (hgr : w.grownBy w' row) (hb : w.heap[g]? = some (.cells cur t (0, 0))) (hne : some g ≠ row) (hc : w.cell? ⟨g, j, none⟩ = some v) :
    w'.cell? ⟨g, j, none⟩ = some v ∧ w'.frozen? ⟨g, j, none⟩ = false := by
  have h := hgr.block g (Array.getElem?_eq_some_iff.1 hb).1 hne
  refine ⟨(World.cell?_of_block h).trans hc, ?_⟩
  rw [World.frozen?_of_block h]
  simp [World.frozen?, hb]
theorem MkW.pushCode {vc' : Value} {x : Int} (h : MkW w0 g vc vm vf vk codes marks fr kn w) (ho : w'.ownsRow w0.heap.size 28 1 vc' (codes.length + 1) (ints codes ++ [.int .i64 x])) (hgr : w.grownBy w' vc.ownBlock) :
    MkW w0 g vc' vm vf vk (codes ++ [x]) marks fr kn (w'.setCell ⟨g, 0, none⟩ vc') ∧ w'.cell? ⟨g, 0, none⟩ = some vc ∧ w'.frozen? ⟨g, 0, none⟩ = false := by
  refine ⟨h.code (codes' := codes ++ [x]) ?_ hgr, grown_cell hgr h.blk (fun e => h.ne.1 e.symm) h.cells.1⟩
  have e : ints (codes ++ [x]) = ints codes ++ [.int .i64 x] := by simp [ints]
  rw [e, List.length_append]
  exact ho
theorem MkW.pushMark {vm' : Value} {a : Lab} (h : MkW w0 g vc vm vf vk codes marks fr kn w) (ho : w'.ownsRow w0.heap.size 40 2 vm' (marks.length + 1) (labsC marks ++ labC a)) (hgr : w.grownBy w' vm.ownBlock) :
    MkW w0 g vc vm' vf vk codes (marks ++ [a]) fr kn (w'.setCell ⟨g, 1, none⟩ vm') ∧ w'.cell? ⟨g, 1, none⟩ = some vm ∧ w'.frozen? ⟨g, 1, none⟩ = false := by
  refine ⟨h.mark (marks' := marks ++ [a]) ?_ hgr, grown_cell hgr h.blk (fun e => h.ne.2.1 e.symm) h.cells.2.1⟩
  rw [labsC_append, List.length_append, show labsC [a] = labC a by simp [labsC]]
  exact ho
theorem MkW.pushThing {vf' : Value} {x : Nat} (h : MkW w0 g vc vm vf (.slice none 0 0) codes marks fr [] w) (ho : w'.ownsRow w0.heap.size 38 1 vf' (fr.length + 1) (words fr ++ [.int .u32 (x : Int)])) (hgr : w.grownBy w' vf.ownBlock) :
    MkW w0 g vc vm vf' (.slice none 0 0) codes marks (fr ++ [x]) [] (w'.setCell ⟨g, 2, none⟩ vf') ∧ w'.cell? ⟨g, 2, none⟩ = some vf ∧ w'.frozen? ⟨g, 2, none⟩ = false := by
  refine ⟨h.thing (fr' := fr ++ [x]) ?_ hgr, grown_cell hgr h.blk (fun e => h.ne.2.2.1 e.symm) h.cells.2.2⟩
  have e : words (fr ++ [x]) = words fr ++ [.int .u32 (x : Int)] := by simp [words]
  rw [e, List.length_append]
  exact ho
/-- What each one knows is made. -/
theorem MkW.knows {vk' : Value} {kn' : List Nat} (h : MkW w0 g vc vm vf vk codes marks fr kn w) (ho : w'.ownsRow w0.heap.size 38 1 vk' kn'.length (words kn')) (hb : Below w.heap.size w w') (hn : ∀ b, vk'.ownBlock = some b → w.heap.size ≤ b) :
    MkW w0 g vc vm vf vk' codes marks fr kn' w' := by
  have k := h.grow hb
  exact ⟨k.blk, k.oc, k.om, k.of, ho, fun b e e2 => by have := hn b e; have := (World.ownsRow.lt h.of b e2).2; omega, k.below, k.hg⟩

/-! ## Stores -/
theorem words_set (l : List Nat) (b x : Nat) : (words l).set b (.int .u32 (x : Int)) = words (l.set b x) := by unfold words; rw [List.map_set]
theorem labsC_set (l : List Lab) (b : Nat) (a : Lab) : ((labsC l).set (b * 2) (.int .i64 a.1)).set (b * 2 + 1) (.int .u32 (a.2 : Int)) = labsC (l.set b a) := by
  induction l generalizing b with
  | nil => rfl
  | cons x l ih =>
    cases b with
    | zero => simp [labsC, labC]
    | succ b =>
      have := ih b
      simp only [labsC, List.flatMap_cons, labC, List.cons_append, List.nil_append, List.set_cons_succ] at this ⊢
      rw [show (b + 1) * 2 = b * 2 + 1 + 1 by omega, show b * 2 + 1 + 1 + 1 = (b * 2 + 1) + 1 + 1 by omega]
      simp only [List.set_cons_succ]
      rw [this]
theorem MkW.setKnow {gk ck : Nat} (h : MkW w0 g vc vm vf (.slice (some ⟨gk, 0, none⟩) kn.length ck) codes marks fr kn w) (b x : Nat) :
    MkW w0 g vc vm vf (.slice (some ⟨gk, 0, none⟩) (kn.set b x).length ck) codes marks fr (kn.set b x) (w.setCell ⟨gk, b, none⟩ (.int .u32 (x : Int))) := by
  have hk := (World.ownsRow.stored h.ok b (.int .u32 (x : Int))).1
  rw [words_set] at hk
  have n1 := own_apart h.oc h.ok (by decide) (g := gk) rfl
  have n2 := own_apart h.om h.ok (by decide) (g := gk) rfl
  have n3 := h.fk gk rfl
  have n4 : g ≠ gk := fun e => h.ne.2.2.2 (by rw [e]; rfl)
  have hb := (World.ownsRow.lt h.ok gk rfl).1
  refine ⟨(Below.heap_setCell _ _ _ _ n4).trans h.blk, own_far h.oc _ n1, own_far h.om _ n2, own_far h.of _ n3, ?_, fun b e => h.fk b e, h.below.setCell hb _, h.hg⟩
  rw [List.length_set]
  exact hk
theorem MkW.setFrom {gf cf : Nat} (h : MkW w0 g vc vm (.slice (some ⟨gf, 0, none⟩) fr.length cf) vk codes marks fr kn w) (t x : Nat) :
    MkW w0 g vc vm (.slice (some ⟨gf, 0, none⟩) fr.length cf) vk codes marks (fr.set t x) kn (w.setCell ⟨gf, t, none⟩ (.int .u32 (x : Int))) := by
  have hk := (World.ownsRow.stored h.of t (.int .u32 (x : Int))).1
  rw [words_set] at hk
  have n1 := own_apart h.oc h.of (by decide) (g := gf) rfl
  have n2 := own_apart h.om h.of (by decide) (g := gf) rfl
  have n3 : vk.ownBlock ≠ some gf := fun e => h.fk gf e rfl
  have n4 : g ≠ gf := fun e => h.ne.2.2.1 (by rw [e]; rfl)
  have hb := (World.ownsRow.lt h.of gf rfl).1
  refine ⟨(Below.heap_setCell _ _ _ _ n4).trans h.blk, own_far h.oc _ n1, own_far h.om _ n2, ?_, own_far h.ok _ n3, fun b e => h.fk b e, h.below.setCell hb _, h.hg⟩
  rw [List.length_set]
  exact hk
theorem MkW.setMark {gm cm : Nat} (h : MkW w0 g vc (.slice (some ⟨gm, 0, none⟩) marks.length cm) vf vk codes marks fr kn w) (b : Nat) (a : Lab) :
    MkW w0 g vc (.slice (some ⟨gm, 0, none⟩) marks.length cm) vf vk codes (marks.set b a) fr kn ((w.setCell ⟨gm, b * 2, none⟩ (.int .i64 a.1)).setCell ⟨gm, b * 2 + 1, none⟩ (.int .u32 (a.2 : Int))) := by
  have hk := (World.ownsRow.stored (World.ownsRow.stored h.om (b * 2) (.int .i64 a.1)).1 (b * 2 + 1) (.int .u32 (a.2 : Int))).1
  rw [labsC_set] at hk
  have n1 := own_apart h.oc h.om (by decide) (g := gm) rfl
  have n2 := own_apart h.of h.om (by decide) (g := gm) rfl
  have n3 := own_apart h.ok h.om (by decide) (g := gm) rfl
  have n4 : g ≠ gm := fun e => h.ne.2.1 (by rw [e]; rfl)
  have hb := (World.ownsRow.lt h.om gm rfl).1
  refine ⟨(Below.heap_setCell _ _ _ _ n4).trans ((Below.heap_setCell _ _ _ _ n4).trans h.blk), own_far (own_far h.oc _ n1) _ n1, ?_, own_far (own_far h.of _ n2) _ n2, own_far (own_far h.ok _ n3) _ n3, fun b e => h.fk b e, (h.below.setCell hb _).setCell hb _, h.hg⟩
  rw [List.length_set]
  exact hk
end

theorem RowD.cells {w : World} {A : Option Addr} {l : List Dd} (h : Row w A (deedsC l)) {k : Nat} {d : Dd} (hd : l[k]? = some d) :
    ∃ b off, A = some ⟨b, off, none⟩ ∧ w.cell? ⟨b, off + k * 6, none⟩ = some (.int .i64 d.kind) ∧ w.cell? ⟨b, off + k * 6 + 1, none⟩ = some (.int .i64 d.who) ∧ w.cell? ⟨b, off + k * 6 + 2, none⟩ = some (.int .i64 d.tgt) ∧
      w.cell? ⟨b, off + k * 6 + 3, none⟩ = some (.int .i64 d.lev) ∧ w.cell? ⟨b, off + k * 6 + 4, none⟩ = some (.int .u32 (d.parts : Int)) ∧ w.cell? ⟨b, off + k * 6 + 5, none⟩ = some (.int .i64 d.val) := by
  obtain ⟨b, off, rfl, hc⟩ := h.at (k := k * 6) (by rw [deedsC_length]; have := (List.getElem?_eq_some_iff.1 hd).1; omega)
  have h' : ∀ j, j < 6 → ∀ v, (ddC d)[j]? = some v → w.cell? ⟨b, off + k * 6 + j, none⟩ = some v := fun j hj v hv => by
    have := hc (k * 6 + j) v (by rw [deedsC_at hd hj]; exact hv)
    rwa [← Nat.add_assoc] at this
  exact ⟨b, off, rfl, h' 0 (by omega) _ rfl, h' 1 (by omega) _ rfl, h' 2 (by omega) _ rfl, h' 3 (by omega) _ rfl, h' 4 (by omega) _ rfl, h' 5 (by omega) _ rfl⟩

end Go.Proofs.Ytdiaglaokgehbaa
