/- A map from numbers to numbers, and rows beside it. -/
import Derived.Test.YtlpjpnlfmjehnaaRowK
namespace Go.Proofs.Ytlpjpnlfmjehnaa
open Go.RowKit
open Go.ChangeMaps (setBlock)

/-- Block b is a map that has f x for each number x: what is not in it reads as zero. It has at most m entries. -/
def CtM (w : World) (b m : Nat) (f : Int → Nat) : Prop :=
  ∃ D : DataW Unit, w.ownsMap Try.prog 3 (plainElem Try.prog 3) b m D ∧ Maps.IsMap D ∧ ∀ x : Int, D.atKey (.int .i64 x) (.lit (.int .i64 0)) = .lit (.int .i64 (f x : Nat))
def updI (f : Int → Nat) (x : Int) (v : Nat) : Int → Nat := fun y => if y = x then v else f y
theorem countLit {x : Nat} (hx : x < 1000) : (Lit.int .i64 (x : Nat)).wf = true := intLit hx
section
variable {w w' : World} {b m : Nat} {f : Int → Nat}
theorem CtM.lt (h : CtM w b m f) : b < w.heap.size := by
  obtain ⟨D, h, _⟩ := h
  exact h.lt
theorem CtM.same (h : CtM w b m f) (e : w'.heap[b]? = w.heap[b]?) : CtM w' b m f := by
  obtain ⟨D, ⟨es, clock, hb, r⟩, h2⟩ := h
  exact ⟨D, ⟨es, clock, e.trans hb, r⟩, h2⟩
theorem ctM_new (w : World) : CtM (w.alloc (.map #[] 0)) w.heap.size 0 fun _ => 0 :=
  ⟨_, World.ownsMap_made w Try.prog 3 _, Maps.isMap_empty, fun _ => rfl⟩
theorem CtM.look (h : CtM w b m f) {x : Int} (hx : (Lit.int .i64 x).wf = true) : (Instr.lookup 80 (.map (some b)) (.int .i64 x) false).run Try.prog w = .ok (.int .i64 (f x : Nat)) w := by
  obtain ⟨D, h, _, hf⟩ := h
  obtain ⟨c, hrun, hat, _⟩ := h.lookup_int (Maps.int_keyed Try.underlying3) Try.underlying80 Try.underlying3 (Try.zeroValue3 _) (Maps.keyOf_int_mk Try.underlying3 hx)
  rw [hf x] at hat
  simp only [DataW.lit.injEq, Lit.int.injEq, true_and] at hat
  rw [hat]
  exact hrun
theorem CtM.put (h : CtM w b m f) (hm : m < maxLen) {x : Int} {v : Nat} (hx : (Lit.int .i64 x).wf = true) (hv : v < 1000) :
    ∃ o : Obj, (Instr.mapUpdate 80 (.map (some b)) (.int .i64 x) (.int .i64 (v : Nat))).run Try.prog w = .ok () (setBlock w b o) ∧ CtM (setBlock w b o) b (m + 1) (updI f x v) := by
  obtain ⟨D, h, hD, hf⟩ := h
  obtain ⟨w', hrun, hown, es, clock, es', clock', hb, rfl⟩ := h.store (Maps.int_keyed Try.underlying3) Try.underlying80 hm (Maps.keyOf_int_mk Try.underlying3 hx) (plainElem_int Try.underlying3 (countLit hv))
  refine ⟨_, hrun, _, hown, hD.put _ _, fun y => ?_⟩
  by_cases e : y = x
  · subst e
    rw [Maps.atKey_put_same hD ((Maps.int_keyed Try.underlying3).key (Maps.keyOf_int_mk Try.underlying3 hx))]
    simp [updI]
  · rw [Maps.atKey_put_other (fun k2 => e (by simp only [Lit.int.injEq, true_and] at k2; omega)), hf y]
    simp [updI, e]
end

section
variable {w0 w w' : World} {rs : List Rw} {b m : Nat} {f : Int → Nat}
theorem CtM.below (h : CtM w b m f) (hb : Below w.heap.size w w') : CtM w' b m f := h.same (hb.block b h.lt)
/-- These rows are the call's own since w0, and beside them the map in block b. -/
structure RowsC (w0 : World) (rs : List Rw) (b m : Nat) (f : Int → Nat) (w : World) : Prop where
  rows : RowsM w0 rs w
  map : CtM w b m f
  ge : w0.heap.size ≤ b
  off : ∀ r ∈ rs, r.v.ownBlock ≠ some b
theorem RowsM.mapC (h : RowsM w0 rs w) : RowsC w0 rs w.heap.size 0 (fun _ => 0) (w.alloc (.map #[] 0)) :=
  ⟨h.grow ((Below.refl _ _).alloc (Nat.le_refl _) _), ctM_new w, h.below.size, h.far (Nat.le_refl _)⟩
theorem RowsC.grow (h : RowsC w0 rs b m f w) (hb : Below w.heap.size w w') : RowsC w0 rs b m f w' := ⟨h.rows.grow hb, h.map.below hb, h.ge, h.off⟩
theorem RowsC.drewN (h : RowsC w0 rs b m f w) (k : Nat) : RowsC w0 rs b m f (w.drewN k) := ⟨h.rows.drewN k, h.map.same rfl, h.ge, h.off⟩
theorem RowsC.put (h : RowsC w0 rs b m f w) (hm : m < maxLen) {x : Int} {v : Nat} (hx : (Lit.int .i64 x).wf = true) (hv : v < 1000) :
    ∃ o : Obj, (Instr.mapUpdate 80 (.map (some b)) (.int .i64 x) (.int .i64 (v : Nat))).run Try.prog w = .ok () (setBlock w b o) ∧ RowsC w0 rs b (m + 1) (updI f x v) (setBlock w b o) := by
  obtain ⟨o, h1, h2⟩ := h.map.put hm hx hv
  exact ⟨o, h1, h.rows.turned h.ge h.off, h2, h.ge, h.off⟩
/-- A row of its own has grown: the map is as it was. -/
theorem RowsC.moved {rs' : List Rw} (h : RowsC w0 rs b m f w) (h' : RowsM w0 rs' w') (hb : w'.heap[b]? = w.heap[b]?) (ho : ∀ r ∈ rs', r.v.ownBlock ≠ some b) : RowsC w0 rs' b m f w' :=
  ⟨h', h.map.same hb, h.ge, ho⟩
end

/-- append to a row beside the map. -/
theorem wpList_append_rc {w w0 : World} {rs : List Rw} {b mm : Nat} {f : Int → Nat} {ops : Array Oper} {rest : List Oper} {o : Oper} {a : Act} {Q : Exit → Act → World → Prop} (hgd : o.guard = none) (s x : Operand) (t : TypeId)
    (ho : o.op = .call { callee := .builtin .append, args := #[s, x], argTypes := #[t, t] })
    (k : Nat) (e size n : Nat) (v : Value) (xs : List Value) (hM : RowsC w0 rs b mm f w) (hr : rs[k]? = Option.some ⟨e, size, v, n, xs⟩) (i : TypeInfo) (z : Value) (bytes : Nat) (ht : Try.prog.underlying t = Option.some (.slice e)) (hi : Try.prog.info? e = Option.some i) (hz : i.zero = Option.some z)
    (hsize : i.size = size) (hby : i.bytes = bytes) (hzs : z.cells.size = size) (hsz : 0 < size) (hs : a.eval s = v)
    (ad : Addr) (m c : Nat) (news : List Value) (hx : a.eval x = .slice (Option.some ad) m c) (hl : news.length = m * size) (hnews : ∀ j u, news[j]? = Option.some u → w.cell? (ad.add j) = Option.some u) (h1 : ∀ u ∈ news, u.oneCell' = true)
    (h63 : n + m ≤ maxLen) (hbytes : (n + m) * bytes ≤ 140737488355328)
    (h : ∀ A c' w', RowsC w0 (rs.set k ⟨e, size, .slice A (n + m) c', n + m, xs ++ news⟩) b mm f w' → wpList Try.prog ops Q rest (a.put o.dst (.slice A (n + m) c')) w') : wpList Try.prog ops Q (o :: rest) a w :=
  wpList_plain hgd fun _ hK => wp_append_any s x t ho w0.heap.size e i z size bytes ht hi hz hsize hby hzs hsz v n xs hs (hM.rows.at_ k _ hr) ad m c news hx hl hnews h1 h63 hbytes hM.rows.below.size (fun v' w' h1 h2 h3 => by
    have hN := hM.rows.push (n' := n + m) (v' := v') (xs' := xs ++ news) hr h1 h2 h3
    obtain ⟨A, c', e1, _, _⟩ := hN.form (k := k) (List.getElem?_set_self (List.getElem?_eq_some_iff.1 hr).1)
    simp only at e1
    subst e1
    have hoff := hM.off _ (List.mem_of_getElem? hr)
    refine hK _ _ (h A c' w' (hM.moved hN (h2.block b hM.map.lt (fun e => hoff e.symm)) fun s hs e2 => ?_))
    rcases List.mem_or_eq_of_mem_set hs with h4 | rfl
    · exact hM.off s h4 e2
    · simp only at e2
      rcases h3 with h3 | h3
      · exact hoff (by rw [← h3]; exact e2)
      · rw [h3] at e2
        have := hM.map.lt
        simp at e2
        omega)

end Go.Proofs.Ytlpjpnlfmjehnaa
