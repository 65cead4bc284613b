/- RowsM of a call's own, apart from each other: slices that grow, and boxes (rows of one element). -/
import Derived.Test.YthgmbiaajgpaaaaBase
import Derived.Test.YthgmbiaajgpaaaaAppAny
import Derived.Below
import Derived.Deep.RegionLaw
namespace Go.Proofs.Ythgmbiaajgpaaaa
open Go.RowKit

/-- A row: its elements' type and size, the value, how many elements, the cells. -/
structure Rw where
  e : TypeId
  size : Nat
  v : Value
  n : Nat
  xs : List Value
def Rw.at (r : Rw) (B : Nat) (w : World) : Prop := w.ownsRow B r.e r.size r.v r.n r.xs
def Rw.off (r s : Rw) : Prop := ∀ g, r.v.ownBlock = some g → s.v.ownBlock ≠ some g
theorem Rw.off_symm {r s : Rw} (h : r.off s) : s.off r := fun g e k => h g k e
/-- These rows are the call's own since w0, and all else is as it was. -/
structure RowsM (w0 : World) (rs : List Rw) (w : World) : Prop where
  at_ : ∀ (i : Nat) (r : Rw), rs[i]? = some r → r.at w0.heap.size w
  off : ∀ (i j : Nat) (r s : Rw), rs[i]? = some r → rs[j]? = some s → i ≠ j → r.off s
  below : Below w0.heap.size w0 w

theorem rw_rebase {w : World} {base base' e size n : Nat} {v : Value} {cs : List Value} (h : w.ownsRow base e size v n cs) (hb : base' ≤ base) : w.ownsRow base' e size v n cs := by
  rcases h with ⟨h1, ⟨h2, h3⟩ | ⟨g, cap, cur, h2, h3, h4⟩⟩
  · exact ⟨h1, .inl ⟨h2, h3⟩⟩
  · exact ⟨h1, .inr ⟨g, cap, cur, h2, by omega, h4⟩⟩
section
variable {w0 w w' : World} {rs : List Rw}
theorem RowsM.nil (w0 : World) : RowsM w0 [] w0 := ⟨fun i r h => by simp at h, fun i j r s h => by simp at h, Below.refl _ _⟩
theorem RowsM.grow (h : RowsM w0 rs w) (hb : Below w.heap.size w w') : RowsM w0 rs w' :=
  ⟨fun i r hr => World.ownsRow.kept (h.at_ i r hr) (row := none) ⟨hb.os, hb.tape, hb.output, hb.size, fun k hk _ => hb.block k hk⟩ (by cases r.v.ownBlock <;> simp), h.off, h.below.trans (hb.mono h.below.size)⟩
theorem RowsM.drewN (h : RowsM w0 rs w) (k : Nat) : RowsM w0 rs (w.drewN k) := ⟨h.at_, h.off, below_drewN h.below k⟩
theorem RowsM.drew (h : RowsM w0 rs w) : RowsM w0 rs w.drew := h.drewN 1
theorem RowsM.base {w1 : World} (h : RowsM w0 rs w) (hb : Below w1.heap.size w1 w0) : RowsM w1 rs w :=
  ⟨fun i r hr => rw_rebase (h.at_ i r hr) hb.size, h.off, hb.trans (h.below.mono hb.size)⟩
/-- One row more. -/
theorem RowsM.new {r : Rw} (h : RowsM w0 rs w) (hb : Below w.heap.size w w') (hr : r.at w0.heap.size w') (hn : ∀ g, r.v.ownBlock = some g → w.heap.size ≤ g) : RowsM w0 (rs ++ [r]) w' := by
  have h' := h.grow hb
  have far : ∀ (i : Nat) (s : Rw), rs[i]? = some s → s.off r := fun i s hs g e k => by
    have h1 := hn g k
    have h2 := (World.ownsRow.lt (h.at_ i s hs) g e).2
    omega
  refine ⟨fun i s hs => ?_, fun i j s t hs ht hij => ?_, h'.below⟩
  · by_cases hi : i < rs.length
    · rw [List.getElem?_append_left hi] at hs; exact h'.at_ i s hs
    · rw [List.getElem?_append_right (by omega)] at hs
      have : i - rs.length = 0 := by have := (List.getElem?_eq_some_iff.1 hs).1; simp at this; omega
      rw [this] at hs
      simp at hs
      subst hs
      exact hr
  · have last : ∀ (i : Nat) (s : Rw), (rs ++ [r])[i]? = some s → ¬ i < rs.length → i = rs.length ∧ s = r := fun i s hs hi => by
      rw [List.getElem?_append_right (by omega)] at hs
      have : i - rs.length = 0 := by have := (List.getElem?_eq_some_iff.1 hs).1; simp at this; omega
      rw [this] at hs
      simp at hs
      exact ⟨by omega, hs.symm⟩
    by_cases hi : i < rs.length
    · rw [List.getElem?_append_left hi] at hs
      by_cases hj : j < rs.length
      · rw [List.getElem?_append_left hj] at ht; exact h.off i j s t hs ht hij
      · obtain ⟨_, rfl⟩ := last j t ht hj; exact far i s hs
    · obtain ⟨e1, rfl⟩ := last i s hs hi
      by_cases hj : j < rs.length
      · rw [List.getElem?_append_left hj] at ht; exact Rw.off_symm (far j t ht)
      · obtain ⟨e2, _⟩ := last j t ht hj; omega
theorem RowsM.newAlloc {cs : Array Value} {t : TypeId} (h : RowsM w0 rs w) (size n : Nat) (hm : n ≤ maxLen) (hs : cs.size = n * size) :
    RowsM w0 (rs ++ [⟨t, size, .slice (some ⟨w.heap.size, 0, none⟩) n n, n, cs.toList⟩]) (w.alloc (.cells cs t)) :=
  h.new ((Below.refl _ _).alloc (Nat.le_refl _) _) (World.ownsRow_lit w cs n h.below.size hm hs) (fun g e => by simp [Value.ownBlock] at e; omega)
/-- A row that holds nothing yet. -/
theorem RowsM.newNil (h : RowsM w0 rs w) (e : TypeId) (size : Nat) : RowsM w0 (rs ++ [⟨e, size, .slice none 0 0, 0, []⟩]) w :=
  h.new (Below.refl _ _) (World.ownsRow_nil _ _ _ _) (fun g e => by simp [Value.ownBlock] at e)
theorem RowsM.sub {rs' : List Rw} (f : Nat → Nat) (hf : ∀ i j, i < rs'.length → j < rs'.length → f i = f j → i = j) (h : RowsM w0 rs w) (he : ∀ (i : Nat) (r : Rw), rs'[i]? = some r → rs[f i]? = some r) : RowsM w0 rs' w :=
  ⟨fun i r hr => h.at_ _ r (he i r hr), fun i j r s hr hs hij => h.off _ _ r s (he i r hr) (he j s hs) (fun e => hij (hf _ _ (List.getElem?_eq_some_iff.1 hr).1 (List.getElem?_eq_some_iff.1 hs).1 e)), h.below⟩
theorem RowsM.take (h : RowsM w0 rs w) (n : Nat) : RowsM w0 (rs.take n) w :=
  h.sub (fun i => i) (fun _ _ _ _ e => e) fun i r hr => by rw [List.getElem?_take] at hr; split at hr; exact hr; cases hr
theorem RowsM.drop (h : RowsM w0 rs w) (n : Nat) : RowsM w0 (rs.drop n) w :=
  h.sub (fun i => n + i) (fun _ _ _ _ e => by omega) fun i r hr => by rw [List.getElem?_drop] at hr; exact hr
theorem RowsM.first {r : Rw} (h : RowsM w0 (rs ++ [r]) w) : RowsM w0 (r :: rs) w :=
  h.sub (fun i => if i = 0 then rs.length else i - 1) (fun i j hi hj e => by
    simp only [List.length_cons] at hi hj
    split at e <;> split at e <;> omega) fun i s hs => by
    cases i with
    | zero => simp at hs; subst hs; simp
    | succ i =>
      simp only [List.getElem?_cons_succ] at hs
      rw [if_neg (by omega), List.getElem?_append_left (by have := (List.getElem?_eq_some_iff.1 hs).1; omega)]
      exact hs
theorem RowsM.tail {r : Rw} (h : RowsM w0 (r :: rs) w) : RowsM w0 rs w := h.drop 1
theorem RowsM.box {cs : Array Value} {t : TypeId} (h : RowsM w0 rs w) (size : Nat) (hs : cs.size = size) :
    RowsM w0 (⟨t, size, .slice (some ⟨w.heap.size, 0, none⟩) 1 1, 1, cs.toList⟩ :: rs) (w.alloc (.cells cs t)) :=
  (h.newAlloc size 1 (by simp [maxLen]) (by rw [hs]; omega)).first
theorem RowsM.nils (h : RowsM w0 rs w) (e : TypeId) (size : Nat) : ∀ n, RowsM w0 (rs ++ (List.range n).map fun _ => ⟨e, size, .slice none 0 0, 0, []⟩) w
  | 0 => by simpa using h
  | n + 1 => by
    have := (RowsM.nils h e size n).newNil e size
    rw [List.append_assoc] at this
    rw [List.range_succ, List.map_append]
    exact this
/-- A row has changed, the others have not. -/
theorem RowsM.put {k : Nat} {r r' : Rw} (h : RowsM w0 rs w) (hr : rs[k]? = some r) (hb : Below w0.heap.size w0 w') (hr' : r'.at w0.heap.size w')
    (hk : ∀ s : Rw, s.at w0.heap.size w → r.off s → s.at w0.heap.size w') (ho : ∀ s : Rw, s.at w0.heap.size w → r.off s → r'.off s) : RowsM w0 (rs.set k r') w' := by
  have hkl := (List.getElem?_eq_some_iff.1 hr).1
  refine ⟨fun i s hs => ?_, fun i j s t hs ht hij => ?_, hb⟩
  · by_cases e : k = i
    · subst e
      rw [List.getElem?_set_self hkl] at hs
      simp at hs
      subst hs
      exact hr'
    · rw [List.getElem?_set_ne e] at hs
      exact hk s (h.at_ i s hs) (h.off k i r s hr hs e)
  · by_cases e1 : k = i
    · subst e1
      rw [List.getElem?_set_self hkl] at hs
      simp at hs
      subst hs
      rw [List.getElem?_set_ne hij] at ht
      exact ho t (h.at_ j t ht) (h.off k j r t hr ht hij)
    · rw [List.getElem?_set_ne e1] at hs
      by_cases e2 : k = j
      · subst e2
        rw [List.getElem?_set_self hkl] at ht
        simp at ht
        subst ht
        exact Rw.off_symm (ho s (h.at_ i s hs) (h.off k i r s hr hs e1))
      · rw [List.getElem?_set_ne e2] at ht
        exact h.off i j s t hs ht hij
/-- A cell of a row is stored. -/
theorem RowsM.store {k g n c : Nat} {e : TypeId} {size : Nat} {xs : List Value} (h : RowsM w0 rs w) (hr : rs[k]? = some ⟨e, size, .slice (some ⟨g, 0, none⟩) n c, n, xs⟩) (j : Nat) (u : Value) :
    RowsM w0 (rs.set k ⟨e, size, .slice (some ⟨g, 0, none⟩) n c, n, xs.set j u⟩) (w.setCell ⟨g, j, none⟩ u) := by
  have h1 := h.at_ k _ hr
  refine h.put hr (h.below.setCell (World.ownsRow.lt h1 g rfl).1 _) (World.ownsRow.stored h1 j u).1 (fun s hs ho => ?_) (fun s _ ho => ho)
  refine World.ownsRow.kept hs (row := some g) ⟨rfl, rfl, rfl, by simp [World.setCell], fun k _ hk => Below.heap_setCell _ _ _ _ (fun e => hk (by rw [e]))⟩ (.inr (ho g rfl))
/-- A row has grown. -/
theorem RowsM.push {k n' : Nat} {r : Rw} {v' : Value} {xs' : List Value} (h : RowsM w0 rs w) (hr : rs[k]? = some r) (ho : w'.ownsRow w0.heap.size r.e r.size v' n' xs') (hg : w.grownBy w' r.v.ownBlock)
    (hv : v'.ownBlock = r.v.ownBlock ∨ v'.ownBlock = some w.heap.size) : RowsM w0 (rs.set k ⟨r.e, r.size, v', n', xs'⟩) w' := by
  have h1 := h.at_ k _ hr
  refine h.put hr (h.below.grown hg h.below.size (fun b hb => (World.ownsRow.lt h1 b hb).1)) ho (fun s hs hof => ?_) (fun s hs hof g e k2 => ?_)
  · refine World.ownsRow.kept hs hg ?_
    cases hrow : r.v.ownBlock with
    | none => cases s.v.ownBlock <;> simp
    | some b => exact .inr (hof b hrow)
  · rcases hv with hv | hv
    · exact hof g (by rw [← hv]; exact e) k2
    · simp only at e
      rw [hv] at e
      simp at e
      have := (World.ownsRow.lt hs g k2).2
      omega
theorem RowsM.form {k : Nat} {r : Rw} (h : RowsM w0 rs w) (hr : rs[k]? = some r) : ∃ A c, r.v = .slice A r.n c ∧ r.n ≤ c ∧ r.n ≤ maxLen := by
  rcases (h.at_ k r hr).2 with ⟨hv, hn⟩ | ⟨g, cap, cur, hv, _, _, h1, h2, _⟩
  · exact ⟨none, 0, by rw [hv, hn], by omega, by omega⟩
  · exact ⟨_, cap, hv, h1, by omega⟩
theorem RowsM.solid {k : Nat} {r : Rw} (h : RowsM w0 rs w) (hr : rs[k]? = some r) (hn : 0 < r.n) : ∃ g c, r.v = .slice (some ⟨g, 0, none⟩) r.n c ∧ r.n ≤ c := by
  rcases (h.at_ k r hr).2 with ⟨hv, hn'⟩ | ⟨g, cap, cur, hv, _, _, h1, _⟩
  · omega
  · exact ⟨g, cap, hv, h1⟩
theorem RowsM.row {k n c : Nat} {A : Option Addr} {e : TypeId} {size : Nat} {xs : List Value} (h : RowsM w0 rs w) (hr : rs[k]? = some ⟨e, size, .slice A n c, n, xs⟩) : Row w A xs := by
  have h1 := h.at_ k _ hr
  rcases h1.2 with ⟨hv, hn⟩ | ⟨g, cap, cur, hv, hg, hh, _⟩
  · have e := h1.1
    simp only at hv hn e
    subst hn
    exact .inl (List.eq_nil_of_length_eq_zero (by omega))
  · simp only [Value.slice.injEq] at hv
    obtain ⟨rfl, _, rfl⟩ := hv
    refine .inr ⟨g, 0, rfl, fun j u hu => ?_⟩
    have h2 : xs.length = n * size := h1.1
    rw [Nat.zero_add, World.ownsRow.cellAt h1 j (by have h3 := (List.getElem?_eq_some_iff.1 hu).1; show j < n * size; omega)]
    exact hu
theorem RowsM.cell {k g n c j : Nat} {e : TypeId} {size : Nat} {xs : List Value} {u : Value} (h : RowsM w0 rs w) (hr : rs[k]? = some ⟨e, size, .slice (some ⟨g, 0, none⟩) n c, n, xs⟩) (hj : xs[j]? = some u) : w.cell? ⟨g, j, none⟩ = some u := by
  have h1 := h.at_ k _ hr
  rw [← hj]
  have h2 : xs.length = n * size := h1.1
  exact World.ownsRow.cellAt h1 j (by have h3 := (List.getElem?_eq_some_iff.1 hj).1; show j < n * size; omega)
theorem RowsM.free {k g n c : Nat} {e : TypeId} {size : Nat} {xs : List Value} (h : RowsM w0 rs w) (hr : rs[k]? = some ⟨e, size, .slice (some ⟨g, 0, none⟩) n c, n, xs⟩) (j : Nat) : w.frozen? ⟨g, j, none⟩ = false :=
  World.ownsRow.frozenAt (h.at_ k _ hr) j
end

/-- append to a row. -/
theorem wpList_append_rm {P : Program} {w w0 : World} {rs : List Rw} {ops : Array Oper} {rest : List Oper} {o : Oper} {a : Act} {Q : Exit → Act → World → Prop} (hgd : o.guard = none) (s x : Operand) (t : TypeId)
    (ho : o.op = .call { callee := .builtin .append, args := #[s, x], argTypes := #[t, t] })
    (k : Nat) (e size n : Nat) (v : Value) (xs : List Value) (hM : RowsM w0 rs w) (hr : rs[k]? = Option.some ⟨e, size, v, n, xs⟩) (i : TypeInfo) (z : Value) (bytes : Nat) (ht : P.underlying t = Option.some (.slice e)) (hi : P.info? e = Option.some i) (hz : i.zero = Option.some z)
    (hsize : i.size = size) (hby : i.bytes = bytes) (hzs : z.cells.size = size) (hsz : 0 < size) (hs : a.eval s = v)
    (ad : Addr) (m c : Nat) (news : List Value) (hx : a.eval x = .slice (Option.some ad) m c) (hl : news.length = m * size) (hnews : ∀ j u, news[j]? = Option.some u → w.cell? (ad.add j) = Option.some u) (h1 : ∀ u ∈ news, u.oneCell' = true)
    (h63 : n + m ≤ maxLen) (hbytes : (n + m) * bytes ≤ 140737488355328)
    (h : ∀ A c' w', RowsM w0 (rs.set k ⟨e, size, .slice A (n + m) c', n + m, xs ++ news⟩) w' → wpList P ops Q rest (a.put o.dst (.slice A (n + m) c')) w') : wpList P ops Q (o :: rest) a w :=
  wpList_plain hgd fun _ hK => wp_append_any s x t ho w0.heap.size e i z size bytes ht hi hz hsize hby hzs hsz v n xs hs (hM.at_ k _ hr) ad m c news hx hl hnews h1 h63 hbytes hM.below.size (fun v' w' h1 h2 h3 => by
    have hN := hM.push (n' := n + m) (v' := v') (xs' := xs ++ news) hr h1 h2 h3
    obtain ⟨A, c', e1, _, _⟩ := hN.form (k := k) (List.getElem?_set_self (List.getElem?_eq_some_iff.1 hr).1)
    simp only at e1
    subst e1
    exact hK _ _ (h A c' w' hN))
/-- A slice of zeros is made. -/
theorem RowsM.made {w0 w w' : World} {rs : List Rw} {e : TypeId} {size n g : Nat} {xs : List Value} (h : RowsM w0 rs w) (ho : w'.ownsRow w0.heap.size e size (.slice (Option.some ⟨g, 0, none⟩) n n) n xs) (hg : w.grownBy w' none) (hs : w.heap.size ≤ g) :
    RowsM w0 (rs ++ [⟨e, size, .slice (Option.some ⟨g, 0, none⟩) n n, n, xs⟩]) w' :=
  h.new ((Below.refl _ _).grown hg (Nat.le_refl _) (by intro k hk; cases hk)) ho (fun g e => by simp [Value.ownBlock] at e; omega)

end Go.Proofs.Ythgmbiaajgpaaaa
