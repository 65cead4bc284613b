/- A map that keeps a set of clauses: what the operations on it do; a loop over it. -/
import Derived.Test.YtcokpjffgeihbaaMapS
import Derived.Maps.Range
namespace Go.Proofs.Ytcokpjffgeihbaa
open Go.RowKit
open Go.ChangeMaps (setBlock)

theorem heapSet_same {w : World} {b : Nat} (h : b < w.heap.size) (o : Obj) : (setBlock w b o).heap[b]? = some o := by simp [setBlock, h]
theorem heapSet_other {w : World} {b i : Nat} (o : Obj) (h : i ≠ b) : (setBlock w b o).heap[i]? = w.heap[i]? := by
  unfold setBlock
  rw [Array.getElem?_setIfInBounds_ne (fun e => h e.symm)]
theorem heapSet_size (w : World) (b : Nat) (o : Obj) : (setBlock w b o).heap.size = w.heap.size := by simp [setBlock]
theorem below_set {B b : Nat} {w0 w : World} (h : Below B w0 w) (hb : B ≤ b) (o : Obj) : Below B w0 (setBlock w b o) :=
  ⟨h.os, h.tape, h.output, by rw [heapSet_size]; exact h.size, fun i hi => by rw [heapSet_other o (by omega)]; exact h.block i hi⟩

/-- Block b is a map whose keys are l, with true for each. -/
def MapIs (w : World) (b : Nat) (l : List (Nat × Nat)) : Prop :=
  ∃ es clock, w.heap[b]? = some (.map es clock) ∧ es.toList.map (·.key) = l.map clV ∧ (∀ e ∈ es.toList, e.val = .bool true ∧ e.born < clock) ∧ (es.toList.map (·.born)).Nodup ∧ l.Nodup
theorem MapIs.lt {w : World} {b : Nat} {l : List (Nat × Nat)} (h : MapIs w b l) : b < w.heap.size := by
  obtain ⟨es, clock, hb, _⟩ := h
  exact (Array.getElem?_eq_some_iff.1 hb).1
theorem MapIs.same {w w' : World} {b : Nat} {l : List (Nat × Nat)} (h : MapIs w b l) (e : w'.heap[b]? = w.heap[b]?) : MapIs w' b l := by
  obtain ⟨es, clock, hb, r⟩ := h
  exact ⟨es, clock, e.trans hb, r⟩
theorem MapIs.below {w w' : World} {b : Nat} {l : List (Nat × Nat)} (h : MapIs w b l) (hb : Below w.heap.size w w') : MapIs w' b l := h.same (hb.block b h.lt)
theorem MapIs.nodup {w : World} {b : Nat} {l : List (Nat × Nat)} (h : MapIs w b l) : l.Nodup := by
  obtain ⟨_, _, _, _, _, _, h⟩ := h
  exact h
theorem mapIs_new (w : World) : MapIs (w.alloc (.map #[] 0)) w.heap.size [] := ⟨#[], 0, (MapKept.heap_alloc w _).1, by simp, by simp, by simp, by simp⟩
theorem MapIs.look {w : World} {b : Nat} {l : List (Nat × Nat)} (h : MapIs w b l) (p : Nat × Nat) : (Instr.lookup 54 (.map (some b)) (clV p) false).run Try.prog w = .ok (.bool (decide (p ∈ l))) w := by
  obtain ⟨es, clock, hb, hk, hv, _, _⟩ := h
  rcases findCl p w es.toList l hk with ⟨h1, h2⟩ | ⟨j, e, h1, h2, h3, h4⟩
  · simp [Instr.lookup, run_underlying Try.underlying54, MapKept.run_getObj_map hb, checkCl, h1, h2, Try.zeroValue4]
  · have h5 := (hv e (List.mem_of_getElem? h2)).1
    simp [Instr.lookup, run_underlying Try.underlying54, MapKept.run_getObj_map hb, checkCl, h1, h4, h5]
theorem MapIs.len {w : World} {b : Nat} {l : List (Nat × Nat)} (h : MapIs w b l) (ty : TypeId) : (Builtin.len_ #[54] ty #[.map (some b)]).run Try.prog w = .ok (.int .i64 (l.length : Int)) w := by
  obtain ⟨es, clock, hb, hk, _⟩ := h
  have e : es.size = l.length := by
    have := congrArg List.length hk
    simpa using this
  simp [Builtin.len_, run_underlying Try.underlying54, MapKept.run_getObj_map hb, goInt, Result.andThen, e]
theorem MapIs.store {w : World} {b : Nat} {l : List (Nat × Nat)} (h : MapIs w b l) (p : Nat × Nat) :
    ∃ o l', (Instr.mapUpdate 54 (.map (some b)) (clV p) (.bool true)).run Try.prog w = .ok () (setBlock w b o) ∧ MapIs (setBlock w b o) b l' ∧ (∀ q, q ∈ l' ↔ q ∈ l ∨ q = p) := by
  have hlt := h.lt
  obtain ⟨es, clock, hb, hk, hv, hn, hl⟩ := h
  rcases findCl p w es.toList l hk with ⟨h1, h2⟩ | ⟨j, e, h1, h2, h3, h4⟩
  · refine ⟨.map (es.push { key := clV p, val := .bool true, born := clock }) (clock + 1), l ++ [p], ?_, ⟨_, _, heapSet_same hlt _, ?_, ?_, ?_, ?_⟩, ?_⟩
    · simp [Instr.mapUpdate, run_underlying Try.underlying54, MapKept.run_getObj_map hb, checkCl, h1, MapKept.run_setObj_map _ hb, setBlock]
    · simp [hk]
    · intro e he
      simp only [Array.toList_push, List.mem_append, List.mem_singleton] at he
      rcases he with he | rfl
      · have := hv e he
        exact ⟨this.1, by omega⟩
      · exact ⟨rfl, by simp⟩
    · rw [Array.toList_push, List.map_append, List.nodup_append]
      refine ⟨hn, by simp, ?_⟩
      intro a ha c hc
      simp only [List.map_cons, List.map_nil, List.mem_singleton] at hc
      obtain ⟨e, he, rfl⟩ := List.mem_map.1 ha
      have := (hv e he).2
      omega
    · rw [List.nodup_append]
      refine ⟨hl, by simp, ?_⟩
      intro a ha c hc
      simp only [List.mem_singleton] at hc
      rintro rfl
      rw [hc] at ha
      exact h2 ha
    · intro q; simp
  · have hj := List.getElem?_eq_some_iff.1 h2
    obtain ⟨hj, he⟩ := hj
    have hj' : j < es.size := by simpa using hj
    have hej : es[j] = e := by simpa using he
    have hv5 := (hv e (List.mem_of_getElem? h2)).1
    have hmod : (es.modify j fun e => { e with key := clV p, val := .bool true }) = es := by
      apply Array.ext
      · simp
      · intro i h1 h2'
        rw [Array.getElem_modify]
        split
        · rename_i hij
          subst hij
          rw [hej, ← h3, ← hv5]
        · rfl
    refine ⟨.map es clock, l, ?_, ⟨es, clock, heapSet_same hlt _, hk, hv, hn, hl⟩, ?_⟩
    · simp [Instr.mapUpdate, run_underlying Try.underlying54, MapKept.run_getObj_map hb, checkCl, h1, MapKept.run_setObj_map _ hb, setBlock, hj', hej, h3, sameCl, hmod]
    · intro q
      constructor
      · exact .inl
      · rintro (h | rfl)
        · exact h
        · exact h4

/-! ## A loop over it -/
/-- Block r steps through the map in block b, whose keys are l; those of which vis is true have been. -/
def Steps (w : World) (r b : Nat) (l : List (Nat × Nat)) (vis : Nat × Nat → Prop) (left : Nat) : Prop :=
  ∃ es clock since seen c0, w.heap[b]? = some (.map es clock) ∧ es.toList.map (·.key) = l.map clV ∧ (es.toList.map (·.born)).Nodup ∧ l.Nodup ∧
    w.heap[r]? = some (.mapIter (some b) since seen c0) ∧ (∀ x ∈ es.toList, x.born < since) ∧ since ≤ c0 ∧ since ≤ clock ∧ (leftOf es seen).size = left ∧
    ∀ p, vis p ↔ ∃ e ∈ es.toList, e.key = clV p ∧ seen.contains e.born = true
theorem Steps.same {w w' : World} {r b left : Nat} {l : List (Nat × Nat)} {vis : Nat × Nat → Prop} (h : Steps w r b l vis left) (e : w'.heap[b]? = w.heap[b]?) (e2 : w'.heap[r]? = w.heap[r]?) : Steps w' r b l vis left := by
  obtain ⟨es, clock, since, seen, c0, h1, h2, h3, h4, h5, h6⟩ := h
  exact ⟨es, clock, since, seen, c0, e.trans h1, h2, h3, h4, e2.trans h5, h6⟩
theorem Steps.lt {w : World} {r b left : Nat} {l : List (Nat × Nat)} {vis : Nat × Nat → Prop} (h : Steps w r b l vis left) : r < w.heap.size ∧ b < w.heap.size := by
  obtain ⟨es, clock, since, seen, c0, h1, h2, h3, h4, h5, h6⟩ := h
  exact ⟨(Array.getElem?_eq_some_iff.1 h5).1, (Array.getElem?_eq_some_iff.1 h1).1⟩
theorem Steps.left_eq {w : World} {r b left : Nat} {l : List (Nat × Nat)} {vis : Nat × Nat → Prop} (h : Steps w r b l vis left) : w.rangeLeft b r = left := by
  obtain ⟨es, clock, since, seen, c0, h1, h2, h3, h4, h5, _, _, _, h6, _⟩ := h
  simp only [World.rangeLeft, h1, h5]
  exact h6
theorem Steps.below {w w' : World} {r b left : Nat} {l : List (Nat × Nat)} {vis : Nat × Nat → Prop} (h : Steps w r b l vis left) (hb : Below w.heap.size w w') : Steps w' r b l vis left :=
  h.same (hb.block b h.lt.2) (hb.block r h.lt.1)
theorem steps_new {w : World} {b : Nat} {l : List (Nat × Nat)} (h : MapIs w b l) : ∃ clock, (Instr.range 54 (.map (some b))).run Try.prog w = .ok (.pointer (some ⟨w.heap.size, 0, none⟩)) (w.alloc (.mapIter (some b) clock #[] clock)) ∧
    Steps (w.alloc (.mapIter (some b) clock #[] clock)) w.heap.size b l (fun _ => False) l.length := by
  have hlt := h.lt
  obtain ⟨es, clock, hb, hk, hv, hn, hl⟩ := h
  refine ⟨clock, run_range_map w _ _ _ b es clock Try.underlying54 hb, ?_⟩
  have e : es.size = l.length := by
    have := congrArg List.length hk
    simpa using this
  exact ⟨es, clock, clock, #[], clock, ((MapKept.heap_alloc w _).2 b hlt).trans hb, hk, hn, hl, (MapKept.heap_alloc w _).1, fun x hx => (hv x hx).2, Nat.le_refl _, Nat.le_refl _, by unfold leftOf; rw [Array.filter_eq_self.2 (by simp)]; exact e, by simp⟩
theorem map_inj {α β : Type} {f : α → β} : ∀ {l : List α}, (l.map f).Nodup → ∀ {x y : α}, x ∈ l → y ∈ l → f x = f y → x = y
  | [], _, _, _, h, _, _ => by simp at h
  | a :: l, hn, x, y, hx, hy, e => by
    rw [List.map_cons, List.nodup_cons] at hn
    obtain ⟨h1, h2⟩ := hn
    rcases List.mem_cons.1 hx with rfl | hx
    · rcases List.mem_cons.1 hy with rfl | hy
      · rfl
      · exact absurd (List.mem_map.2 ⟨y, hy, e.symm⟩) h1
    · rcases List.mem_cons.1 hy with hy | hy
      · exact absurd (List.mem_map.2 ⟨x, hx, e.trans (congrArg f hy)⟩) h1
      · exact map_inj h2 hx hy e
theorem key_inj {es : List MapEntry} {l : List (Nat × Nat)} (hk : es.map (·.key) = l.map clV) (hl : l.Nodup) {x y : MapEntry} (hx : x ∈ es) (hy : y ∈ es) (h : x.key = y.key) : x = y := by
  have hn : (es.map (·.key)).Nodup := by
    rw [hk]
    exact List.pairwise_map.2 (hl.imp fun h e => h (clV_inj e))
  exact map_inj hn hx hy h
theorem Steps.next {w : World} {r b left : Nat} {l : List (Nat × Nat)} {vis : Nat × Nat → Prop} (h : Steps w r b l vis left) (ty : TypeId) :
    (left = 0 ∧ (∀ p, vis p ↔ p ∈ l) ∧ (Instr.next (.pointer (some ⟨r, 0, none⟩)) false ty).run Try.prog w = .ok (.tuple #[.bool false]) w) ∨
    ∃ p v o w1 left', p ∈ l ∧ ¬ vis p ∧ left' < left ∧ (w1 = w ∨ w1 = w.drew) ∧ (Instr.next (.pointer (some ⟨r, 0, none⟩)) false ty).run Try.prog w = .ok (.tuple #[.bool true, clV p, v]) (setBlock w1 r o) ∧
      Steps (setBlock w1 r o) r b l (fun q => vis q ∨ q = p) left' ∧ (Instr.entry (.pointer (some ⟨r, 0, none⟩))).run Try.prog (setBlock w1 r o) = .ok (.tuple #[clV p, v]) (setBlock w1 r o) := by
  have hlt := h.lt
  obtain ⟨es, clock, since, seen, c0, h1, h2, h3, h4, h5, h6, h7, h8, h9, h10⟩ := h
  have hne : b ≠ r := by
    intro e
    rw [e] at h1
    rw [h5] at h1
    cases h1
  rcases run_next_at (P := Try.prog) w ty r b since c0 seen es clock h5 h1 h6 h7 with ⟨k1, k2⟩ | ⟨e, he, w1, hw, k2⟩
  · refine .inl ⟨h9 ▸ k1, fun p => ?_, k2⟩
    rw [h10]
    constructor
    · rintro ⟨x, hx, hxk, _⟩
      have : x.key ∈ es.toList.map (·.key) := List.mem_map.2 ⟨x, hx, rfl⟩
      rw [h2] at this
      obtain ⟨q, hq, hqk⟩ := List.mem_map.1 this
      rw [hxk] at hqk
      rw [← clV_inj hqk]; exact hq
    · intro hp
      have : clV p ∈ es.toList.map (·.key) := by rw [h2]; exact List.mem_map.2 ⟨p, hp, rfl⟩
      obtain ⟨x, hx, hxk⟩ := List.mem_map.1 this
      exact ⟨x, hx, hxk, all_seen es seen k1 x hx⟩
  · obtain ⟨hem, hes⟩ := mem_left he
    have : e.key ∈ es.toList.map (·.key) := List.mem_map.2 ⟨e, hem, rfl⟩
    rw [h2] at this
    obtain ⟨p, hp, hpk⟩ := List.mem_map.1 this
    have hh1 : w1.heap[b]? = some (.map es clock) := by rcases hw with rfl | rfl <;> exact h1
    have hsz : w1.heap.size = w.heap.size := by rcases hw with rfl | rfl <;> rfl
    have hS1 : (setBlock w1 r (.mapIter (some b) since (seen.push e.born) clock)).heap[b]? = some (.map es clock) := (heapSet_other _ hne).trans hh1
    have hS2 := heapSet_same (w := w1) (b := r) (by omega) (.mapIter (some b) since (seen.push e.born) clock)
    have hnv : ¬ vis p := by
      rw [h10]
      rintro ⟨x, hx, hxk, hxs⟩
      have := key_inj h2 h4 hx hem (hxk.trans hpk)
      rw [this, hes] at hxs
      cases hxs
    refine .inr ⟨p, e.val, _, w1, (leftOf es (seen.push e.born)).size, hp, hnv, h9 ▸ left_shrinks es seen e he, hw, by rw [hpk]; exact k2, ?_, by rw [hpk]; exact run_entry_at _ r b since seen es clock e hS2 hS1 hem h3⟩
    refine ⟨es, clock, since, seen.push e.born, clock, hS1, h2, h3, h4, hS2, h6, h8, h8, rfl, fun q => ?_⟩
    show (vis q ∨ q = p) ↔ _
    rw [h10]
    constructor
    · rintro (⟨x, hx, hxk, hxs⟩ | rfl)
      · exact ⟨x, hx, hxk, by simp at hxs ⊢; exact .inl hxs⟩
      · exact ⟨e, hem, hpk.symm, by simp⟩
    · rintro ⟨x, hx, hxk, hxs⟩
      by_cases hxe : x.born = e.born
      · have : x = e := by
          have h11 := map_inj h3 hx hem hxe
          exact h11
        subst this
        exact .inr (clV_inj (hxk.symm.trans hpk.symm))
      · refine .inl ⟨x, hx, hxk, ?_⟩
        simp only [Array.contains_push, Bool.or_eq_true, beq_iff_eq] at hxs
        rcases hxs with hxs | hxs
        · exact hxs
        · exact absurd hxs hxe

end Go.Proofs.Ytcokpjffgeihbaa
