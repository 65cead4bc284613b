/- A map from nodes to their numbers. -/
import Derived.Test.YtnoehmokaeegeaaCh
import Derived.Test.YtnoehmokaeegeaaOwn
import Derived.Laws.StructEq
import Derived.Maps.RangeRun
import Derived.Maps.Range
import Derived.Carry
namespace Go.Proofs.Ytnoehmokaeegeaa
open Go.RowKit
open Go.ChangeMaps (setBlock)

/-- A node, as a value. -/
def ndV (b : Nd) : Value := .agg #[.int .i64 b.1, .int .i64 b.2.1, .int .i64 b.2.2]
theorem stoodNd : Try.prog.stoodInHeld 52 = false := by kernel_rfl
theorem underNd : Try.prog.underlying 52 = some (.struct (Try.prog.fieldsOf 52)) := by kernel_rfl
theorem partN0 (a b c : Value) (w : World) : (Go.part 3 #[a, b, c] 0).run Try.prog w = .ok a w := by simp [Go.part, Try.isAgg3]
theorem partN1 (a b c : Value) (w : World) : (Go.part 3 #[a, b, c] 1).run Try.prog w = .ok b w := by simp [Go.part, Try.isAgg3]
theorem partN2 (a b c : Value) (w : World) : (Go.part 3 #[a, b, c] 2).run Try.prog w = .ok c w := by simp [Go.part, Try.isAgg3]
theorem eqI64 (d : Nat) (a b : Int) (w : World) : (Op.equalIn (d + 1) 3 (.int .i64 a) (.int .i64 b)).run Try.prog w = .ok (a == b) w := by
  simp [Op.equalIn, run_underlying Try.underlying3]
theorem eqNd (p q : Nd) (w : World) : (Op.equal 52 (ndV p) (ndV q)).run Try.prog w = .ok (decide (p = q)) w := by
  unfold Op.equal ndV
  rw [show Op.maxDepth = 9999 + 1 from rfl, run_equalIn_struct w 9999 52 _ _ underNd stoodNd]
  have e : decide (p = q) = ((p.1 == q.1) && ((p.2.1 == q.2.1) && (p.2.2 == q.2.2))) := by
    rw [Bool.eq_iff_iff, decide_eq_true_iff, Bool.and_eq_true, Bool.and_eq_true, beq_iff_eq, beq_iff_eq, beq_iff_eq, Prod.ext_iff, Prod.ext_iff]
  rw [e]
  unfold Program.fieldsOf
  rw [Try.underlying52]
  simp only [Op.eqFields, Sem.run_bind, Sem.run_ite, partN0, partN1, partN2, Result.andThen_ok, show (9999 : Nat) = 9998 + 1 from rfl, eqI64]
  cases (p.1 == q.1) <;> cases (p.2.1 == q.2.1) <;> cases (p.2.2 == q.2.2) <;> simp
theorem checkI64 (em : Bool) (d : Nat) (a : Int) (w : World) : (Instr.checkKey em (d + 1) 3 (.int .i64 a)).run Try.prog w = .ok () w := by
  simp [Instr.checkKey, run_underlying Try.underlying3]
theorem checkNd (em : Bool) (p : Nd) (w : World) : (Instr.checkKey em 10000 52 (ndV p)).run Try.prog w = .ok () w := by
  unfold ndV
  rw [show (10000 : Nat) = 9999 + 1 from rfl]
  unfold Instr.checkKey
  simp only [Sem.run_bind, run_underlying Try.underlying52, Result.andThen_ok]
  rw [← Array.forIn_toList]
  simp [partN0, partN1, partN2, checkI64 em 9998]
theorem findAskNd (p : Nd) (w : World) : ∀ (es : List MapEntry) (l : List Nd) (i : Nat), es.map (·.key) = l.map ndV →
    ((Instr.findAsking 52 (ndV p) es i).run Try.prog w = .ok none w ∧ p ∉ l) ∨ ∃ e, (Instr.findAsking 52 (ndV p) es i).run Try.prog w = .ok (some (i + l.idxOf p, e.val)) w ∧ es[l.idxOf p]? = some e ∧ p ∈ l
  | [], [], i, _ => .inl ⟨by simp [Instr.findAsking], by simp⟩
  | e :: es, q :: l, i, h => by
    simp only [List.map_cons, List.cons.injEq] at h
    obtain ⟨h1, h2⟩ := h
    by_cases hpq : p = q
    · subst hpq
      exact .inr ⟨e, by simp [Instr.findAsking, h1, eqNd], by simp, by simp⟩
    · rcases findAskNd p w es l (i + 1) h2 with ⟨h3, h4⟩ | ⟨e', h3, h4, h5⟩
      · exact .inl ⟨by simp [Instr.findAsking, h1, eqNd, hpq, h3], by simp [hpq, h4]⟩
      · have hi : (q :: l).idxOf p = l.idxOf p + 1 := by rw [List.idxOf_cons, beq_eq_false_iff_ne.2 (fun e => hpq e.symm)]; rfl
        exact .inr ⟨e', by rw [hi]; simp [Instr.findAsking, h1, eqNd, hpq, h3]; omega, by rw [hi]; simpa using h4, by simp [h5]⟩
theorem findNd (p : Nd) (w : World) (es : List MapEntry) (l : List Nd) (h : es.map (·.key) = l.map ndV) :
    ((Instr.findKey 52 (ndV p) es).run Try.prog w = .ok none w ∧ p ∉ l) ∨ ∃ e, (Instr.findKey 52 (ndV p) es).run Try.prog w = .ok (some (l.idxOf p, e.val)) w ∧ es[l.idxOf p]? = some e ∧ p ∈ l := by
  cases es with
  | nil =>
    cases l with
    | nil => exact .inl ⟨by simp [Instr.findKey, run_underlying Try.underlying52, Instr.findNow], by simp⟩
    | cons q l => simp at h
  | cons e es =>
    have hn : ∀ fs, Instr.findNow (.struct fs) (ndV p) (e :: es) 0 = none := by
      intro fs
      unfold ndV Instr.findNow
      simp [Instr.sameNow]
    have hrun : (Instr.findKey 52 (ndV p) (e :: es)).run Try.prog w = (Instr.findAsking 52 (ndV p) (e :: es) 0).run Try.prog w := by
      simp [Instr.findKey, run_underlying Try.underlying52, hn]
    rw [hrun]
    rcases findAskNd p w (e :: es) l 0 h with h1 | ⟨e', h1, h2⟩
    · exact .inl h1
    · exact .inr ⟨e', by simpa using h1, h2⟩

/-! ## The map -/
theorem blockSet_same {w : World} {b : Nat} (h : b < w.heap.size) (o : Obj) : (setBlock w b o).heap[b]? = some o := by simp [setBlock, h]
theorem blockSet_other {w : World} {b i : Nat} (o : Obj) (h : i ≠ b) : (setBlock w b o).heap[i]? = w.heap[i]? := by
  unfold setBlock
  rw [Array.getElem?_setIfInBounds_ne (fun e => h e.symm)]
theorem blockSet_size (w : World) (b : Nat) (o : Obj) : (setBlock w b o).heap.size = w.heap.size := by simp [setBlock]
theorem blockSet_below {B b : Nat} {w0 w : World} (h : Below B w0 w) (hb : B ≤ b) (o : Obj) : Below B w0 (setBlock w b o) :=
  ⟨h.os, h.tape, h.output, by rw [blockSet_size]; exact h.size, fun i hi => by rw [blockSet_other o (by omega)]; exact h.block i hi⟩

/-- Block b is a map that has for each node of l its number. -/
def NumIs (w : World) (b : Nat) (l : List Nd) : Prop :=
  ∃ es clock, w.heap[b]? = some (.map es clock) ∧ es.toList.map (·.key) = l.map ndV ∧ ∀ (j : Nat) e, es.toList[j]? = some e → e.val = .int .i64 ((j : Int) + 2)
theorem NumIs.lt {w : World} {b : Nat} {l : List Nd} (h : NumIs w b l) : b < w.heap.size := by
  obtain ⟨es, clock, hb, _⟩ := h
  exact (Array.getElem?_eq_some_iff.1 hb).1
theorem NumIs.same {w w' : World} {b : Nat} {l : List Nd} (h : NumIs w b l) (e : w'.heap[b]? = w.heap[b]?) : NumIs w' b l := by
  obtain ⟨es, clock, hb, r⟩ := h
  exact ⟨es, clock, e.trans hb, r⟩
theorem NumIs.below {w w' : World} {b : Nat} {l : List Nd} (h : NumIs w b l) (hb : Below w.heap.size w w') : NumIs w' b l := h.same (hb.block b h.lt)
theorem numIs_new (w : World) : NumIs (w.alloc (.map #[] 0)) w.heap.size [] := ⟨#[], 0, (MapKept.heap_alloc w _).1, by simp, by simp⟩
theorem NumIs.yes {w : World} {b : Nat} {l : List Nd} (h : NumIs w b l) (p : Nd) (hp : p ∈ l) : (Instr.lookup 42 (.map (some b)) (ndV p) true).run Try.prog w = .ok (.tuple #[.int .i64 ((l.idxOf p : Int) + 2), .bool true]) w := by
  obtain ⟨es, clock, hb, hk, hv⟩ := h
  rcases findNd p w es.toList l hk with ⟨h1, h2⟩ | ⟨e, h1, h2, h3⟩
  · exact absurd hp h2
  · have h5 := hv _ _ h2
    simp [Instr.lookup, run_underlying Try.underlying42, MapKept.run_getObj_map hb, checkNd, h1, h5]
theorem NumIs.no {w : World} {b : Nat} {l : List Nd} (h : NumIs w b l) (p : Nd) (hp : p ∉ l) : (Instr.lookup 42 (.map (some b)) (ndV p) true).run Try.prog w = .ok (.tuple #[.int .i64 0, .bool false]) w := by
  obtain ⟨es, clock, hb, hk, hv⟩ := h
  rcases findNd p w es.toList l hk with ⟨h1, h2⟩ | ⟨e, h1, h2, h3⟩
  · simp [Instr.lookup, run_underlying Try.underlying42, MapKept.run_getObj_map hb, checkNd, h1, Try.zeroValue3]
  · exact absurd h3 hp
theorem NumIs.store {w : World} {b : Nat} {l : List Nd} (h : NumIs w b l) (p : Nd) (hp : p ∉ l) :
    ∃ o, ∀ q, (Instr.mapUpdate 42 (.map (some b)) (ndV p) (.int .i64 ((l.length : Int) + 2))).run Try.prog (w.drewN q) = .ok () (setBlock (w.drewN q) b o) ∧ NumIs (setBlock (w.drewN q) b o) b (l ++ [p]) := by
  have hlt := h.lt
  obtain ⟨es, clock, hb, hk, hv⟩ := h
  refine ⟨.map (es.push { key := ndV p, val := .int .i64 ((l.length : Int) + 2), born := clock }) (clock + 1), fun q => ?_⟩
  have hb' : (w.drewN q).heap[b]? = some (.map es clock) := hb
  have hlt' : b < (w.drewN q).heap.size := hlt
  rcases findNd p (w.drewN q) es.toList l hk with ⟨h1, h2⟩ | ⟨e, h1, h2, h3⟩
  · have hlen : es.toList.length = l.length := by
      have := congrArg List.length hk
      simpa using this
    refine ⟨?_, ⟨_, _, blockSet_same hlt' _, ?_, ?_⟩⟩
    · simp [Instr.mapUpdate, run_underlying Try.underlying42, MapKept.run_getObj_map hb', checkNd, h1, MapKept.run_setObj_map _ hb', setBlock]
    · simp [hk]
    · intro j e he
      rw [Array.toList_push] at he
      rcases Nat.lt_or_ge j es.toList.length with hj | hj
      · rw [List.getElem?_append_left hj] at he
        exact hv j e he
      · rw [List.getElem?_append_right hj] at he
        have hj0 : j - es.toList.length = 0 := by
          rcases Nat.eq_zero_or_pos (j - es.toList.length) with h | h
          · exact h
          · rw [List.getElem?_eq_none (by simp only [List.length_cons, List.length_nil]; omega)] at he; cases he
        rw [hj0] at he
        simp only [List.getElem?_cons_zero, Option.some.injEq] at he
        subst he
        have : j = l.length := by omega
        rw [this]
  · exact absurd h3 hp

end Go.Proofs.Ytnoehmokaeegeaa
