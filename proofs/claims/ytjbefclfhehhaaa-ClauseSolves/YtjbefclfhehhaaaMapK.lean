/- A map from clauses to their numbers. -/
import Derived.Test.YtjbefclfhehhaaaRf
import Derived.Test.YtjbefclfhehhaaaOwn
import Derived.Laws.StructEq
import Derived.Maps.RangeRun
import Derived.Maps.Range
import Derived.Carry
namespace Go.Proofs.Ytjbefclfhehhaaa
open Go.RowKit
open Go.ChangeMaps (setBlock)

/-- A clause, as a value. -/
def clV (p : Nat × Nat) : Value := .agg #[.int .u32 (p.1 : Int), .int .u32 (p.2 : Int)]
theorem clV_inj {p q : Nat × Nat} (h : clV p = clV q) : p = q := by
  unfold clV at h
  simp only [Value.agg.injEq, Array.mk.injEq, List.cons.injEq, Value.int.injEq, true_and, and_true] at h
  obtain ⟨h1, h2⟩ := h
  exact Prod.ext (by omega) (by omega)
theorem stoodCl : Try.prog.stoodInHeld 32 = false := by kernel_rfl
theorem underCl : Try.prog.underlying 32 = some (.struct (Try.prog.fieldsOf 32)) := by kernel_rfl
theorem partYes (a b : Value) (w : World) : (Go.part 23 #[a, b] 0).run Try.prog w = .ok a w := by
  simp [Go.part, Try.isAgg23]
theorem partNo (a b : Value) (w : World) : (Go.part 23 #[a, b] 1).run Try.prog w = .ok b w := by
  simp [Go.part, Try.isAgg23]
theorem eqU32 (d : Nat) (a b : Int) (w : World) : (Op.equalIn (d + 1) 23 (.int .u32 a) (.int .u32 b)).run Try.prog w = .ok (a == b) w := by
  simp [Op.equalIn, run_underlying Try.underlying23]
theorem eqCl (p q : Nat × Nat) (w : World) : (Op.equal 32 (clV p) (clV q)).run Try.prog w = .ok (decide (p = q)) w := by
  unfold Op.equal clV
  rw [show Op.maxDepth = 9999 + 1 from rfl, run_equalIn_struct w 9999 32 _ _ underCl stoodCl]
  have e : decide (p = q) = (((p.1 : Int) == (q.1 : Int)) && ((p.2 : Int) == (q.2 : Int))) := by
    rw [Bool.eq_iff_iff, decide_eq_true_iff, Bool.and_eq_true, beq_iff_eq, beq_iff_eq, Prod.ext_iff]
    omega
  rw [e]
  unfold Program.fieldsOf
  rw [Try.underlying32]
  simp only [Op.eqFields, Sem.run_bind, Sem.run_ite, partYes, partNo, Result.andThen_ok, show (9999 : Nat) = 9998 + 1 from rfl, eqU32]
  cases ((p.1 : Int) == (q.1 : Int)) <;> cases ((p.2 : Int) == (q.2 : Int)) <;> simp
theorem checkU32 (em : Bool) (d : Nat) (a : Int) (w : World) : (Instr.checkKey em (d + 1) 23 (.int .u32 a)).run Try.prog w = .ok () w := by
  simp [Instr.checkKey, run_underlying Try.underlying23]
theorem checkCl (em : Bool) (p : Nat × Nat) (w : World) : (Instr.checkKey em 10000 32 (clV p)).run Try.prog w = .ok () w := by
  unfold clV
  rw [show (10000 : Nat) = 9999 + 1 from rfl]
  unfold Instr.checkKey
  simp only [Sem.run_bind, run_underlying Try.underlying32, Result.andThen_ok]
  rw [← Array.forIn_toList]
  simp [partYes, partNo, checkU32 em 9998]
theorem findAskCl (p : Cla) (w : World) : ∀ (es : List MapEntry) (l : List Cla) (i : Nat), es.map (·.key) = l.map clV →
    ((Instr.findAsking 32 (clV p) es i).run Try.prog w = .ok none w ∧ p ∉ l) ∨ ∃ e, (Instr.findAsking 32 (clV p) es i).run Try.prog w = .ok (some (i + l.idxOf p, e.val)) w ∧ es[l.idxOf p]? = some e ∧ p ∈ l
  | [], [], i, _ => .inl ⟨by simp [Instr.findAsking], by simp⟩
  | e :: es, q :: l, i, h => by
    simp only [List.map_cons, List.cons.injEq] at h
    obtain ⟨h1, h2⟩ := h
    by_cases hpq : p = q
    · subst hpq
      exact .inr ⟨e, by simp [Instr.findAsking, h1, eqCl], by simp, by simp⟩
    · rcases findAskCl p w es l (i + 1) h2 with ⟨h3, h4⟩ | ⟨e', h3, h4, h5⟩
      · exact .inl ⟨by simp [Instr.findAsking, h1, eqCl, hpq, h3], by simp [hpq, h4]⟩
      · have hi : (q :: l).idxOf p = l.idxOf p + 1 := by rw [List.idxOf_cons, beq_eq_false_iff_ne.2 (fun e => hpq e.symm)]; rfl
        exact .inr ⟨e', by rw [hi]; simp [Instr.findAsking, h1, eqCl, hpq, h3]; omega, by rw [hi]; simpa using h4, by simp [h5]⟩
theorem findCl (p : Cla) (w : World) (es : List MapEntry) (l : List Cla) (h : es.map (·.key) = l.map clV) :
    ((Instr.findKey 32 (clV p) es).run Try.prog w = .ok none w ∧ p ∉ l) ∨ ∃ e, (Instr.findKey 32 (clV p) es).run Try.prog w = .ok (some (l.idxOf p, e.val)) w ∧ es[l.idxOf p]? = some e ∧ p ∈ l := by
  cases es with
  | nil =>
    cases l with
    | nil => exact .inl ⟨by simp [Instr.findKey, run_underlying Try.underlying32, Instr.findNow], by simp⟩
    | cons q l => simp at h
  | cons e es =>
    have hn : ∀ fs, Instr.findNow (.struct fs) (clV p) (e :: es) 0 = none := by
      intro fs
      unfold clV Instr.findNow
      simp [Instr.sameNow]
    have hrun : (Instr.findKey 32 (clV p) (e :: es)).run Try.prog w = (Instr.findAsking 32 (clV p) (e :: es) 0).run Try.prog w := by
      simp [Instr.findKey, run_underlying Try.underlying32, hn]
    rw [hrun]
    rcases findAskCl p w (e :: es) l 0 h with h1 | ⟨e', h1, h2⟩
    · exact .inl h1
    · exact .inr ⟨e', by simpa using h1, h2⟩

/-! ## The map -/
theorem blockSet_same {w : World} {b : Nat} (h : b < w.heap.size) (o : Obj) : (setBlock w b o).heap[b]? = some o := by simp [setBlock, h]
theorem blockSet_other {w : World} {b i : Nat} (o : Obj) (h : i ≠ b) : (setBlock w b o).heap[i]? = w.heap[i]? := by
  unfold setBlock
  rw [Array.getElem?_setIfInBounds_ne (fun e => h e.symm)]
theorem blockSet_size (w : World) (b : Nat) (o : Obj) : (setBlock w b o).heap.size = w.heap.size := by simp [setBlock]
theorem blockSet_below {B b : Nat} {w0 w : World} (h : Below B w0 w) (hb : B ≤ b) (o : Obj) : Below B w0 (setBlock w b o) :=
  ⟨h.os, h.tape, h.output, by rw [blockSet_size]; exact h.size, fun i hi => by rw [blockSet_other o (by omega)]; exact h.block i hi⟩

/-- Block b is a map that knows the clauses of all, and gives for each a number at which it stands there. -/
def NumK (w : World) (b : Nat) (all : List Cla) : Prop :=
  ∃ (es : Array MapEntry) (clock : Nat) (l : List Cla), w.heap[b]? = some (.map es clock) ∧ es.toList.map (·.key) = l.map clV ∧ (∀ p, p ∈ all → p ∈ l) ∧
    ∀ (j : Nat) e p, es.toList[j]? = some e → l[j]? = some p → ∃ i : Nat, e.val = .int .i64 (i : Int) ∧ all[i]? = some p
section
variable {w w' : World} {b : Nat} {all : List Cla} {p : Cla}
theorem NumK.lt (h : NumK w b all) : b < w.heap.size := by
  obtain ⟨es, clock, l, hb, _⟩ := h
  exact (Array.getElem?_eq_some_iff.1 hb).1
theorem NumK.same (h : NumK w b all) (e : w'.heap[b]? = w.heap[b]?) : NumK w' b all := by
  obtain ⟨es, clock, l, hb, r⟩ := h
  exact ⟨es, clock, l, e.trans hb, r⟩
theorem NumK.below (h : NumK w b all) (hb : Below w.heap.size w w') : NumK w' b all := h.same (hb.block b h.lt)
theorem numK_new (w : World) : NumK (w.alloc (.map #[] 0)) w.heap.size [] := ⟨#[], 0, [], (MapKept.heap_alloc w _).1, by simp, by simp, by simp⟩
theorem idxOf_at {l : List Cla} {p : Cla} (h : p ∈ l) : l[l.idxOf p]? = some p := by
  rw [List.getElem?_eq_getElem (List.idxOf_lt_length_iff.2 h), List.getElem_idxOf]
theorem NumK.yesAt (h : NumK w b all) (hp : p ∈ all) : ∃ i : Nat, all[i]? = some p ∧ ∀ w' : World, w'.heap[b]? = w.heap[b]? → (Instr.lookup 47 (.map (some b)) (clV p) true).run Try.prog w' = .ok (.tuple #[.int .i64 (i : Int), .bool true]) w' ∧
    (Instr.lookup 47 (.map (some b)) (clV p) false).run Try.prog w' = .ok (.int .i64 (i : Int)) w' := by
  obtain ⟨es, clock, l, hb, hk, hm, hv⟩ := h
  have hpl := hm p hp
  have hlen : l.idxOf p < es.toList.length := by
    have e := congrArg List.length hk
    rw [List.length_map, List.length_map] at e
    rw [e]
    exact List.idxOf_lt_length_iff.2 hpl
  obtain ⟨e0, he0⟩ : ∃ e0, es.toList[l.idxOf p]? = some e0 := ⟨_, List.getElem?_eq_getElem hlen⟩
  obtain ⟨i, hval, hi⟩ := hv _ _ _ he0 (idxOf_at hpl)
  refine ⟨i, hi, fun w' hw => ?_⟩
  have hb' : w'.heap[b]? = some (.map es clock) := hw.trans hb
  rcases findCl p w' es.toList l hk with ⟨_, k⟩ | ⟨e, h1, h2, _⟩
  · exact absurd hpl k
  · rw [he0] at h2
    simp only [Option.some.injEq] at h2
    subst h2
    constructor
    · simp [Instr.lookup, run_underlying Try.underlying47, MapKept.run_getObj_map hb', checkCl, h1, hval]
    · simp [Instr.lookup, run_underlying Try.underlying47, MapKept.run_getObj_map hb', checkCl, h1, hval]
theorem NumK.yes (h : NumK w b all) (hp : p ∈ all) : ∃ i : Nat, all[i]? = some p ∧ ∀ q, (Instr.lookup 47 (.map (some b)) (clV p) true).run Try.prog (w.drewN q) = .ok (.tuple #[.int .i64 (i : Int), .bool true]) (w.drewN q) := by
  obtain ⟨i, hi, h⟩ := h.yesAt hp
  exact ⟨i, hi, fun q => (h (w.drewN q) rfl).1⟩
theorem NumK.keys (h : NumK w b all) : ∃ (es : Array MapEntry) (clock : Nat) (l : List Cla), w.heap[b]? = some (.map es clock) ∧ es.toList.map (·.key) = l.map clV ∧ ∀ p, p ∈ l ↔ p ∈ all := by
  obtain ⟨es, clock, l, hb, hk, hm, hv⟩ := h
  refine ⟨es, clock, l, hb, hk, fun p => ⟨fun hp => ?_, hm p⟩⟩
  have hlen : l.idxOf p < es.toList.length := by
    have e := congrArg List.length hk
    rw [List.length_map, List.length_map] at e
    rw [e]
    exact List.idxOf_lt_length_iff.2 hp
  obtain ⟨i, _, hi⟩ := hv _ _ _ (List.getElem?_eq_getElem hlen) (idxOf_at hp)
  exact List.mem_of_getElem? hi
theorem NumK.no (h : NumK w b all) (hp : p ∉ all) (q : Nat) : (Instr.lookup 47 (.map (some b)) (clV p) true).run Try.prog (w.drewN q) = .ok (.tuple #[.int .i64 0, .bool false]) (w.drewN q) := by
  obtain ⟨es, clock, l, hb, hk, hm⟩ := h.keys
  have hb' : (w.drewN q).heap[b]? = some (.map es clock) := hb
  rcases findCl p (w.drewN q) es.toList l hk with ⟨h1, _⟩ | ⟨e, _, _, k⟩
  · simp [Instr.lookup, run_underlying Try.underlying47, MapKept.run_getObj_map hb', checkCl, h1, Try.zeroValue3]
  · exact absurd ((hm p).1 k) hp
/-- One that is known already may come again. -/
theorem NumK.again (h : NumK w b all) (hp : p ∈ all) : NumK w b (all ++ [p]) := by
  obtain ⟨es, clock, l, hb, hk, hm, hv⟩ := h
  refine ⟨es, clock, l, hb, hk, fun x hx => ?_, fun j e x h1 h2 => ?_⟩
  · rw [List.mem_append, List.mem_singleton] at hx
    rcases hx with hx | rfl
    · exact hm x hx
    · exact hm x hp
  · obtain ⟨i, h3, h4⟩ := hv j e x h1 h2
    exact ⟨i, h3, by rw [List.getElem?_append_left (List.getElem?_eq_some_iff.1 h4).1]; exact h4⟩
theorem NumK.store (h : NumK w b all) (hp : p ∉ all) :
    ∃ o, ∀ q, (Instr.mapUpdate 47 (.map (some b)) (clV p) (.int .i64 (all.length : Int))).run Try.prog (w.drewN q) = .ok () (setBlock (w.drewN q) b o) ∧ NumK (setBlock (w.drewN q) b o) b (all ++ [p]) := by
  have hlt := h.lt
  obtain ⟨es, clock, l, hb, hk, hm, hv⟩ := h
  refine ⟨.map (es.push { key := clV p, val := .int .i64 (all.length : Int), born := clock }) (clock + 1), fun q => ?_⟩
  have hb' : (w.drewN q).heap[b]? = some (.map es clock) := hb
  have hlt' : b < (w.drewN q).heap.size := hlt
  rcases findCl p (w.drewN q) es.toList l hk with ⟨h1, h2⟩ | ⟨e, h1, h2, h3⟩
  · have hlen : es.toList.length = l.length := by
      have := congrArg List.length hk
      rwa [List.length_map, List.length_map] at this
    refine ⟨?_, ⟨_, _, l ++ [p], blockSet_same hlt' _, ?_, ?_, ?_⟩⟩
    · simp [Instr.mapUpdate, run_underlying Try.underlying47, MapKept.run_getObj_map hb', checkCl, h1, MapKept.run_setObj_map _ hb', setBlock]
    · simp [hk]
    · intro x hx
      rw [List.mem_append] at hx ⊢
      exact hx.imp (hm x) id
    · intro j e x he hx
      rw [Array.toList_push] at he
      rcases Nat.lt_or_ge j es.toList.length with hj | hj
      · rw [List.getElem?_append_left hj] at he
        rw [List.getElem?_append_left (by omega)] at hx
        obtain ⟨i, h3, h4⟩ := hv j e x he hx
        exact ⟨i, h3, by rw [List.getElem?_append_left (List.getElem?_eq_some_iff.1 h4).1]; exact h4⟩
      · rw [List.getElem?_append_right hj] at he
        rw [List.getElem?_append_right (by omega)] at hx
        have hj0 : j - es.toList.length = 0 := by
          rcases Nat.eq_zero_or_pos (j - es.toList.length) with h | h
          · exact h
          · rw [List.getElem?_eq_none (by simp only [List.length_cons, List.length_nil]; omega)] at he; cases he
        have hj1 : j - l.length = 0 := by omega
        rw [hj0] at he
        rw [hj1] at hx
        simp only [List.getElem?_cons_zero, Option.some.injEq] at he hx
        subst he hx
        exact ⟨all.length, rfl, by simp⟩
  · exfalso
    obtain ⟨i, _, hi⟩ := hv _ _ _ h2 (idxOf_at h3)
    exact hp (List.mem_of_getElem? hi)
end

end Go.Proofs.Ytjbefclfhehhaaa
