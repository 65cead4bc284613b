/- A map that keeps a set of clauses. -/
import Derived.Test.YtcokpjffgeihbaaTr3
import Derived.Laws.StructEq
import Derived.Maps.RangeRun
import Derived.Carry
namespace Go.Proofs.Ytcokpjffgeihbaa
open Go.RowKit

/-- A clause, as a value. -/
def clV (p : Nat × Nat) : Value := .agg #[.int .u32 (p.1 : Int), .int .u32 (p.2 : Int)]
theorem clV_inj {p q : Nat × Nat} (h : clV p = clV q) : p = q := by
  unfold clV at h
  simp only [Value.agg.injEq, Array.mk.injEq, List.cons.injEq, Value.int.injEq, true_and, and_true] at h
  obtain ⟨h1, h2⟩ := h
  exact Prod.ext (by omega) (by omega)
theorem stoodCl : Try.prog.stoodInHeld 49 = false := by kernel_rfl
theorem underCl : Try.prog.underlying 49 = some (.struct (Try.prog.fieldsOf 49)) := by kernel_rfl
theorem partYes (a b : Value) (w : World) : (Go.part 31 #[a, b] 0).run Try.prog w = .ok a w := by
  simp [Go.part, Try.isAgg31]
theorem partNo (a b : Value) (w : World) : (Go.part 31 #[a, b] 1).run Try.prog w = .ok b w := by
  simp [Go.part, Try.isAgg31]
theorem eqU32 (d : Nat) (a b : Int) (w : World) : (Op.equalIn (d + 1) 31 (.int .u32 a) (.int .u32 b)).run Try.prog w = .ok (a == b) w := by
  simp [Op.equalIn, run_underlying Try.underlying31]
theorem eqCl (p q : Nat × Nat) (w : World) : (Op.equal 49 (clV p) (clV q)).run Try.prog w = .ok (decide (p = q)) w := by
  unfold Op.equal clV
  rw [show Op.maxDepth = 9999 + 1 from rfl, run_equalIn_struct w 9999 49 _ _ underCl stoodCl]
  have e : decide (p = q) = (((p.1 : Int) == (q.1 : Int)) && ((p.2 : Int) == (q.2 : Int))) := by
    rw [Bool.eq_iff_iff, decide_eq_true_iff, Bool.and_eq_true, beq_iff_eq, beq_iff_eq, Prod.ext_iff]
    omega
  rw [e]
  unfold Program.fieldsOf
  rw [Try.underlying49]
  simp only [Op.eqFields, Sem.run_bind, Sem.run_ite, partYes, partNo, Result.andThen_ok, show (9999 : Nat) = 9998 + 1 from rfl, eqU32]
  cases ((p.1 : Int) == (q.1 : Int)) <;> cases ((p.2 : Int) == (q.2 : Int)) <;> simp
theorem checkU32 (em : Bool) (d : Nat) (a : Int) (w : World) : (Instr.checkKey em (d + 1) 31 (.int .u32 a)).run Try.prog w = .ok () w := by
  simp [Instr.checkKey, run_underlying Try.underlying31]
theorem checkCl (em : Bool) (p : Nat × Nat) (w : World) : (Instr.checkKey em 10000 49 (clV p)).run Try.prog w = .ok () w := by
  unfold clV
  rw [show (10000 : Nat) = 9999 + 1 from rfl]
  unfold Instr.checkKey
  simp only [Sem.run_bind, run_underlying Try.underlying49, Result.andThen_ok]
  rw [← Array.forIn_toList]
  simp [partYes, partNo, checkU32 em 9998]
theorem sameCl (p : Nat × Nat) (w : World) : (Instr.keyThatStays (clV p) (clV p)).run Try.prog w = .ok (clV p) w := by
  have : Instr.sameBits 10000 (clV p) (clV p) = true := by
    unfold clV
    rw [show (10000 : Nat) = 9999 + 1 from rfl]
    simp [Instr.sameBits]
  simp [Instr.keyThatStays, this]
theorem findAskCl (p : Nat × Nat) (w : World) : ∀ (es : List MapEntry) (l : List (Nat × Nat)) (i : Nat), es.map (·.key) = l.map clV →
    ((Instr.findAsking 49 (clV p) es i).run Try.prog w = .ok none w ∧ p ∉ l) ∨ ∃ j e, (Instr.findAsking 49 (clV p) es i).run Try.prog w = .ok (some (i + j, e.val)) w ∧ es[j]? = some e ∧ e.key = clV p ∧ p ∈ l
  | [], [], i, _ => .inl ⟨by simp [Instr.findAsking], by simp⟩
  | e :: es, q :: l, i, h => by
    simp only [List.map_cons, List.cons.injEq] at h
    obtain ⟨h1, h2⟩ := h
    by_cases hpq : p = q
    · subst hpq
      exact .inr ⟨0, e, by simp [Instr.findAsking, h1, eqCl], rfl, h1, by simp⟩
    · rcases findAskCl p w es l (i + 1) h2 with ⟨h3, h4⟩ | ⟨j, e', h3, h4, h5, h6⟩
      · exact .inl ⟨by simp [Instr.findAsking, h1, eqCl, hpq, h3], by simp [hpq, h4]⟩
      · exact .inr ⟨j + 1, e', by simp [Instr.findAsking, h1, eqCl, hpq, h3]; omega, by simpa using h4, h5, by simp [h6]⟩
theorem findCl (p : Nat × Nat) (w : World) (es : List MapEntry) (l : List (Nat × Nat)) (h : es.map (·.key) = l.map clV) :
    ((Instr.findKey 49 (clV p) es).run Try.prog w = .ok none w ∧ p ∉ l) ∨ ∃ j e, (Instr.findKey 49 (clV p) es).run Try.prog w = .ok (some (j, e.val)) w ∧ es[j]? = some e ∧ e.key = clV p ∧ p ∈ l := by
  cases es with
  | nil =>
    cases l with
    | nil => exact .inl ⟨by simp [Instr.findKey, run_underlying Try.underlying49, Instr.findNow], by simp⟩
    | cons q l => simp at h
  | cons e es =>
    have hn : ∀ fs, Instr.findNow (.struct fs) (clV p) (e :: es) 0 = none := by
      intro fs
      unfold clV Instr.findNow
      simp [Instr.sameNow]
    have hrun : (Instr.findKey 49 (clV p) (e :: es)).run Try.prog w = (Instr.findAsking 49 (clV p) (e :: es) 0).run Try.prog w := by
      simp [Instr.findKey, run_underlying Try.underlying49, hn]
    rw [hrun]
    rcases findAskCl p w (e :: es) l 0 h with h1 | ⟨j, e', h1, h2⟩
    · exact .inl h1
    · exact .inr ⟨j, e', by simpa using h1, h2⟩

end Go.Proofs.Ytcokpjffgeihbaa
