/- A region whose operations come in whatever order, by what holds between them. -/
import Derived.Test.YthgmbiaajgpaaaaRm
import Derived.OwnWalk
import Derived.Deep.RegionHeld3
namespace Go.Proofs.Ythgmbiaajgpaaaa
open Go.RowKit

theorem count_listed {l : Array Bool} {i : Nat} (h : l.getD i true = false) : (l.setIfInBounds i true).toList.count false < l.toList.count false := by
  have hi : i < l.size := by
    rcases Nat.lt_or_ge i l.size with h1 | h1
    · exact h1
    · simp [Array.getElem?_eq_none h1] at h
  have hv : l.toList[i]'(by simpa using hi) = false := by
    simp [hi] at h
    simpa using h
  have hp : 0 < l.toList.count false := List.count_pos_iff.2 (hv ▸ List.getElem_mem _)
  rw [Array.toList_setIfInBounds, List.count_set (by simpa using hi), hv]
  generalize List.count false l.toList = n at *
  simp only [beq_self_eq_true, if_true]
  rw [if_neg (by decide)]
  omega

theorem wpAnyH_inv {P : Program} {md : Region.Mode} {ops : Array Oper} {Q : Exit → Act → World → Prop} {S : World → Prop} (I : Array Bool → Act → World → Prop) (hS : ∀ l a w, I l a w → S w)
    (hstep : ∀ l a w i, I l a w → i ∈ Region.ready md ops l → wpOp P ops Q i (fun a' w' => I (l.setIfInBounds i true) a' w') a w)
    (hend : ∀ l a w, I l a w → Region.ready md ops l = [] → Q .normal a w) :
    ∀ (fuel : Nat) (l : Array Bool) (a : Act) (w : World), l.toList.count false ≤ fuel → I l a w → wpAnyH P md ops Q S fuel l a w := by
  intro fuel
  induction fuel with
  | zero =>
    intro l a w hc hI
    have hr : Region.ready md ops l = [] := by
      rw [List.eq_nil_iff_forall_not_mem]
      intro i hi
      have := count_listed (mem_ready.1 hi).1
      omega
    exact ⟨hr, hend _ _ _ hI hr⟩
  | succ fuel ih =>
    intro l a w hc hI
    refine ⟨hend _ _ _ hI, fun i hi => wpOp_mono (fun a' w' h' => ⟨hS _ _ _ h', ih _ a' w' ?_ h'⟩) (hstep l a w i hI hi)⟩
    have := count_listed (mem_ready.1 hi).1
    omega
theorem wpAnyH_invB {P : Program} {md : Region.Mode} {ops : Array Oper} {Q : Exit → Act → World → Prop} {S : World → Prop} (J : Act → Array Bool → Act → World → Prop) (F : Act → Prop) {a : Act} (hF : F a) (hS : ∀ a0, F a0 → ∀ l a' w, J a0 l a' w → S w)
    (hstep : ∀ a0, F a0 → ∀ l a' w i, J a0 l a' w → i ∈ Region.ready md ops l → ∀ K : Act → World → Prop, (∀ a'' w', J a0 (l.setIfInBounds i true) a'' w' → K a'' w') → wpOp P ops Q i K a' w)
    (hend : ∀ l a' w, J a l a' w → Region.ready md ops l = [] → Q .normal a' w) (fuel : Nat) (l : Array Bool) (w : World) (hc : l.toList.count false ≤ fuel) (hJ : J a l a w) : wpAnyH P md ops Q S fuel l a w :=
  wpAnyH_inv (J a) (hS a hF) (fun l a' w i h1 h2 => hstep a hF l a' w i h1 h2 _ fun _ _ h => h) hend fuel l a w hc hJ
theorem wpAnyH_invA {P : Program} {md : Region.Mode} {ops : Array Oper} {Q : Exit → Act → World → Prop} {S : World → Prop} (J : Act → Array Bool → Act → World → Prop) {a : Act} (hS : ∀ l a' w, J a l a' w → S w)
    (hstep : ∀ l a' w i, J a l a' w → i ∈ Region.ready md ops l → wpOp P ops Q i (fun a'' w' => J a (l.setIfInBounds i true) a'' w') a' w)
    (hend : ∀ l a' w, J a l a' w → Region.ready md ops l = [] → Q .normal a' w) (fuel : Nat) (l : Array Bool) (w : World) (hc : l.toList.count false ≤ fuel) (hJ : J a l a w) : wpAnyH P md ops Q S fuel l a w :=
  wpAnyH_inv (J a) hS hstep hend fuel l a w hc hJ

section
variable {P : Program} {ops : Array Oper} {Q : Exit → Act → World → Prop} {K : Act → World → Prop} {a : Act} {w : World}
theorem wpOp_of {i : Nat} {o : Oper} (hi : ops[i]? = some o) (hg : o.guard = none) (h : o.wp P a w K Q) : wpOp P ops Q i K a w := by
  unfold wpOp
  rw [hi]
  simp only
  rw [if_pos (by simp [Region.wanted, hg])]
  exact .inl h
theorem wp_make_full {o : Oper} (l c : Operand) (t : TypeId) (hop : o.op = Op.makeSlice t l c)
    (base : Nat) (e : TypeId) (i : TypeInfo) (z : Value) (size : Nat) (h1 : P.underlying t = some (.slice e)) (h2 : P.info? e = some i) (h3 : i.zero = some z) (h4 : i.size = size)
    (kl kc : IntKind) (n : Nat) (hl : a.eval l = .int kl n) (hc : a.eval c = .int kc n) (b2 : i.bytes * n ≤ 281474976710656) (b3 : n ≤ maxLen) (b4 : base ≤ w.heap.size)
    (hK : ∀ w', w'.ownsRow base e size (.slice (some ⟨w.heap.size, 0, none⟩) n n) n (madeCells z.cells (n * size)).toList → w.grownBy w' none → K (a.put o.dst (.slice (some ⟨w.heap.size, 0, none⟩) n n)) w') : o.wp P a w K Q := by
  obtain ⟨w', hrun, r1, r2⟩ := run_make_full (P := P) w base t e i z size h1 h2 h3 h4 kl kc n b2 b3 b4
  unfold Oper.wp
  simp [execOp, hop, hl, hc, hrun, Result.andThen]
  exact hK w' r1 r2
end

/-- Some slots hold some values. -/
def putL (a : Act) (l : List (Nat × Value)) : Act := l.foldl (fun a p => a.put (some p.1) p.2) a
theorem putL_cons (a : Act) (p : Nat × Value) (l : List (Nat × Value)) : putL a (p :: l) = putL (a.put (some p.1) p.2) l := rfl
theorem put_commN (a : Act) {d e : Nat} (v u : Value) (h : d ≠ e) : (a.put (some d) v).put (some e) u = (a.put (some e) u).put (some d) v :=
  Act.put_comm a v u fun d' h1 h2 => h (by cases h1; cases h2; rfl)
theorem put_sameN (a : Act) (d : Nat) (v u : Value) : (a.put (some d) v).put (some d) u = a.put (some d) u := by
  simp [Act.put]
theorem putL_comm (l : List (Nat × Value)) : ∀ (a : Act) (d : Nat) (u : Value), d ∉ l.map (·.1) → (putL a l).put (some d) u = putL (a.put (some d) u) l := by
  induction l with
  | nil => intro a d u _; rfl
  | cons p l ih =>
    intro a d u h
    simp only [List.map_cons, List.mem_cons, not_or] at h
    rw [putL_cons, putL_cons, ih _ _ _ h.2, put_commN _ _ _ (fun e => h.1 e.symm)]
theorem putL_put (l : List (Nat × Value)) : ∀ (a : Act) (k d : Nat) (v u : Value), l[k]? = some (d, v) → (l.map (·.1)).Nodup → (putL a l).put (some d) u = putL a (l.set k (d, u)) := by
  induction l with
  | nil => intro a k d v u h; simp at h
  | cons p l ih =>
    intro a k d v u h hn
    rw [List.map_cons, List.nodup_cons] at hn
    cases k with
    | zero =>
      simp at h
      subst h
      rw [putL_cons, putL_comm _ _ _ _ hn.1, put_sameN]
      rfl
    | succ k =>
      rw [putL_cons, ih _ k d v u (by simpa using h) hn.2]
      rfl
theorem eval_put_ne (a : Act) {d t : Nat} (v : Value) (h : d ≠ t) : (a.put (some d) v).eval (.tmp t) = a.eval (.tmp t) :=
  Act.eval_put fun d' h1 h2 => h (by cases h1; cases h2; rfl)
theorem eval_put_eq (a : Act) {d : Nat} (v : Value) (h : d < a.tmps.size) : (a.put (some d) v).eval (.tmp d) = v := by
  simp [Act.eval, Act.put, h]
theorem put_size (a : Act) (d : Nat) (v : Value) : (a.put (some d) v).tmps.size = a.tmps.size := by simp [Act.put]
theorem putL_ne (l : List (Nat × Value)) : ∀ (a : Act) (t : Nat), t ∉ l.map (·.1) → (putL a l).eval (.tmp t) = a.eval (.tmp t) := by
  induction l with
  | nil => intro a t _; rfl
  | cons p l ih =>
    intro a t h
    simp only [List.map_cons, List.mem_cons, not_or] at h
    rw [putL_cons, ih _ _ h.2, eval_put_ne _ _ (fun e => h.1 e.symm)]
theorem putL_at (l : List (Nat × Value)) : ∀ (a : Act) (k d : Nat) (v : Value), l[k]? = some (d, v) → (l.map (·.1)).Nodup → d < a.tmps.size → (putL a l).eval (.tmp d) = v := by
  induction l with
  | nil => intro a k d v h; simp at h
  | cons p l ih =>
    intro a k d v h hn hd
    rw [List.map_cons, List.nodup_cons] at hn
    cases k with
    | zero =>
      simp at h
      subst h
      rw [putL_cons, putL_ne _ _ _ hn.1, eval_put_eq _ _ hd]
    | succ k =>
      rw [putL_cons]
      exact ih _ k d v (by simpa using h) hn.2 (by rw [put_size]; exact hd)
theorem putL_undef (l : List (Nat × Value)) (a : Act) (h : ∀ p ∈ l, p.2 = undef ∧ a.put (some p.1) undef = a) : putL a l = a := by
  induction l with
  | nil => rfl
  | cons p l ih =>
    have h1 := h p (by simp)
    rw [putL_cons, h1.1, h1.2]
    exact ih fun q hq => h q (List.mem_cons_of_mem _ hq)
theorem wp_make_box {P : Program} {w : World} {o : Oper} {a : Act} {K : Act → World → Prop} {Q : Exit → Act → World → Prop} (t : TypeId) (ho : o.op = .alloc t) (cs : Array Value) (hrun : (Instr.alloc t true (Value.tuple #[])).run P w = .ok (.pointer (some ⟨w.heap.size, 0, none⟩)) (w.alloc (.cells cs t)))
    (h : K (a.put o.dst (.pointer (some ⟨w.heap.size, 0, none⟩))) (w.alloc (.cells cs t))) : o.wp P a w K Q := by
  unfold Oper.wp execOp
  simp only [ho, Sem.run_bind, Sem.run_pure, Result.andThen_ok, hrun]
  exact h
theorem wp_store_one {P : Program} {w : World} {o : Oper} {a : Act} {K : Act → World → Prop} {Q : Exit → Act → World → Prop} (t : TypeId) (x y : Operand) (ho : o.op = .store t x y) (p v : Value) (w' : World) (hx : a.eval x = p) (hy : a.eval y = v)
    (hrun : (Instr.storeAt t p v).run P w = .ok () w') (h : K (a.put o.dst undef) w') : o.wp P a w K Q := by
  unfold Oper.wp execOp
  simp only [ho, hx, hy, Sem.run_bind, Sem.run_pure, Result.andThen_ok, hrun]
  exact h
theorem wp_call_fn {P : Program} {w : World} {o : Oper} {a : Act} {K : Act → World → Prop} {Q : Exit → Act → World → Prop} (f : Nat) (x : Operand) (t : TypeId) (ho : o.op = .call { callee := .value (.func f), args := #[x], argTypes := #[t] }) (v : Value) (hx : a.eval x = v) (hcf : (callFunc f #[v]).run P w = .ok (.enter f #[v]) w)
    (h : Calls P f #[v] w fun e w' => ∃ u, e = .returned u ∧ K (a.put o.dst u) w') : o.wp P a w K Q := by
  unfold Oper.wp execOp
  have hf : a.eval (.func f) = .func (.func f) #[] #[] := rfl
  simp [ho, resolve, invoke, hx, hf, Deferred.ofValue, hcf, Oper.upon]
  refine h.mono ?_
  rintro e w' ⟨u, rfl, hu⟩
  exact hu

section
variable {w0 w w' : World} {rs : List Rw}
/-- A row that was nothing is laid. -/
theorem RowsM.fill {k n : Nat} {e size e' size' : Nat} {v : Value} {xs : List Value} (h : RowsM w0 rs w) (hr : rs[k]? = some ⟨e', size', .slice none 0 0, 0, []⟩) (hb : Below w.heap.size w w') (ho : w'.ownsRow w0.heap.size e size v n xs)
    (hn : ∀ g, v.ownBlock = some g → w.heap.size ≤ g) : RowsM w0 (rs.set k ⟨e, size, v, n, xs⟩) w' := by
  refine h.put hr (h.below.trans (hb.mono h.below.size)) ho (fun s hs _ => ?_) (fun s hs _ g e k2 => ?_)
  · exact World.ownsRow.kept hs (row := none) ⟨hb.os, hb.tape, hb.output, hb.size, fun k hk _ => hb.block k hk⟩ (by cases s.v.ownBlock <;> simp)
  · have h1 := hn g e
    have h2 := (World.ownsRow.lt hs g k2).2
    omega
end

end Go.Proofs.Ythgmbiaajgpaaaa
