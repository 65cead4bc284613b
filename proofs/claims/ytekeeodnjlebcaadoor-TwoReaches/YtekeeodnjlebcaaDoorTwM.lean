/- Plain mathematics: going from literal to literal, all at once. -/
import Derived.Test.YtekeeodnjlebcaaDoorTw
namespace Go.Proofs.YtekeeodnjlebcaaDoor
open Go.RowKit

/-- How far the going has come: where one has been, and for the first k of them all that follows in a step is there. -/
structure Bfs (n : Nat) (l : List Cla) (i : Nat) (here : List Nat) (k : Nat) : Prop where
  nodup : here.Nodup
  start : i ∈ here
  lt : ∀ x ∈ here, x < n + n
  rch : ∀ x ∈ here, Rch n l i x
  done : ∀ m x y, m < k → here[m]? = some x → stepB n l x y = true → y ∈ here
theorem Bfs.init {n : Nat} {l : List Cla} {i : Nat} (hi : i < n + n) : Bfs n l i [i] 0 :=
  ⟨by simp, by simp, by simpa using hi, fun x hx => by simp at hx; subst hx; exact .here, fun m x y hm => by omega⟩
theorem nodup_len {n : Nat} {xs : List Nat} (h : xs.Nodup) (hl : ∀ x ∈ xs, x < n) : xs.length ≤ n := by
  have := List.Nodup.length_le_of_subset h (l₂ := List.range n) fun x hx => List.mem_range.2 (hl x hx)
  simpa using this
theorem Bfs.len {n : Nat} {l : List Cla} {i : Nat} {here : List Nat} {k : Nat} (h : Bfs n l i here k) : here.length ≤ n + n := nodup_len h.nodup h.lt
theorem Bfs.add {n : Nat} {l : List Cla} {i : Nat} {here : List Nat} {k x j : Nat} (h : Bfs n l i here k) (hk : k ≤ here.length) (hx : x ∈ here) (hj : j < n + n) (hs : stepB n l x j = true) (hno : ¬ j ∈ here) : Bfs n l i (here ++ [j]) k where
  nodup := by
    rw [List.nodup_append]
    refine ⟨h.nodup, by simp, fun a ha b hb => ?_⟩
    simp at hb
    subst hb
    intro e
    subst e
    exact hno ha
  start := List.mem_append_left _ h.start
  lt := fun y hy => by
    rw [List.mem_append, List.mem_singleton] at hy
    rcases hy with hy | rfl
    · exact h.lt y hy
    · exact hj
  rch := fun y hy => by
    rw [List.mem_append, List.mem_singleton] at hy
    rcases hy with hy | rfl
    · exact h.rch y hy
    · exact .more (h.rch x hx) hs
  done := fun m a b hm ha hb => by
    rw [List.getElem?_append_left (by omega)] at ha
    exact List.mem_append_left _ (h.done m a b hm ha hb)
theorem Bfs.next {n : Nat} {l : List Cla} {i : Nat} {here : List Nat} {k x : Nat} (h : Bfs n l i here k) (hx : here[k]? = some x) (hd : ∀ y, stepB n l x y = true → y ∈ here) : Bfs n l i here (k + 1) :=
  ⟨h.nodup, h.start, h.lt, h.rch, fun m a b hm ha hb => by
    by_cases e : m = k
    · subst e
      rw [hx] at ha
      obtain rfl := Option.some.inj ha
      exact hd b hb
    · exact h.done m a b (by omega) ha hb⟩
theorem Bfs.all {n : Nat} {l : List Cla} {i : Nat} {here : List Nat} (h : Bfs n l i here here.length) {j : Nat} (hr : Rch n l i j) : j ∈ here := by
  induction hr with
  | here => exact h.start
  | more _ hs ih =>
    obtain ⟨m, hm⟩ := List.mem_iff_getElem?.1 ih
    have : m < here.length := (List.getElem?_eq_some_iff.1 hm).1
    exact h.done m _ _ this hm hs
/-- A word holds just the numbers of a list. -/
def SetOf (q : Nat) (xs : List Nat) : Prop := ∀ y, q.testBit y = decide (y ∈ xs)
theorem SetOf.nil : SetOf 0 [] := fun y => by simp
theorem SetOf.add {q : Nat} {xs : List Nat} (h : SetOf q xs) (x : Nat) : SetOf (q ||| one x) (xs ++ [x]) := fun y => by
  rw [Nat.testBit_or, h y]
  unfold one
  rw [Nat.testBit_two_pow, Bool.eq_iff_iff, Bool.or_eq_true_iff, decide_eq_true_iff, decide_eq_true_iff, decide_eq_true_iff, List.mem_append, List.mem_singleton]
  exact ⟨fun h => h.imp id Eq.symm, fun h => h.imp id Eq.symm⟩
theorem SetOf.lt {q n : Nat} {xs : List Nat} (h : SetOf q xs) (hl : ∀ x ∈ xs, x < n) : q < one n := by
  apply lt_of_sub (b := full n) _ (full_lt n)
  apply sub_iff.2
  intro y hy
  rw [h y, decide_eq_true_iff] at hy
  rw [full_bit, decide_eq_true_iff]
  exact hl y hy
theorem Bfs.word {n : Nat} {l : List Cla} {i q : Nat} {here : List Nat} (h : Bfs n l i here here.length) (hq : SetOf q here) : q = reachW n l i := by
  apply Nat.eq_of_testBit_eq
  intro y
  rw [hq y, Bool.eq_iff_iff, decide_eq_true_iff, mem_reach]
  exact ⟨fun hy => ⟨h.lt y hy, h.rch y hy⟩, fun hy => h.all hy.2⟩
theorem step_take {n : Nat} {l : List Cla} {k x y : Nat} {c : Cla} (hc : l[k]? = some c) : stepB n (l.take (k + 1)) x y = (stepB n (l.take k) x y || saidB n c x y) := by
  unfold stepB
  rw [List.take_add_one, hc, List.any_append]
  simp
theorem take_app {xs : List Nat} {k y : Nat} {T : List Nat} (h : xs.take (k + 1) = T) (hk : k < xs.length) : (xs ++ [y]).take (k + 1) = T := by
  rw [List.take_append_of_le_length (by omega), h]

end Go.Proofs.YtekeeodnjlebcaaDoor
