/- Plain mathematics: going on from the first concept, there are all (Ganter). -/
import Derived.Test.YtihhplkcpdepgaaCn
namespace Go.Proofs.Ytihhplkcpdepgaa
open Go.RowKit

theorem sub_le {a b : Nat} (h : sub a b = true) : a ≤ b := by
  unfold sub at h
  rw [beq_iff_eq] at h
  rw [← h]
  exact Nat.left_le_or
theorem sub_zero (a : Nat) : sub 0 a = true := sub_iff.2 fun i h => by simp at h
theorem clM_least {n : Nat} {rows : List Nat} {c : Nat} (hc : conB n rows c = true) : sub (clM n rows 0) c = true := by
  have := clM_mono (n := n) (rows := rows) (sub_zero c)
  rw [con_iff.1 hc] at this
  exact this
theorem conL_first {n : Nat} {rows : List Nat} {x : Nat} (h : (conL n rows (one n))[0]? = some x) : x = clM n rows 0 := by
  have hz : clM n rows 0 ∈ conL n rows (one n) := mem_conL.2 ⟨clM_lt _ _ _, clM_con (one_pos n)⟩
  have hs : (conL n rows (one n)).Pairwise (· < ·) := List.Pairwise.filter _ List.pairwise_lt_range
  cases hl : conL n rows (one n) with
  | nil => rw [hl] at h; simp at h
  | cons y t =>
    rw [hl] at h hz hs
    simp at h
    subst h
    have hx : y ∈ conL n rows (one n) := by rw [hl]; simp
    have h1 := sub_le (clM_least (mem_conL.1 hx).2)
    rw [List.pairwise_cons] at hs
    rcases List.mem_cons.1 hz with e | e
    · exact e.symm
    · have := hs.1 _ e; omega
theorem conL_pos (n : Nat) (rows : List Nat) : 0 < (conL n rows (one n)).length :=
  List.length_pos_of_mem (mem_conL.2 ⟨clM_lt n rows 0, clM_con (one_pos n)⟩)

/-- What was seen on the way to p. -/
structure Gan (n : Nat) (rows seen : List Nat) (p : Nat) : Prop where
  lt : p < one n
  con : conB n rows p = true
  nodup : seen.Nodup
  mem : ∀ c, c ∈ seen ↔ (c < one n ∧ conB n rows c = true) ∧ behB p c = true
theorem Gan.init {n : Nat} {rows : List Nat} {x : Nat} (h : (conL n rows (one n))[0]? = some x) : Gan n rows [] x where
  lt := (mem_conL.1 (List.mem_of_getElem? h)).1
  con := (mem_conL.1 (List.mem_of_getElem? h)).2
  nodup := by simp
  mem c := by
    constructor
    · intro h; simp at h
    · rintro ⟨⟨_, h2⟩, h3⟩
      exfalso
      rw [conL_first h] at h3
      obtain ⟨i, _, k1, k2, _⟩ := behP_iff.1 h3
      rw [sub_iff.1 (clM_least h2) i k1] at k2
      cases k2
theorem Gan.fresh {n : Nat} {rows seen : List Nat} {p : Nat} (h : Gan n rows seen p) : p ∉ seen := fun hp => by
  have := ((h.mem p).1 hp).2
  rw [beh_irrefl] at this
  cases this
theorem Gan.nodup' {n : Nat} {rows seen : List Nat} {p : Nat} (h : Gan n rows seen p) : (seen ++ [p]).Nodup := by
  rw [List.nodup_append]
  refine ⟨h.nodup, by simp, fun a ha b hb e => ?_⟩
  simp at hb
  subst hb
  subst e
  exact h.fresh ha
theorem Gan.step {n : Nat} {rows seen : List Nat} {p s : Nat} (hn : n ≤ 32) (h : Gan n rows seen p) (k : IsNext n rows p s) : Gan n rows (seen ++ [p]) s where
  lt := k.1
  con := k.2.1
  nodup := h.nodup'
  mem c := by
    rw [List.mem_append, h.mem]
    constructor
    · rintro (⟨h1, h2⟩ | h1)
      · exact ⟨h1, beh_trans k.2.2.1 h2⟩
      · simp at h1; subst h1; exact ⟨⟨h.lt, h.con⟩, k.2.2.1⟩
    · rintro ⟨h1, h2⟩
      by_cases e : c = p
      · right; simp [e]
      · left
        refine ⟨h1, ?_⟩
        rcases beh_total hn h1.1 h.lt e with h3 | h3
        · exfalso
          rcases k.2.2.2 c h1.1 h1.2 h3 with e2 | e2
          · subst e2; rw [beh_irrefl] at h2; cases h2
          · exact beh_anti e2 h2
        · exact h3
theorem Gan.within {n : Nat} {rows seen : List Nat} {p : Nat} (h : Gan n rows seen p) : ∀ c ∈ seen ++ [p], c ∈ conL n rows (one n) := by
  intro c hc
  rw [List.mem_append] at hc
  rcases hc with hc | hc
  · exact mem_conL.2 ((h.mem c).1 hc).1
  · simp at hc; subst hc; exact mem_conL.2 ⟨h.lt, h.con⟩
theorem Gan.len {n : Nat} {rows seen : List Nat} {p : Nat} (h : Gan n rows seen p) : seen.length + 1 ≤ (conL n rows (one n)).length := by
  have := nodup_sub_length (seen ++ [p]) _ h.nodup' h.within
  simpa using this
theorem Gan.all {n : Nat} {rows seen : List Nat} {p : Nat} (hn : n ≤ 32) (h : Gan n rows seen p) (k : NoNext n rows p) : ∀ c ∈ conL n rows (one n), c ∈ seen ++ [p] := by
  intro c hc
  obtain ⟨h1, h2⟩ := mem_conL.1 hc
  rw [List.mem_append, h.mem]
  by_cases e : c = p
  · right; simp [e]
  · left
    refine ⟨⟨h1, h2⟩, ?_⟩
    rcases beh_total hn h1 h.lt e with h3 | h3
    · rw [k c h1 h2] at h3; cases h3
    · exact h3
theorem Gan.last {n : Nat} {rows seen : List Nat} {p : Nat} (hn : n ≤ 32) (h : Gan n rows seen p) (k : NoNext n rows p) : seen.length + 1 = (conL n rows (one n)).length := by
  have h1 := h.len
  have h2 := nodup_sub_length (conL n rows (one n)) (seen ++ [p]) (conL_nodup _ _ _) (h.all hn k)
  simp at h2
  omega

end Go.Proofs.Ytihhplkcpdepgaa
