/- order.Split. -/
import Derived.Test.YtkmloanalhjmjaaW17
namespace Go.Proofs.Ytkmloanalhjmjaa
open Go.RowKit

/-- As few chains as possible, with each thing once; one of each is in the greatest set apart. -/
structure SplitOf (n : Nat) (ps : List (Int × Int)) (L : List (List Nat)) : Prop where
  len : L.length = pop (widest n ps)
  ne : ∀ c ∈ L, c ≠ []
  chain : ∀ c ∈ L, ChainOf n ps c
  one : ∀ c ∈ L, (c.filter fun i => (widest n ps).testBit i).length = 1
  full : Full n L.flatten

theorem split_of {n : Nat} {ps : List (Int × Int)} (hn : n ≤ 6) (hcy : ¬ Cyc n ps) {m : Bef} {F D : Nat → Bool} (h : Run n (ab ps) m F D n) : SplitOf n ps (chL n m (aftTo m n) n) := by
  have hf := aftTo_afts n m
  obtain ⟨h1, h2⟩ := dilworth hn hcy h hf
  refine ⟨h1, fun c hc => ?_, fun c hc => ?_, h2, chL_full hcy h.mat hf⟩
  · obtain ⟨x, hx, _, rfl⟩ := mem_chL.1 hc
    rw [chF_step hcy h.mat hf hx]
    simp
  · obtain ⟨x, hx, _, rfl⟩ := mem_chL.1 hc
    exact chF_chain hcy h.mat hf _ x (Nat.le_refl _) hx

theorem OwnL.open {w : World} {B : Nat} {v : Value} {L : List (List Nat)} (h : OwnL w B v L) : ∃ A c vs, v = .slice A L.length c ∧ Row w A vs ∧ vs.length = L.length ∧
    ∀ (i : Nat) (ci : List Nat), L[i]? = some ci → ∃ Ai cc, vs[i]? = some (.slice Ai ci.length cc) ∧ Row w Ai (ints (nats ci)) := by
  obtain ⟨vs, h1, h2⟩ := h
  have hl : vs.length = L.length := by have := h1.1; omega
  have key : ∀ (i : Nat) (ci : List Nat), L[i]? = some ci → ∃ Ai cc, vs[i]? = some (.slice Ai ci.length cc) ∧ Row w Ai (ints (nats ci)) := by
    intro i ci hc
    obtain ⟨u, hu, ho⟩ := h2 i ci hc
    obtain ⟨Ai, cc, rfl, hr, _⟩ := ho.row
    rw [nats_length] at hu
    exact ⟨Ai, cc, hu, hr⟩
  rcases h1.2 with ⟨hv, hn⟩ | ⟨g, cap, cur, hv, hg, hh, r1, r2, r3, r4⟩
  · have hL : L = [] := List.eq_nil_of_length_eq_zero hn
    subst hL
    have : vs = [] := List.eq_nil_of_length_eq_zero hl
    subst this
    exact ⟨none, 0, [], hv, .inl rfl, rfl, fun i ci hc => by simp at hc⟩
  · subst hv
    exact ⟨some ⟨g, 0, none⟩, cap, vs, rfl, Row.of_own h1, hl, key⟩

theorem Split_err (n : Int) (ps : List (Int × Int)) (A : Option Addr) (c : Nat) (w : World) (hm : ps.length ≤ maxLen) (hr : Row w A (pairsC ps)) (hc : code n ps ≠ 0) :
    Calls Try.prog 28 #[.int .i64 n, .slice A ps.length c] w fun e w' => e = .returned (.tuple #[.slice none 0 0, .int .i64 (code n ps)]) ∧ Below w.heap.size w w' := by
  go_enter Try.func28, Try.ntmps28
  go_wp2_with fail
  refine (Table_err n ps A c _ hm hr hc).mono ?_
  rintro e w1 ⟨rfl, hb1⟩
  have hk : (code n ps != 0) = true := by simpa using hc
  clear hc
  go_wp2
  go_ret2
  exact ⟨rfl, hb1⟩

set_option maxHeartbeats 1000000 in
theorem Split_ok (n : Nat) (ps : List (Int × Int)) (A : Option Addr) (c : Nat) (w : World) (hm : ps.length ≤ maxLen) (hr : Row w A (pairsC ps)) (hc : code n ps = 0) :
    Calls Try.prog 28 #[.int .i64 n, .slice A ps.length c] w fun e w' => ∃ v L B, e = .returned (.tuple #[v, .int .i64 0]) ∧ OwnL w' B v L ∧ SplitOf n ps L ∧ Below w.heap.size w w' := by
  obtain ⟨h2, h3, h4⟩ := code_zero hc
  obtain ⟨hn1, hn6, hl⟩ : 1 ≤ n ∧ n ≤ 6 ∧ ps.length ≤ 20 := by unfold Large at h2; omega
  have HC := Lib.hid hc
  have HY := Lib.hid h4
  clear h2 h3 h4 hc
  go_enter Try.func28, Try.ntmps28
  go_wp2_with fail
  refine (Table_ok n ps A c _ hm hr HC.out).mono ?_
  rintro e w1 ⟨g, rfl, hown, hb1⟩
  have HT := Lib.hid hown.tab
  clear hown
  go_wp2_with fail
  refine (matchNeighbours_any n ps _ n _ HT.out hn1 hn6).mono ?_
  rintro e w2 ⟨m, F, D, rfl, hrun, hown, hb2⟩
  have HR := Lib.hid hrun
  have HO := Lib.hid (show Row w2 (some ⟨w1.heap.size, 0, none⟩) (ints (itz n (bv m))) from Row.of_own hown)
  have hb02 := hb1.trans (hb2.mono hb1.size)
  clear hown hrun
  go_wp2_with fail
  refine (listChains_any n ps m _ n _ hn1 hn6 HY.out HR.out.mat HO.out).mono ?_
  rintro e w3 ⟨v, rfl, hown, hb3⟩
  have HL := Lib.hid hown
  have hb03 := hb02.trans (hb3.mono hb02.size)
  clear hown
  go_wp2
  go_ret2
  exact ⟨_, _, _, rfl, HL.out, split_of hn6 HY.out HR.out, hb03⟩

/-! ## Lists of lists -/
theorem flatten_at {L : List (List Nat)} {k : Nat} {c : List Nat} (h : L[k]? = some c) : (L.take (k + 1)).flatten = (L.take k).flatten ++ c ∧ ∃ r, L.flatten = (L.take k).flatten ++ (c ++ r) := by
  constructor
  · rw [List.take_add_one, h]; simp
  · have hk := (List.getElem?_eq_some_iff.1 h).1
    refine ⟨(L.drop (k + 1)).flatten, ?_⟩
    have e : L = L.take k ++ (c :: L.drop (k + 1)) := by
      have h1 : c = L[k] := by rw [List.getElem?_eq_getElem hk] at h; injection h with h; exact h.symm
      rw [h1, ← List.drop_eq_getElem_cons hk, List.take_append_drop]
    conv => lhs; rw [e]
    rw [List.flatten_append, List.flatten_cons]
theorem take_at {c : List Nat} {t a : Nat} (h : c[t]? = some a) : c.take (t + 1) = c.take t ++ [a] := by rw [List.take_add_one, h]; rfl
/-- What has been seen does not have the next one. -/
theorem not_seen {L : List (List Nat)} {k t a : Nat} {c : List Nat} (hn : L.flatten.Nodup) (hc : L[k]? = some c) (ha : c[t]? = some a) : ¬ a ∈ (L.take k).flatten ++ c.take t := by
  obtain ⟨_, r, hr⟩ := flatten_at hc
  have ht := (List.getElem?_eq_some_iff.1 ha).1
  have e : c = c.take t ++ (a :: c.drop (t + 1)) := by
    have h1 : a = c[t] := by rw [List.getElem?_eq_getElem ht] at ha; injection ha with ha; exact ha.symm
    rw [h1, ← List.drop_eq_getElem_cons ht, List.take_append_drop]
  have e2 : L.flatten = ((L.take k).flatten ++ c.take t) ++ (a :: (c.drop (t + 1) ++ r)) := by
    rw [hr]
    conv => lhs; rw [e]
    simp
  rw [e2, List.nodup_append] at hn
  intro h
  exact hn.2.2 a h a (by simp) rfl
theorem pairwise_next {R : Nat → Nat → Prop} : ∀ {c : List Nat} {t x y : Nat}, c.Pairwise R → c[t]? = some x → c[t + 1]? = some y → R x y
  | [], _, _, _, _, h, _ => by simp at h
  | z :: c, 0, x, y, hp, h, k => by
    simp at h k
    subst h
    rw [List.pairwise_cons] at hp
    exact hp.1 y (List.mem_of_getElem? k)
  | z :: c, t + 1, x, y, hp, h, k => by
    rw [List.pairwise_cons] at hp
    exact pairwise_next hp.2 (by simpa using h) (by simpa using k)

end Go.Proofs.Ytkmloanalhjmjaa
