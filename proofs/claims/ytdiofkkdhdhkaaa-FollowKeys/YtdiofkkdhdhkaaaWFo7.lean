/- slices.Grow of nothing, slices.Concat of two slices of rules. -/
import Derived.Test.YtdiofkkdhdhkaaaWFo6
import Derived.Test.YtdiofkkdhdhkaaaLawFLe
import Derived.Lib.AppendZeros
import Derived.LoopN
namespace Go.Proofs.Ytdiofkkdhdhkaaa
open Go.RowKit

theorem wpList_append_any {P : Program} {w : World} {ops : Array Oper} {rest : List Oper} {o : Oper} {a : Act} {Q : Exit → Act → World → Prop} (hgd : o.guard = none) (s x : Operand) (t : TypeId)
    (ho : o.op = .call { callee := .builtin .append, args := #[s, x], argTypes := #[t, t] })
    (base : Nat) (e : TypeId) (i : TypeInfo) (z : Value) (size bytes : Nat) (ht : P.underlying t = some (.slice e)) (hi : P.info? e = some i) (hz : i.zero = some z)
    (hsize : i.size = size) (hby : i.bytes = bytes) (hzs : z.cells.size = size) (hsz : 0 < size)
    (v : Value) (n : Nat) (xs : List Value) (hs : a.eval s = v) (hown : w.ownsRow base e size v n xs)
    (ad : Addr) (m c : Nat) (news : List Value) (hx : a.eval x = .slice (some ad) m c) (hl : news.length = m * size) (hnews : ∀ j u, news[j]? = some u → w.cell? (ad.add j) = some u) (h1 : ∀ u ∈ news, u.oneCell' = true)
    (h63 : n + m ≤ maxLen) (hbytes : (n + m) * bytes ≤ 140737488355328) (hbase : base ≤ w.heap.size)
    (h : ∀ v' w', w'.ownsRow base e size v' (n + m) (xs ++ news) → w.grownBy w' v.ownBlock → wpList P ops Q rest (a.put o.dst v') w') : wpList P ops Q (o :: rest) a w :=
  wpList_plain hgd fun _ hK => wp_append_any s x t ho base e i z size bytes ht hi hz hsize hby hzs hsz v n xs hs hown ad m c news hx hl hnews h1 h63 hbytes hbase (fun v' w' h1 h2 _ => hK _ _ (h v' w' h1 h2))

set_option maxHeartbeats 1000000 in
theorem slGrow_nil (m : Nat) (hm : m ≤ 1000000) (w : World) :
    Calls Try.prog 37 #[.slice none 0 0, .int .i64 m] w fun e w' => ∃ v, e = .returned v ∧ OwnR w' w.heap.size v [] ∧ Below w.heap.size w w' := by
  by_cases h0 : m = 0
  · subst h0
    go_enter Try.func37, Try.ntmps37
    go_wp2
    go_ret
    exact ⟨_, rfl, World.ownsRow_nil _ _ _ _, Below.refl _ _⟩
  · obtain ⟨i0, hi, hz0, hz1, hz2⟩ := info_parts infoR
    have hrz : ∀ ty, (Builtin.append_ #[22, 3] ty #[.slice none 0 0, .int .i64 (m : Int)]).run Try.prog w =
        .ok (.slice (some ⟨w.heap.size, 0, none⟩) m (grownCap w m 0 31)) (w.drew.alloc (.cells (Builtin.zeroCells (Value.agg #[.int .u32 0, .int .u32 0]).cells m ++ Builtin.zeroCells (Value.agg #[.int .u32 0, .int .u32 0]).cells (grownCap w m 0 31 - m)) 31)) := fun ty =>
      Lib.run_append_nil_zeros w 22 3 ty 31 i0 _ .i64 .i64 Try.underlying22 Try.underlying3 hi hz0 m (by omega) (by rw [hz1]; decide) (by omega) (by rw [hz2]; omega)
    have hGn : m ≤ grownCap w m 0 31 := grownCap_ge w _ _ _
    obtain ⟨G, hG⟩ : ∃ G, G = grownCap w m 0 31 := ⟨_, rfl⟩
    rw [← hG] at hrz hGn
    have hG63 : G ≤ maxLen := by
      rw [hG]
      exact grownCap_le_maxLen w m 0 31 (by unfold maxLen; omega)
    have HG := Lib.hid hG63
    have hG63' : G ≤ 9223372036854775807 := by unfold maxLen at hG63; omega
    clear hG hG63
    obtain ⟨cur, hcur⟩ : ∃ cur, cur = (Builtin.zeroCells (Value.agg #[.int .u32 0, .int .u32 0]).cells m ++ Builtin.zeroCells (Value.agg #[.int .u32 0, .int .u32 0]).cells (G - m)) := ⟨_, rfl⟩
    rw [← hcur] at hrz
    have HS := Lib.hid (show cur.size = G * 2 by
      rw [hcur, Array.size_append, size_zeroCells, size_zeroCells]
      show m * 2 + (G - m) * 2 = G * 2
      omega)
    clear hcur hi hz0 hz1 hz2
    go_enter Try.func37, Try.ntmps37
    go_wp2_with (at_builtin; refine Lib.wpList_append_run _ rfl _ _ _ _ rfl _ _ rfl rfl _ _ (hrz _) ?_)
    all_goals go_ret
    exact ⟨_, rfl, ⟨rfl, .inr ⟨w.heap.size, G, cur, rfl, Nat.le_refl _, heap_alloc_new w.drew _, Nat.zero_le _, HG.out, HS.out, rfl⟩⟩, (Below.refl _ _).drew.alloc (Nat.le_refl _) _⟩

/-- From ad on lie the rules l. -/
def News (w : World) (ad : Addr) (l : List (Nat × Nat)) : Prop := ∀ j u, (rulesC l)[j]? = some u → w.cell? (ad.add j) = some u
theorem News.below {w w' : World} {ad : Addr} {l : List (Nat × Nat)} (h : News w ad l) (hb : Below w.heap.size w w') : News w' ad l := fun j u hu => by
  have hc := h j u hu
  have hlt : (ad.add j).block < w.heap.size := by
    rcases Nat.lt_or_ge (ad.add j).block w.heap.size with h1 | h1
    · exact h1
    · simp [World.cell?, Array.getElem?_eq_none h1] at hc
  rw [Below.cell hb hlt]
  exact hc
theorem ownR_below {w w' : World} {B : Nat} {v : Value} {rs : List (Nat × Nat)} (h : OwnR w B v rs) (hb : Below w.heap.size w w') : OwnR w' B v rs :=
  World.ownsRow.kept h (row := none) ⟨hb.os, hb.tape, hb.output, hb.size, fun k hk _ => hb.block k hk⟩ (by cases hv : v.ownBlock <;> simp)

set_option maxHeartbeats 2000000 in
theorem slConcat_any (l1 l2 : List (Nat × Nat)) (ad1 ad2 : Addr) (c1 c2 g : Nat) (w : World) (h1 : News w ad1 l1) (h2 : News w ad2 l2) (hl1 : l1.length ≤ 1000) (hl2 : l2.length ≤ 1000)
    (d0 : w.cell? ⟨g, 0, none⟩ = some (.slice (some ad1) l1.length c1)) (d1 : w.cell? ⟨g, 1, none⟩ = some (.slice (some ad2) l2.length c2)) :
    Calls Try.prog 36 #[.slice (some ⟨g, 0, none⟩) 2 2] w fun e w' => ∃ v, e = .returned v ∧ OwnR w' w.heap.size v (l1 ++ l2) ∧ Below w.heap.size w w' := by
  obtain ⟨i0, hi, hz0, hz1, hz2⟩ := info_parts infoR
  have HI := Lib.hid (And.intro hi (And.intro hz0 (And.intro hz1 hz2)))
  have hg : g < w.heap.size := block_lt_of_cell d0
  clear hi hz0 hz1 hz2
  go_enter Try.func36, Try.ntmps36
  go_wp2
  refine wp_loop_rounds 3 ?_
  rw [rounds_succ]; go_wp2
  rw [rounds_succ]; go_wp2
  rw [rounds_succ]
  go_wp2_with fail
  have hsum : ((l1.length : Int) + (l2.length : Int)) = ((l1.length + l2.length : Nat) : Int) := by omega
  rw [hsum]
  refine (slGrow_nil (l1.length + l2.length) (by omega) _).mono ?_
  rintro e w1 ⟨v, rfl, hown, hb1⟩
  have d0' := (Below.cell hb1 (p := ⟨g, 0, none⟩) hg).trans d0
  have d1' := (Below.cell hb1 (p := ⟨g, 1, none⟩) hg).trans d1
  have HN1 := Lib.hid (h1.below hb1)
  have HO1 := Lib.hid hown
  clear hown hsum
  go_wp2
  refine wp_loop_rounds 3 ?_
  rw [rounds_succ]
  obtain ⟨hi, hz0, hz1, hz2⟩ := HI.out
  have HL1 := Lib.hid (show (rulesC l1).length = l1.length * 2 by rw [rulesC_length]; omega)
  have HL2 := Lib.hid (show (rulesC l2).length = l2.length * 2 by rw [rulesC_length]; omega)
  go_wp2_with (first | (at_builtin; refine wpList_append_any rfl _ _ 22 rfl w.heap.size 31 i0 (.agg #[.int .u32 0, .int .u32 0]) 2 8 Try.underlying22 hi hz0 hz1 hz2 rfl (by decide) v 0 [] rfl HO1.out ad1 l1.length c1 (rulesC l1) rfl HL1.out HN1.out (rulesC_oneCell l1) ?b1 ?b2 hb1.size ?b3))
  case b1 => unfold maxLen; omega
  case b2 => omega
  case b3 =>
    intro v2 w2 hown2 hgrow2
    have hb2 : Below w.heap.size w w2 := hb1.grown hgrow2 hb1.size (fun k hk => (World.ownsRow.lt HO1.out k hk).1)
    have HN2 := Lib.hid (h2.below hb2)
    have e0 := (Below.cell hb2 (p := ⟨g, 0, none⟩) hg).trans d0
    have e1 := (Below.cell hb2 (p := ⟨g, 1, none⟩) hg).trans d1
    have HO2 := Lib.hid hown2
    clear hown2 hgrow2 d0' d1' d0 d1
    go_wp2
    rw [rounds_succ]
    go_wp2_with (first | (at_builtin; refine wpList_append_any rfl _ _ 22 rfl w.heap.size 31 i0 (.agg #[.int .u32 0, .int .u32 0]) 2 8 Try.underlying22 hi hz0 hz1 hz2 rfl (by decide) v2 l1.length (rulesC l1) rfl HO2.out ad2 l2.length c2 (rulesC l2) rfl HL2.out HN2.out (rulesC_oneCell l2) ?q1 ?q2 hb2.size ?q3))
    case q1 => unfold maxLen; omega
    case q2 => omega
    case q3 =>
      intro v3 w3 hown3 hgrow3
      have HB3 := Lib.hid (hb2.grown hgrow3 hb2.size (fun k hk => (World.ownsRow.lt HO2.out k hk).1))
      have HO3 := Lib.hid hown3
      clear hown3 hgrow3 e0 e1
      go_wp2
      rw [rounds_succ]
      go_wp2
      go_ret
      refine ⟨v3, rfl, ?_, HB3.out⟩
      unfold OwnR
      have h := HO3.out
      rw [← rulesC_append] at h
      rw [List.length_append]
      exact h

end Go.Proofs.Ytdiofkkdhdhkaaa
