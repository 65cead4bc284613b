/- The mathematics of Least; follow.Least. -/
import Derived.Test.YtdiofkkdhdhkaaaWFo9
namespace Go.Proofs.Ytdiofkkdhdhkaaa
open Go.RowKit

/-- A rule, its If shortened. -/
def shR (n : Nat) (rs : List (Nat × Nat)) (r : Nat × Nat) : Nat × Nat := (shortW n rs r.2 r.1, r.2)
theorem mem_split {rs : List (Nat × Nat)} {r : Nat × Nat} : r ∈ splitL rs ↔ ∃ q ∈ rs, ∃ t, t < 6 ∧ q.2.testBit t = true ∧ q.1.testBit t = false ∧ r = (q.1, one t) := by
  unfold splitL splitR
  rw [List.mem_flatMap]
  constructor
  · rintro ⟨q, hq, h⟩
    rw [List.mem_map] at h
    obtain ⟨t, ht, rfl⟩ := h
    rw [List.mem_filter, List.mem_range, Bool.and_eq_true] at ht
    exact ⟨q, hq, t, ht.1, ht.2.1, by simpa using ht.2.2, rfl⟩
  · rintro ⟨q, hq, t, h1, h2, h3, rfl⟩
    refine ⟨q, hq, List.mem_map.2 ⟨t, ?_, rfl⟩⟩
    rw [List.mem_filter, List.mem_range, h2, h3]
    exact ⟨h1, rfl⟩
theorem one_sub {t x : Nat} : sub (one t) x = true ↔ x.testBit t = true := by
  rw [sub_iff]
  constructor
  · intro h; exact h t (by rw [one_testBit]; simp)
  · intro h i hi
    rw [one_testBit, decide_eq_true_iff] at hi
    rw [← hi]; exact h
theorem one_lt_iff {n t : Nat} (h : t < n) : one t < one n := Nat.pow_lt_pow_right (by decide) h
theorem pop_one {t : Nat} (h : t < 6) : pop (one t) = 1 := by
  rcases (show t = 0 ∨ t = 1 ∨ t = 2 ∨ t = 3 ∨ t = 4 ∨ t = 5 by omega) with rfl | rfl | rfl | rfl | rfl | rfl <;> decide
section
variable {n : Nat} {rs : List (Nat × Nat)} (hn : n ≤ 6) (hf : FitR n rs)
include hn hf
omit hn in
theorem sh_fact {r : Nat × Nat} (hr : r ∈ splitL rs) : ∃ a t, r = (a, one t) ∧ t < n ∧ a < one n ∧ a.testBit t = false ∧ fol n rs (one t) a = true := by
  obtain ⟨q, hq, t, h1, h2, h3, rfl⟩ := mem_split.1 hr
  refine ⟨q.1, t, rfl, bit_lt (hf q hq).2 h2, (hf q hq).1, h3, ?_⟩
  have := closed_iff.1 (close_closed hf q.1) q hq (close_sub (hf q hq).1)
  exact one_sub.2 (sub_iff.1 this t h2)
theorem sh_mem {r : Nat × Nat} (hr : r ∈ (splitL rs).map (shR n rs)) : ∃ a t, r = (shortW n rs (one t) a, one t) ∧ t < n ∧ a < one n ∧ a.testBit t = false ∧ sub (shortW n rs (one t) a) a = true ∧ fol n rs (one t) (shortW n rs (one t) a) = true := by
  obtain ⟨q, hq, rfl⟩ := List.mem_map.1 hr
  obtain ⟨a, t, rfl, h1, h2, h3, h4⟩ := sh_fact hf hq
  have h64 := one_le_64 hn
  exact ⟨a, t, rfl, h1, h2, h3, shortP_sub (by omega) 6 (Nat.le_refl _), shortP_fol h4 6⟩
theorem sh_fit : FitR n ((splitL rs).map (shR n rs)) := by
  intro r hr
  obtain ⟨a, t, rfl, h1, h2, h3, h4, h5⟩ := sh_mem hn hf hr
  exact ⟨lt_of_sub h4 h2, one_lt_iff h1⟩
theorem sh_same {s : Nat} (hs : s < one n) : closedB ((splitL rs).map (shR n rs)) s = closedB rs s := by
  rw [Bool.eq_iff_iff]
  constructor
  · intro h
    rw [closed_iff]
    intro q hq h1
    refine sub_iff.2 fun t ht => ?_
    cases e : q.1.testBit t with
    | true => exact sub_iff.1 h1 t e
    | false =>
      have htn := bit_lt (hf q hq).2 ht
      have hm : shR n rs (q.1, one t) ∈ (splitL rs).map (shR n rs) := List.mem_map.2 ⟨_, mem_split.2 ⟨q, hq, t, by omega, ht, e, rfl⟩, rfl⟩
      have h64 := one_le_64 hn
      have hq1 := (hf q hq).1
      have hsub : sub (shortW n rs (one t) q.1) q.1 = true := shortP_sub (by omega) 6 (Nat.le_refl _)
      exact one_sub.1 (closed_iff.1 h _ hm (sub_trans hsub h1))
  · intro h
    rw [closed_iff]
    intro r hr h1
    obtain ⟨a, t, rfl, h2, h3, h4, h5, h6⟩ := sh_mem hn hf hr
    exact sub_trans h6 (close_least hs h1 h)
theorem least_of {L : List (Nat × Nat)} (h : PruI n ((splitL rs).map (shR n rs)) L 0) : LeastL n rs L := by
  have h64 := one_le_64 hn
  refine ⟨fun s hs => by rw [h.same s hs, sh_same hn hf hs], fun r hr => ?_, fun k r hk => h.need k r (Nat.zero_le _) hk, fun r hr i hi hb => ?_⟩
  · obtain ⟨a, t, rfl, h2, h3, h4, h5, h6⟩ := sh_mem hn hf (h.from_ r hr)
    refine ⟨pop_one (by omega), ?_, lt_of_sub h5 h3, one_lt_iff h2⟩
    apply Nat.eq_of_testBit_eq
    intro i
    rw [Nat.testBit_and, one_testBit, Nat.zero_testBit]
    by_cases e : t = i
    · subst e
      cases e2 : (shortW n rs (one t) a).testBit t with
      | false => rfl
      | true => rw [sub_iff.1 h5 t e2] at h4; cases h4
    · simp [e]
  · have hc := close_congr (n := n) (rs := L) (rs' := rs) (fun s hs => by rw [h.same s hs, sh_same hn hf hs])
    obtain ⟨a, t, rfl, h2, h3, h4, h5, h6⟩ := sh_mem hn hf (h.from_ r hr)
    have hlt := lt_of_sub h5 h3
    rw [hc]
    have := shortP_tight (b := one t) hn hf h3 6 (Nat.le_refl _) i (by omega) hb
    rw [show shortP n rs (one t) a 6 = shortW n rs (one t) a from rfl, wo_minus (by omega) (by omega) hb] at this
    exact this
end
theorem rulesC_set : ∀ (l : List (Nat × Nat)) (k x y : Nat), rulesC (l.set k (x, y)) = ((rulesC l).set (k * 2) (.int .u32 (x : Int))).set (k * 2 + 1) (.int .u32 (y : Int))
  | [], k, x, y => by simp [rulesC]
  | r :: l, 0, x, y => by simp [rulesC]
  | r :: l, k + 1, x, y => by
    have ih := rulesC_set l k x y
    rw [List.set_cons_succ]
    simp only [rulesC, List.flatMap_cons] at ih ⊢
    rw [ih, show (k + 1) * 2 = k * 2 + 2 by omega]
    simp
/-- What Least has after k rounds. -/
def shP (n : Nat) (rs l : List (Nat × Nat)) (k : Nat) : List (Nat × Nat) := (l.take k).map (shR n rs) ++ l.drop k
theorem shP_len (n : Nat) (rs l : List (Nat × Nat)) (k : Nat) : (shP n rs l k).length = l.length := by
  unfold shP
  rw [List.length_append, List.length_map, List.length_take, List.length_drop]
  omega
theorem shP_at {n : Nat} {rs l : List (Nat × Nat)} {k : Nat} (hk : k < l.length) : (shP n rs l k)[k]? = l[k]? := by
  unfold shP
  have e : ((l.take k).map (shR n rs)).length = k := by rw [List.length_map, List.length_take]; omega
  rw [List.getElem?_append_right (by omega), e, Nat.sub_self, List.getElem?_drop, Nat.add_zero]
theorem shP_set {n : Nat} {rs l : List (Nat × Nat)} {k : Nat} {r : Nat × Nat} (hr : l[k]? = some r) : (shP n rs l k).set k (shR n rs r) = shP n rs l (k + 1) := by
  have hk := (List.getElem?_eq_some_iff.1 hr).1
  have e : ((l.take k).map (shR n rs)).length = k := by rw [List.length_map, List.length_take]; omega
  unfold shP
  rw [List.set_append_right _ _ (by omega), e, Nat.sub_self, List.take_add_one, hr]
  have hd : l.drop k = r :: l.drop (k + 1) := by
    rw [List.drop_eq_getElem_cons hk]
    congr 1
    exact Option.some.inj ((List.getElem?_eq_getElem hk).symm.trans hr)
  rw [hd]
  simp

theorem own_rebase' {w : World} {base base' e size n : Nat} {v : Value} {cs : List Value} (h : w.ownsRow base e size v n cs) (hb : base' ≤ base) : w.ownsRow base' e size v n cs := by
  refine ⟨h.1, ?_⟩
  rcases h.2 with h2 | ⟨g, cap, cur, h1, h2, h3⟩
  · exact .inl h2
  · exact .inr ⟨g, cap, cur, h1, Nat.le_trans hb h2, h3⟩
theorem OwnR.stored {w : World} {B g c m : Nat} {l : List (Nat × Nat)} (h : w.ownsRow B 31 2 (.slice (some ⟨g, 0, none⟩) m c) m (rulesC l)) (k x y : Nat) :
    ((w.setCell ⟨g, k * 2, none⟩ (.int .u32 (x : Int))).setCell ⟨g, k * 2 + 1, none⟩ (.int .u32 (y : Int))).ownsRow B 31 2 (.slice (some ⟨g, 0, none⟩) m c) m (rulesC (l.set k (x, y))) := by
  rw [rulesC_set]
  exact (World.ownsRow.stored (World.ownsRow.stored h (k * 2) _).1 (k * 2 + 1) _).1

set_option maxHeartbeats 4000000 in
theorem Least_ok : LeastOk 22 := by
  intro n rs A c w h32 hm hr hX
  have key := fwCheck_any n rs A c [] none 0 w hr h32 hm (.inl rfl) (by simp) (by simp)
  rw [show orL [] = 0 from rfl] at key
  by_cases hc : codeR n rs 0 = 0
  · rw [hc] at key
    rw [hc]
    obtain ⟨n, rfl, hn1, hn6, hl, hf, hk⟩ := codeR_zero hc
    rw [Int.toNat_natCast]
    have h64 := one_le_64 hn6
    clear hc hk
    go_enter Try.func22, Try.ntmps22
    go_wp2_with fail
    refine key.mono ?_
    rintro e w1 ⟨rfl, hb1⟩
    clear key
    go_wp2_with fail
    refine (fwSplit_any rs A c _ (hr.below hb1) h32 (by omega)).mono ?_
    rintro e w2 ⟨v, rfl, hown, hb2⟩
    obtain ⟨l, hl0⟩ : ∃ l, l = splitL rs := ⟨_, rfl⟩
    rw [← hl0] at hown
    have hlen : l.length ≤ 60 := by rw [hl0]; have := splitL_len rs; omega
    have hb02 := hb1.trans (hb2.mono hb1.size)
    obtain ⟨A1, c1, rfl, hc1, hrow1⟩ := OwnR.cap hown
    have HO := Lib.hid (show _root_.Go.World.ownsRow w2 w.heap.size 31 2 (.slice A1 l.length c1) l.length (rulesC l) from own_rebase' hown hb1.size)
    have HL := Lib.hid hl0
    have HFc := Lib.hid (show ∀ r ∈ l, ∃ a t, r = (a, one t) ∧ t < n ∧ a < one n ∧ a.testBit t = false ∧ fol n rs (one t) a = true by rw [hl0]; exact fun r hr => sh_fact hf hr)
    clear hown hl0 hrow1 hb1 hb2
    go_wp2
    go_loopw [20] (fun iv wr => ∃ (k : Nat) (l' : List (Nat × Nat)), iv = .int .i64 k ∧ k ≤ l.length ∧ l' = shP n rs l k ∧ wr.ownsRow w.heap.size 31 2 (.slice A1 l.length c1) l.length (rulesC l') ∧ Below w.heap.size w wr) (fun iv _ => l.length - (intOf iv).toNat)
    case atStart => exact ⟨0, l, rfl, Nat.zero_le _, by simp [shP], HO.out, hb02⟩
    case round =>
      clear hb02 HO
      obtain ⟨k, l', rfl, hk, hl', hown, hbel⟩ := hrel
      have HL' := Lib.hid hl'
      have HO := Lib.hid hown
      have hll : l'.length = l.length := by rw [hl', shP_len]
      have HLL := Lib.hid hll
      clear hl' hll
      by_cases hlt : k < l.length
      · obtain ⟨g, rfl⟩ : ∃ g, A1 = some ⟨g, 0, none⟩ := by
          rcases hown.2 with ⟨hv, hn⟩ | ⟨g, cap, cur, hv, _⟩
          · omega
          · simp at hv; exact ⟨g, hv.1⟩
        clear hown
        obtain ⟨r, hrk⟩ := get_some hlt
        obtain ⟨a, t, rfl, ht, ha, hat, hfo⟩ := HFc.out r (List.mem_of_getElem? hrk)
        have h1t : one t < 4294967296 := one_lt (by omega)
        have hrk' : l'[k]? = some (a, one t) := by rw [HL'.out, shP_at hlt]; exact hrk
        have e0 := (World.ownsRow.cellAt HO.out (k * 2) (by omega)).trans (rulesC_at0 hrk')
        have e1 := (World.ownsRow.cellAt HO.out (k * 2 + 1) (by omega)).trans (rulesC_at1 hrk')
        have HS := Lib.hid (show l'.set k (shortW n rs (one t) a, one t) = shP n rs l (k + 1) by rw [HL'.out]; exact shP_set hrk)
        have hb3 := hbel.alloc hbel.size (.cells #[.int .u32 (a : Int), .int .u32 ((one t : Nat) : Int)] 31)
        have HO3 := Lib.hid (World.ownsRow.alloc HO.out (.cells #[.int .u32 (a : Int), .int .u32 ((one t : Nat) : Int)] 31))
        have hgb := World.ownsRow.lt HO.out g rfl
        clear hrk hrk' hat hfo
        go_wp2_with fail
        refine (fwShort_any n hn6 rs A c a (one t) _ (hr.below hb3) hf (by omega) ha h1t).mono ?_
        rintro e w4 ⟨rfl, hb4⟩
        have hb04 := hb3.trans (hb4.mono hb3.size)
        have HO4 := Lib.hid (World.ownsRow.kept HO3.out (row := none) ⟨hb4.os, hb4.tape, hb4.output, hb4.size, fun k hk _ => hb4.block k hk⟩ (by simp [Value.ownBlock]))
        have f0 := World.ownsRow.frozenAt HO4.out (k * 2)
        have f1 := World.ownsRow.frozenAt HO4.out (k * 2 + 1)
        have e0' : ∃ u, w4.cell? ⟨g, k * 2, none⟩ = some u := by
          rw [World.ownsRow.cellAt HO4.out (k * 2) (by omega)]
          exact get_some (by rw [rulesC_length, HLL.out]; omega)
        have e1' : ∃ u, w4.cell? ⟨g, k * 2 + 1, none⟩ = some u := by
          rw [World.ownsRow.cellAt HO4.out (k * 2 + 1) (by omega)]
          exact get_some (by rw [rulesC_length, HLL.out]; omega)
        obtain ⟨u0, e0'⟩ := e0'
        obtain ⟨u1, e1'⟩ := e1'
        have HOw := Lib.hid (OwnR.stored HO4.out k (shortW n rs (one t) a) (one t))
        have HBw := Lib.hid ((hb04.setCell (p := ⟨g, k * 2, none⟩) hgb.1 (.int .u32 ((shortW n rs (one t) a : Nat) : Int))).setCell (p := ⟨g, k * 2 + 1, none⟩) hgb.1 (.int .u32 ((one t : Nat) : Int)))
        clear hb4 hb3 e0 e1 hb04
        go_wp2
        go_roundw
        case rel => exact ⟨k + 1, _, by go_num, by omega, HS.out, HOw.out, HBw.out⟩
        case measure => simp [intOf]; omega
      · clear hown
        obtain rfl : k = l.length := by omega
        have HS := Lib.hid (show l' = (splitL rs).map (shR n rs) by rw [HL'.out, shP, List.take_length, List.drop_length, List.append_nil, HL.out])
        obtain ⟨A5, c5, hv5, hc5, hrow5⟩ := OwnR.cap (show OwnR wr w.heap.size (.slice A1 l.length c1) l' by unfold OwnR; rw [HLL.out]; exact HO.out)
        obtain ⟨rfl, _, rfl⟩ : A1 = A5 ∧ l.length = l'.length ∧ c1 = c5 := by simpa using hv5
        have HR5 := Lib.hid hrow5
        have HF5 := Lib.hid (show FitR n l' by rw [HS.out]; exact sh_fit hn6 hf)
        clear hrow5 hv5
        go_wp2_with fail
        rw [← HLL.out]
        refine (fwPrune_any n hn6 l' A1 c1 _ HR5.out HF5.out (by omega) (by omega)).mono ?_
        rintro e w6 ⟨A2, c2, L, rfl, hP, hcap, hrow, hb6⟩
        have HP := Lib.hid hP
        have HRow := Lib.hid hrow
        have HB := Lib.hid (hbel.trans (hb6.mono hbel.size))
        have hLl : L.length ≤ 1000 := by have := hP.len; omega
        clear hP hrow hb6
        go_wp2
        go_ret2
        exact ⟨A2, c2, L, rfl, fun _ => ⟨least_of hn6 hf (by rw [← HS.out]; exact HP.out), hLl⟩, fun h => absurd rfl h, hcap, HRow.out, HB.out⟩
  · have HC := Lib.hid hc
    generalize codeR n rs 0 = k at *
    go_enter Try.func22, Try.ntmps22
    go_wp2_with fail
    refine key.mono ?_
    rintro e w1 ⟨rfl, hb1⟩
    clear key
    go_wp2
    go_ret2
    exact ⟨none, 0, [], rfl, fun h => absurd h HC.out, fun _ => rfl, Nat.le_refl _, .inl rfl, hb1⟩

end Go.Proofs.Ytdiofkkdhdhkaaa
