/- follow.prune. -/
import Derived.Test.YtdiofkkdhdhkaaaWFo8
namespace Go.Proofs.Ytdiofkkdhdhkaaa
open Go.RowKit

theorem close_fewer {n : Nat} {xs ys : List (Nat × Nat)} (hf : FitR n ys) {s : Nat} (hs : s < one n) (h : ∀ r ∈ xs, r ∈ ys) : sub (closeW n xs s) (closeW n ys s) = true :=
  close_least (closeW_lt _ _ _) (close_sub hs) (closed_iff.2 fun r hr => closed_iff.1 (close_closed hf s) r (h r hr))
theorem cut_eq (L : List (Nat × Nat)) (i : Nat) : L.take i ++ L.drop (i + 1) = L.eraseIdx i := (List.eraseIdx_eq_take_drop_succ L i).symm
theorem cut_mem {L : List (Nat × Nat)} {i : Nat} {r : Nat × Nat} (h : r ∈ L.take i ++ L.drop (i + 1)) : r ∈ L := by
  rw [List.mem_append] at h
  rcases h with h | h
  · exact List.mem_of_mem_take h
  · exact List.mem_of_mem_drop h
theorem cut_len {L : List (Nat × Nat)} {i : Nat} (h : i < L.length) : (L.take i ++ L.drop (i + 1)).length = L.length - 1 := by
  rw [List.length_append, List.length_take, List.length_drop]
  omega

/-- What prune has left: from k on nothing can be left out. -/
structure PruI (n : Nat) (l L : List (Nat × Nat)) (k : Nat) : Prop where
  from_ : ∀ r ∈ L, r ∈ l
  len : L.length ≤ l.length
  same : ∀ s, s < one n → closedB L s = closedB l s
  need : ∀ j r, k ≤ j → L[j]? = some r → sub r.2 (closeW n (L.take j ++ L.drop (j + 1)) r.1) = false

theorem PruI.start (n : Nat) (l : List (Nat × Nat)) : PruI n l l l.length :=
  ⟨fun _ h => h, Nat.le_refl _, fun _ _ => rfl, fun j r hj h => by
    have := (List.getElem?_eq_some_iff.1 h).1
    omega⟩
theorem PruI.keep {n : Nat} {l L : List (Nat × Nat)} {k : Nat} {r : Nat × Nat} (h : PruI n l L (k + 1)) (hr : L[k]? = some r) (h2 : sub r.2 (closeW n (L.take k ++ L.drop (k + 1)) r.1) = false) : PruI n l L k :=
  ⟨h.from_, h.len, h.same, fun j r' hj hj' => by
    rcases Nat.lt_or_eq_of_le hj with h3 | rfl
    · exact h.need j r' h3 hj'
    · rw [hr] at hj'
      cases hj'
      exact h2⟩
theorem PruI.cut {n : Nat} {l L : List (Nat × Nat)} {k : Nat} {r : Nat × Nat} (hf : FitR n l) (h : PruI n l L (k + 1)) (hr : L[k]? = some r) (h2 : sub r.2 (closeW n (L.take k ++ L.drop (k + 1)) r.1) = true) :
    PruI n l (L.take k ++ L.drop (k + 1)) k := by
  have hk := (List.getElem?_eq_some_iff.1 hr).1
  have hfL : FitR n L := fun x hx => hf x (h.from_ x hx)
  have hfO : FitR n (L.take k ++ L.drop (k + 1)) := fun x hx => hfL x (cut_mem hx)
  refine ⟨fun x hx => h.from_ x (cut_mem hx), by rw [cut_len hk]; have := h.len; omega, fun s hs => ?_, fun j r' hj hj' => ?_⟩
  · rw [← h.same s hs, Bool.eq_iff_iff]
    constructor
    · intro hc
      rw [closed_iff]
      intro x hx hx1
      by_cases e : x = r
      · subst e
        exact sub_trans h2 (close_least hs hx1 hc)
      · refine closed_iff.1 hc x ?_ hx1
        rw [cut_eq, List.mem_eraseIdx_iff_getElem?]
        obtain ⟨m, hm⟩ := List.mem_iff_getElem?.1 hx
        refine ⟨m, fun e2 => ?_, hm⟩
        rw [e2, hr] at hm
        exact e (Option.some.inj hm).symm
    · intro hc
      rw [closed_iff] at hc ⊢
      exact fun x hx => hc x (cut_mem hx)
  · have hj2 : L[j + 1]? = some r' := by
      rw [cut_eq, List.getElem?_eraseIdx, if_neg (by omega)] at hj'
      exact hj'
    have hn := h.need (j + 1) r' (by omega) hj2
    have hr1 := (hfL r' (List.mem_of_getElem? hj2)).1
    cases e : sub r'.2 (closeW n ((L.take k ++ L.drop (k + 1)).take j ++ (L.take k ++ L.drop (k + 1)).drop (j + 1)) r'.1) with
    | false => rfl
    | true =>
      have hm := close_fewer (n := n) (xs := (L.take k ++ L.drop (k + 1)).take j ++ (L.take k ++ L.drop (k + 1)).drop (j + 1)) (ys := L.take (j + 1) ++ L.drop (j + 1 + 1)) (fun x hx => hfL x (cut_mem hx)) hr1 (fun x hx => by
        rw [cut_eq (L := L.take k ++ L.drop (k + 1)), List.mem_eraseIdx_iff_getElem?] at hx
        rw [cut_eq, List.mem_eraseIdx_iff_getElem?]
        obtain ⟨m, hm1, hm2⟩ := hx
        rw [cut_eq, List.getElem?_eraseIdx] at hm2
        split at hm2
        · exact ⟨m, by omega, hm2⟩
        · exact ⟨m + 1, by omega, hm2⟩)
      rw [sub_trans e hm] at hn
      cases hn

theorem slConcat_cut (L : List (Nat × Nat)) (j : Nat) (hj : j < L.length) (hL : L.length ≤ 1000) (ad1 ad2 : Addr) (c1 c2 g : Nat) (w : World) (h1 : News w ad1 (L.take j)) (h2 : News w ad2 (L.drop (j + 1)))
    (d0 : w.cell? ⟨g, 0, none⟩ = some (.slice (some ad1) j c1)) (d1 : w.cell? ⟨g, 1, none⟩ = some (.slice (some ad2) (L.length - (j + 1)) c2)) :
    Calls Try.prog 36 #[.slice (some ⟨g, 0, none⟩) 2 2] w fun e w' => ∃ v, e = .returned v ∧ OwnR w' w.heap.size v (L.take j ++ L.drop (j + 1)) ∧ Below w.heap.size w w' := by
  have e1 : (L.take j).length = j := by rw [List.length_take]; omega
  have e2 : (L.drop (j + 1)).length = L.length - (j + 1) := List.length_drop
  exact slConcat_any (L.take j) (L.drop (j + 1)) ad1 ad2 c1 c2 g w h1 h2 (by omega) (by omega) (by rw [e1]; exact d0) (by rw [e2]; exact d1)
theorem OwnR.cap {w : World} {B : Nat} {v : Value} {rs : List (Nat × Nat)} (h : OwnR w B v rs) : ∃ A c, v = .slice A rs.length c ∧ rs.length ≤ c ∧ Row w A (rulesC rs) := by
  rcases h.2 with ⟨hv, hn⟩ | ⟨g, cap, cur, hv, hg, hh, h1, h2, h3, h4⟩
  · have : rs = [] := List.eq_nil_of_length_eq_zero hn
    subst this
    exact ⟨none, 0, hv, Nat.le_refl _, .inl rfl⟩
  · obtain ⟨A, c, e, hr, _⟩ := OwnR.row h
    rw [hv] at e
    cases e
    exact ⟨some ⟨g, 0, none⟩, cap, hv, h1, hr⟩

set_option maxHeartbeats 4000000 in
theorem fwPrune_any (n : Nat) (hn : n ≤ 6) (l : List (Nat × Nat)) (A : Option Addr) (c : Nat) (w : World) (hr : Row w A (rulesC l)) (hf : FitR n l) (hl : l.length ≤ 1000) (hc : l.length ≤ c) :
    Calls Try.prog 32 #[.slice A l.length c] w fun e w' => ∃ A2 c2 L, e = .returned (.slice A2 (List.length L) c2) ∧ PruI n l L 0 ∧ L.length ≤ c2 ∧ Row w' A2 (rulesC L) ∧ Below w.heap.size w w' := by
  have h64 := one_le_64 hn
  go_enter Try.func32, Try.ntmps32
  go_wp2
  go_loopw [0, 3] (fun rv iv wr => ∃ (k : Nat) (L : List (Nat × Nat)) (A2 : Option Addr) (c2 : Nat), rv = .slice A2 L.length c2 ∧ iv = .int .i64 ((k : Int) - 1) ∧ k ≤ L.length ∧ L.length ≤ c2 ∧ PruI n l L k ∧ Row wr A2 (rulesC L) ∧ Below w.heap.size w wr) (fun _ iv _ => (intOf iv + 1).toNat)
  case atStart => exact ⟨l.length, l, A, c, rfl, rfl, Nat.le_refl _, hc, PruI.start n l, hr, Below.refl _ _⟩
  case round =>
    obtain ⟨k, L, A2, c2, rfl, rfl, hk, hc2, hP, hrow, hbel⟩ := hrel
    have HP := Lib.hid hP
    have HRow := Lib.hid hrow
    have hLl : L.length ≤ 1000 := Nat.le_trans hP.len hl
    clear hP hrow
    rcases k with _ | j
    · go_wp2
      go_ret
      exact ⟨A2, c2, L, rfl, HP.out, hc2, HRow.out, hbel⟩
    · obtain ⟨r, hrk⟩ := get_some (show j < L.length by omega)
      obtain ⟨a, b⟩ := r
      obtain ⟨g, off, rfl, e0, e1⟩ := RowR.at HRow.out hrk
      have hmem := HP.out.from_ _ (List.mem_of_getElem? hrk)
      have hab := hf _ hmem
      have HR := Lib.hid hrk
      clear hrk hmem
      have hjj : ((j + 1 : Nat) : Int) - 1 = (j : Int) := by omega
      rw [hjj]
      have hjc : j ≤ c2 := by omega
      have hj1 : j + 1 ≤ L.length := by omega
      have hj1c : j + 1 ≤ c2 := by omega
      have hwj : IntKind.i64.wrap ((j : Int) + 1) = (j : Int) + 1 := IntWalk.i64_in _ (by omega)
      have hz0 : (0 : Int) ≤ (j : Int) + 1 := by omega
      have hz1 : (j : Int) + 1 ≤ (L.length : Int) := by omega
      have hz2 : ((j : Int) + 1).toNat = j + 1 := by omega
      obtain ⟨ad2, hif⟩ : ∃ ad2 : Addr, (if c2 = j + 1 then some (⟨g, off, none⟩ : Addr) else some ⟨g, off + (j + 1) * 2, none⟩) = some ad2 := by split <;> exact ⟨_, rfl⟩
      have hb1 : Below wr.heap.size wr (wr.alloc (.cells #[.slice (some ⟨g, off, none⟩) j c2, .slice (some ad2) (L.length - (j + 1)) (c2 - (j + 1))] 22)).drew := ((Below.refl _ _).alloc (Nat.le_refl _) _).drew
      have HRow1 := Lib.hid (HRow.out.below hb1)
      have HN1 := Lib.hid (show News _ _ _ from news_take (k := j) HRow1.out)
      have HN2 := Lib.hid (show News _ _ _ from news_drop HRow1.out hj1 hc2 hif)
      have HB1 := Lib.hid hb1
      have HD0 := Lib.hid (World.cell?_alloc_at (w := wr) #[.slice (some ⟨g, off, none⟩) j c2, .slice (some ad2) (L.length - (j + 1)) (c2 - (j + 1))] 22 wr.heap.size 0 rfl)
      have HD1 := Lib.hid (World.cell?_alloc_at (w := wr) #[.slice (some ⟨g, off, none⟩) j c2, .slice (some ad2) (L.length - (j + 1)) (c2 - (j + 1))] 22 wr.heap.size 1 rfl)
      clear hb1
      go_wp2
      go_region_held3 (fun _ => True) (trivial)
        (first
        | (go_at_call 36
           refine (slConcat_cut L j (by omega) hLl ⟨g, off, none⟩ ad2 c2 (c2 - (j + 1)) wr.heap.size (wr.alloc (.cells #[.slice (some ⟨g, off, none⟩) j c2, .slice (some ad2) (L.length - (j + 1)) (c2 - (j + 1))] 22)).drew HN1.out HN2.out HD0.out HD1.out).mono ?_
           rintro e w2 ⟨v2, rfl, hown2, hb2⟩
           have HO2 := Lib.hid hown2
           have HB2 := Lib.hid (HB1.out.trans (hb2.mono (by simp)))
           clear hown2 hb2))
      all_goals
        obtain ⟨O, hO⟩ : ∃ O, O = L.take j ++ L.drop (j + 1) := ⟨_, rfl⟩
        have HO3 := Lib.hid (show OwnR w2 _ v2 O by rw [hO]; exact HO2.out)
        have hOle : O.length ≤ 1000 := by rw [hO, cut_len (by omega)]; omega
        have hjO : j ≤ O.length := by rw [hO, cut_len (by omega)]; omega
        have HFit := Lib.hid (show FitR n O by rw [hO]; exact fun x hx => hf x (HP.out.from_ x (cut_mem hx)))
        have HE := Lib.hid hO
        have hb02 := hbel.trans (HB2.out.mono hbel.size)
        have HRow2 := Lib.hid (HRow.out.below HB2.out)
        obtain ⟨g', off', hgo, f0, f1⟩ := RowR.at HRow2.out HR.out
        obtain ⟨rfl, rfl⟩ : g = g' ∧ off = off' := by simpa using hgo
        clear hO HO2 HB2 HN1 HN2 HB1 HD0 HD1 HRow1 hgo hif hwj hz0 hz2 hjj e0 e1
        obtain ⟨A3, c3, rfl, hc3, hrow3⟩ := OwnR.cap HO3.out
        have HRow3 := Lib.hid hrow3
        clear hrow3
        go_wp2_with fail
        refine (fwFol_any n hn O A3 c3 a b _ HRow3.out HFit.out (by omega) hab.1 (by omega)).mono ?_
        rintro e w3 ⟨rfl, hb3⟩
        have hb03 := hb02.trans (hb3.mono hb02.size)
        have HRow4 := Lib.hid (HRow3.out.below hb3)
        have HRow5 := Lib.hid (HRow2.out.below hb3)
        cases h : sub b (closeW n O a) with
        | true =>
          have HQ := Lib.hid (show PruI n l O j by rw [HE.out]; exact PruI.cut hf HP.out HR.out (by rw [← HE.out]; exact h))
          clear h
          go_wp2
          go_roundw
          case rel => exact ⟨j, O, A3, c3, rfl, by go_num, by omega, hc3, HQ.out, HRow4.out, hb03⟩
          case measure => simp [intOf]
        | false =>
          have HQ := Lib.hid (show PruI n l L j from PruI.keep HP.out HR.out (by rw [← HE.out]; exact h))
          clear h
          go_wp2
          go_roundw
          case rel => exact ⟨j, L, _, c2, rfl, by go_num, by omega, hc2, HQ.out, HRow5.out, hb03⟩
          case measure => simp [intOf]

end Go.Proofs.Ytdiofkkdhdhkaaa
