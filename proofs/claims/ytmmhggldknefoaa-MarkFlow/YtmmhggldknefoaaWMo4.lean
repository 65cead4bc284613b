/- mark.Play. -/
import Derived.Test.YtmmhggldknefoaaWMo3
import Derived.Test.YtmmhggldknefoaaRegI
import Derived.Test.YtmmhggldknefoaaFlat
namespace Go.Proofs.Ytmmhggldknefoaa
open Go.RowKit

theorem codeD_step {up : Bool} {cl th : Nat → Lab} {nc nt : Nat} {s : Ms} {d : Dd} (h : codeD nc nt d ≠ 0) : stepM up cl th nc nt s d = (codeD nc nt d, s) := by
  unfold codeD at h ⊢
  unfold stepM
  by_cases h1 : d.kind < 1 ∨ 3 < d.kind
  · rw [if_pos h1, if_pos h1]
  · rw [if_neg h1] at h
    rw [if_neg h1, if_neg h1]
    by_cases h2 : ArgBad nc nt d
    · rw [if_pos h2, if_pos h2]
    · rw [if_neg h2] at h
      exact absurd rfl h
theorem codeD_zero {nc nt : Nat} {d : Dd} (h : codeD nc nt d = 0) : ¬ (d.kind < 1 ∨ 3 < d.kind) ∧ ¬ ArgBad nc nt d := by
  unfold codeD at h
  split at h
  · cases h
  · rename_i h1
    split at h
    · cases h
    · rename_i h2
      exact ⟨h1, h2⟩
/-- What the first k deeds do. -/
def stP (cs ts : List Lab) (ds : List Dd) (k : Nat) : List Int × Ms := runM true (atL cs) (atL ts) cs.length ts.length (ds.take k)
theorem made_labs (n : Nat) : (madeCells (Value.agg #[.int .i64 0, .int .u32 0]).cells (n * 2)).toList = labsC (tabA n fun _ => (0, 0)) := by
  apply List.ext_getElem?
  intro i
  unfold labsC
  rw [flat_get labC 2 (fun _ => rfl) (by decide)]
  have hc : (Value.agg #[.int .i64 0, .int .u32 0]).cells = #[.int .i64 0, .int .u32 0] := rfl
  rw [hc]
  by_cases hi : i < n * 2
  · rw [tabA_get _ (by omega)]
    have h2 : i % 2 = 0 ∨ i % 2 = 1 := by omega
    rcases h2 with h | h <;> simp [madeCells, hi, h, labC]
  · rw [List.getElem?_eq_none (by simp [madeCells]; omega), List.getElem?_eq_none (l := tabA n _) (by simp; omega)]
    rfl
theorem made_words (n : Nat) : (madeCells #[Value.int .u32 0] n).toList = words (tabA n fun _ => 0) := by
  rw [toList_madeCells_one]
  apply List.ext_getElem?
  intro i
  by_cases hi : i < n <;> simp [words, tabA, hi]

/-- A row that is made, or is not yet. -/
def MkRow (b : Bool) (v : Value) (r : Rw) (e size n : Nat) (xs : List Value) : Prop :=
  (b = true ∧ ∃ g, v = .slice (some ⟨g, 0, none⟩) n n ∧ r = ⟨e, size, v, n, xs⟩) ∨ (b = false ∧ v = undef ∧ r = ⟨e, size, .slice none 0 0, 0, []⟩)
/-- A variable's box that is laid and holds u, or is laid, or is not yet. -/
def MkBox (b s : Bool) (v : Value) (r : Rw) (e : Nat) (u : Value) : Prop :=
  (b = true ∧ ∃ g, v = .pointer (some ⟨g, 0, none⟩) ∧ ((s = true ∧ r = ⟨e, 1, .slice (some ⟨g, 0, none⟩) 1 1, 1, [u]⟩) ∨ (s = false ∧ r = ⟨e, 1, .slice (some ⟨g, 0, none⟩) 1 1, 1, [.slice none 0 0]⟩))) ∨
  (b = false ∧ s = false ∧ v = undef ∧ r = ⟨e, 1, .slice none 0 0, 0, []⟩)
theorem MkBox.other {b : Bool} {v : Value} {r : Rw} {e : Nat} {u u' : Value} (h : MkBox b false v r e u) : MkBox b false v r e u' := by
  rcases h with ⟨h1, g, h2, ⟨h3, _⟩ | ⟨_, h4⟩⟩ | ⟨h1, h2, h3, h4⟩
  · cases h3
  · exact .inl ⟨h1, g, h2, .inr ⟨rfl, h4⟩⟩
  · exact .inr ⟨h1, h2, h3, h4⟩
/-- What holds between the operations that make a script's memory. -/
def PlayJ (w : World) (gC gT gR : Nat) (A A2 : Option Addr) (nc nt c c2 : Nat) (a0 : Act) (l : Array Bool) (a : Act) (W : World) : Prop :=
  ∃ (b2 b5 b8 b9 b10 b11 b12 b13 b14 : Bool) (v9 v10 v11 v26 v29 v32 : Value) (rM rK rF r5 r6 r7 : Rw),
    l = #[true, true, b2, true, true, b5, true, true, b8, b9, b10, b11, b12, b13, b14] ∧
    a = putL a0 [(9, v9), (10, v10), (11, v11), (26, v26), (29, v29), (32, v32)] ∧
    RowsM w [⟨22, 1, .slice (some ⟨gC, 0, none⟩) 1 1, 1, [.slice A nc c]⟩, ⟨22, 1, .slice (some ⟨gT, 0, none⟩) 1 1, 1, [.slice A2 nt c2]⟩, rM, rK, rF, r5, r6, r7, ⟨27, 3, .slice (some ⟨gR, 0, none⟩) 1 1, 1, [.slice none 0 0, .slice none 0 0, .slice none 0 0]⟩] W ∧
    MkRow b2 v26 r5 40 2 nc (labsC (tabA nc fun _ => (0, 0))) ∧ MkRow b5 v29 r6 38 1 nc (words (tabA nc fun _ => 0)) ∧ MkRow b8 v32 r7 38 1 nt (words (tabA nt one)) ∧
    MkBox b9 b12 v9 rM 22 v26 ∧ MkBox b10 b13 v10 rK 25 v29 ∧ MkBox b11 b14 v11 rF 25 v32 ∧
    (b12 = true → b2 = true ∧ b8 = true ∧ b9 = true ∧ b10 = true ∧ b11 = true) ∧ (b13 = true → b12 = true ∧ b5 = true) ∧ (b14 = true → b13 = true)
theorem PlayJ.kept {w W : World} {gC gT gR nc nt c c2 : Nat} {A A2 : Option Addr} {a0 a : Act} {l : Array Bool} (h : PlayJ w gC gT gR A A2 nc nt c c2 a0 l a W) :
    W.cell? ⟨gC, 0, none⟩ = some (.slice A nc c) ∧ W.cell? ⟨gT, 0, none⟩ = some (.slice A2 nt c2) := by
  obtain ⟨_, _, _, _, _, _, _, _, _, _, _, _, _, _, _, _, _, _, _, _, _, _, _, hM, _⟩ := h
  exact ⟨hM.cell (k := 0) rfl (j := 0) rfl, hM.cell (k := 1) rfl (j := 0) rfl⟩
theorem PlayJ.start {w W : World} {gC gT gR nc nt c c2 : Nat} {A A2 : Option Addr} {a0 : Act} (h9 : a0.put (some 9) undef = a0) (h10 : a0.put (some 10) undef = a0) (h11 : a0.put (some 11) undef = a0) (h26 : a0.put (some 26) undef = a0) (h29 : a0.put (some 29) undef = a0) (h32 : a0.put (some 32) undef = a0)
    (hM : RowsM w [⟨27, 3, .slice (some ⟨gR, 0, none⟩) 1 1, 1, [.slice none 0 0, .slice none 0 0, .slice none 0 0]⟩, ⟨22, 1, .slice (some ⟨gT, 0, none⟩) 1 1, 1, [.slice A2 nt c2]⟩, ⟨22, 1, .slice (some ⟨gC, 0, none⟩) 1 1, 1, [.slice A nc c]⟩] W) :
    PlayJ w gC gT gR A A2 nc nt c c2 a0 #[true, true, false, true, true, false, true, true, false, false, false, false, false, false, false] a0 W := by
  refine ⟨false, false, false, false, false, false, false, false, false, undef, undef, undef, undef, undef, undef, _, _, _, _, _, _, rfl, (putL_undef _ _ (by simp [h9, h10, h11, h26, h29, h32])).symm, ?_, .inr ⟨rfl, rfl, rfl⟩, .inr ⟨rfl, rfl, rfl⟩, .inr ⟨rfl, rfl, rfl⟩, .inr ⟨rfl, rfl, rfl, rfl⟩, .inr ⟨rfl, rfl, rfl, rfl⟩, .inr ⟨rfl, rfl, rfl, rfl⟩, by simp, by simp, by simp⟩
  have h := (((((hM.newNil 22 1).newNil 25 1).newNil 25 1).newNil 40 2).newNil 38 1).newNil 38 1
  refine h.sub (fun i => if i = 0 then 2 else if i = 8 then 0 else if i = 1 then 1 else i + 1) (fun i j hi hj e => ?_) (fun i r hr => ?_)
  · simp only [List.length_cons, List.length_nil] at hi hj
    (repeat' split at e) <;> omega
  · match i with
    | 0 => exact hr
    | 1 => exact hr
    | 2 => exact hr
    | 3 => exact hr
    | 4 => exact hr
    | 5 => exact hr
    | 6 => exact hr
    | 7 => exact hr
    | 8 => exact hr
    | i + 9 => simp at hr

set_option maxRecDepth 100000 in
set_option maxHeartbeats 4000000 in
theorem MPlay_ok : MPlayOk 6 true := by
  intro cs A c ts A2 c2 ds A3 c3 w hm hcap h32 hr hm2 hcap2 h322 hr2 hm3 hcap3 hr3 hX
  have kC := fun W hb => mCheck_any cs ts A A2 A3 c c2 c3 ds.length W (hr.below hb) (hr2.below hb)
  have hM := (((RowsM.nil w).box (cs := #[.slice A cs.length c]) (t := 22) 1 rfl).box (cs := #[.slice A2 ts.length c2]) (t := 22) 1 rfl).box (cs := #[.slice none 0 0, .slice none 0 0, .slice none 0 0]) (t := 27) 3 rfl
  simp only [World.size_alloc] at hM
  have HM := Lib.hid hM
  have z0 := hM.cell (k := 0) rfl (j := 0) rfl
  have z1 := hM.cell (k := 1) rfl (j := 0) rfl
  have z2 := hM.cell (k := 2) rfl (j := 0) rfl
  clear hM
  by_cases hc : codeM cs ts ds.length = 0
  · obtain ⟨g1, g2, g3, g4, g5, g6⟩ := codeM_zero hc
    rw [hc] at kC ⊢
    have H5 := Lib.hid g5
    have H6 := Lib.hid g6
    have HC0 := Lib.hid hc
    obtain ⟨i0, hi0, hz0, hz1, hz2⟩ := info_parts infoLb
    obtain ⟨i1, hi1, hy0, hy1, hy2⟩ := info_parts infoU32
    have HI0 := Lib.hid (And.intro hi0 (And.intro hz0 (And.intro hz1 hz2)))
    have HI1 := Lib.hid (And.intro hi1 (And.intro hy0 (And.intro hy1 hy2)))
    clear g5 g6 hi0 hz0 hz1 hz2 hi1 hy0 hy1 hy2
    go_enter Try.func6, Try.ntmps6
    go_wp2_with fail
    generalize ((w.alloc _).alloc _).alloc _ = w1 at *
    refine (kC _ HM.out.below).mono ?_
    rintro e w2 ⟨rfl, hb2⟩
    have HM2 := Lib.hid (HM.out.grow hb2)
    clear z0 z1 z2 HM kC hc
    generalize w.heap.size + 1 + 1 = gR at *
    generalize w.heap.size + 1 = gT at *
    generalize w.heap.size = gC at *
    go_upto_region 4 with fail
    go_cut [9, 10, 11] (fun v9 v10 v11 wx => ∃ gM gK gF bm bk bf, v9 = .pointer (some ⟨gM, 0, none⟩) ∧ v10 = .pointer (some ⟨gK, 0, none⟩) ∧ v11 = .pointer (some ⟨gF, 0, none⟩) ∧
      RowsM w (rowsE gC gT gM gK gF bm bk bf A A2 cs.length ts.length c c2 (tabA cs.length fun _ => (0, 0)) (tabA cs.length fun _ => 0) (tabA ts.length one) [⟨27, 3, .slice (some ⟨gR, 0, none⟩) 1 1, 1, [.slice none 0 0, .slice none 0 0, .slice none 0 0]⟩]) wx)
    case first =>
      refine wp_region_held_drew (S := fun W => W.cell? ⟨gC, 0, none⟩ = some (.slice A cs.length c) ∧ W.cell? ⟨gT, 0, none⟩ = some (.slice A2 ts.length c2)) (by kernel_rfl) ⟨HM2.out.drew.cell (k := 2) rfl (j := 0) rfl, HM2.out.drew.cell (k := 1) rfl (j := 0) rfl⟩ (fun hHeld => ?_)
      refine' wpAnyH_take (i := 0) (oi := ⟨some 24, _, _, _, _, none⟩) (v := _) rfl (by kernel_rfl) (by kernel_rfl) (by kernel_rfl) (fun _ _ _ h => h) (Or.inl ⟨by rfl, ?hyp0⟩) hHeld ?restp0
      case hyp0 => (intro W hSw; obtain ⟨s1, s2⟩ := hSw; go_simp; try with_reducible rfl)
      simp only [Act.put, List.setIfInBounds_toArray, List.set_cons_zero, List.set_cons_succ]
      refine' wpAnyH_take (i := 1) (oi := ⟨some 25, _, _, _, _, none⟩) (v := _) rfl (by kernel_rfl) (by kernel_rfl) (by kernel_rfl) (fun _ _ _ h => h) (Or.inl ⟨by rfl, ?hyp1⟩) hHeld ?restp1
      case hyp1 => (intro W hSw; obtain ⟨s1, s2⟩ := hSw; go_simp; try with_reducible rfl)
      simp only [Act.put, List.setIfInBounds_toArray, List.set_cons_zero, List.set_cons_succ]
      refine' wpAnyH_take (i := 3) (oi := ⟨some 27, _, _, _, _, none⟩) (v := _) rfl (by kernel_rfl) (by kernel_rfl) (by kernel_rfl) (fun _ _ _ h => h) (Or.inl ⟨by rfl, ?hyp3⟩) hHeld ?restp3
      case hyp3 => (intro W hSw; obtain ⟨s1, s2⟩ := hSw; go_simp; try with_reducible rfl)
      simp only [Act.put, List.setIfInBounds_toArray, List.set_cons_zero, List.set_cons_succ]
      refine' wpAnyH_take (i := 4) (oi := ⟨some 28, _, _, _, _, none⟩) (v := _) rfl (by kernel_rfl) (by kernel_rfl) (by kernel_rfl) (fun _ _ _ h => h) (Or.inl ⟨by rfl, ?hyp4⟩) hHeld ?restp4
      case hyp4 => (intro W hSw; obtain ⟨s1, s2⟩ := hSw; go_simp; try with_reducible rfl)
      simp only [Act.put, List.setIfInBounds_toArray, List.set_cons_zero, List.set_cons_succ]
      refine' wpAnyH_take (i := 6) (oi := ⟨some 30, _, _, _, _, none⟩) (v := _) rfl (by kernel_rfl) (by kernel_rfl) (by kernel_rfl) (fun _ _ _ h => h) (Or.inl ⟨by rfl, ?hyp6⟩) hHeld ?restp6
      case hyp6 => (intro W hSw; obtain ⟨s1, s2⟩ := hSw; go_simp; try with_reducible rfl)
      simp only [Act.put, List.setIfInBounds_toArray, List.set_cons_zero, List.set_cons_succ]
      refine' wpAnyH_take (i := 7) (oi := ⟨some 31, _, _, _, _, none⟩) (v := _) rfl (by kernel_rfl) (by kernel_rfl) (by kernel_rfl) (fun _ _ _ h => h) (Or.inl ⟨by rfl, ?hyp7⟩) hHeld ?restp7
      case hyp7 => (intro W hSw; obtain ⟨s1, s2⟩ := hSw; go_simp; try with_reducible rfl)
      simp only [Act.put, List.setIfInBounds_toArray, List.set_cons_zero, List.set_cons_succ]
      refine wpAnyH_invB (PlayJ w gC gT gR A A2 cs.length ts.length c c2) (fun a0 => 33 ≤ a0.tmps.size ∧ a0.eval (.tmp 25) = .int .i64 cs.length ∧ a0.eval (.tmp 28) = .int .i64 cs.length ∧ a0.eval (.tmp 31) = .int .i64 ts.length) ⟨by simp, rfl, rfl, rfl⟩ ?hkept ?hstep ?hend _ _ _ (by decide) (PlayJ.start rfl rfl rfl rfl rfl rfl HM2.out.drew)
      case hkept => exact fun _ _ l a W h => h.kept
      case hend =>
        intro l a W hJ hr
        obtain ⟨b2, b5, b8, b9, b10, b11, b12, b13, b14, v9, v10, v11, v26, v29, v32, rM, rK, rF, r5, r6, r7, rfl, rfl, hM, k2, k5, k8, k9, k10, k11, q12, q13, q14⟩ := hJ
        have no : ∀ i, i ∉ ([] : List Nat) := by simp
        rw [← hr] at no
        obtain rfl : b9 = true := by cases b9 with | true => rfl | false => exact absurd (mem_ready.2 ⟨rfl, _, rfl, by simp⟩) (no 9)
        obtain rfl : b10 = true := by cases b10 with | true => rfl | false => exact absurd (mem_ready.2 ⟨rfl, _, rfl, by simp⟩) (no 10)
        obtain rfl : b11 = true := by cases b11 with | true => rfl | false => exact absurd (mem_ready.2 ⟨rfl, _, rfl, by simp⟩) (no 11)
        obtain rfl : b2 = true := by cases b2 with | true => rfl | false => exact absurd (mem_ready.2 ⟨rfl, _, rfl, by simp⟩) (no 2)
        obtain rfl : b5 = true := by cases b5 with | true => rfl | false => exact absurd (mem_ready.2 ⟨rfl, _, rfl, by simp⟩) (no 5)
        obtain rfl : b8 = true := by cases b8 with | true => rfl | false => exact absurd (mem_ready.2 ⟨rfl, _, rfl, by simp⟩) (no 8)
        obtain rfl : b12 = true := by cases b12 with | true => rfl | false => exact absurd (mem_ready.2 ⟨rfl, _, rfl, by simp [Region.binds]⟩) (no 12)
        obtain rfl : b13 = true := by cases b13 with | true => rfl | false => exact absurd (mem_ready.2 ⟨rfl, _, rfl, by simp [Region.binds]⟩) (no 13)
        obtain rfl : b14 = true := by cases b14 with | true => rfl | false => exact absurd (mem_ready.2 ⟨rfl, _, rfl, by simp [Region.binds]⟩) (no 14)
        clear no hr q12 q13 q14
        rcases k2 with ⟨_, bm, rfl, rfl⟩ | ⟨h, _⟩
        rotate_left
        · cases h
        rcases k5 with ⟨_, bk, rfl, rfl⟩ | ⟨h, _⟩
        rotate_left
        · cases h
        rcases k8 with ⟨_, bf, rfl, rfl⟩ | ⟨h, _⟩
        rotate_left
        · cases h
        rcases k9 with ⟨_, gM, rfl, ⟨_, rfl⟩ | ⟨h, _⟩⟩ | ⟨h, _⟩
        rotate_left
        · cases h
        · cases h
        rcases k10 with ⟨_, gK, rfl, ⟨_, rfl⟩ | ⟨h, _⟩⟩ | ⟨h, _⟩
        rotate_left
        · cases h
        · cases h
        rcases k11 with ⟨_, gF, rfl, ⟨_, rfl⟩ | ⟨h, _⟩⟩ | ⟨h, _⟩
        rotate_left
        · cases h
        · cases h
        have HM3 := Lib.hid hM
        clear hM hHeld HM2
        simp only [putL, List.foldl_cons, List.foldl_nil, Act.put, List.setIfInBounds_toArray, List.set_cons_zero, List.set_cons_succ]
        go_wp2_with fail
        go_meet
        exact ⟨gM, gK, gF, bm, bk, bf, rfl, rfl, rfl, HM3.out⟩
      case hstep =>
        intro a0 ⟨F0, F1, F2, F3⟩ l a W i hJ hi K hK
        obtain ⟨h0, oj, hoj, hall⟩ := mem_ready.1 hi
        obtain ⟨b2, b5, b8, b9, b10, b11, b12, b13, b14, v9, v10, v11, v26, v29, v32, rM, rK, rF, r5, r6, r7, rfl, rfl, hM, k2, k5, k8, k9, k10, k11, q12, q13, q14⟩ := hJ
        clear hi
        have hi : i = 2 ∨ i = 5 ∨ i = 8 ∨ i = 9 ∨ i = 10 ∨ i = 11 ∨ i = 12 ∨ i = 13 ∨ i = 14 := by
          match i, h0 with
          | 0, h => cases h
          | 1, h => cases h
          | 3, h => cases h
          | 4, h => cases h
          | 6, h => cases h
          | 7, h => cases h
          | 2, _ => simp
          | 5, _ => simp
          | 8, _ => simp
          | 9, _ => simp
          | 10, _ => simp
          | 11, _ => simp
          | 12, _ => simp
          | 13, _ => simp
          | 14, _ => simp
          | n + 15, h => simp at h
        rcases hi with rfl | rfl | rfl | rfl | rfl | rfl | rfl | rfl | rfl
        · obtain rfl : b2 = false := h0
          rcases k2 with ⟨h, _⟩ | ⟨_, rfl, rfl⟩
          · cases h
          obtain rfl : b12 = false := by cases b12 with | false => rfl | true => exact absurd (q12 rfl).1 (by simp)
          obtain rfl : b13 = false := by cases b13 with | false => rfl | true => exact absurd (q13 rfl).1 (by simp)
          obtain rfl : b14 = false := by cases b14 with | false => rfl | true => exact absurd (q14 rfl) (by simp)
          generalize hA : putL a0 _ = aa
          have e1 := (show aa.eval (.tmp 25) = a0.eval (.tmp 25) by rw [← hA]; exact putL_ne _ _ _ (show _ ∉ [9, 10, 11, 26, 29, 32] by decide)).trans F1
          have e2 : i0.bytes * cs.length ≤ 281474976710656 := by rw [HI0.out.2.2.2]; omega
          refine wpOp_of (o := ⟨some 26, .makeSlice 22 (.tmp 25) (.tmp 25), _, _, _, none⟩) rfl rfl ?_
          refine wp_make_full (.tmp 25) (.tmp 25) 22 rfl w.heap.size 40 i0 (.agg #[.int .i64 0, .int .u32 0]) 2 Try.underlying22 HI0.out.1 HI0.out.2.1 HI0.out.2.2.1 .i64 .i64 cs.length e1 e1 e2 (by unfold maxLen; omega) hM.below.size ?_
          intro W' hown hgr
          rw [made_labs] at hown
          have hb := (Below.refl W.heap.size W).grown hgr (Nat.le_refl _) (by intro k hk; cases hk)
          exact hK _ _ ⟨true, b5, b8, b9, b10, b11, false, false, false, v9, v10, v11, .slice (some ⟨W.heap.size, 0, none⟩) cs.length cs.length, v29, v32, rM, rK, rF, _, r6, r7, rfl, (by rw [← hA]; exact putL_put _ _ 3 _ _ _ rfl (show List.Nodup [9, 10, 11, 26, 29, 32] by decide)), hM.fill (k := 5) rfl hb hown (fun g e => by simp [Value.ownBlock] at e; omega), .inl ⟨rfl, _, rfl, rfl⟩, k5, k8, k9.other, k10, k11, by simp, by simp, by simp⟩
        · obtain rfl : b5 = false := h0
          rcases k5 with ⟨h, _⟩ | ⟨_, rfl, rfl⟩
          · cases h
          obtain rfl : b13 = false := by cases b13 with | false => rfl | true => exact absurd (q13 rfl).2 (by simp)
          obtain rfl : b14 = false := by cases b14 with | false => rfl | true => exact absurd (q14 rfl) (by simp)
          generalize hA : putL a0 _ = aa
          have e1 := (show aa.eval (.tmp 28) = a0.eval (.tmp 28) by rw [← hA]; exact putL_ne _ _ _ (show _ ∉ [9, 10, 11, 26, 29, 32] by decide)).trans F2
          have e2 : i1.bytes * cs.length ≤ 281474976710656 := by rw [HI1.out.2.2.2]; omega
          refine wpOp_of (o := ⟨some 29, .makeSlice 25 (.tmp 28) (.tmp 28), _, _, _, none⟩) rfl rfl ?_
          refine wp_make_full (.tmp 28) (.tmp 28) 25 rfl w.heap.size 38 i1 (.int .u32 0) 1 Try.underlying25 HI1.out.1 HI1.out.2.1 HI1.out.2.2.1 .i64 .i64 cs.length e1 e1 e2 (by unfold maxLen; omega) hM.below.size ?_
          intro W' hown hgr
          rw [Nat.mul_one, show (Value.int .u32 0).cells = #[Value.int .u32 0] from rfl, made_words] at hown
          have hb := (Below.refl W.heap.size W).grown hgr (Nat.le_refl _) (by intro k hk; cases hk)
          exact hK _ _ ⟨b2, true, b8, b9, b10, b11, b12, false, false, v9, v10, v11, v26, .slice (some ⟨W.heap.size, 0, none⟩) cs.length cs.length, v32, rM, rK, rF, r5, _, r7, rfl, (by rw [← hA]; exact putL_put _ _ 4 _ _ _ rfl (show List.Nodup [9, 10, 11, 26, 29, 32] by decide)), hM.fill (k := 6) rfl hb hown (fun g e => by simp [Value.ownBlock] at e; omega), k2, .inl ⟨rfl, _, rfl, rfl⟩, k8, k9, k10.other, k11, q12, by simp, by simp⟩
        · obtain rfl : b8 = false := h0
          rcases k8 with ⟨h, _⟩ | ⟨_, rfl, rfl⟩
          · cases h
          obtain rfl : b12 = false := by cases b12 with | false => rfl | true => exact absurd (q12 rfl).2.1 (by simp)
          obtain rfl : b13 = false := by cases b13 with | false => rfl | true => exact absurd (q13 rfl).1 (by simp)
          obtain rfl : b14 = false := by cases b14 with | false => rfl | true => exact absurd (q14 rfl) (by simp)
          generalize hA : putL a0 _ = aa
          have e1 := (show aa.eval (.tmp 31) = a0.eval (.tmp 31) by rw [← hA]; exact putL_ne _ _ _ (show _ ∉ [9, 10, 11, 26, 29, 32] by decide)).trans F3
          refine wpOp_of (o := ⟨some 32, .call { callee := .value (.func 18), args := #[.tmp 31], argTypes := #[3] }, _, _, _, none⟩) rfl rfl ?_
          refine wp_call_fn 18 (.tmp 31) 3 rfl (.int .i64 ts.length) e1 (by go_simp) ?_
          refine (mOwn_any ts.length (by omega) W).mono ?_
          rintro e W' ⟨g, rfl, hown, hb⟩
          exact ⟨_, rfl, hK _ _ ⟨b2, b5, true, b9, b10, b11, false, false, false, v9, v10, v11, v26, v29, .slice (some ⟨g, 0, none⟩) ts.length ts.length, rM, rK, rF, r5, r6, _, rfl, (by rw [← hA]; exact putL_put _ _ 5 _ _ _ rfl (show List.Nodup [9, 10, 11, 26, 29, 32] by decide)), hM.fill (k := 7) rfl hb (rw_rebase hown hM.below.size) (fun g' e => (World.ownsRow.lt hown g' e).1), k2, k5, .inl ⟨rfl, _, rfl, rfl⟩, k9, k10, k11.other, by simp, by simp, by simp⟩⟩
        · obtain rfl : b9 = false := h0
          rcases k9 with ⟨h, _⟩ | ⟨_, _, rfl, rfl⟩
          · cases h
          obtain rfl : b12 = false := by cases b12 with | false => rfl | true => exact absurd (q12 rfl).2.2.1 (by simp)
          obtain rfl : b13 = false := by cases b13 with | false => rfl | true => exact absurd (q13 rfl).1 (by simp)
          obtain rfl : b14 = false := by cases b14 with | false => rfl | true => exact absurd (q14 rfl) (by simp)
          generalize hA : putL a0 _ = aa
          have hN := hM.fill (k := 2) rfl ((Below.refl W.heap.size W).alloc (Nat.le_refl _) (.cells #[.slice none 0 0] 22)) (World.ownsRow_lit (e := 22) (size := 1) W #[.slice none 0 0] 1 hM.below.size (by decide) rfl) (fun g e => by simp [Value.ownBlock] at e; omega)
          refine wpOp_of (o := ⟨some 9, .alloc 22, _, _, _, none⟩) rfl rfl ?_
          refine wp_make_box 22 rfl #[.slice none 0 0] (by go_simp) ?_
          exact hK _ _ ⟨b2, b5, b8, true, b10, b11, false, false, false, .pointer (some ⟨W.heap.size, 0, none⟩), v10, v11, v26, v29, v32, _, rK, rF, r5, r6, r7, rfl, (by rw [← hA]; exact putL_put _ _ 0 _ _ _ rfl (show List.Nodup [9, 10, 11, 26, 29, 32] by decide)), hN, k2, k5, k8, .inl ⟨rfl, _, rfl, .inr ⟨rfl, rfl⟩⟩, k10, k11, by simp, by simp, by simp⟩
        · obtain rfl : b10 = false := h0
          rcases k10 with ⟨h, _⟩ | ⟨_, _, rfl, rfl⟩
          · cases h
          obtain rfl : b12 = false := by cases b12 with | false => rfl | true => exact absurd (q12 rfl).2.2.2.1 (by simp)
          obtain rfl : b13 = false := by cases b13 with | false => rfl | true => exact absurd (q13 rfl).1 (by simp)
          obtain rfl : b14 = false := by cases b14 with | false => rfl | true => exact absurd (q14 rfl) (by simp)
          generalize hA : putL a0 _ = aa
          have hN := hM.fill (k := 3) rfl ((Below.refl W.heap.size W).alloc (Nat.le_refl _) (.cells #[.slice none 0 0] 25)) (World.ownsRow_lit (e := 25) (size := 1) W #[.slice none 0 0] 1 hM.below.size (by decide) rfl) (fun g e => by simp [Value.ownBlock] at e; omega)
          refine wpOp_of (o := ⟨some 10, .alloc 25, _, _, _, none⟩) rfl rfl ?_
          refine wp_make_box 25 rfl #[.slice none 0 0] (by go_simp) ?_
          exact hK _ _ ⟨b2, b5, b8, b9, true, b11, false, false, false, v9, .pointer (some ⟨W.heap.size, 0, none⟩), v11, v26, v29, v32, rM, _, rF, r5, r6, r7, rfl, (by rw [← hA]; exact putL_put _ _ 1 _ _ _ rfl (show List.Nodup [9, 10, 11, 26, 29, 32] by decide)), hN, k2, k5, k8, k9, .inl ⟨rfl, _, rfl, .inr ⟨rfl, rfl⟩⟩, k11, by simp, by simp, by simp⟩
        · obtain rfl : b11 = false := h0
          rcases k11 with ⟨h, _⟩ | ⟨_, _, rfl, rfl⟩
          · cases h
          obtain rfl : b12 = false := by cases b12 with | false => rfl | true => exact absurd (q12 rfl).2.2.2.2 (by simp)
          obtain rfl : b13 = false := by cases b13 with | false => rfl | true => exact absurd (q13 rfl).1 (by simp)
          obtain rfl : b14 = false := by cases b14 with | false => rfl | true => exact absurd (q14 rfl) (by simp)
          generalize hA : putL a0 _ = aa
          have hN := hM.fill (k := 4) rfl ((Below.refl W.heap.size W).alloc (Nat.le_refl _) (.cells #[.slice none 0 0] 25)) (World.ownsRow_lit (e := 25) (size := 1) W #[.slice none 0 0] 1 hM.below.size (by decide) rfl) (fun g e => by simp [Value.ownBlock] at e; omega)
          refine wpOp_of (o := ⟨some 11, .alloc 25, _, _, _, none⟩) rfl rfl ?_
          refine wp_make_box 25 rfl #[.slice none 0 0] (by go_simp) ?_
          exact hK _ _ ⟨b2, b5, b8, b9, b10, true, false, false, false, v9, v10, .pointer (some ⟨W.heap.size, 0, none⟩), v26, v29, v32, rM, rK, _, r5, r6, r7, rfl, (by rw [← hA]; exact putL_put _ _ 2 _ _ _ rfl (show List.Nodup [9, 10, 11, 26, 29, 32] by decide)), hN, k2, k5, k8, k9, k10, .inl ⟨rfl, _, rfl, .inr ⟨rfl, rfl⟩⟩, by simp, by simp, by simp⟩
        · obtain rfl : b12 = false := h0
          obtain rfl := Option.some.inj hoj
          obtain rfl : b9 = true := hall _ (Array.mem_of_getElem? (i := 0) rfl) rfl
          obtain rfl : b2 = true := hall _ (Array.mem_of_getElem? (i := 1) rfl) rfl
          obtain rfl : b8 = true := hall _ (Array.mem_of_getElem? (i := 2) rfl) rfl
          obtain rfl : b10 = true := hall _ (Array.mem_of_getElem? (i := 13) rfl) rfl
          obtain rfl : b11 = true := hall _ (Array.mem_of_getElem? (i := 14) rfl) rfl
          rcases k9 with ⟨_, g, rfl, ⟨h, _⟩ | ⟨_, rfl⟩⟩ | ⟨h, _⟩
          · cases h
          rotate_left
          · cases h
          have c0 := hM.cell (k := 2) rfl (j := 0) rfl
          have f0 := hM.free (k := 2) rfl 0
          have hN := hM.store (k := 2) rfl 0 v26
          have k1 := k2
          rcases k2 with ⟨_, g1, rfl, _⟩ | ⟨h, _⟩
          rotate_left
          · cases h
          generalize hA : putL a0 _ = aa
          have e1 : aa.eval (.tmp 9) = .pointer (some ⟨g, 0, none⟩) := by rw [← hA]; exact putL_at _ _ 0 _ _ rfl (show List.Nodup [9, 10, 11, 26, 29, 32] by decide) (by omega)
          have e2 : aa.eval (.tmp 26) = .slice (some ⟨g1, 0, none⟩) cs.length cs.length := by rw [← hA]; exact putL_at _ _ 3 _ _ rfl (show List.Nodup [9, 10, 11, 26, 29, 32] by decide) (by omega)
          refine wpOp_of (o := ⟨none, .store 22 (.tmp 9) (.tmp 26), _, _, _, none⟩) rfl rfl ?_
          refine wp_store_one 22 (.tmp 9) (.tmp 26) rfl _ _ (W.setCell ⟨g, 0, none⟩ (.slice (some ⟨g1, 0, none⟩) cs.length cs.length)) e1 e2 (by go_simp) ?_
          exact hK _ _ ⟨true, b5, true, true, true, true, true, b13, b14, _, v10, v11, _, v29, v32, _, rK, rF, r5, r6, r7, rfl, hA.symm, hN, k1, k5, k8, .inl ⟨rfl, _, rfl, .inl ⟨rfl, rfl⟩⟩, k10, k11, fun _ => ⟨rfl, rfl, rfl, rfl, rfl⟩, fun h => absurd (q13 h).1 (by simp), q14⟩
        · obtain rfl : b13 = false := h0
          obtain rfl := Option.some.inj hoj
          obtain rfl : b10 = true := hall _ (Array.mem_of_getElem? (i := 0) rfl) rfl
          obtain rfl : b5 = true := hall _ (Array.mem_of_getElem? (i := 1) rfl) rfl
          obtain rfl : b12 = true := hall _ (Array.mem_of_getElem? (i := 2) rfl) rfl
          rcases k10 with ⟨_, g, rfl, ⟨h, _⟩ | ⟨_, rfl⟩⟩ | ⟨h, _⟩
          · cases h
          rotate_left
          · cases h
          have c0 := hM.cell (k := 3) rfl (j := 0) rfl
          have f0 := hM.free (k := 3) rfl 0
          have hN := hM.store (k := 3) rfl 0 v29
          have k1 := k5
          rcases k5 with ⟨_, g1, rfl, _⟩ | ⟨h, _⟩
          rotate_left
          · cases h
          generalize hA : putL a0 _ = aa
          have e1 : aa.eval (.tmp 10) = .pointer (some ⟨g, 0, none⟩) := by rw [← hA]; exact putL_at _ _ 1 _ _ rfl (show List.Nodup [9, 10, 11, 26, 29, 32] by decide) (by omega)
          have e2 : aa.eval (.tmp 29) = .slice (some ⟨g1, 0, none⟩) cs.length cs.length := by rw [← hA]; exact putL_at _ _ 4 _ _ rfl (show List.Nodup [9, 10, 11, 26, 29, 32] by decide) (by omega)
          refine wpOp_of (o := ⟨none, .store 25 (.tmp 10) (.tmp 29), _, _, _, none⟩) rfl rfl ?_
          refine wp_store_one 25 (.tmp 10) (.tmp 29) rfl _ _ (W.setCell ⟨g, 0, none⟩ (.slice (some ⟨g1, 0, none⟩) cs.length cs.length)) e1 e2 (by go_simp) ?_
          exact hK _ _ ⟨b2, true, b8, b9, true, b11, true, true, b14, v9, _, v11, v26, _, v32, rM, _, rF, r5, r6, r7, rfl, hA.symm, hN, k2, k1, k8, k9, .inl ⟨rfl, _, rfl, .inl ⟨rfl, rfl⟩⟩, k11, q12, fun _ => ⟨rfl, rfl⟩, fun _ => rfl⟩
        · obtain rfl : b14 = false := h0
          obtain rfl := Option.some.inj hoj
          obtain rfl : b11 = true := hall _ (Array.mem_of_getElem? (i := 0) rfl) rfl
          obtain rfl : b8 = true := hall _ (Array.mem_of_getElem? (i := 1) rfl) rfl
          obtain rfl : b13 = true := hall _ (Array.mem_of_getElem? (i := 2) rfl) rfl
          rcases k11 with ⟨_, g, rfl, ⟨h, _⟩ | ⟨_, rfl⟩⟩ | ⟨h, _⟩
          · cases h
          rotate_left
          · cases h
          have c0 := hM.cell (k := 4) rfl (j := 0) rfl
          have f0 := hM.free (k := 4) rfl 0
          have hN := hM.store (k := 4) rfl 0 v32
          have k1 := k8
          rcases k8 with ⟨_, g1, rfl, _⟩ | ⟨h, _⟩
          rotate_left
          · cases h
          generalize hA : putL a0 _ = aa
          have e1 : aa.eval (.tmp 11) = .pointer (some ⟨g, 0, none⟩) := by rw [← hA]; exact putL_at _ _ 2 _ _ rfl (show List.Nodup [9, 10, 11, 26, 29, 32] by decide) (by omega)
          have e2 : aa.eval (.tmp 32) = .slice (some ⟨g1, 0, none⟩) ts.length ts.length := by rw [← hA]; exact putL_at _ _ 5 _ _ rfl (show List.Nodup [9, 10, 11, 26, 29, 32] by decide) (by omega)
          refine wpOp_of (o := ⟨none, .store 25 (.tmp 11) (.tmp 32), _, _, _, none⟩) rfl rfl ?_
          refine wp_store_one 25 (.tmp 11) (.tmp 32) rfl _ _ (W.setCell ⟨g, 0, none⟩ (.slice (some ⟨g1, 0, none⟩) ts.length ts.length)) e1 e2 (by go_simp) ?_
          exact hK _ _ ⟨b2, b5, true, b9, b10, true, b12, true, true, v9, v10, _, v26, v29, _, rM, rK, _, r5, r6, r7, rfl, hA.symm, hN, k2, k5, k1, k9, k10, .inl ⟨rfl, _, rfl, .inl ⟨rfl, rfl⟩⟩, q12, q13, fun _ => rfl⟩
    case rest =>
    obtain ⟨gM, gK, gF, bm, bk, bf, rfl, rfl, rfl, hm4⟩ := hcut
    have HM4 := Lib.hid hm4
    clear hm4 hb2 HM2
    obtain ⟨i2, hi2, hx0, hx1, hx2⟩ := info_parts infoEr
    have HI2 := Lib.hid (And.intro hi2 (And.intro hx0 (And.intro hx1 hx2)))
    clear hi2 hx0 hx1 hx2
    go_wp2_with (at_make; refine wpList_make_full _ rfl _ _ 24 rfl w.heap.size 28 i2 (.int .i64 0) 1 Try.underlying24 HI2.out.1 HI2.out.2.1 HI2.out.2.2.1 .i64 .i64 ds.length ds.length ds.length rfl rfl rfl rfl ?b2 ?b3 ?b4 ?c5)
    case b2 => rw [HI2.out.2.2.2]; omega
    case b3 => unfold maxLen; omega
    case b4 => exact HM4.out.below.size
    case c5 =>
      intro w4 hown hgr
      have hM5 := HM4.out.made hown hgr (Nat.le_refl _)
      generalize wc.heap.size = bC at *
      rw [toList_madeCells_one, show List.replicate ds.length (Value.int .i64 0) = ints (List.replicate ds.length 0) by simp [ints]] at hM5
      have HM5 := Lib.hid (show RowsM w (rowsE gC gT gM gK gF bm bk bf A A2 cs.length ts.length c c2 (tabA cs.length fun _ => (0, 0)) (tabA cs.length fun _ => 0) (tabA ts.length one) [⟨27, 3, .slice (some ⟨gR, 0, none⟩) 1 1, 1, [.slice none 0 0, .slice none 0 0, .slice none 0 0]⟩, ⟨28, 1, .slice (some ⟨bC, 0, none⟩) ds.length ds.length, ds.length, ints (List.replicate ds.length 0)⟩]) w4 from hM5)
      clear hM5 hown hgr HM4
      go_wp2
      go_loopw [39] (fun v wr => ∃ k : Nat, v = .int .i64 k ∧ k ≤ ds.length ∧ RowsM w (rowsE gC gT gM gK gF bm bk bf A A2 cs.length ts.length c c2 (tabA cs.length (stP cs ts ds k).2.mar) (tabA cs.length (stP cs ts ds k).2.kn) (tabA ts.length (stP cs ts ds k).2.fr)
        [⟨27, 3, .slice (some ⟨gR, 0, none⟩) 1 1, 1, [.slice none 0 0, .slice none 0 0, .slice none 0 0]⟩, ⟨28, 1, .slice (some ⟨bC, 0, none⟩) ds.length ds.length, ds.length, ints ((stP cs ts ds k).1 ++ List.replicate (ds.length - k) 0)⟩]) wr) (fun v _ => ds.length - (intOf v).toNat)
      case atStart => exact ⟨0, rfl, Nat.zero_le _, HM5.out⟩
      case round =>
        clear HM5
        obtain ⟨k, rfl, hk, hm⟩ := hrel
        by_cases hlt : k < ds.length
        · obtain ⟨d, hd⟩ := get_some hlt
          obtain ⟨b3, o3, rfl, e0, e1, e2, e3, e4, e5⟩ := RowD.cells (hr3.below hm.below) hd
          have HN := Lib.hid (show stP cs ts ds (k + 1) = _ from run_succ (up := true) (cl := atL cs) (th := atL ts) (nc := cs.length) (nt := ts.length) hd)
          have hl : (stP cs ts ds k).1.length = k := by unfold stP; rw [run_length, List.length_take]; omega
          have HL := Lib.hid hl
          have hF : Fine cs.length ts.length (stP cs ts ds k).2 := fine_run (fun b hb => H5.out _ (List.mem_of_getElem? (atL_get hb))) (fun b hb => H6.out _ (List.mem_of_getElem? (atL_get hb))) _
          change Hid (stP cs ts ds (k + 1) = ((stP cs ts ds k).1 ++ [(stepM true (atL cs) (atL ts) cs.length ts.length (stP cs ts ds k).2 d).1], (stepM true (atL cs) (atL ts) cs.length ts.length (stP cs ts ds k).2 d).2)) at HN
          have HF := Lib.hid hF
          clear hd hl hF
          generalize (stP cs ts ds k).1 = cd at *
          generalize (stP cs ts ds k).2 = s at *
          obtain ⟨kind, who, tgt, lev, parts, val⟩ := d
          simp only at e0 e1 e2 e3 e4 e5
          have hM1 := hm.newAlloc (cs := #[.int .i64 kind, .int .i64 who, .int .i64 tgt, .int .i64 lev, .int .u32 (parts : Int), .int .i64 val]) (t := 49) 6 1 (by decide) rfl
          have HM1 := Lib.hid (show RowsM w (rowsE gC gT gM gK gF bm bk bf A A2 cs.length ts.length c c2 (tabA cs.length s.mar) (tabA cs.length s.kn) (tabA ts.length s.fr) [⟨27, 3, .slice (some ⟨gR, 0, none⟩) 1 1, 1, [.slice none 0 0, .slice none 0 0, .slice none 0 0]⟩, ⟨28, 1, .slice (some ⟨bC, 0, none⟩) ds.length ds.length, ds.length, ints (cd ++ List.replicate (ds.length - k) 0)⟩,
            ⟨49, 6, .slice (some ⟨wr.heap.size, 0, none⟩) 1 1, 1, [.int .i64 kind, .int .i64 who, .int .i64 tgt, .int .i64 lev, .int .u32 (parts : Int), .int .i64 val]⟩]) _ from hM1)
          clear hM1 hm
          have hkd : decide ((k : Int) < ds.length) = true := by rw [decide_eq_true_iff]; omega
          go_upto_region 10 with fail
          generalize wr.alloc _ = w1 at *
          generalize wr.heap.size = sz at *
          clear e0 e1 e2 e3 e4 e5
          rw [show List.replicate (ds.length - k) (0 : Int) = 0 :: List.replicate (ds.length - (k + 1)) 0 by rw [show ds.length - k = (ds.length - (k + 1)) + 1 by omega, List.replicate_succ]] at HM1
          change Hid (RowsM w (rowsE gC gT gM gK gF bm bk bf A A2 cs.length ts.length c c2 (tabA cs.length s.mar) (tabA cs.length s.kn) (tabA ts.length s.fr) [⟨27, 3, .slice (some ⟨gR, 0, none⟩) 1 1, 1, [.slice none 0 0, .slice none 0 0, .slice none 0 0]⟩, ⟨28, 1, .slice (some ⟨bC, 0, none⟩) ds.length ds.length, ds.length, ints (cd ++ 0 :: List.replicate (ds.length - (k + 1)) 0)⟩, ⟨49, 6, .slice (some ⟨sz, 0, none⟩) 1 1, 1, [.int .i64 kind, .int .i64 who, .int .i64 tgt, .int .i64 lev, .int .u32 (parts : Int), .int .i64 val]⟩]) w1) at HM1
          have eC := HM1.out.cell (k := 0) rfl (j := 0) rfl
          have eT := HM1.out.cell (k := 1) rfl (j := 0) rfl
          have d0 := HM1.out.cell (k := 10) rfl (j := 0) rfl
          have d1 := HM1.out.cell (k := 10) rfl (j := 1) rfl
          have d2 := HM1.out.cell (k := 10) rfl (j := 2) rfl
          have d3 := HM1.out.cell (k := 10) rfl (j := 3) rfl
          have d4 := HM1.out.cell (k := 10) rfl (j := 4) rfl
          have d5 := HM1.out.cell (k := 10) rfl (j := 5) rfl
          have kD := fun W => mDeed_any cs.length ts.length kind who tgt lev parts val W
          obtain ⟨qc, hqc⟩ : ∃ qc, codeD cs.length ts.length ⟨kind, who, tgt, lev, parts, val⟩ = qc := ⟨_, rfl⟩
          rw [hqc] at kD
          have HQC := Lib.hid hqc
          clear hqc
          go_wp2_with fail
          refine (kD _).mono ?_
          rintro e w2 ⟨rfl, hb2⟩
          have HM2 := Lib.hid (HM1.out.grow hb2)
          clear hb2 kD eC eT d0 d1 d2 d3 d4 d5 HM1
          have c0 : w2.cell? ⟨bC, k, none⟩ = some (.int .i64 0) := HM2.out.cell (k := 9) rfl (j := k) (by rw [← HL.out]; simp [ints])
          have f0 := HM2.out.free (k := 9) rfl k
          have hn := HM2.out.store (k := 9) rfl k (.int .i64 qc)
          have HM3 := Lib.hid (show RowsM w (rowsE gC gT gM gK gF bm bk bf A A2 cs.length ts.length c c2 (tabA cs.length s.mar) (tabA cs.length s.kn) (tabA ts.length s.fr) [⟨27, 3, .slice (some ⟨gR, 0, none⟩) 1 1, 1, [.slice none 0 0, .slice none 0 0, .slice none 0 0]⟩, ⟨28, 1, .slice (some ⟨bC, 0, none⟩) ds.length ds.length, ds.length, ints (cd ++ qc :: List.replicate (ds.length - (k + 1)) 0)⟩, ⟨49, 6, .slice (some ⟨sz, 0, none⟩) 1 1, 1, [.int .i64 kind, .int .i64 who, .int .i64 tgt, .int .i64 lev, .int .u32 (parts : Int), .int .i64 val]⟩]) _ by
            have h := hn
            rw [show (ints (cd ++ 0 :: List.replicate (ds.length - (k + 1)) 0)).set k (.int .i64 qc) = ints (cd ++ qc :: List.replicate (ds.length - (k + 1)) 0) by rw [← HL.out]; simp [ints]] at h
            exact h)
          clear hn
          go_upto_region 11 with fail
          generalize World.setCell w2 ⟨bC, k, none⟩ (.int .i64 qc) = w3 at *
          clear c0 f0 HM2
          have c0 : w3.cell? ⟨bC, k, none⟩ = some (.int .i64 qc) := HM3.out.cell (k := 9) rfl (j := k) (by rw [← HL.out]; simp [ints])
          by_cases hq0 : qc = 0
          · subst hq0
            obtain ⟨hk1, hA1⟩ := codeD_zero HQC.out
            have d0 := HM3.out.cell (k := 10) rfl (j := 0) rfl
            have d1 := HM3.out.cell (k := 10) rfl (j := 1) rfl
            have d2 := HM3.out.cell (k := 10) rfl (j := 2) rfl
            have d3 := HM3.out.cell (k := 10) rfl (j := 3) rfl
            have d4 := HM3.out.cell (k := 10) rfl (j := 4) rfl
            have d5 := HM3.out.cell (k := 10) rfl (j := 5) rfl
            have kE := mExec_any cs ts gC gT gM gK gF bm bk bf A A2 c c2 s _ kind who tgt lev parts val w3 HM3.out hr hr2 H5.out H6.out HF.out g3 hk1 hA1
            obtain ⟨q, s', hq⟩ : ∃ q s', stepM true (atL cs) (atL ts) cs.length ts.length s ⟨kind, who, tgt, lev, parts, val⟩ = (q, s') := ⟨_, _, rfl⟩
            rw [hq] at HN kE
            simp only at HN kE
            have HKE := Lib.hid kE
            clear hk1 hA1 hq kE
            go_wp2_with fail
            refine HKE.out.mono ?_
            rintro e w4 ⟨rfl, hm4⟩
            have HM4 := Lib.hid hm4
            clear hm4 d0 d1 d2 d3 d4 d5 c0
            have c0 : w4.cell? ⟨bC, k, none⟩ = some (.int .i64 0) := HM4.out.cell (k := 9) rfl (j := k) (by rw [← HL.out]; simp [ints])
            have f0 := HM4.out.free (k := 9) rfl k
            have hn := HM4.out.store (k := 9) rfl k (.int .i64 q)
            have HMN := Lib.hid (show RowsM w (rowsE gC gT gM gK gF bm bk bf A A2 cs.length ts.length c c2 (tabA cs.length s'.mar) (tabA cs.length s'.kn) (tabA ts.length s'.fr) [⟨27, 3, .slice (some ⟨gR, 0, none⟩) 1 1, 1, [.slice none 0 0, .slice none 0 0, .slice none 0 0]⟩, ⟨28, 1, .slice (some ⟨bC, 0, none⟩) ds.length ds.length, ds.length, ints (cd ++ q :: List.replicate (ds.length - (k + 1)) 0)⟩]) _ by
              have h := hn.take 10
              rw [show (ints (cd ++ 0 :: List.replicate (ds.length - (k + 1)) 0)).set k (.int .i64 q) = ints (cd ++ q :: List.replicate (ds.length - (k + 1)) 0) by rw [← HL.out]; simp [ints]] at h
              exact h)
            clear hn
            go_wp2
            go_roundw
            case rel => exact ⟨k + 1, by go_num, by omega, by rw [HN.out, List.append_assoc]; exact HMN.out⟩
            case measure => simp [intOf]; omega
          · rw [codeD_step (up := true) (cl := atL cs) (th := atL ts) (s := s) (by rw [HQC.out]; exact hq0), HQC.out] at HN
            have HMN := Lib.hid (HM3.out.take 10)
            have hqb : (qc == 0) = false := by simpa using hq0
            clear hq0
            go_wp2
            go_roundw
            case rel => exact ⟨k + 1, by go_num, by omega, by rw [HN.out, List.append_assoc]; exact HMN.out⟩
            case measure => simp [intOf]; omega
        · obtain rfl : k = ds.length := by omega
          have hst : stP cs ts ds ds.length = runM true (atL cs) (atL ts) cs.length ts.length ds := by unfold stP; rw [List.take_length]
          rw [hst, Nat.sub_self, List.replicate_zero, List.append_nil] at hm
          have HL := Lib.hid (run_length (up := true) (cl := atL cs) (th := atL ts) (nc := cs.length) (nt := ts.length) ds)
          have HRes := Lib.hid (show MRes true cs ts ds (runM true (atL cs) (atL ts) cs.length ts.length ds).1 (tabA cs.length (runM true (atL cs) (atL ts) cs.length ts.length ds).2.mar) (tabA ts.length (runM true (atL cs) (atL ts) cs.length ts.length ds).2.fr) by
            unfold MRes
            rw [if_pos HC0.out]
            exact ⟨rfl, rfl, rfl⟩)
          generalize (runM true (atL cs) (atL ts) cs.length ts.length ds).1 = cd at *
          generalize (runM true (atL cs) (atL ts) cs.length ts.length ds).2 = s at *
          have HM6 := Lib.hid hm
          have eM := hm.cell (k := 2) rfl (j := 0) rfl
          have eF := hm.cell (k := 4) rfl (j := 0) rfl
          have x0 := hm.cell (k := 8) rfl (j := 0) rfl
          have x1 := hm.cell (k := 8) rfl (j := 1) rfl
          have x2 := hm.cell (k := 8) rfl (j := 2) rfl
          have f0 := hm.free (k := 8) rfl 0
          have f1 := hm.free (k := 8) rfl 1
          have f2 := hm.free (k := 8) rfl 2
          have HN := Lib.hid (((hm.store (k := 8) rfl 0 (.slice (some ⟨bC, 0, none⟩) ds.length ds.length)).store (k := 8) rfl 1 (.slice (some ⟨bm, 0, none⟩) cs.length cs.length)).store (k := 8) rfl 2 (.slice (some ⟨bf, 0, none⟩) ts.length ts.length))
          have hkd : decide ((ds.length : Int) < ds.length) = false := by rw [decide_eq_false_iff_not]; omega
          clear hm hst hlt hk
          go_wp2
          have y0 := HN.out.cell (k := 8) rfl (j := 0) rfl
          have y1 := HN.out.cell (k := 8) rfl (j := 1) rfl
          have y2 := HN.out.cell (k := 8) rfl (j := 2) rfl
          refine bodyPost_ret (v := .tuple #[.agg #[.slice (some ⟨bC, 0, none⟩) ds.length ds.length, .slice (some ⟨bm, 0, none⟩) cs.length cs.length, .slice (some ⟨bf, 0, none⟩) ts.length ts.length], .int .i64 0]) (by simp [results, Try.results6, go_sem, y0, y1, y2]) rfl ?_
          refine ⟨some ⟨bC, 0, none⟩, ds.length, cd, some ⟨bm, 0, none⟩, cs.length, _, some ⟨bf, 0, none⟩, ts.length, _, ?_, HRes.out, by rw [HL.out]; exact Nat.le_refl _, HN.out.row (k := 9) rfl, HN.out.row (k := 5) rfl, HN.out.row (k := 7) rfl, HN.out.below⟩
          rw [HL.out, tabA_length, tabA_length]
  · have HRes := Lib.hid (show MRes true cs ts ds [] [] [] by
      unfold MRes
      rw [if_neg hc]
      exact ⟨rfl, rfl, rfl⟩)
    generalize codeM cs ts ds.length = q at *
    have hq : (q != 0) = true := by simpa using hc
    clear hc
    go_enter Try.func6, Try.ntmps6
    go_wp2_with fail
    generalize ((w.alloc _).alloc _).alloc _ = w1 at *
    refine (kC _ HM.out.below).mono ?_
    rintro e w2 ⟨rfl, hb2⟩
    have HM2 := Lib.hid (HM.out.grow hb2)
    clear z0 z1 z2 HM
    generalize w.heap.size + 1 + 1 = gR at *
    generalize w.heap.size + 1 = gT at *
    have x0 := HM2.out.cell (k := 0) rfl (j := 0) rfl
    have x1 := HM2.out.cell (k := 0) rfl (j := 1) rfl
    have x2 := HM2.out.cell (k := 0) rfl (j := 2) rfl
    have f0 := HM2.out.free (k := 0) rfl 0
    have f1 := HM2.out.free (k := 0) rfl 1
    have f2 := HM2.out.free (k := 0) rfl 2
    have HN := Lib.hid (((HM2.out.store (k := 0) rfl 0 (.slice none 0 0)).store (k := 0) rfl 1 (.slice none 0 0)).store (k := 0) rfl 2 (.slice none 0 0))
    go_wp2
    have y0 := HN.out.cell (k := 0) rfl (j := 0) rfl
    have y1 := HN.out.cell (k := 0) rfl (j := 1) rfl
    have y2 := HN.out.cell (k := 0) rfl (j := 2) rfl
    refine bodyPost_ret (v := .tuple #[.agg #[.slice none 0 0, .slice none 0 0, .slice none 0 0], .int .i64 q]) (by simp [results, Try.results6, go_sem, y0, y1, y2]) rfl ?_
    exact ⟨none, 0, [], none, 0, [], none, 0, [], rfl, HRes.out, Nat.le_refl _, Row.nil _ _, Row.nil _ _, Row.nil _ _, HN.out.below⟩

end Go.Proofs.Ytmmhggldknefoaa
