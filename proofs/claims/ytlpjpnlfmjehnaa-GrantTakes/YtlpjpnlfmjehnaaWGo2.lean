/- grant's player: one deed. -/
import Derived.Test.YtlpjpnlfmjehnaaWGo1
namespace Go.Proofs.Ytlpjpnlfmjehnaa
open Go.RowKit

def ddV (d : Dd) : Value := .agg #[.int .i64 d.kind, .int .i64 d.who, .int .i64 d.tgt, .int .i64 d.lev, .int .u32 (d.parts : Int), .int .i64 d.val]
/-- The code of a deed as far as its numbers go. -/
def chkC (s : Gs) (d : Dd) : Int := if d.kind < 1 ∨ 4 < d.kind then 6 else if BadG s.n d then 2 else 0
theorem isV_iff {s : Gs} {v : Int} : isV s v = true ↔ 0 ≤ v ∧ v < (s.n : Int) := by unfold isV; simp
theorem apV_iff {s : Gs} {a b : Int} : apV s a b = true ↔ 0 ≤ a ∧ a < (s.n : Int) ∧ 0 ≤ b ∧ b < (s.n : Int) ∧ a ≠ b := by
  unfold apV
  rw [Bool.and_eq_true, Bool.and_eq_true, isV_iff, isV_iff, decide_eq_true_iff]
  constructor
  · rintro ⟨⟨h1, h2⟩, h3⟩; exact ⟨h1.1, h1.2, h2.1, h2.2, h3⟩
  · rintro ⟨h1, h2, h3, h4, h5⟩; exact ⟨⟨⟨h1, h2⟩, h3, h4⟩, h5⟩
/-- Whether the vertices of a deed are what they must be. -/
def okV (s : Gs) (d : Dd) : Bool :=
  if d.kind = 1 then apV s d.who d.tgt && apV s d.who d.lev else if d.kind = 2 then apV s d.who d.tgt && apV s d.tgt d.lev else if d.kind = 3 then isV s d.who else apV s d.who d.tgt
theorem okV_bad {s : Gs} {d : Dd} (h : ¬ (d.kind < 1 ∨ 4 < d.kind)) : okV s d = true ↔ ¬ BadG s.n d := by
  unfold okV BadG
  by_cases h1 : d.kind = 1
  · rw [if_pos h1, Bool.and_eq_true, apV_iff, apV_iff]; omega
  · rw [if_neg h1]
    by_cases h2 : d.kind = 2
    · rw [if_pos h2, Bool.and_eq_true, apV_iff, apV_iff]; omega
    · rw [if_neg h2]
      by_cases h3 : d.kind = 3
      · rw [if_pos h3, isV_iff]; omega
      · rw [if_neg h3, apV_iff]; omega
theorem chkC_ok {s : Gs} {d : Dd} (h : ¬ (d.kind < 1 ∨ 4 < d.kind)) : chkC s d = if okV s d = true then 0 else 2 := by
  unfold chkC
  rw [if_neg h]
  by_cases hb : BadG s.n d
  · rw [if_pos hb, if_neg (fun k => (okV_bad h).1 k hb)]
  · rw [if_neg hb, if_pos ((okV_bad h).2 hb)]

theorem gCheck_any (g : Nat) (s : Gs) (d : Dd) (w : World) (hn : w.cell? ⟨g, 0, none⟩ = some (.int .i64 (s.n : Int))) (hgl : g < w.heap.size) :
    Calls Try.prog 31 #[.pointer (some ⟨g, 0, none⟩), ddV d] w fun e w' => e = .returned (.int .i64 (chkC s d)) ∧ Below w.heap.size w w' := by
  obtain ⟨kind, who, tgt, lev, parts, val⟩ := d
  have HC := Lib.hid (@chkC_ok s ⟨kind, who, tgt, lev, parts, val⟩)
  have HB := Lib.hid (show (kind < 1 ∨ 4 < kind) → chkC s ⟨kind, who, tgt, lev, parts, val⟩ = 6 from fun h => by unfold chkC; rw [if_pos h])
  unfold ddV
  go_enter Try.func31, Try.ntmps31
  go_upto_region 1 with fail
  obtain ⟨w1, hw1⟩ : ∃ w1, w1 = w.alloc (.cells #[.int .i64 kind, .int .i64 who, .int .i64 tgt, .int .i64 lev, .int .u32 (parts : Int), .int .i64 val] 46) := ⟨_, rfl⟩
  have hcell : ∀ j u, (#[Value.int .i64 kind, .int .i64 who, .int .i64 tgt, .int .i64 lev, .int .u32 (parts : Int), .int .i64 val] : Array Value)[j]? = some u → w1.cell? ⟨w.heap.size, j, none⟩ = some u := by
    intro j u hu
    rw [hw1, cell_of_row _ _ j _ _ _ (heap_alloc_new w _)]
    exact hu
  have e0 : w1.cell? ⟨w.heap.size, 0, none⟩ = some (.int .i64 kind) := hcell 0 _ rfl
  have e1 : w1.cell? ⟨w.heap.size, 1, none⟩ = some (.int .i64 who) := hcell 1 _ rfl
  have e2 : w1.cell? ⟨w.heap.size, 2, none⟩ = some (.int .i64 tgt) := hcell 2 _ rfl
  have e3 : w1.cell? ⟨w.heap.size, 3, none⟩ = some (.int .i64 lev) := hcell 3 _ rfl
  have hn1 : w1.cell? ⟨g, 0, none⟩ = some (.int .i64 (s.n : Int)) := by rw [hw1, World.cell?_alloc_lt _ _ _ hgl]; exact hn
  have hbel := Lib.hid (show Below w.heap.size w w1 by rw [hw1]; exact (Below.refl _ _).alloc (Nat.le_refl _) _)
  have KA := Lib.hid (fun a b n => show Calls Try.prog 29 #[.pointer (some ⟨g, 0, none⟩), .int .i64 a, .int .i64 b] (w1.drewN n) fun e w' => e = .returned (.bool (apV s a b)) ∧ ∃ k, w' = w1.drewN k from
    (gApart_any g s a b (w1.drewN n) hn1).mono (by rintro e w' ⟨rfl, rfl⟩; exact ⟨rfl, _, rfl⟩))
  have KI := Lib.hid (fun a n => show Calls Try.prog 44 #[.pointer (some ⟨g, 0, none⟩), .int .i64 a] (w1.drewN n) fun e w' => e = .returned (.bool (isV s a)) ∧ ∃ k, w' = w1.drewN k from
    (gIs_any g s a (w1.drewN n) hn1).mono (by rintro e w' ⟨rfl, rfl⟩; exact ⟨rfl, _, rfl⟩))
  rw [← hw1]
  generalize w.heap.size = g1 at e0 e1 e2 e3 ⊢
  clear hw1 hcell hn hgl hn1
  by_cases k1 : kind = 1
  · subst k1
    have hQ := Lib.hid (HC.out (by simp only; omega))
    unfold okV at hQ
    simp only [↓reduceIte] at hQ
    have kA := KA.out who tgt
    have kB := KA.out who lev
    clear HC HB KI KA
    cases h1 : apV s who tgt
    · rw [h1] at kA hQ
      clear kB
      go_wp2_with fail
      go_quiet (first | with_reducible exact kA _)
      go_wp2
      go_ret
      exact ⟨ret_int hQ.out.symm, below_drewN hbel.out _⟩
    · rw [h1] at kA hQ
      cases h2 : apV s who lev
      · rw [h2] at kB hQ
        go_wp2_with fail
        go_quiet (first | with_reducible exact kA _ | with_reducible exact kB _)
        go_wp2
        go_ret
        exact ⟨ret_int hQ.out.symm, below_drewN hbel.out _⟩
      · rw [h2] at kB hQ
        go_wp2_with fail
        go_quiet (first | with_reducible exact kA _ | with_reducible exact kB _)
        go_wp2
        go_ret
        exact ⟨ret_int hQ.out.symm, below_drewN hbel.out _⟩
  by_cases k2 : kind = 2
  · subst k2
    have hQ := Lib.hid (HC.out (by simp only; omega))
    unfold okV at hQ
    simp only [↓reduceIte, show ¬ ((2 : Int) = 1) by decide] at hQ
    have kA := KA.out who tgt
    have kB := KA.out tgt lev
    clear HC HB KI KA
    cases h1 : apV s who tgt
    · rw [h1] at kA hQ
      clear kB
      go_wp2_with fail
      go_quiet (first | with_reducible exact kA _)
      go_wp2
      go_ret
      exact ⟨ret_int hQ.out.symm, below_drewN hbel.out _⟩
    · rw [h1] at kA hQ
      cases h2 : apV s tgt lev
      · rw [h2] at kB hQ
        go_wp2_with fail
        go_quiet (first | with_reducible exact kA _ | with_reducible exact kB _)
        go_wp2
        go_ret
        exact ⟨ret_int hQ.out.symm, below_drewN hbel.out _⟩
      · rw [h2] at kB hQ
        go_wp2_with fail
        go_quiet (first | with_reducible exact kA _ | with_reducible exact kB _)
        go_wp2
        go_ret
        exact ⟨ret_int hQ.out.symm, below_drewN hbel.out _⟩
  by_cases k3 : kind = 3
  · subst k3
    have hQ := Lib.hid (HC.out (by simp only; omega))
    unfold okV at hQ
    simp only [↓reduceIte, show ¬ ((3 : Int) = 1) by decide, show ¬ ((3 : Int) = 2) by decide] at hQ
    have kA := KI.out who
    clear HC HB KI KA
    cases h1 : isV s who
    · rw [h1] at kA hQ
      go_wp2_with fail
      go_quiet (first | with_reducible exact kA _)
      go_wp2
      go_ret
      exact ⟨ret_int hQ.out.symm, below_drewN hbel.out _⟩
    · rw [h1] at kA hQ
      go_wp2_with fail
      go_quiet (first | with_reducible exact kA _)
      go_wp2
      go_ret
      exact ⟨ret_int hQ.out.symm, below_drewN hbel.out _⟩
  by_cases k4 : kind = 4
  · subst k4
    have hQ := Lib.hid (HC.out (by simp only; omega))
    unfold okV at hQ
    simp only [↓reduceIte, show ¬ ((4 : Int) = 1) by decide, show ¬ ((4 : Int) = 2) by decide, show ¬ ((4 : Int) = 3) by decide] at hQ
    have kA := KA.out who tgt
    clear HC HB KI KA
    cases h1 : apV s who tgt
    · rw [h1] at kA hQ
      go_wp2_with fail
      go_quiet (first | with_reducible exact kA _)
      go_wp2
      go_ret
      exact ⟨ret_int hQ.out.symm, below_drewN hbel.out _⟩
    · rw [h1] at kA hQ
      go_wp2_with fail
      go_quiet (first | with_reducible exact kA _)
      go_wp2
      go_ret
      exact ⟨ret_int hQ.out.symm, below_drewN hbel.out _⟩
  · have hQ := HB.out (by omega)
    have hB := hbel.out
    clear HC HB KI KA
    go_wp2
    go_ret
    exact ⟨ret_int hQ.symm, below_drewN hB 0⟩

section
variable {w0 : World} {t size : Nat} {tl : List Value} {ex : List Rw}
/-- What a deed's effect is, once its numbers are good. -/
theorem sub_oneBit {x i : Nat} : sub (2 ^ i) x = x.testBit i := by
  rw [Bool.eq_iff_iff, sub_iff]
  constructor
  · intro h; exact h i (by rw [Nat.testBit_two_pow]; simp)
  · intro h j hj
    rw [Nat.testBit_two_pow] at hj
    have : i = j := by simpa using hj
    subst this; exact h
theorem gTake_any (g : Nat) (s : Gs) (a b o r : Nat) (w : World) (h : RowsM w0 (rowG t size g s tl :: ex) w) (hf : FineG s) (ha : a < 14) (hb : b < 14) (ho : o < 14) (hr : r < 4294967296) :
    Calls Try.prog 32 #[.pointer (some ⟨g, 0, none⟩), .int .i64 (a : Int), .int .i64 (b : Int), .int .i64 (o : Int), .int .u32 (r : Int)] w fun e w' =>
      e = .returned (.int .i64 (giveG s o a ((s.ov a b).testBit 0) b r).1) ∧ RowsM w0 (rowG t size g (giveG s o a ((s.ov a b).testBit 0) b r).2 tl :: ex) w' := by
  have KH := Lib.hid (gHas_any g s a b 1 w (rowG_at h) hf ha hb (by decide))
  have KH2 := Lib.hid (gHas_any g s b o r w (rowG_at h) hf hb ho hr)
  have KA := Lib.hid (gAdd_any g s a o r w h hf ha ho hr)
  have hs := Lib.hid (show sub 1 (s.ov a b) = (s.ov a b).testBit 0 from sub_oneBit (i := 0))
  have HM := Lib.hid h
  clear h
  go_enter Try.func32, Try.ntmps32
  go_wp2_with fail
  refine KH.out.mono ?_
  rintro e w' ⟨rfl, rfl⟩
  rw [hs.out]
  cases h1 : (s.ov a b).testBit 0
  · have hq := Lib.hid (show giveG s o a ((s.ov a b).testBit 0) b r = (7, s) by unfold giveG; rw [h1]; rfl)
    go_wp2_with fail
    go_ret
    rw [hq.out]
    exact ⟨rfl, HM.out⟩
  · go_wp2_with fail
    refine KH2.out.mono ?_
    rintro e w' ⟨rfl, rfl⟩
    cases h2 : sub r (s.ov b o)
    · have hq := Lib.hid (show giveG s o a ((s.ov a b).testBit 0) b r = (7, s) by unfold giveG; rw [h1, h2]; rfl)
      go_wp2_with fail
      go_ret
      rw [hq.out]
      exact ⟨rfl, HM.out⟩
    · have hq := Lib.hid (show giveG s o a ((s.ov a b).testBit 0) b r = (0, ⟨s.n, updO s.ov a o (s.ov a o ||| r)⟩) by unfold giveG; rw [h1, h2]; rfl)
      go_wp2_with fail
      refine KA.out.mono ?_
      rintro e w' ⟨rfl, hN⟩
      have HN := Lib.hid hN
      clear hN
      go_wp2_with fail
      go_ret
      rw [hq.out]
      exact ⟨rfl, HN.out⟩
theorem gGrant_any (g : Nat) (s : Gs) (a b o r : Nat) (w : World) (h : RowsM w0 (rowG t size g s tl :: ex) w) (hf : FineG s) (ha : a < 14) (hb : b < 14) (ho : o < 14) (hr : r < 4294967296) :
    Calls Try.prog 33 #[.pointer (some ⟨g, 0, none⟩), .int .i64 (a : Int), .int .i64 (b : Int), .int .i64 (o : Int), .int .u32 (r : Int)] w fun e w' =>
      e = .returned (.int .i64 (giveG s o b ((s.ov a b).testBit 1) a r).1) ∧ RowsM w0 (rowG t size g (giveG s o b ((s.ov a b).testBit 1) a r).2 tl :: ex) w' := by
  have KH := Lib.hid (gHas_any g s a b 2 w (rowG_at h) hf ha hb (by decide))
  have KH2 := Lib.hid (gHas_any g s a o r w (rowG_at h) hf ha ho hr)
  have KA := Lib.hid (gAdd_any g s b o r w h hf hb ho hr)
  have hs := Lib.hid (show sub 2 (s.ov a b) = (s.ov a b).testBit 1 from sub_oneBit (i := 1))
  have HM := Lib.hid h
  clear h
  go_enter Try.func33, Try.ntmps33
  go_wp2_with fail
  refine KH.out.mono ?_
  rintro e w' ⟨rfl, rfl⟩
  rw [hs.out]
  cases h1 : (s.ov a b).testBit 1
  · have hq := Lib.hid (show giveG s o b ((s.ov a b).testBit 1) a r = (7, s) by unfold giveG; rw [h1]; rfl)
    go_wp2_with fail
    go_ret
    rw [hq.out]
    exact ⟨rfl, HM.out⟩
  · go_wp2_with fail
    refine KH2.out.mono ?_
    rintro e w' ⟨rfl, rfl⟩
    cases h2 : sub r (s.ov a o)
    · have hq := Lib.hid (show giveG s o b ((s.ov a b).testBit 1) a r = (7, s) by unfold giveG; rw [h1, h2]; rfl)
      go_wp2_with fail
      go_ret
      rw [hq.out]
      exact ⟨rfl, HM.out⟩
    · have hq := Lib.hid (show giveG s o b ((s.ov a b).testBit 1) a r = (0, ⟨s.n, updO s.ov b o (s.ov b o ||| r)⟩) by unfold giveG; rw [h1, h2]; rfl)
      go_wp2_with fail
      refine KA.out.mono ?_
      rintro e w' ⟨rfl, hN⟩
      have HN := Lib.hid hN
      clear hN
      go_wp2_with fail
      go_ret
      rw [hq.out]
      exact ⟨rfl, HN.out⟩
theorem gDrop_any (g : Nat) (s : Gs) (a b r : Nat) (w : World) (h : RowsM w0 (rowG t size g s tl :: ex) w) (hf : FineG s) (ha : a < 14) (hb : b < 14) (hr : r < 4294967296) :
    Calls Try.prog 35 #[.pointer (some ⟨g, 0, none⟩), .int .i64 (a : Int), .int .i64 (b : Int), .int .u32 (r : Int)] w fun e w' =>
      e = .returned (.int .i64 0) ∧ RowsM w0 (rowG t size g ⟨s.n, updO s.ov a b (wo (s.ov a b) r)⟩ tl :: ex) w' := by
  have KA := Lib.hid (gRemove_any g s a b r w h hf ha hb hr)
  clear h
  go_enter Try.func35, Try.ntmps35
  go_wp2_with fail
  refine KA.out.mono ?_
  rintro e w' ⟨rfl, hN⟩
  have HN := Lib.hid hN
  clear hN
  go_wp2_with fail
  go_ret
  exact ⟨rfl, HN.out⟩
/-- What making a vertex does. -/
def makeG (s : Gs) (a : Nat) : Int × Gs := if 14 ≤ s.n then (1, s) else (0, ⟨s.n + 1, updO s.ov a s.n (s.ov a s.n ||| 3)⟩)
theorem gCreate_any (g : Nat) (s : Gs) (a : Nat) (w : World) (h : RowsM w0 (rowG t size g s tl :: ex) w) (hf : FineG s) (ha : a < s.n) :
    Calls Try.prog 34 #[.pointer (some ⟨g, 0, none⟩), .int .i64 (a : Int)] w fun e w' =>
      e = .returned (.int .i64 (makeG s a).1) ∧ RowsM w0 (rowG t size g (makeG s a).2 tl :: ex) w' := by
  have hn := (rowG_at h).n
  have hfr := rowG_free h 0
  have h14 := hf.2.1
  by_cases hc : s.n = 14
  · have hq := Lib.hid (show makeG s a = (1, s) by unfold makeG; rw [if_pos (by omega)])
    have HM := Lib.hid h
    clear h hf
    go_enter Try.func34, Try.ntmps34
    rw [hc] at hn
    go_wp2
    go_ret
    rw [hq.out]
    exact ⟨rfl, HM.out⟩
  · have hq := Lib.hid (show makeG s a = (0, ⟨s.n + 1, updO s.ov a s.n (s.ov a s.n ||| 3)⟩) by unfold makeG; rw [if_neg (by omega)])
    have hr1 := rowG_count h (s.n + 1)
    have hf1 : FineG ⟨s.n + 1, s.ov⟩ := ⟨by show 1 ≤ s.n + 1; omega, by show s.n + 1 ≤ 14; omega, hf.2.2.1, fun x y hxy => by obtain ⟨k1, k2, k3⟩ := hf.2.2.2 x y hxy; exact ⟨by show x < s.n + 1; omega, by show y < s.n + 1; omega, k3⟩⟩
    have hn1 := (rowG_at hr1).n
    have kA := fun n => gAdd_any g ⟨s.n + 1, s.ov⟩ a s.n 3 _ (hr1.drewN n) hf1 (by omega) (by omega) (by decide)
    simp only at hn1 kA
    rw [show ((s.n + 1 : Nat) : Int) = (s.n : Int) + 1 by omega] at hn1 kA
    have KA := Lib.hid kA
    have hsub : (s.n : Int) + 1 - 1 = (s.n : Int) := by omega
    clear h hf hf1 hr1 kA
    go_enter Try.func34, Try.ntmps34
    go_upto_region 4 with fail
    generalize w.setCell _ _ = w1 at *
    refine wp_region_still_tail 10 (by kernel_rfl) (by kernel_rfl) ?_
    simp only [List.take_succ_cons, List.take_zero, List.drop_succ_cons, List.drop_zero]
    iterate 10 still_step
    refine wpStill_nil ?_
    rw [show IntKind.i64.wrap (s.n : Int) = (s.n : Int) from IntWalk.i64_in _ (by omega)]
    show wpList _ _ _ _ _ (w1.drewN 1)
    go_wp2_with fail
    refine (KA.out 1).mono ?_
    rintro e w' ⟨rfl, hN⟩
    have HN := Lib.hid hN
    clear hN
    go_wp2_with fail
    go_ret
    rw [hq.out]
    exact ⟨rfl, HN.out⟩
theorem RowsM.swp {w0 w : World} {a b : Rw} {ex : List Rw} (h : RowsM w0 (a :: b :: ex) w) : RowsM w0 (b :: a :: ex) w :=
  h.sub (fun i => if i = 0 then 1 else if i = 1 then 0 else i) (fun i j _ _ e => by
    match i, j with
    | 0, 0 => rfl
    | 0, 1 => simp at e
    | 0, j + 2 => simp at e
    | 1, 0 => simp at e
    | 1, 1 => rfl
    | 1, j + 2 => simp at e
    | i + 2, 0 => simp at e
    | i + 2, 1 => simp at e
    | i + 2, j + 2 => simpa using e) fun i r hr => by
    match i with
    | 0 => exact hr
    | 1 => exact hr
    | i + 2 => simpa using hr
/-- What a deed does. -/
theorem stepG_good {s : Gs} {d : Dd} (h : ¬ (d.kind < 1 ∨ 4 < d.kind)) (hb : ¬ BadG s.n d) : stepG s d =
    if d.kind = 1 then giveG s d.lev.toNat d.who.toNat ((s.ov d.who.toNat d.tgt.toNat).testBit 0) d.tgt.toNat d.parts
    else if d.kind = 2 then giveG s d.lev.toNat d.tgt.toNat ((s.ov d.who.toNat d.tgt.toNat).testBit 1) d.who.toNat d.parts
    else if d.kind = 3 then makeG s d.who.toNat
    else (0, { s with ov := updO s.ov d.who.toNat d.tgt.toNat (wo (s.ov d.who.toNat d.tgt.toNat) d.parts) }) := by
  unfold stepG
  rw [if_neg h, if_neg hb]
  rfl
theorem stepG_chk {s : Gs} {d : Dd} (h : chkC s d ≠ 0) : stepG s d = (chkC s d, s) := by
  unfold chkC at *
  unfold stepG
  split
  · rfl
  · rename_i h1
    rw [if_neg h1] at h
    split
    · rfl
    · rename_i h2
      rw [if_neg h2] at h
      exact absurd rfl h
theorem chkC_zero {s : Gs} {d : Dd} (h : chkC s d = 0) : ¬ (d.kind < 1 ∨ 4 < d.kind) ∧ ¬ BadG s.n d := by
  unfold chkC at h
  split at h
  · cases h
  · rename_i h1
    split at h
    · cases h
    · rename_i h2; exact ⟨h1, h2⟩
set_option maxHeartbeats 1000000 in
theorem gExec_any (g : Nat) (s : Gs) (d : Dd) (w : World) (h : RowsM w0 (rowG t size g s tl :: ex) w) (hf : FineG s) (hp : d.parts < 4294967296) (hgl : g < w.heap.size) :
    Calls Try.prog 21 #[.pointer (some ⟨g, 0, none⟩), ddV d] w fun e w' =>
      e = .returned (.int .i64 (stepG s d).1) ∧ RowsM w0 (rowG t size g (stepG s d).2 tl :: ex) w' := by
  obtain ⟨kind, who, tgt, lev, parts, val⟩ := d
  have HB := Lib.hid (h.box (cs := #[.int .i64 kind, .int .i64 who, .int .i64 tgt, .int .i64 lev, .int .u32 (parts : Int), .int .i64 val]) (t := 46) 6 rfl)
  have hsz : w0.heap.size ≤ w.heap.size := h.below.size
  unfold ddV
  clear h
  go_enter Try.func21, Try.ntmps21
  go_upto_region 1 with fail
  generalize w.alloc _ = w1 at *
  generalize w.heap.size = g1 at *
  have e0 := HB.out.cell (k := 0) rfl (j := 0) rfl
  have e1 := HB.out.cell (k := 0) rfl (j := 1) rfl
  have e2 := HB.out.cell (k := 0) rfl (j := 2) rfl
  have e3 := HB.out.cell (k := 0) rfl (j := 3) rfl
  have e4 := HB.out.cell (k := 0) rfl (j := 4) rfl
  have e5 := HB.out.cell (k := 0) rfl (j := 5) rfl
  have hg1 : g1 < w1.heap.size := block_lt_of_cell e0
  have hK := gCheck_any g s ⟨kind, who, tgt, lev, parts, val⟩ w1 (rowG_at HB.out.tail).n (by omega)
  unfold ddV at hK
  simp only at hK
  have HK := Lib.hid hK
  clear hK hgl hsz
  go_wp2_with fail
  refine HK.out.mono ?_
  rintro e w2 ⟨rfl, hb2⟩
  have HB2 := Lib.hid (HB.out.grow hb2).swp
  clear HB HK hb2 e0 e1 e2 e3 e4 e5
  have e0 := HB2.out.cell (k := 1) rfl (j := 0) rfl
  have e1 := HB2.out.cell (k := 1) rfl (j := 1) rfl
  have e2 := HB2.out.cell (k := 1) rfl (j := 2) rfl
  have e3 := HB2.out.cell (k := 1) rfl (j := 3) rfl
  have e4 := HB2.out.cell (k := 1) rfl (j := 4) rfl
  by_cases hc : chkC s ⟨kind, who, tgt, lev, parts, val⟩ = 0
  · obtain ⟨hk, hbad⟩ := chkC_zero hc
    have HS := Lib.hid (stepG_good hk hbad)
    rw [hc]
    clear hc
    unfold BadG at hbad
    simp only at HS hbad hk hp
    go_upto_region 4 with fail
    go_quiet (fail)
    have HB3 := Lib.hid (HB2.out.drewN nq)
    clear HB2 e0 e1 e2 e3 e4
    generalize w2.drewN nq = w3 at *
    have e0 := HB3.out.cell (k := 1) rfl (j := 0) rfl
    have e1 := HB3.out.cell (k := 1) rfl (j := 1) rfl
    have e2 := HB3.out.cell (k := 1) rfl (j := 2) rfl
    obtain ⟨a, rfl⟩ := Int.eq_ofNat_of_zero_le (show 0 ≤ who by omega)
    have h14 := hf.2.1
    by_cases k3 : kind = 3
    · subst k3
      have kA := gCreate_any g s a w3 HB3.out hf (by omega)
      simp only [show ¬ ((3 : Int) = 1) by decide, show ¬ ((3 : Int) = 2) by decide, ↓reduceIte, Int.toNat_natCast] at HS
      have KA := Lib.hid kA
      clear kA HB3 hf hbad
      go_wp2_with fail
      refine KA.out.mono ?_
      rintro e w4 ⟨rfl, hN⟩
      have HN := Lib.hid hN.swp.tail
      clear hN
      go_wp2_with fail
      go_ret
      rw [HS.out]
      exact ⟨rfl, HN.out⟩
    · obtain ⟨b, rfl⟩ := Int.eq_ofNat_of_zero_le (show 0 ≤ tgt by omega)
      by_cases k4 : kind = 4
      · subst k4
        have kA := gDrop_any g s a b parts w3 HB3.out hf (by omega) (by omega) hp
        simp only [show ¬ ((4 : Int) = 1) by decide, show ¬ ((4 : Int) = 2) by decide, show ¬ ((4 : Int) = 3) by decide, ↓reduceIte, Int.toNat_natCast] at HS
        have KA := Lib.hid kA
        clear kA HB3 hf hbad
        go_wp2_with fail
        refine KA.out.mono ?_
        rintro e w4 ⟨rfl, hN⟩
        have HN := Lib.hid hN.swp.tail
        clear hN
        go_wp2_with fail
        go_ret
        rw [HS.out]
        exact ⟨rfl, HN.out⟩
      · obtain ⟨o, rfl⟩ := Int.eq_ofNat_of_zero_le (show 0 ≤ lev by omega)
        by_cases k1 : kind = 1
        · subst k1
          have kA := gTake_any g s a b o parts w3 HB3.out hf (by omega) (by omega) (by omega) hp
          simp only [↓reduceIte, Int.toNat_natCast] at HS
          generalize (s.ov a b).testBit 0 = bt at *
          have KA := Lib.hid kA
          clear kA HB3 hf hbad
          go_wp2_with fail
          refine KA.out.mono ?_
          rintro e w4 ⟨rfl, hN⟩
          have HN := Lib.hid hN.swp.tail
          clear hN
          go_wp2_with fail
          go_ret
          rw [HS.out]
          exact ⟨rfl, HN.out⟩
        · obtain rfl : kind = 2 := by omega
          have kA := gGrant_any g s a b o parts w3 HB3.out hf (by omega) (by omega) (by omega) hp
          simp only [show ¬ ((2 : Int) = 1) by decide, ↓reduceIte, Int.toNat_natCast] at HS
          have KA := Lib.hid kA
          clear kA HB3 hf hbad
          go_wp2_with fail
          refine KA.out.mono ?_
          rintro e w4 ⟨rfl, hN⟩
          have HN := Lib.hid hN.swp.tail
          clear hN
          go_wp2_with fail
          go_ret
          rw [HS.out]
          exact ⟨rfl, HN.out⟩
  · have HS := Lib.hid (stepG_chk hc)
    have hHC := Lib.hid hc
    clear hc
    generalize chkC s _ = q at *
    have hc := hHC.out
    go_wp2_with fail
    go_ret
    rw [HS.out]
    exact ⟨rfl, HB2.out.swp.tail⟩
end

end Go.Proofs.Ytlpjpnlfmjehnaa
