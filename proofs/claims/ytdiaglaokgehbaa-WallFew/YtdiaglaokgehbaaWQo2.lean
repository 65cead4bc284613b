/- wall.Play's execute: one deed. -/
import Derived.Test.YtdiaglaokgehbaaWQo1
import Derived.Test.YtdiaglaokgehbaaWRun
namespace Go.Proofs.Ytdiaglaokgehbaa
open Go.RowKit

theorem qIs1_any (cl : List Int) (A : Option Addr) (c gC gO : Nat) (x own : Int) (w : World) (hr : Row w A (ints cl)) (hC : w.cell? ⟨gC, 0, none⟩ = some (.slice A cl.length c)) (hO : w.cell? ⟨gO, 0, none⟩ = some (.int .i64 own))
    (ha0 : 0 ≤ x) (ha : x < (cl.length : Int)) (hb0 : -1 ≤ own) (hb : own < (cl.length : Int)) :
    Calls Try.prog 49 #[.int .i64 x, .pointer (some ⟨gC, 0, none⟩), .pointer (some ⟨gO, 0, none⟩)] w fun e w' => e = .returned (.bool (compB cl x own)) ∧ ∃ k, w' = w.drewN k := by
  have K := Lib.hid (qComp_any cl A c x own w hr ha0 ha hb0 hb)
  clear hr ha0 ha hb0 hb
  go_enter Try.func49, Try.ntmps49
  go_wp2_with fail
  refine K.out.mono ?_
  rintro e w' ⟨rfl, k, rfl⟩
  go_wp2
  go_ret
  exact ⟨rfl, _, rfl⟩
theorem qIs1_enters (args : Array Value) (w : World) : (callFunc 49 args).run Try.prog w = .ok (.enter 49 args) w := enters_of Try.func49 (by kernel_rfl) rfl args w
theorem qIs2_any (gO : Nat) (x own : Int) (w : World) (hO : w.cell? ⟨gO, 0, none⟩ = some (.int .i64 own)) :
    Calls Try.prog 51 #[.int .i64 x, .pointer (some ⟨gO, 0, none⟩)] w fun e w' => e = .returned (.bool (x != own)) ∧ ∃ k, w' = w.drewN k := by
  go_enter Try.func51, Try.ntmps51
  go_wp2
  go_ret
  exact ⟨rfl, 0, rfl⟩
theorem qIs2_enters (args : Array Value) (w : World) : (callFunc 51 args).run Try.prog w = .ok (.enter 51 args) w := enters_of Try.func51 (by kernel_rfl) rfl args w

/-- The firms of the things are firms, or nobody. -/
def FirmsOk (fi cl : List Int) : Prop := ∀ i, i < fi.length → -1 ≤ atI fi i ∧ atI fi i < (cl.length : Int)
theorem deny_read {fi cl : List Int} {rd t : Nat} (h : FirmsOk fi cl) (ht : t < fi.length) : denyW fi cl fi.length rd 1 t = someF fi rd (fun f => compB cl f (atI fi t)) fi.length := by
  have hp : ∀ k, k < fi.length → badW fi cl 1 t k = (atI fi k != -1 && compB cl (atI fi k) (atI fi t)) := by
    intro k hk
    have h1 := h k hk
    have h2 := h t ht
    unfold badW compB Clash Alien
    rw [Bool.eq_iff_iff, decide_eq_true_iff, Bool.and_eq_true, decide_eq_true_iff]
    simp only [bne_iff_ne, ne_eq, true_and, show ¬ ((1 : Int) = 2) by decide, false_and, or_false]
    constructor
    · rintro ⟨a1, a2, a3, a4⟩; exact ⟨by omega, by omega, a3, a4⟩
    · rintro ⟨a1, a2, a3, a4⟩; exact ⟨by omega, by omega, a3, a4⟩
  unfold denyW someF
  rw [Bool.eq_iff_iff, List.any_eq_true, List.any_eq_true]
  constructor
  · rintro ⟨k, hk, hb⟩; exact ⟨k, hk, by rw [← hp k (List.mem_range.1 hk)]; exact hb⟩
  · rintro ⟨k, hk, hb⟩; exact ⟨k, hk, by rw [hp k (List.mem_range.1 hk)]; exact hb⟩
theorem deny_write {fi cl : List Int} {rd t : Nat} (h : FirmsOk fi cl) : denyW fi cl fi.length rd 2 t = someF fi rd (fun f => f != atI fi t) fi.length := by
  have hp : ∀ k, k < fi.length → badW fi cl 2 t k = (atI fi k != -1 && (atI fi k != atI fi t)) := by
    intro k hk
    have h1 := h k hk
    unfold badW Clash Alien
    rw [Bool.eq_iff_iff, decide_eq_true_iff, Bool.and_eq_true]
    simp only [bne_iff_ne, ne_eq, true_and, show ¬ ((2 : Int) = 1) by decide, false_and, false_or]
    constructor
    · rintro ⟨a1, a2⟩; exact ⟨by omega, a2⟩
    · rintro ⟨a1, a2⟩; exact ⟨by omega, a2⟩
  unfold denyW someF
  rw [Bool.eq_iff_iff, List.any_eq_true, List.any_eq_true]
  constructor
  · rintro ⟨k, hk, hb⟩; exact ⟨k, hk, by rw [← hp k (List.mem_range.1 hk)]; exact hb⟩
  · rintro ⟨k, hk, hb⟩; exact ⟨k, hk, by rw [hp k (List.mem_range.1 hk)]; exact hb⟩

/-- The rows that execute refers to: the boxes of its variables, and what has been read. -/
def rowsY (gF gR gC bR : Nat) (A A2 : Option Addr) (nf c nl c2 nc : Nat) (rd : Nat → Nat) (ex : List Rw) : List Rw :=
  ⟨47, 1, .slice (some ⟨gF, 0, none⟩) 1 1, 1, [.slice A nf c]⟩ :: ⟨25, 1, .slice (some ⟨gR, 0, none⟩) 1 1, 1, [.slice (some ⟨bR, 0, none⟩) nc nc]⟩ ::
  ⟨47, 1, .slice (some ⟨gC, 0, none⟩) 1 1, 1, [.slice A2 nl c2]⟩ :: ⟨38, 1, .slice (some ⟨bR, 0, none⟩) nc nc, nc, words (tabA nc rd)⟩ :: ex

set_option maxRecDepth 100000 in
set_option maxHeartbeats 4000000 in
theorem qExec_any {w0 : World} (fi cl : List Int) (gF gR gC bR : Nat) (A A2 : Option Addr) (c c2 nc : Nat) (s : Wst) (ex : List Rw) (mb nk m : Nat) (f : Nat → Nat) (kind who tgt lev : Int) (parts : Nat) (val : Int) (w : World)
    (hM : RowsK w0 (rowsY gF gR gC bR A A2 fi.length c cl.length c2 nc s.rd ex) mb nk m f w) (hr : Row w0 A (ints fi)) (hr2 : Row w0 A2 (ints cl))
    (hfi : FirmsOk fi cl) (hn : fi.length ≤ 8) (hF : ∀ b, b < nc → s.rd b < one fi.length) (hk : kind = 1 ∨ kind = 2) (hA : ¬ ArgBadW nc fi.length ⟨kind, who, tgt, lev, parts, val⟩) :
    Calls Try.prog 47 #[.agg #[.int .i64 kind, .int .i64 who, .int .i64 tgt, .int .i64 lev, .int .u32 parts, .int .i64 val], .pointer (some ⟨gF, 0, none⟩), .pointer (some ⟨gR, 0, none⟩), .pointer (some ⟨gC, 0, none⟩)] w fun e w' =>
      e = .returned (.int .i64 (stepW fi cl nc fi.length s ⟨kind, who, tgt, lev, parts, val⟩).1) ∧
      RowsK w0 (rowsY gF gR gC bR A A2 fi.length c cl.length c2 nc (stepW fi cl nc fi.length s ⟨kind, who, tgt, lev, parts, val⟩).2.rd ex) mb nk m f w' := by
  obtain ⟨q, s', hq⟩ : ∃ q s', stepW fi cl nc fi.length s ⟨kind, who, tgt, lev, parts, val⟩ = (q, s') := ⟨_, _, rfl⟩
  rw [hq]
  have HA := Lib.hid hA
  unfold ArgBadW at hA
  simp only at hA ⊢
  obtain ⟨b, rfl⟩ := Int.eq_ofNat_of_zero_le (show 0 ≤ who by omega)
  obtain ⟨t, rfl⟩ := Int.eq_ofNat_of_zero_le (show 0 ≤ tgt by omega)
  have hb : b < nc := by omega
  have ht : t < fi.length := by omega
  have HQ := Lib.hid (show stepW fi cl nc fi.length s ⟨kind, (b : Int), (t : Int), lev, parts, val⟩ = if denyW fi cl fi.length (s.rd b) kind t = true then (7, s) else if kind = 1 then (0, readW s b t) else (0, writeW s b t) by
    unfold stepW
    rw [if_neg (by simp only; omega), if_neg HA.out]
    simp)
  rw [hq] at HQ
  clear hq HA hA
  have HM1 := Lib.hid (hM.box (cs := #[.int .i64 kind, .int .i64 b, .int .i64 t, .int .i64 lev, .int .u32 (parts : Int), .int .i64 val]) (t := 62) 6 rfl)
  have hsz : w0.heap.size ≤ w.heap.size := hM.rows.below.size
  have hrd : s.rd b < 4294967296 := Nat.lt_of_lt_of_le (hF b hb) (Nat.le_trans (Nat.pow_le_pow_right (by omega) (by omega : fi.length ≤ 32)) (by decide))
  obtain ⟨hf0, hf1⟩ := hfi t ht
  have HFi := Lib.hid hfi
  go_enter Try.func47, Try.ntmps47
  clear hM hF hfi
  go_upto_region 1 with fail
  generalize w.alloc _ = w1 at *
  generalize w.heap.size = sz at *
  have e0 := HM1.out.cell (k := 0) rfl (i := 0) rfl
  have e1 := HM1.out.cell (k := 0) rfl (i := 1) rfl
  have e2 := HM1.out.cell (k := 0) rfl (i := 2) rfl
  have eF := HM1.out.cell (k := 1) rfl (i := 0) rfl
  obtain ⟨bf, of, rfl, f0⟩ := RowI.cells (hr.below HM1.out.rows.below) (atI_get ht)
  have HM2 := Lib.hid (HM1.out.box (cs := #[.int .i64 (atI fi t)]) (t := 3) 1 rfl)
  go_upto_region 2 with fail
  generalize w1.alloc _ = w2 at *
  generalize w1.heap.size = gO at *
  clear e0 e1 e2 eF f0 HM1
  have d0 := HM2.out.cell (k := 1) rfl (i := 0) rfl
  have d1 := HM2.out.cell (k := 1) rfl (i := 1) rfl
  have d2 := HM2.out.cell (k := 1) rfl (i := 2) rfl
  have dO := HM2.out.cell (k := 0) rfl (i := 0) rfl
  have dF := HM2.out.cell (k := 2) rfl (i := 0) rfl
  have dR := HM2.out.cell (k := 3) rfl (i := 0) rfl
  have dC := HM2.out.cell (k := 4) rfl (i := 0) rfl
  have dr := HM2.out.cell (k := 5) rfl (i := b) (words_at (tabA_get s.rd hb))
  have hrf := hr.below HM2.out.rows.below
  have hrc := hr2.below HM2.out.rows.below
  rcases hk with rfl | rfl
  · have kS := fun n => show Calls Try.prog 48 #[.slice (some ⟨bf, of, none⟩) fi.length c, .int .u32 (s.rd b : Nat), .func (.func 49) #[] #[.pointer (some ⟨gC, 0, none⟩), .pointer (some ⟨gO, 0, none⟩)]] (w2.drewN n) fun e w' => e = .returned (.bool (someF fi (s.rd b) (fun f => compB cl f (atI fi t)) fi.length)) ∧ ∃ k, w' = w2.drewN k from
      Calls.quiet_of (qSome_any fi (some ⟨bf, of, none⟩) c (s.rd b) 49 #[.pointer (some ⟨gC, 0, none⟩), .pointer (some ⟨gO, 0, none⟩)] (fun f => compB cl f (atI fi t)) (w2.drewN n) (hrf.drewN n) hn hrd qIs1_enters
        (fun i d hi hne => by exact Calls.quiet_of (qIs1_any cl A2 c2 gC gO (atI fi i) (atI fi t) _ ((hrc.drewN n).drewN d) dC dO (by have := (HFi.out i hi).1; omega) (HFi.out i hi).2 hf0 hf1)))
    rw [← deny_read HFi.out ht] at kS
    have KS := Lib.hid kS
    clear kS hrf hrc hf0 hf1
    by_cases hdn : denyW fi cl fi.length (s.rd b) 1 t = true
    · rw [if_pos hdn] at HQ
      obtain ⟨rfl, rfl⟩ : q = 7 ∧ s' = s := by simpa using HQ.out
      have kS := KS.out
      rw [hdn] at kS
      have HN := Lib.hid (fun n => (HM2.out.drewN n).tail.tail)
      clear HM2 HQ KS hdn
      go_wp2_with fail
      go_quiet (first | with_reducible exact kS _)
      go_wp2
      go_ret
      exact ⟨rfl, HN.out _⟩
    · rw [if_neg hdn, if_pos rfl] at HQ
      obtain ⟨rfl, rfl⟩ : q = 0 ∧ s' = readW s b t := by simpa using HQ.out
      rw [Bool.not_eq_true] at hdn
      have kS := KS.out
      rw [hdn] at kS
      have hoi := one_int t (by omega)
      have hor := u32_or_nat (s.rd b) (one t) hrd (one_lt (by omega))
      clear HQ KS hdn hr hr2
      go_wp2_with fail
      go_quiet (first | with_reducible exact kS _)
      have HM3 := Lib.hid (HM2.out.drewN nq)
      clear kS d0 d1 d2 dO dF dR dC dr HM2
      generalize w2.drewN nq = w3 at *
      have d0 := HM3.out.cell (k := 1) rfl (i := 0) rfl
      have d1 := HM3.out.cell (k := 1) rfl (i := 1) rfl
      have d2 := HM3.out.cell (k := 1) rfl (i := 2) rfl
      have dR := HM3.out.cell (k := 3) rfl (i := 0) rfl
      have dr := HM3.out.cell (k := 5) rfl (i := b) (words_at (tabA_get s.rd hb))
      have ff := HM3.out.free (k := 5) rfl b
      have h := HM3.out.drew.store (k := 5) rfl b (.int .u32 ((s.rd b ||| one t : Nat) : Int))
      rw [words_set, tabA_set] at h
      have HN := Lib.hid (show RowsK w0 (rowsY gF gR gC bR (some ⟨bf, of, none⟩) A2 fi.length c cl.length c2 nc (readW s b t).rd ex) mb nk m f _ from h.tail.tail)
      clear h HM3
      go_upto_region 6 with fail
      refine wp_region_still_tail 10 (by kernel_rfl) (by kernel_rfl) ?_
      simp only [List.take_succ_cons, List.take_zero, List.drop_succ_cons, List.drop_zero]
      iterate 10 still_step
      refine wpStill_nil ?_
      go_wp2
      go_ret
      exact ⟨rfl, by rw [hoi, hor]; exact HN.out⟩
  · have kS := fun n => show Calls Try.prog 48 #[.slice (some ⟨bf, of, none⟩) fi.length c, .int .u32 (s.rd b : Nat), .func (.func 51) #[] #[.pointer (some ⟨gO, 0, none⟩)]] (w2.drewN n) fun e w' => e = .returned (.bool (someF fi (s.rd b) (fun f => f != atI fi t) fi.length)) ∧ ∃ k, w' = w2.drewN k from
      Calls.quiet_of (qSome_any fi (some ⟨bf, of, none⟩) c (s.rd b) 51 #[.pointer (some ⟨gO, 0, none⟩)] (fun f => f != atI fi t) (w2.drewN n) (hrf.drewN n) hn hrd qIs2_enters
        (fun i d _ _ => by exact Calls.quiet_of (qIs2_any gO (atI fi i) (atI fi t) _ dO)))
    rw [← deny_write HFi.out] at kS
    have KS := Lib.hid kS
    clear kS hrf hrc hf0 hf1
    by_cases hdn : denyW fi cl fi.length (s.rd b) 2 t = true
    · rw [if_pos hdn] at HQ
      obtain ⟨rfl, rfl⟩ : q = 7 ∧ s' = s := by simpa using HQ.out
      have kS := KS.out
      rw [hdn] at kS
      have HN := Lib.hid (fun n => (HM2.out.drewN n).tail.tail)
      clear HM2 HQ KS hdn
      go_wp2_with fail
      go_quiet (first | with_reducible exact kS _)
      go_wp2
      go_ret
      exact ⟨rfl, HN.out _⟩
    · rw [if_neg hdn, if_neg (by decide)] at HQ
      obtain ⟨rfl, rfl⟩ : q = 0 ∧ s' = writeW s b t := by simpa using HQ.out
      rw [Bool.not_eq_true] at hdn
      have kS := KS.out
      rw [hdn] at kS
      have HN := Lib.hid (fun n => (HM2.out.drewN n).tail.tail)
      clear HM2 HQ KS hdn hr hr2
      go_wp2_with fail
      go_quiet (first | with_reducible exact kS _)
      go_wp2
      go_ret
      exact ⟨rfl, HN.out _⟩

end Go.Proofs.Ytdiaglaokgehbaa
