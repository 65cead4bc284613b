/- slices.Equal and EqualFunc of rows, rights.equal, rights.closed. -/
import Derived.Test.YthgmbiaajgpaaaaWRo2
namespace Go.Proofs.Ythgmbiaajgpaaaa
open Go.RowKit

set_option maxHeartbeats 1000000 in
theorem rEq_any (xs ys : List Nat) (A A2 : Option Addr) (c c2 : Nat) (w : World) (h : Row w A (words xs)) (h2 : Row w A2 (words ys)) (_hn : xs.length ≤ 1000000) (_hn2 : ys.length ≤ 1000000) :
    Calls Try.prog 29 #[.slice A xs.length c, .slice A2 ys.length c2] w fun e w' => e = .returned (.bool (decide (xs = ys))) ∧ ∃ d, w' = w.drewN d := by
  by_cases hl : xs.length = ys.length
  · have hd : ((xs.length : Int) != (ys.length : Int)) = false := by simp [hl]
    have HL := Lib.hid hl
    have hle : xs.length ≤ ys.length := by omega
    clear hl
    go_enter Try.func29, Try.ntmps29
    go_wp2
    go_loopw [13] (fun v wr => ∃ k : Nat, v = .int .i64 k ∧ k ≤ xs.length ∧ xs.take k = ys.take k ∧ ∃ d, wr = w.drewN d) (fun v _ => xs.length - (intOf v).toNat)
    case atStart => exact ⟨0, rfl, Nat.zero_le _, by simp, 0, rfl⟩
    case round =>
      obtain ⟨k, rfl, hk, ht, d, rfl⟩ := hrel
      have HT := Lib.hid ht
      clear ht
      by_cases hlt : k < xs.length
      · obtain ⟨x, hx⟩ := get_some hlt
        obtain ⟨y, hy⟩ := get_some (show k < ys.length by omega)
        obtain ⟨b, off, rfl, hc⟩ := h.at (k := k) (by simpa using hlt)
        obtain ⟨b2, off2, rfl, hc2⟩ := h2.at (k := k) (by simp; omega)
        have hk1 : (w.drewN d).cell? ⟨b, off + k, none⟩ = some (.int .u32 (x : Int)) := hc _ _ (words_at hx)
        have hk2 : (w.drewN d).cell? ⟨b2, off2 + k, none⟩ = some (.int .u32 (y : Int)) := hc2 _ _ (words_at hy)
        have HX := Lib.hid hx
        have HY := Lib.hid hy
        clear hc hc2 hx hy
        generalize hw3 : w.drewN d = w3 at *
        have HW := Lib.hid hw3
        clear hw3
        by_cases he : x = y
        · have hd2 : ((x : Int) != (y : Int)) = false := by simp [he]
          have HE := Lib.hid he
          clear he
          go_wp2
          go_quiet (fail)
          go_wp2
          go_roundw
          case rel => exact ⟨k + 1, by go_num, by omega, take_same_succ HT.out HX.out HY.out HE.out, d + nq, by rw [← HW.out, World.drewN_drewN]⟩
          case measure => simp [intOf]; omega
        · have hd2 : ((x : Int) != (y : Int)) = true := by rw [bne_iff_ne]; omega
          have HE := Lib.hid he
          clear he
          go_wp2
          go_quiet (fail)
          go_wp2
          go_ret
          exact ⟨ret_bool (by simpa using ne_of_at HX.out HY.out HE.out), d + nq, by rw [← HW.out, World.drewN_drewN]⟩
      · obtain rfl : k = xs.length := by omega
        have HE := Lib.hid (show xs = ys by
          have := HT.out
          rw [List.take_length, HL.out, List.take_length] at this
          exact this)
        go_wp2
        go_ret
        exact ⟨ret_bool (by simpa using HE.out), d, rfl⟩
  · have hd : ((xs.length : Int) != (ys.length : Int)) = true := by simp; omega
    have HL := Lib.hid (show ¬ xs = ys from fun e => hl (by rw [e]))
    clear hl
    go_enter Try.func29, Try.ntmps29
    go_wp2
    go_ret
    exact ⟨ret_bool (by simpa using HL.out), 0, rfl⟩
theorem rEq_enters (args : Array Value) (w : World) : (callFunc 29 args).run Try.prog w = .ok (.enter 29 args) w := enters_of Try.func29 (by kernel_rfl) rfl args w

set_option maxHeartbeats 1000000 in
theorem rEqs_any (m m2 : Mat) (A A2 : Option Addr) (c c2 : Nat) (w : World) (h : Mats w A m) (h2 : Mats w A2 m2) (hl1 : ∀ r ∈ m, r.length ≤ 1000000) (hl2 : ∀ r ∈ m2, r.length ≤ 1000000) (hn : m.length ≤ 1000000) (hl : m.length = m2.length) :
    Calls Try.prog 28 #[.slice A m.length c, .slice A2 m2.length c2, .func (.func 29) #[] #[]] w fun e w' => e = .returned (.bool (decide (m = m2))) ∧ ∃ d, w' = w.drewN d := by
  have hd : ((m.length : Int) != (m2.length : Int)) = false := by simp [hl]
  have HL := Lib.hid hl
  have H1 := Lib.hid h
  have H2 := Lib.hid h2
  have HB := Lib.hid (And.intro hl1 hl2)
  have eg := rEq_enters
  clear hl hl1 hl2 h h2
  go_enter Try.func28, Try.ntmps28
  go_wp2
  go_loopw [17] (fun v wr => ∃ j d : Nat, v = .int .i64 j ∧ j ≤ m.length ∧ m.take j = m2.take j ∧ wr = w.drewN d) (fun v _ => m.length - (intOf v).toNat)
  case atStart => exact ⟨0, 0, rfl, Nat.zero_le _, rfl, rfl⟩
  case round =>
    obtain ⟨j, d, rfl, hj, heq, rfl⟩ := hrel
    have HE := Lib.hid heq
    clear heq
    by_cases hlt : j < m.length
    · obtain ⟨r, hr⟩ := get_some hlt
      obtain ⟨r', hr'⟩ := get_some (show j < m2.length by rw [← HL.out]; exact hlt)
      have hlt2 : (j : Int) < m2.length := by have := HL.out; omega
      have k1 : Mats (w.drewN d) A m := H1.out
      have k2 : Mats (w.drewN d) A2 m2 := H2.out
      obtain ⟨b, off, A', c', rfl, c0, _, _, _, row⟩ := k1.row hr
      obtain ⟨b', off', A'', c'', rfl, c0', _, _, _, row'⟩ := k2.row hr'
      have HX := Lib.hid hr
      have HX' := Lib.hid hr'
      have b1 := HB.out.1 r (List.mem_of_getElem? hr)
      have b2 := HB.out.2 r' (List.mem_of_getElem? hr')
      clear hr hr' k1 k2
      generalize hw3 : w.drewN d = w3 at *
      have HW := Lib.hid hw3
      clear hw3
      have hW := rEq_any r r' A' A'' c' c'' w3 row row' b1 b2
      clear row row' b1 b2
      by_cases hrr : r = r'
      · have HN := Lib.hid (show m.take (j + 1) = m2.take (j + 1) by rw [List.take_add_one, List.take_add_one, HE.out, HX.out, HX'.out, hrr])
        rw [decide_eq_true hrr] at hW
        clear hrr
        go_wp2_with fail
        refine hW.mono ?_
        rintro e w4 ⟨rfl, nq, rfl⟩
        go_wp2
        go_roundw
        case rel => exact ⟨j + 1, d + nq, by go_num, by omega, HN.out, by rw [← HW.out, World.drewN_drewN]⟩
        case measure => simp [intOf]; omega
      · have HC := Lib.hid (show decide (m = m2) = false by
          rw [decide_eq_false_iff_not]
          intro e
          have h1 := HX.out
          rw [e, HX'.out] at h1
          exact hrr (Option.some.inj h1).symm)
        rw [decide_eq_false hrr] at hW
        clear hrr
        go_wp2_with fail
        refine hW.mono ?_
        rintro e w4 ⟨rfl, nq, rfl⟩
        go_wp2
        go_ret
        exact ⟨ret_bool HC.out.symm, d + nq, by rw [← HW.out, World.drewN_drewN]⟩
    · obtain rfl : j = m.length := by omega
      have HC := Lib.hid (show decide (m = m2) = true by
        rw [decide_eq_true_iff]
        have := HE.out
        rw [List.take_length, HL.out, List.take_length] at this
        exact this)
      go_wp2
      go_ret
      exact ⟨ret_bool HC.out.symm, d, rfl⟩

set_option maxHeartbeats 1000000 in
theorem rEqual_any (n : Nat) (hn : n ≤ 6) (F G : Nat → Nat → Nat) (A A2 : Option Addr) (c c2 : Nat) (w : World) (h : Mats w A (tab2 n F)) (h2 : Mats w A2 (tab2 n G)) :
    Calls Try.prog 23 #[.slice A n c, .slice A2 n c2] w fun e w' => e = .returned (.bool (decide (tab2 n F = tab2 n G))) ∧ Below w.heap.size w w' := by
  have km := rEqs_any (tab2 n F) (tab2 n G) A A2 c c2 w h h2 (fun r hr => by rw [tab2_rows r hr]; omega) (fun r hr => by rw [tab2_rows r hr]; omega) (by rw [tab2_len]; omega) (by rw [tab2_len, tab2_len])
  rw [tab2_len, tab2_len] at km
  clear h h2
  generalize decide (tab2 n F = tab2 n G) = q at *
  go_enter Try.func23, Try.ntmps23
  go_wp2_with fail
  refine km.mono ?_
  rintro e w2 ⟨rfl, d, rfl⟩
  go_wp2
  go_ret
  exact ⟨rfl, below_drewN (Below.refl _ _) d⟩

/-- What closed answers. -/
def ClosedPost (n : Nat) (l : List Chn) (F : Nat → Nat → Nat) (w : World) (e : Ending) (w' : World) : Prop :=
  ∃ B k, e = .returned (.slice B n k) ∧ Mats w' B (tab2 n (closeX n l F)) ∧ n ≤ k ∧ Below w.heap.size w w'
set_option maxRecDepth 100000 in
set_option maxHeartbeats 4000000 in
theorem rClosed_any (n : Nat) (hn1 : 1 ≤ n) (hn : n ≤ 6) (F : Nat → Nat → Nat) (l : List Chn) (A A2 : Option Addr) (c c2 : Nat) (w : World) (hF : U2 F) (hc32 : C32 l) (hl : l.length ≤ 10) (hnc : n ≤ c) (hr : Mats w A (tab2 n F)) (hr2 : Row w A2 (chnsC l)) :
    Calls Try.prog 18 #[.slice A n c, .slice A2 l.length c2] w (ClosedPost n l F w) := by
  obtain ⟨hla, hlb, hlc⟩ := last_spec hn hF hc32
  have HLB := Lib.hid hlb
  have HLC := Lib.hid hlc
  have HF := Lib.hid hF
  have HC := Lib.hid hc32
  have HR := Lib.hid hr
  have HR2 := Lib.hid hr2
  have HCl := Lib.hid (show closeX n l F = iterX n l F (lastX n l F) from rfl)
  generalize hq : lastX n l F = q at *
  have HQ := Lib.hid hq
  clear hq hlb hlc hF hc32 hr hr2
  go_enter Try.func18, Try.ntmps18
  go_wp2
  go_loopg [0] q (fun gk mv wr => ∃ (k : Nat) (B : Option Addr) (cb : Nat), gk + k = q ∧ mv = .slice B n cb ∧ n ≤ cb ∧ Hid (Mats wr B (tab2 n (iterX n l F k))) ∧ Hid (Below w.heap.size w wr))
  case atStart => exact ⟨0, A, c, rfl, rfl, hnc, HR, Lib.hid (Below.refl _ _)⟩
  case round =>
    obtain ⟨k, B, cb, hgk, rfl, hcb, HM, HB⟩ := hrel
    have key := rRound_any n hn1 hn (iterX n l F k) l B A2 cb c2 wr (iterX_u32 HF.out HC.out k) HC.out hl HM.out (HR2.out.below HB.out)
    go_wp2_with fail
    refine key.mono ?_
    rintro e w2 ⟨B2, c3, rfl, hm2, hc3, hb2⟩
    have HM2 := Lib.hid hm2
    have HB2 := Lib.hid (HB.out.trans (hb2.mono HB.out.size))
    have km := rEqual_any n hn (iterX n l F k) (roundX n l (iterX n l F k)) B B2 cb c3 w2 (HM.out.below hb2) hm2
    clear hm2 hb2 key
    by_cases hcl : ClosedX n l (iterX n l F k)
    · obtain rfl : k = q := by
        by_cases h : k < q
        · exact absurd hcl (HLC.out k h)
        · omega
      rw [decide_eq_true (tab2_same.2 hcl.symm)] at km
      clear hcl
      go_wp2_with fail
      refine km.mono ?_
      rintro e w3 ⟨rfl, hb3⟩
      have HB3 := Lib.hid (HB2.out.trans (hb3.mono HB2.out.size))
      have HM3 := Lib.hid (HM2.out.below hb3)
      clear hb3
      go_wp2
      go_ret
      refine ⟨B2, c3, rfl, ?_, hc3, HB3.out⟩
      rw [HCl.out, ← tab2_same.2 HLB.out]
      exact HM3.out
    · have hlt : k < q := by
        rcases Nat.lt_or_ge k q with h | h
        · exact h
        · obtain rfl : k = q := by omega
          exact absurd HLB.out hcl
      rw [decide_eq_false (fun e => hcl (tab2_same.1 e).symm)] at km
      clear hcl
      go_wp2_with fail
      refine km.mono ?_
      rintro e w3 ⟨rfl, hb3⟩
      have HB3 := Lib.hid (HB2.out.trans (hb3.mono HB2.out.size))
      have HM3 := Lib.hid (show Mats w3 B2 (tab2 n (iterX n l F (k + 1))) from HM2.out.below hb3)
      clear hb3
      go_wp2
      go_roundg (gk - 1)
      case measure => omega
      case rel => exact ⟨k + 1, B2, c3, by omega, rfl, hc3, HM3, HB3⟩

end Go.Proofs.Ythgmbiaajgpaaaa
