/- The walk of the law on Split, without the document's answer. -/
import Derived.Test.YtkmloanalhjmjaaLawLong
import Derived.Test.YtkmloanalhjmjaaLawSplits
namespace Go.Proofs.Ytkmloanalhjmjaa
open Go.RowKit

/-- How many of the first t are in the set. -/
def cntT (W : Nat) (c : List Nat) (t : Nat) : Nat := ((c.take t).filter fun i => W.testBit i).length
theorem cntT_le (W : Nat) (c : List Nat) (t : Nat) : cntT W c t ≤ c.length := by
  unfold cntT
  exact Nat.le_trans (List.length_filter_le _ _) (by rw [List.length_take]; omega)
theorem cntT_step {W : Nat} {c : List Nat} {t a : Nat} (h : c[t]? = some a) : cntT W c (t + 1) = cntT W c t + if W.testBit a then 1 else 0 := by
  unfold cntT
  rw [take_at h, List.filter_append, List.length_append]
  cases hw : W.testBit a <;> simp [hw]

set_option maxHeartbeats 2000000 in
theorem OrderDilworth_walk (n : Int) (ps : List (Int × Int)) (A : Option Addr) (c : Nat) (w : World) (hm : ps.length ≤ maxLen) (hr : Row w A (pairsC ps)) :
    Calls Try.prog 12 #[.int .i64 n, .slice A ps.length c] w fun e w' => e = .returned (.bool true) ∧ Below w.heap.size w w' := by
  by_cases hc : code n ps = 0
  · obtain ⟨h2, h3, h4⟩ := code_zero hc
    obtain ⟨n, rfl⟩ := Int.eq_ofNat_of_zero_le (show 0 ≤ n by unfold Large at h2; omega)
    obtain ⟨hn1, hn6, hl⟩ : 1 ≤ n ∧ n ≤ 6 ∧ ps.length ≤ 20 := by unfold Large at h2; omega
    have hW : widest n ps < 4294967296 := by
      have h1 : widest n ps ≤ one n := widestTo_le n ps _
      have h2 := one_le_64 hn6
      omega
    have HC := Lib.hid hc
    clear h2 h3 h4 hc
    go_enter Try.func12, Try.ntmps12
    go_wp2_with fail
    refine (Apart_ok n ps A c _ hm hr HC.out).mono ?_
    rintro e w1 ⟨rfl, hb1⟩
    go_wp2_with fail
    refine (Split_ok n ps A c _ hm (hr.below hb1) HC.out).mono ?_
    rintro e w2 ⟨v, L, B, rfl, hown, hsp, hb2⟩
    obtain ⟨A2, c2, vs, rfl, hrow, hvl, hvs⟩ := hown.open
    have HS := Lib.hid hsp
    have HR := Lib.hid hrow
    have HV := Lib.hid hvs
    have HVl := Lib.hid hvl
    have hLn : L.length ≤ 32 := by rw [hsp.len]; exact pop_le _
    have hLf : L.flatten.length ≤ 6 := by rw [hsp.full.len]; exact hn6
    have hb02 := hb1.trans (hb2.mono hb1.size)
    have hW0 : widest n ps ≠ 0 := by
      intro h0
      have hl0 : L.length = 0 := by rw [hsp.len, h0]; decide
      have hf := hsp.full.len
      rw [List.eq_nil_of_length_eq_zero hl0] at hf
      simp at hf
      omega
    clear hown hsp hrow hvs hvl
    go_wp2_with fail
    refine (ordered_any n ps A c _ hm (hr.below hb02)).mono ?_
    rintro e w3 ⟨rfl, hb3⟩
    rw [HC.out]
    have hb03 := hb02.trans (hb3.mono hb02.size)
    have HR3 := Lib.hid (HR.out.below hb3)
    have HV3 := Lib.hid (fun i ci h => (fun ⟨Ai, cc, h1, h2⟩ => ⟨Ai, cc, h1, h2.below hb3⟩ : (∃ Ai cc, vs[i]? = some (.slice Ai (ci : List Nat).length cc) ∧ Row w2 Ai (ints (nats ci))) → ∃ Ai cc, vs[i]? = some (.slice Ai ci.length cc) ∧ Row w3 Ai (ints (nats ci))) (HV.out i ci h))
    clear HR HV
    generalize hWe : widest n ps = W at *
    have HWe := Lib.hid hWe
    clear hWe
    have hW0b : ((W : Int) == 0) = false := by rw [beq_eq_false_iff_ne]; omega
    go_wp2_with fail
    refine (Size_any W hW _).mono ?_
    rintro e w' ⟨rfl, rfl⟩
    rw [show pop W = L.length from by rw [← HWe.out]; exact HS.out.len.symm]
    go_wp2
    go_loopw [55] (fun iv wr => wr = w3 ∧ ∃ k : Nat, iv = .int .i64 k ∧ k ≤ L.length) (fun iv _ => L.length - (intOf iv).toNat)
    case atStart => exact ⟨rfl, 0, rfl, Nat.zero_le _⟩
    case round =>
      obtain ⟨rfl, k, rfl, hk⟩ := hrel
      by_cases hkl : k < L.length
      · obtain ⟨cl, hcl⟩ := get_some hkl
        obtain ⟨Ai, cc, hvi, hri⟩ := HV3.out k cl hcl
        have hcm : cl ∈ L := List.mem_of_getElem? hcl
        have HCm := Lib.hid hcm
        have HRi := Lib.hid hri
        have hcl6 : cl.length ≤ 6 := by
          obtain ⟨_, r, hr2⟩ := flatten_at hcl
          have := congrArg List.length hr2
          rw [List.length_append, List.length_append] at this
          omega
        obtain ⟨gv, ov, rfl, hcv⟩ := HR3.out.at (k := k) (by rw [HVl.out]; exact hkl)
        have hck := hcv k _ hvi
        clear hcl hvi hri hcv hcm
        go_wp2
        go_loopw [11, 61] (fun mv iv wv => wv = wr ∧ ∃ t : Nat, iv = .int .i64 t ∧ t ≤ cl.length ∧ ∃ m : Nat, m = cntT W cl t ∧ mv = .int .i64 m) (fun _ iv _ => cl.length - (intOf iv).toNat)
        case atStart => exact ⟨rfl, 0, rfl, Nat.zero_le _, 0, by simp [cntT], rfl⟩
        case round =>
          obtain ⟨rfl, t, rfl, ht, m, hmm, rfl⟩ := hrel
          have hm6 : m ≤ 6 := by have := cntT_le W cl t; omega
          have HM := Lib.hid hmm
          clear hmm
          by_cases htl : t < cl.length
          · obtain ⟨a, ha⟩ := get_some htl
            have han : a < n := (HS.out.chain cl HCm.out).1 a (List.mem_of_getElem? ha)
            have HT := Lib.hid (cntT_step (W := W) ha)
            obtain ⟨gi, oi, rfl, hci⟩ := HRi.out.at (k := t) (by rw [ints_length, nats_length]; exact htl)
            have hca := hci t _ (ints_at (nats_at ha))
            clear hci ha
            go_wp2_with fail
            refine (Bit_any W a (by omega) hW _).mono ?_
            rintro e w' ⟨rfl, rfl⟩
            cases hbt : W.testBit a with
            | true =>
              go_wp2
              go_roundw
              case rel => exact ⟨trivial, t + 1, by go_num, by omega, m + 1, by rw [HT.out, HM.out, hbt]; rfl, by go_num⟩
              case measure => simp [intOf]; omega
            | false =>
              go_wp2
              go_roundw
              case rel => exact ⟨trivial, t + 1, by go_num, by omega, m, by rw [HT.out, HM.out, hbt]; rfl, rfl⟩
              case measure => simp [intOf]; omega
          · have hm1 : m = 1 := by
              rw [HM.out]
              unfold cntT
              rw [List.take_of_length_le (by omega), ← HWe.out]
              exact HS.out.one cl HCm.out
            subst hm1
            go_wp2
            go_roundw
            case rel => exact ⟨trivial, k + 1, by go_num, by omega⟩
            case measure => simp [intOf]; omega
      · go_wp2
        go_ret
        exact ⟨rfl, hb03⟩
  · go_enter Try.func12, Try.ntmps12
    go_wp2_with fail
    refine (Apart_err n ps A c _ hm hr hc).mono ?_
    rintro e w1 ⟨rfl, hb1⟩
    go_wp2_with fail
    refine (Split_err n ps A c _ hm (hr.below hb1) hc).mono ?_
    rintro e w2 ⟨rfl, hb2⟩
    have hb02 := hb1.trans (hb2.mono hb1.size)
    go_wp2_with fail
    refine (ordered_any n ps A c _ hm (hr.below hb02)).mono ?_
    rintro e w3 ⟨rfl, hb3⟩
    have HB2 := Lib.hid (hb02.trans (hb3.mono hb02.size))
    generalize code n ps = k at *
    have hk : (k != 0) = true := by simpa using hc
    have hk2 : (k == 0) = false := by simpa using hc
    clear hc
    go_wp2
    go_ret
    exact ⟨rfl, HB2.out⟩

end Go.Proofs.Ytkmloanalhjmjaa
