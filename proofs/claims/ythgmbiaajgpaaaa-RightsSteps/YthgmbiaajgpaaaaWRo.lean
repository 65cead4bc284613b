/- rights.Close, Safe, Steps. -/
import Derived.Test.YthgmbiaajgpaaaaWRo3
namespace Go.Proofs.Ythgmbiaajgpaaaa
open Go.RowKit

theorem codeX_nat {n : Int} {m : Mat} {nc : Nat} (h : codeX n m nc = 0) : ∃ N : Nat, n = N ∧ 1 ≤ N ∧ N ≤ 6 ∧ nc ≤ 10 ∧ m.length = N ∧ m = tab2 N (atM m) := by
  obtain ⟨h1, h2, h3, h4⟩ := codeX_zero h
  obtain ⟨N, rfl⟩ := Int.eq_ofNat_of_zero_le (show 0 ≤ n by omega)
  exact ⟨N, rfl, by omega, by omega, h3, by have := h4.1; omega, sq_tab2 h4⟩
theorem mats_nil (w : World) (A : Option Addr) : Mats w A [] := ⟨[], rfl, Row.nil _ _, fun y hy => by simp at hy⟩

set_option maxHeartbeats 1000000 in
theorem RtClose_ok : RtCloseOk 8 := by
  intro n m A c l A2 c2 w hm hmc hr _hll hlc hc32 hr2 _hX
  have kc := rCheck_any n m A c A2 l.length c2 w hr
  by_cases h0 : codeX n m l.length = 0
  · obtain ⟨N, rfl, n1, n6, nc, hlen, htab⟩ := codeX_nat h0
    have HM := Lib.hid hr
    have hU := hr.u2
    rw [htab] at HM
    have HK := Lib.hid (fun W (hb : Below w.heap.size w W) => rClosed_any N n1 n6 (atM m) l A A2 c c2 W hU hc32 nc (by omega) (HM.out.below hb) (hr2.below hb))
    have HT := Lib.hid (show CloseR (N : Int) m l (tab2 N (closeX N l (atM m))) from ⟨fun _ => by rw [Int.toNat_natCast], fun h => absurd h0 h⟩)
    have hlt : (tab2 N (closeX N l (atM m))).length = N := tab2_len
    rw [h0] at kc ⊢
    rw [hlen] at kc ⊢
    clear hr hr2 htab hc32 hU h0 hlen hm hmc
    go_enter Try.func8, Try.ntmps8
    go_wp2_with fail
    refine kc.mono ?_
    rintro e w2 ⟨rfl, hb⟩
    have kK := HK.out w2 hb
    have HB := Lib.hid hb
    clear hb kc HK
    go_wp2_with fail
    refine kK.mono ?_
    rintro e w3 ⟨B, k, rfl, hm3, hk, hb3⟩
    have HM3 := Lib.hid hm3
    have HB3 := Lib.hid (HB.out.trans (hb3.mono HB.out.size))
    clear hm3 hb3 kK
    go_wp2
    refine bodyPost_ret (v := .tuple #[.slice B N k, .int .i64 0]) (by simp [results, Try.results8, go_sem]) rfl ?_
    exact ⟨B, k, _, by rw [hlt], HT.out, by rw [hlt]; exact hk, HM3.out, HB3.out⟩
  · have HT := Lib.hid (show CloseR n m l [] from ⟨fun h => absurd h h0, fun _ => rfl⟩)
    have HC := Lib.hid (show ∃ q, q = codeX n m l.length from ⟨_, rfl⟩)
    generalize codeX n m l.length = q at *
    have hne : (q != 0) = true := by simpa using h0
    clear hr hr2 hc32 h0
    go_enter Try.func8, Try.ntmps8
    go_wp2_with fail
    refine kc.mono ?_
    rintro e w2 ⟨rfl, hb⟩
    have HB := Lib.hid hb
    clear hb kc
    go_wp2
    refine bodyPost_ret (v := .tuple #[.slice none 0 0, .int .i64 q]) (by simp [results, Try.results8, go_sem]) rfl ?_
    exact ⟨none, 0, [], rfl, HT.out, Nat.le_refl _, mats_nil _ _, HB.out⟩

set_option maxHeartbeats 1000000 in
theorem RtSafe_ok : RtSafeOk 12 := by
  intro n m A c l A2 c2 x y r w hm hmc hr _hll hlc hc32 hr2 hr32 _hX
  have kc := rCheckFor_any n m A c A2 l.length c2 x y w hr
  by_cases h0 : codeXC n m l.length x y = 0
  · obtain ⟨hx0, hx1, hx2, hy1, hy2⟩ := codeXC_zero h0
    obtain ⟨N, rfl, n1, n6, nc, hlen, htab⟩ := codeX_nat hx0
    obtain ⟨a, rfl⟩ := Int.eq_ofNat_of_zero_le hx1
    obtain ⟨b, rfl⟩ := Int.eq_ofNat_of_zero_le hy1
    have ha : a < N := by omega
    have hb : b < N := by omega
    have HM := Lib.hid hr
    have hU := hr.u2
    rw [htab] at HM
    have HK := Lib.hid (fun W (hb : Below w.heap.size w W) => rClosed_any N n1 n6 (atM m) l A A2 c c2 W hU hc32 nc (by omega) (HM.out.below hb) (hr2.below hb))
    have HU := Lib.hid (show U2 (closeX N l (atM m)) from iterX_u32 hU hc32 _)
    simp only [Int.toNat_natCast]
    rw [h0] at kc ⊢
    rw [hlen] at kc ⊢
    clear hr hr2 htab hc32 hU h0 hlen hm hmc hx0 hx1 hx2 hy1 hy2
    obtain ⟨G, hG⟩ : ∃ G, closeX N l (atM m) = G := ⟨_, rfl⟩
    rw [hG] at HU
    rw [hG]
    have HG := Lib.hid hG
    clear hG
    have HA := Lib.hid (show (tab2 N G)[a]? = some (tabA N (G a)) from tabA_get _ ha)
    have HV := Lib.hid (words_at (tabA_get (G a) hb))
    have kh := rHas_any (G a b) r (HU.out a b) hr32
    generalize hsb : sub r (G a b) = sb at *
    clear hsb
    go_enter Try.func12, Try.ntmps12
    go_wp2_with fail
    refine kc.mono ?_
    rintro e w2 ⟨rfl, hb2⟩
    have kK := HK.out w2 hb2
    have HB := Lib.hid hb2
    clear hb2 kc HK
    go_wp2_with fail
    refine kK.mono ?_
    rintro e w3 ⟨B, k, rfl, hm3, hk, hb3⟩
    have HB3 := Lib.hid (HB.out.trans (hb3.mono HB.out.size))
    rw [HG.out] at hm3
    obtain ⟨g1, o1, A3, c3, rfl, x0, _, _, _, row⟩ := hm3.row HA.out
    rw [tabA_length] at x0
    obtain ⟨g2, o2, rfl, hc⟩ := row.at (k := b) (by simp [words]; omega)
    have x1 := hc b _ HV.out
    have kh' := kh w3
    clear hm3 hb3 kK row hc kh
    go_wp2_with fail
    refine kh'.mono ?_
    rintro e w4 ⟨rfl, rfl⟩
    clear kh' x0 x1
    go_wp2
    refine bodyPost_ret (v := .tuple #[.bool (!sb), .int .i64 0]) (by simp [results, Try.results12, go_sem]) rfl ?_
    exact ⟨!sb, rfl, by cases sb <;> simp, HB3.out⟩
  · generalize codeXC n m l.length x y = q at *
    have HF := Lib.hid (show ∀ p : Prop, (false = true ↔ q = 0 ∧ p) from fun p => ⟨fun h => (by cases h), fun h => absurd h.1 h0⟩)
    have hne : (q != 0) = true := by simpa using h0
    clear hr hr2 hc32 h0
    go_enter Try.func12, Try.ntmps12
    go_wp2_with fail
    refine kc.mono ?_
    rintro e w2 ⟨rfl, hb⟩
    have HB := Lib.hid hb
    clear hb kc
    go_wp2
    refine bodyPost_ret (v := .tuple #[.bool false, .int .i64 q]) (by simp [results, Try.results12, go_sem]) rfl ?_
    exact ⟨false, rfl, HF.out _, HB.out⟩

set_option maxRecDepth 100000 in
set_option maxHeartbeats 4000000 in
theorem RtSteps_ok : RtStepsOk 15 := by
  intro n m A c l A2 c2 x y r w hm hmc hr _hll hlc hc32 hr2 hr32 _hX
  have kc := rCheckFor_any n m A c A2 l.length c2 x y w hr
  by_cases h0 : codeXC n m l.length x y = 0
  · obtain ⟨hx0, hx1, hx2, hy1, hy2⟩ := codeXC_zero h0
    obtain ⟨N, rfl, n1, n6, nc, hlen, htab⟩ := codeX_nat hx0
    obtain ⟨a, rfl⟩ := Int.eq_ofNat_of_zero_le hx1
    obtain ⟨b, rfl⟩ := Int.eq_ofNat_of_zero_le hy1
    have ha : a < N := by omega
    have hb : b < N := by omega
    have HM := Lib.hid hr
    have hU := hr.u2
    rw [htab] at HM
    obtain ⟨F, hF⟩ : ∃ F, atM m = F := ⟨_, rfl⟩
    have HStep := Lib.hid (show ∀ k f : Int, ((sub r (closeX N l F a b) = false → k = 0 ∧ f = 5) ∧
        (sub r (closeX N l F a b) = true → f = 0 ∧ ∃ t : Nat, k = t ∧ t ≤ lastX N l F ∧ sub r (iterX N l F t a b) = true ∧ ∀ s, s < t → sub r (iterX N l F s a b) = false)) → StepR (N : Int) m l a b r k f from fun k f h => by
      unfold StepR
      simp only [Int.toNat_natCast]
      rw [hF]
      exact ⟨fun h1 => absurd h0 h1, fun _ => h.1, fun _ => h.2⟩)
    rw [hF] at HM hU
    have HU := Lib.hid (fun k => iterX_u32 (n := N) hU hc32 k)
    obtain ⟨hla, hlb, hlc'⟩ := last_spec n6 hU hc32
    have HLB := Lib.hid hlb
    have HLC := Lib.hid hlc'
    have HC := Lib.hid hc32
    have HR2 := Lib.hid hr2
    have HCl := Lib.hid (show closeX N l F = iterX N l F (lastX N l F) from rfl)
    generalize hq : lastX N l F = q at *
    have HQ := Lib.hid hq
    rw [h0] at kc
    rw [hlen] at kc ⊢
    have hNc : N ≤ c := by omega
    clear hr hr2 htab hc32 hU h0 hlen hm hmc hx0 hx1 hx2 hy1 hy2 hF hlb hlc' hq
    have HA := Lib.hid (fun k => show (tab2 N (iterX N l F k))[a]? = some (tabA N (iterX N l F k a)) from tabA_get _ ha)
    have HV := Lib.hid (fun k => words_at (tabA_get (iterX N l F k a) hb))
    go_enter Try.func15, Try.ntmps15
    go_wp2_with fail
    refine kc.mono ?_
    rintro e w2 ⟨rfl, hb2⟩
    have HB := Lib.hid hb2
    have HM2 := Lib.hid (HM.out.below hb2)
    clear hb2 kc
    go_wp2
    go_loopw [1, 15] (fun mv kv wr => ∃ (k : Nat) (B : Option Addr) (cb : Nat), kv = .int .i64 k ∧ k ≤ q ∧ mv = .slice B N cb ∧ N ≤ cb ∧ Hid (Mats wr B (tab2 N (iterX N l F k))) ∧ Hid (Below w.heap.size w wr) ∧ Hid (∀ s, s < k → sub r (iterX N l F s a b) = false)) (fun _ kv _ => q - (intOf kv).toNat)
    case atStart => exact ⟨0, A, c, rfl, Nat.zero_le _, rfl, hNc, HM2, HB, Lib.hid (fun s hs => absurd hs (Nat.not_lt_zero _))⟩
    case round =>
      clear HM2 HB
      obtain ⟨k, B, cb, rfl, hk, rfl, hcb, HM2, HB, HNo⟩ := hrel
      obtain ⟨g1, o1, A3, c3, rfl, x0, _, _, _, row⟩ := HM2.out.row (HA.out k)
      rw [tabA_length] at x0
      obtain ⟨g2, o2, rfl, hc⟩ := row.at (k := b) (by simp [words]; omega)
      have x1 := hc b _ (HV.out k)
      have kh := rHas_any (iterX N l F k a b) r (HU.out k a b) hr32 wr
      have kr := rRound_any N n1 n6 (iterX N l F k) l (some ⟨g1, o1, none⟩) A2 cb c2 wr (HU.out k) HC.out nc HM2.out (HR2.out.below HB.out)
      clear row hc
      by_cases hs : sub r (iterX N l F k a b) = true
      · have HT := Lib.hid (HStep.out k 0 ⟨fun h => (by
          have h2 := iter_le (n := N) (l := l) (F := F) hk a b ha hb
          rw [← HCl.out] at h2
          rw [sub_trans hs h2] at h
          cases h), fun _ => ⟨rfl, k, rfl, hk, hs, HNo.out⟩⟩)
        rw [hs] at kh
        clear hs kr
        go_wp2_with fail
        refine kh.mono ?_
        rintro e w4 ⟨rfl, rfl⟩
        clear kh x0 x1
        go_wp2
        refine bodyPost_ret (v := .tuple #[.int .i64 k, .int .i64 0]) (by simp [results, Try.results15, go_sem]) rfl ?_
        exact ⟨k, 0, rfl, HT.out, HB.out⟩
      · rw [Bool.not_eq_true] at hs
        have HNo2 := Lib.hid (show ∀ s, s < k + 1 → sub r (iterX N l F s a b) = false from fun s h => by
          by_cases e : s = k
          · subst e; exact hs
          · exact HNo.out s (by omega))
        have HSk := Lib.hid hs
        rw [hs] at kh
        clear hs
        go_wp2_with fail
        refine kh.mono ?_
        rintro e w4 ⟨rfl, rfl⟩
        clear kh x0 x1
        go_wp2_with fail
        refine kr.mono ?_
        rintro e w5 ⟨B2, c4, rfl, hm5, hc4, hb5⟩
        have HM5 := Lib.hid hm5
        have HB5 := Lib.hid (HB.out.trans (hb5.mono HB.out.size))
        have km := rEqual_any N n6 (iterX N l F k) (roundX N l (iterX N l F k)) (some ⟨g1, o1, none⟩) B2 cb c4 w5 (HM2.out.below hb5) hm5
        clear hm5 hb5 kr
        by_cases hcl : ClosedX N l (iterX N l F k)
        · have HT := Lib.hid (HStep.out 0 5 (by
            obtain rfl : k = q := by
              by_cases h : k < q
              · exact absurd hcl (HLC.out k h)
              · omega
            rw [HCl.out, HSk.out]
            exact ⟨fun _ => ⟨rfl, rfl⟩, fun h => by cases h⟩))
          rw [decide_eq_true (tab2_same.2 hcl.symm)] at km
          clear hcl
          go_wp2_with fail
          refine km.mono ?_
          rintro e w3 ⟨rfl, hb3⟩
          have HB3 := Lib.hid (HB5.out.trans (hb3.mono HB5.out.size))
          clear hb3 km
          go_wp2
          refine bodyPost_ret (v := .tuple #[.int .i64 0, .int .i64 5]) (by simp [results, Try.results15, go_sem]) rfl ?_
          exact ⟨0, 5, rfl, HT.out, HB3.out⟩
        · have hlt : k < q := by
            rcases Nat.lt_or_ge k q with h | h
            · exact h
            · obtain rfl : k = q := by omega
              exact absurd HLB.out hcl
          rw [decide_eq_false (fun e => hcl (tab2_same.1 e).symm)] at km
          clear hcl
          go_wp2_with fail
          refine km.mono ?_
          rintro e w3 ⟨rfl, hb3⟩
          have HB3 := Lib.hid (HB5.out.trans (hb3.mono HB5.out.size))
          have HM3 := Lib.hid (show Mats w3 B2 (tab2 N (iterX N l F (k + 1))) from HM5.out.below hb3)
          clear hb3 km
          go_wp2
          go_roundw
          case rel => exact ⟨k + 1, B2, c4, by go_num, by omega, rfl, hc4, HM3, HB3, HNo2⟩
          case measure => simp [intOf]; omega
  · have HT := Lib.hid (show StepR n m l x y r 0 (codeXC n m l.length x y) from ⟨fun _ => ⟨rfl, rfl⟩, fun h => absurd h h0, fun h => absurd h h0⟩)
    generalize codeXC n m l.length x y = q at *
    have hne : (q != 0) = true := by simpa using h0
    clear hr hr2 hc32 h0
    go_enter Try.func15, Try.ntmps15
    go_wp2_with fail
    refine kc.mono ?_
    rintro e w2 ⟨rfl, hb⟩
    have HB := Lib.hid hb
    clear hb kc
    go_wp2
    refine bodyPost_ret (v := .tuple #[.int .i64 0, .int .i64 q]) (by simp [results, Try.results15, go_sem]) rfl ?_
    exact ⟨0, q, rfl, HT.out, HB.out⟩

end Go.Proofs.Ythgmbiaajgpaaaa
