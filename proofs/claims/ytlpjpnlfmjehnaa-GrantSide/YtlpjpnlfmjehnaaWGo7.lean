/- grant.Can. -/
import Derived.Test.YtlpjpnlfmjehnaaWGo4
import Derived.Test.YtlpjpnlfmjehnaaWGo6
namespace Go.Proofs.Ytlpjpnlfmjehnaa
open Go.RowKit

theorem pop_one_ne {r : Nat} (h : pop r = 1) : r ≠ 0 := by
  intro e
  rw [e, pop, bitSum_zero] at h
  cases h

set_option maxHeartbeats 1000000 in
theorem GCan_ok : GCanOk 13 := by
  intro n es A c x y r w hlm hlc h32 hrow hr _
  obtain ⟨hz, hzs⟩ := zero_of_info infoGr
  have h197 : (gA zG).size = 197 := gA_size _
  obtain ⟨z, hzz⟩ : ∃ z, z = gA zG := ⟨_, rfl⟩
  rw [← hzz] at hz h197
  have HZ1 := Lib.hid h197
  have HZS := Lib.hid hzs
  have KS := Lib.hid (gStartFor_any n es A c x y r w h32 hrow hr)
  have H32 := Lib.hid h32
  clear hzz hzs h32
  go_enter Try.func13, Try.ntmps13
  go_wp2_with fail
  refine KS.out.mono ?_
  rintro e w2 ⟨s, rfl, hs, hb⟩
  have hst := run_storeCells_new (P := Try.prog) w2 55 z (gA s) (by rw [gA_size]; exact HZS.out) (by rw [gA_size, HZ1.out]) (gA_one s)
  have hM := (((RowsM.nil w).grow hb).box (cs := gA s) (t := 55) 197 (gA_size s))
  have HM3 := Lib.hid (show RowsM w (rowG 55 197 w2.heap.size s [] :: []) _ by unfold rowG; rw [List.append_nil]; exact hM)
  obtain ⟨zs, hzs⟩ : ∃ zs, zs = gA s := ⟨_, rfl⟩
  rw [← hzs] at hst HM3
  have HS := Lib.hid hs
  have hzs7 : zs.size = 197 := by rw [hzs]; exact gA_size s
  have HSZ := Lib.hid hzs
  clear hzs hs hb KS hM
  rw [← HSZ.out]
  have hlt : w2.heap.size < (w2.alloc (.cells zs 55)).heap.size := by simp
  go_upto_region 2 with fail
  generalize w2.alloc _ = w3 at *
  generalize w2.heap.size = g12 at *
  clear hst
  by_cases hE : codeGC n es x y r = 0
  · rw [hE]
    have HE0 := Lib.hid hE
    obtain ⟨c0, x0, x1, y0, y1, hne, hp⟩ := codeGC_zero hE
    have hsE := HS.out hE
    subst hsE
    have hn0 := (codeE_zero c0).1
    obtain ⟨n, rfl⟩ := Int.eq_ofNat_of_zero_le (show 0 ≤ n by omega)
    rw [Int.toNat_natCast] at HM3
    have KP := Lib.hid (gPath_any g12 n es x y r w3 (rowG_at HM3.out) hlt c0 H32.out ⟨x0, x1⟩ ⟨y0, y1⟩ hr (pop_one_ne hp))
    clear c0 x0 x1 y0 y1 hne hp hE
    go_wp2_with fail
    refine KP.out.mono ?_
    rintro e w4 ⟨B, k, p, rfl, hpr, hRp⟩
    have HR := Lib.hid (HM3.out.below.trans (hRp.below.mono HM3.out.below.size))
    have HPr := Lib.hid hpr
    clear hpr hRp
    by_cases hl : p.length = 0
    · have hq := Lib.hid (show ¬ CanE es x y r by
        rcases HPr.out with h | ⟨v, here, _, _, _, h, _⟩
        · exact h.2
        · have := (List.getElem?_eq_some_iff.1 h.head).1; omega)
      rw [hl]
      go_wp2
      refine bodyPost_ret (v := .tuple #[.bool false, .int .i64 0]) (by simp [results, Try.results13, go_sem]) rfl ?_
      exact ⟨false, by rw [HE0.out], by simp [hq.out], HR.out⟩
    · have hq := Lib.hid (show CanE es x y r by
        rcases HPr.out with h | ⟨v, here, _, _, h, _⟩
        · rw [h.1] at hl; exact absurd rfl hl
        · exact h)
      have hl' : 0 < p.length := by omega
      go_wp2
      refine bodyPost_ret (v := .tuple #[.bool true, .int .i64 0]) (by simp [results, Try.results13, go_sem]) rfl ?_
      exact ⟨true, by rw [HE0.out], by simp [hq.out, HE0.out], HR.out⟩
  · have HE := Lib.hid hE
    obtain ⟨q, hqq⟩ : ∃ q, q = codeGC n es x y r := ⟨_, rfl⟩
    rw [← hqq] at HE ⊢
    have hE := HE.out
    have HQ := Lib.hid hqq
    clear hqq
    go_wp2
    refine bodyPost_ret (v := .tuple #[.bool false, .int .i64 q]) (by simp [results, Try.results13, go_sem]) rfl ?_
    exact ⟨false, by rw [HQ.out], by rw [← HQ.out]; simp [hE], HM3.out.below⟩

end Go.Proofs.Ytlpjpnlfmjehnaa
