/- grant.startFor. -/
import Derived.Test.YtlpjpnlfmjehnaaWGo3
namespace Go.Proofs.Ytlpjpnlfmjehnaa
open Go.RowKit

theorem gSF_ret {a : Act} {w : World} {g : Nat} {cs : Array Value} {q : Int} {R : Ending → World → Prop} (hp : a.tmps.getD 10 undef = .pointer (some ⟨g, 0, none⟩)) (hq : a.tmps.getD 11 undef = .int .i64 q) (hd : a.defers = [])
    (hg : w.heap[g]? = some (.cells cs 55 (0, 0))) (hs : cs.size = 197) (hR : R (.returned (.tuple #[.agg cs, .int .i64 q])) w) : bodyPost Try.prog Try.f24 R .ret a w := by
  refine bodyPost_ret (v := .tuple #[.agg cs, .int .i64 q]) ?_ hd hR
  rw [results_cell_tmp rfl, hp, hq]
  simp [asAddr, Result.andThen, load_gr w g cs _ hg hs]
theorem apV_start {n : Int} {es : List Ed} (h0 : 0 ≤ n) (x y : Int) : apV (startG n.toNat es) x y = true ↔ ¬ (x < 0 ∨ n ≤ x ∨ y < 0 ∨ n ≤ y ∨ x = y) := by
  rw [apV_iff]
  unfold startG
  simp only
  omega

set_option maxHeartbeats 1000000 in
theorem gStartFor_any (n : Int) (es : List Ed) (A : Option Addr) (c : Nat) (x y : Int) (r : Nat) (w : World) (h32 : E32 es) (hrow : Row w A (edgesC es)) (hr : r < 4294967296) :
    Calls Try.prog 24 #[.int .i64 n, .slice A es.length c, .int .i64 x, .int .i64 y, .int .u32 (r : Int)] w fun e w' => ∃ s : Gs,
      e = .returned (.tuple #[.agg (gA s), .int .i64 (codeGC n es x y r)]) ∧ (codeGC n es x y r = 0 → s = startG n.toNat es) ∧ Below w.heap.size w w' := by
  obtain ⟨hz, hzs⟩ := zero_of_info infoGr
  have h197 : (gA zG).size = 197 := gA_size _
  obtain ⟨z, hzz⟩ : ∃ z, z = gA zG := ⟨_, rfl⟩
  rw [← hzz] at hz h197
  have hone := Lib.hid (show z.all (·.oneCell') = true by rw [hzz]; exact gA_one _)
  have hne : ¬ z = #[] := by intro e; rw [e] at h197; cases h197
  have HM := Lib.hid ((RowsM.nil w).box (cs := z) (t := 55) 197 h197)
  have HZ := Lib.hid hzz
  have HZ1 := Lib.hid h197
  have HZS := Lib.hid hzs
  clear hzz h197 hzs
  go_enter Try.func24, Try.ntmps24
  go_upto_region 1 with fail
  generalize w.alloc _ = w1 at *
  generalize w.heap.size = g10 at *
  have KS := Lib.hid (gStart_any n es A c w1 h32 (hrow.below HM.out.below))
  go_wp2_with fail
  refine KS.out.mono ?_
  rintro e w2 ⟨s, rfl, hs, hb⟩
  have HM2 := HM.out.grow hb
  have hst := run_storeCells_new (P := Try.prog) w2 55 z (gA s) (by rw [gA_size]; exact HZS.out) (by rw [gA_size, HZ1.out]) (gA_one s)
  have HM3 := Lib.hid (HM2.box (cs := gA s) (t := 55) 197 (gA_size s))
  obtain ⟨zs, hzs⟩ : ∃ zs, zs = gA s := ⟨_, rfl⟩
  rw [← hzs] at hst HM3
  have HS := Lib.hid hs
  have HSZ := Lib.hid hzs
  have hzs7 : zs.size = 197 := by rw [hzs]; exact gA_size s
  clear hzs hs hb HM2 HM KS
  rw [← HSZ.out]
  go_upto_region 2 with fail
  generalize w2.alloc _ = w3 at *
  generalize w2.heap.size = g12 at *
  have HZ7 := Lib.hid hzs7
  clear hst hzs7
  by_cases hE : codeE n es = 0
  · rw [hE]
    by_cases hA : apV s x y = true
    · have h0 := (codeE_zero hE).1
      have hxy := hA
      rw [HS.out hE, apV_start (by omega)] at hxy
      have KA := Lib.hid (gApart_any g12 s x y w3 (rowG_at (t := 55) (size := 197) (tl := []) (by unfold rowG; rw [List.append_nil, show gC s = zs.toList by rw [HSZ.out]; rfl]; exact HM3.out)).n)
      have KO := Lib.hid (OnesCount32_any r hr w3)
      rw [hA] at KA
      have HM5 := Lib.hid HM3.out.drew
      have hp := pop_le r
      by_cases hP : pop r = 1
      · have hq := Lib.hid (show codeGC n es x y r = 0 by
          unfold codeGC
          rw [if_neg (by simp [hE]), if_neg hxy, if_neg (by simp [hP])])
        have HSE := Lib.hid (HS.out hE)
        clear HM3 hE hA h0 hxy
        go_wp2_with fail
        refine KA.out.mono ?_
        rintro e w' ⟨rfl, rfl⟩
        clear KA
        go_wp2_with fail
        refine KO.out.mono ?_
        rintro e w' ⟨rfl, rfl⟩
        clear KO
        rw [hP]
        generalize w3.drew = w5 at *
        have hh1 := (HM5.out.boxHeap (k := 0) rfl).1
        have hh2 := (HM5.out.boxHeap (k := 1) rfl).1
        rw [Array.toArray_toList] at hh1 hh2
        obtain ⟨d, hu, hd⟩ := underGr
        have hi := (zero_of_info infoGr).2
        have hs197 := HZ7.out
        rw [← hs197] at hi
        have hone1 : zs.all (·.oneCell') = true := by rw [HSZ.out]; exact gA_one _
        have hold : z.size = zs.size := by rw [HZ1.out, hs197]
        have HM6 := Lib.hid (HM5.out.storeAll (k := 1) rfl zs HZ7.out)
        clear HM5
        go_upto_region 8 with fail
        go_wp2_with (first | (refine wpList_load_row rfl 55 _ rfl g12 rfl 55 zs (0, 0) d hh1 hu (by cases d <;> first | rfl | (simp at hd)) hi ?_) | (refine wpList_store_row rfl 55 _ _ rfl g10 zs rfl rfl 55 z hh2 hi hold hone1 ?_))
        refine gSF_ret (g := g10) (cs := zs) (q := 0) rfl rfl rfl (by have := (HM6.out.boxHeap (k := 1) rfl).1; simpa using this) HZ7.out ?_
        exact ⟨s, by rw [hq.out, HSZ.out], fun _ => HSE.out, HM6.out.below⟩
      · have hq := Lib.hid (show codeGC n es x y r = 4 by
          unfold codeGC
          rw [if_neg (by simp [hE]), if_neg hxy, if_pos hP])
        have hP' : ¬ ((pop r : Int) = 1) := by omega
        clear HM3 hE hA h0 hxy
        go_wp2_with fail
        refine KA.out.mono ?_
        rintro e w' ⟨rfl, rfl⟩
        clear KA
        go_wp2_with fail
        refine KO.out.mono ?_
        rintro e w' ⟨rfl, rfl⟩
        clear KO
        generalize w3.drew = w5 at *
        have hstz := box_store (P := Try.prog) HM5.out (k := 1) rfl z HZ1.out hone.out
        have HM4 := Lib.hid (HM5.out.storeAll (k := 1) rfl z HZ1.out)
        clear HM5
        go_wp2
        refine gSF_ret (g := g10) (cs := z) (q := 4) rfl rfl rfl (by have := (HM4.out.boxHeap (k := 1) rfl).1; simpa using this) HZ1.out ?_
        refine ⟨zG, ?_, fun h => ?_, HM4.out.below⟩
        · rw [hq.out, HZ.out]
        · rw [hq.out] at h; cases h
    · have h0 := (codeE_zero hE).1
      have hq := Lib.hid (show codeGC n es x y r = 2 by
        unfold codeGC
        rw [HS.out hE, apV_start (by omega), Decidable.not_not] at hA
        rw [if_neg (by simp [hE]), if_pos hA])
      have KA := Lib.hid (gApart_any g12 s x y w3 (rowG_at (t := 55) (size := 197) (tl := []) (by unfold rowG; rw [List.append_nil, show gC s = zs.toList by rw [HSZ.out]; rfl]; exact HM3.out)).n)
      have hstz := box_store (P := Try.prog) HM3.out (k := 1) rfl z HZ1.out hone.out
      have HM4 := Lib.hid (HM3.out.storeAll (k := 1) rfl z HZ1.out)
      have hA' : apV s x y = false := by simpa using hA
      rw [hA'] at KA
      clear HM3 hE hA h0
      go_wp2_with fail
      refine KA.out.mono ?_
      rintro e w' ⟨rfl, rfl⟩
      clear KA
      go_wp2
      refine gSF_ret (g := g10) (cs := z) (q := 2) rfl rfl rfl (by have := (HM4.out.boxHeap (k := 1) rfl).1; simpa using this) HZ1.out ?_
      refine ⟨zG, ?_, fun h => ?_, HM4.out.below⟩
      · rw [hq.out, HZ.out]
      · rw [hq.out] at h; cases h
  · have hq := Lib.hid (show codeGC n es x y r = codeE n es by unfold codeGC; rw [if_pos hE])
    have HE := Lib.hid hE
    clear hE
    obtain ⟨q, hqq⟩ : ∃ q, q = codeE n es := ⟨_, rfl⟩
    rw [← hqq] at hq HE ⊢
    have hE := HE.out
    have hstz := box_store (P := Try.prog) HM3.out (k := 1) rfl z HZ1.out hone.out
    have HM4 := Lib.hid (HM3.out.storeAll (k := 1) rfl z HZ1.out)
    clear HM3 hqq
    go_wp2
    refine gSF_ret (g := g10) (cs := z) (q := q) rfl rfl rfl (by have := (HM4.out.boxHeap (k := 1) rfl).1; simpa using this) HZ1.out ?_
    refine ⟨zG, ?_, fun h => ?_, HM4.out.below⟩
    · rw [hq.out, HZ.out]
    · rw [hq.out] at h; exact absurd h hE

end Go.Proofs.Ytlpjpnlfmjehnaa
