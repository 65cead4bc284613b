/- grant's writer: making, writing, passing on. -/
import Derived.Test.YtlpjpnlfmjehnaaWGoA
namespace Go.Proofs.Ytlpjpnlfmjehnaa
open Go.RowKit

section
variable {w0 : World} {ex : List Rw}
theorem gWriteMake_any (g : Nat) (s : Gs) (l : List Dd) (a : Nat) (w : World) (h : Wr w0 g s l ex w) (hf : FineG s) (hl : l.length ≤ 1000) :
    Calls Try.prog 41 #[.pointer (some ⟨g, 0, none⟩), .int .i64 (a : Int)] w fun e w' => e = .returned (.int .i64 (((stepG s (mkD a)).2.n : Int) - 1)) ∧ Wr w0 g (stepG s (mkD a)).2 (l ++ [mkD a]) ex w' := by
  have hf2 := fineG_step (d := mkD a) hf (show (0 : Nat) < 4294967296 by decide)
  have KD := Lib.hid (show Calls Try.prog 47 #[.pointer (some ⟨g, 0, none⟩), .agg #[.int .i64 3, .int .i64 (a : Int), .int .i64 0, .int .i64 0, .int .u32 0, .int .i64 0]] w _ from gDo_any g s l (mkD a) w h hf (show (0 : Nat) < 4294967296 by decide) hl)
  clear h
  go_enter Try.func41, Try.ntmps41
  go_wp2_with fail
  refine KD.out.mono ?_
  rintro e w2 ⟨rfl, hW⟩
  have hn := hW.at_.n
  generalize hst : (stepG s (mkD a)).2 = st at *
  have HST := Lib.hid hst
  have HW := Lib.hid hW
  have h1 := hf2.1
  have h2 := hf2.2.1
  clear hW hst KD hf2
  go_wp2
  go_ret
  rw [HST.out]
  exact ⟨rfl, HW.out⟩
theorem gWrite_any (g : Nat) (s : Gs) (l : List Dd) (k : Int) (a b o p : Nat) (w : World) (h : Wr w0 g s l ex w) (hf : FineG s) (hl : l.length ≤ 1000) (hp : p < 4294967296) :
    Calls Try.prog 42 #[.pointer (some ⟨g, 0, none⟩), .int .i64 k, .int .i64 (a : Int), .int .i64 (b : Int), .int .i64 (o : Int), .int .u32 (p : Int)] w fun e w' => e = .returned (.tuple #[]) ∧ Wr w0 g (stepG s (wrD k a b o p)).2 (l ++ [wrD k a b o p]) ex w' := by
  have KD := Lib.hid (show Calls Try.prog 47 #[.pointer (some ⟨g, 0, none⟩), .agg #[.int .i64 k, .int .i64 (a : Int), .int .i64 (b : Int), .int .i64 (o : Int), .int .u32 (p : Int), .int .i64 0]] w _ from gDo_any g s l (wrD k a b o p) w h hf hp hl)
  clear h
  go_enter Try.func42, Try.ntmps42
  go_wp2_with fail
  refine KD.out.mono ?_
  rintro e w2 ⟨rfl, hW⟩
  have HW := Lib.hid hW
  clear hW
  go_wp2
  go_end0
  exact ⟨rfl, HW.out⟩
set_option maxHeartbeats 1000000 in
theorem gPass_any (g : Nat) (s : Gs) (l : List Dd) (f t b : Nat) (w : World) (h : Wr w0 g s l ex w) (hf : FineG s) (hl : l.length ≤ 900) (hfn : f < s.n) (htn : t < s.n) (h14 : s.n < 14) :
    Calls Try.prog 43 #[.pointer (some ⟨g, 0, none⟩), .int .i64 (f : Int), .int .i64 (t : Int), .int .i64 (b : Int)] w fun e w' => e = .returned (.tuple #[]) ∧ Wr w0 g (runS s (passL s f t b)) (l ++ passL s f t b) ex w' := by
  have K1 := Lib.hid (show Calls Try.prog 37 #[.pointer (some ⟨g, 0, none⟩), .int .i64 (t : Int), .int .i64 (f : Int), .int .u32 1] w fun e w' => e = .returned (.bool (sub 1 (s.ov t f))) ∧ w = w' from gHas_any g s t f 1 w h.at_ hf (by omega) (by omega) (by decide))
  have K2 := Lib.hid (show Calls Try.prog 37 #[.pointer (some ⟨g, 0, none⟩), .int .i64 (f : Int), .int .i64 (t : Int), .int .u32 2] w fun e w' => e = .returned (.bool (sub 2 (s.ov f t))) ∧ w = w' from gHas_any g s f t 2 w h.at_ hf (by omega) (by omega) (by decide))
  have HW := Lib.hid h
  have hb1 := Lib.hid (show sub 1 (s.ov t f) = (s.ov t f).testBit 0 from sub_oneBit (i := 0))
  have hb2 := Lib.hid (show sub 2 (s.ov f t) = (s.ov f t).testBit 1 from sub_oneBit (i := 1))
  have HF := Lib.hid hf
  clear h hf
  go_enter Try.func43, Try.ntmps43
  go_wp2_with fail
  refine K1.out.mono ?_
  rintro e w' ⟨rfl, rfl⟩
  cases h1 : sub 1 (s.ov t f)
  · go_wp2_with fail
    refine K2.out.mono ?_
    rintro e w' ⟨rfl, rfl⟩
    cases h2 : sub 2 (s.ov f t)
    · have H1 := Lib.hid h1
      have H2 := Lib.hid h2
      have e1 := step_make htn h14
      have f1 := fineG_step (d := mkD t) HF.out (show (0 : Nat) < 4294967296 by decide)
      have km := gWriteMake_any g s l t w HW.out HF.out (by omega)
      rw [e1] at km f1
      have hn1 : (((addG s (s.n + 1) t s.n 3).n : Int) - 1) = (s.n : Int) := by show ((s.n + 1 : Nat) : Int) - 1 = _; omega
      rw [hn1] at km
      have hov : (addG s (s.n + 1) t s.n 3).ov f t = s.ov f t := by simp only [addG, updO_at]; rw [if_neg (by omega)]
      have hnn : (addG s (s.n + 1) t s.n 3).n = s.n + 1 := rfl
      generalize hs1 : addG s (s.n + 1) t s.n 3 = s1 at *
      have HE1 := Lib.hid e1
      have KM := Lib.hid km
      clear e1 km hs1 hn1 h1 h2
      go_wp2_with fail
      refine KM.out.mono ?_
      rintro e w1 ⟨rfl, hW1⟩
      have K3 := Lib.hid (show Calls Try.prog 37 #[.pointer (some ⟨g, 0, none⟩), .int .i64 (f : Int), .int .i64 (t : Int), .int .u32 1] w1 fun e w' => e = .returned (.bool (sub 1 (s1.ov f t))) ∧ w1 = w' from gHas_any g s1 f t 1 w1 hW1.at_ f1 (by omega) (by omega) (by decide))
      have hb3 := Lib.hid (show sub 1 (s1.ov f t) = (s.ov f t).testBit 0 by rw [hov]; exact sub_oneBit (i := 0))
      have HW1 := Lib.hid hW1
      have F1 := Lib.hid f1
      clear hW1 KM hov f1 K1 K2
      go_wp2_with fail
      refine K3.out.mono ?_
      rintro e w' ⟨rfl, rfl⟩
      rw [hb3.out]
      cases h3 : (s.ov f t).testBit 0
      · have HL := Lib.hid (show passL s f t b = [mkD t] ++ [wrD 2 t f s.n 2] ++ [wrD 2 f s.n b 1] ++ [wrD 1 t s.n b 1] by
          unfold passL
          rw [← hb1.out, ← hb2.out, H1.out, H2.out, h3]
          rfl)
        have K4 := Lib.hid (show Calls Try.prog 42 #[.pointer (some ⟨g, 0, none⟩), .int .i64 2, .int .i64 (t : Int), .int .i64 (f : Int), .int .i64 (s.n : Int), .int .u32 2] w1 _ from gWrite_any g s1 (l ++ [mkD t]) 2 t f s.n 2 w1 HW1.out F1.out (by simp; omega) (by decide))
        clear h3 K3
        go_wp2_with fail
        refine K4.out.mono ?_
        rintro e w2 ⟨rfl, hW2⟩
        have F2 := Lib.hid (fineG_step (d := wrD 2 t f s.n 2) F1.out (show (2 : Nat) < 4294967296 by decide))
        have K5 := Lib.hid (show Calls Try.prog 42 #[.pointer (some ⟨g, 0, none⟩), .int .i64 2, .int .i64 (f : Int), .int .i64 (s.n : Int), .int .i64 (b : Int), .int .u32 1] w2 _ from gWrite_any g _ _ 2 f s.n b 1 w2 hW2 F2.out (by simp; omega) (by decide))
        clear hW2 K4
        go_wp2_with fail
        refine K5.out.mono ?_
        rintro e w3 ⟨rfl, hW3⟩
        have F3 := Lib.hid (fineG_step (d := wrD 2 f s.n b 1) F2.out (show (1 : Nat) < 4294967296 by decide))
        have K6 := Lib.hid (show Calls Try.prog 42 #[.pointer (some ⟨g, 0, none⟩), .int .i64 1, .int .i64 (t : Int), .int .i64 (s.n : Int), .int .i64 (b : Int), .int .u32 1] w3 _ from gWrite_any g _ _ 1 t s.n b 1 w3 hW3 F3.out (by simp; omega) (by decide))
        clear hW3 K5
        go_wp2_with fail
        refine K6.out.mono ?_
        rintro e w4 ⟨rfl, hW4⟩
        have HW4 := Lib.hid hW4
        clear hW4 K6
        go_wp2
        go_end0
        refine ⟨rfl, ?_⟩
        rw [HL.out]
        simp only [runS_app, runS_one, HE1.out, ← List.append_assoc]
        exact HW4.out
      · have HL := Lib.hid (show passL s f t b = [mkD t] ++ [wrD 1 f t s.n 2] ++ [wrD 2 f s.n b 1] ++ [wrD 1 t s.n b 1] by
          unfold passL
          rw [← hb1.out, ← hb2.out, H1.out, H2.out, h3]
          rfl)
        have K4 := Lib.hid (show Calls Try.prog 42 #[.pointer (some ⟨g, 0, none⟩), .int .i64 1, .int .i64 (f : Int), .int .i64 (t : Int), .int .i64 (s.n : Int), .int .u32 2] w1 _ from gWrite_any g s1 (l ++ [mkD t]) 1 f t s.n 2 w1 HW1.out F1.out (by simp; omega) (by decide))
        clear h3 K3
        go_wp2_with fail
        refine K4.out.mono ?_
        rintro e w2 ⟨rfl, hW2⟩
        have F2 := Lib.hid (fineG_step (d := wrD 1 f t s.n 2) F1.out (show (2 : Nat) < 4294967296 by decide))
        have K5 := Lib.hid (show Calls Try.prog 42 #[.pointer (some ⟨g, 0, none⟩), .int .i64 2, .int .i64 (f : Int), .int .i64 (s.n : Int), .int .i64 (b : Int), .int .u32 1] w2 _ from gWrite_any g _ _ 2 f s.n b 1 w2 hW2 F2.out (by simp; omega) (by decide))
        clear hW2 K4
        go_wp2_with fail
        refine K5.out.mono ?_
        rintro e w3 ⟨rfl, hW3⟩
        have F3 := Lib.hid (fineG_step (d := wrD 2 f s.n b 1) F2.out (show (1 : Nat) < 4294967296 by decide))
        have K6 := Lib.hid (show Calls Try.prog 42 #[.pointer (some ⟨g, 0, none⟩), .int .i64 1, .int .i64 (t : Int), .int .i64 (s.n : Int), .int .i64 (b : Int), .int .u32 1] w3 _ from gWrite_any g _ _ 1 t s.n b 1 w3 hW3 F3.out (by simp; omega) (by decide))
        clear hW3 K5
        go_wp2_with fail
        refine K6.out.mono ?_
        rintro e w4 ⟨rfl, hW4⟩
        have HW4 := Lib.hid hW4
        clear hW4 K6
        go_wp2
        go_end0
        refine ⟨rfl, ?_⟩
        rw [HL.out]
        simp only [runS_app, runS_one, HE1.out, ← List.append_assoc]
        exact HW4.out
    · have HL := Lib.hid (show passL s f t b = [wrD 2 f t b 1] by
        unfold passL
        rw [← hb1.out, ← hb2.out, h1, h2]
        rfl)
      have K4 := Lib.hid (show Calls Try.prog 42 #[.pointer (some ⟨g, 0, none⟩), .int .i64 2, .int .i64 (f : Int), .int .i64 (t : Int), .int .i64 (b : Int), .int .u32 1] w _ from gWrite_any g s l 2 f t b 1 w HW.out HF.out (by omega) (by decide))
      clear h1 h2
      go_wp2_with fail
      refine K4.out.mono ?_
      rintro e w4 ⟨rfl, hW4⟩
      have HW4 := Lib.hid hW4
      clear hW4 K4
      go_wp2
      refine bodyPost_ret (results_none rfl _ _ _) rfl ?_
      refine ⟨rfl, ?_⟩
      rw [HL.out]
      exact HW4.out
  · have HL := Lib.hid (show passL s f t b = [wrD 1 t f b 1] by
      unfold passL
      rw [← hb1.out, h1]
      rfl)
    have K4 := Lib.hid (show Calls Try.prog 42 #[.pointer (some ⟨g, 0, none⟩), .int .i64 1, .int .i64 (t : Int), .int .i64 (f : Int), .int .i64 (b : Int), .int .u32 1] w _ from gWrite_any g s l 1 t f b 1 w HW.out HF.out (by omega) (by decide))
    clear h1
    go_wp2_with fail
    refine K4.out.mono ?_
    rintro e w4 ⟨rfl, hW4⟩
    have HW4 := Lib.hid hW4
    clear hW4 K4
    go_wp2
    refine bodyPost_ret (results_none rfl _ _ _) rfl ?_
    refine ⟨rfl, ?_⟩
    rw [HL.out]
    exact HW4.out
end

end Go.Proofs.Ytlpjpnlfmjehnaa
