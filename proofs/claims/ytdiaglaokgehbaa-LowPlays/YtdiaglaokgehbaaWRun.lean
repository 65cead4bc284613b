/- mark.Run, for whatever the closure does. -/
import Derived.Test.YtdiaglaokgehbaaWMo1
import Derived.Test.YtdiaglaokgehbaaRowK
import Derived.Test.YtdiaglaokgehbaaRegI
import Derived.Test.YtdiaglaokgehbaaFlat
import Derived.Deep.RegionHeld3
import Derived.BigRegion
import Derived.Carry
namespace Go.Proofs.Ytdiaglaokgehbaa
open Go.RowKit
open Go.ChangeMaps (setBlock)

/-- What a script comes to, step by step: the codes, the state. -/
def runA {σ : Type} (step : σ → Dd → Int × σ) (s0 : σ) (l : List Dd) : List Int × σ :=
  l.foldl (fun a d => (a.1 ++ [(step a.2 d).1], (step a.2 d).2)) ([], s0)
theorem runA_succ {σ : Type} {step : σ → Dd → Int × σ} {s0 : σ} {l : List Dd} {k : Nat} {d : Dd} (h : l[k]? = some d) : runA step s0 (l.take (k + 1)) =
    ((runA step s0 (l.take k)).1 ++ [(step (runA step s0 (l.take k)).2 d).1], (step (runA step s0 (l.take k)).2 d).2) := by
  unfold runA
  rw [List.take_add_one, h, List.foldl_append]
  rfl
theorem runA_length {σ : Type} {step : σ → Dd → Int × σ} {s0 : σ} (l : List Dd) : (runA step s0 l).1.length = l.length := by
  have : ∀ (l : List Dd) (a : List Int × σ), (l.foldl (fun a d => (a.1 ++ [(step a.2 d).1], (step a.2 d).2)) a).1.length = a.1.length + l.length := by
    intro l
    induction l with
    | nil => intro a; rfl
    | cons d l ih => intro a; rw [List.foldl_cons, ih]; simp; omega
  unfold runA
  rw [this]
  simp
/-- A step that mark.Run can go by: kn is what each knows, fr what each thing has. -/
structure StepOk {σ : Type} (step : σ → Dd → Int × σ) (kn fr : σ → Nat → Nat) (Pf : σ → Prop) (ks : List Int) (nc nt : Nat) : Prop where
  bad : ∀ s d, codeK ks nc nt d ≠ 0 → step s d = (codeK ks nc nt d, s)
  no : ∀ s d q s', step s d = (q, s') → q ≠ 0 → s' = s
  yes : ∀ s d s', codeK ks nc nt d = 0 → step s d = (0, s') → ∃ b : Nat, d.who = b ∧ b < nc ∧ ((d.kind = 3 ∧ kn s' = updA (kn s) b 0 ∧ fr s' = fr s) ∨
    ∃ t : Nat, d.tgt = t ∧ t < nt ∧ ((d.kind = 1 ∧ kn s' = updA (kn s) b (kn s b ||| fr s t) ∧ fr s' = fr s) ∨ (d.kind = 2 ∧ kn s' = kn s ∧ fr s' = updA (fr s) t (fr s t ||| kn s b))))
  small : ∀ s, Pf s → (∀ t, t < nt → fr s t < one nt) ∧ ∀ b, b < nc → kn s b < one nt
theorem made_ints (n : Nat) : (madeCells (Value.int .i64 0).cells (n * 1)).toList = ints (List.replicate n 0) := by
  rw [show (Value.int .i64 0).cells = #[.int .i64 0] from rfl, toList_madeCells_one]
  simp [ints]
/-- A deed, as a value. -/
def ddV (d : Dd) : Value := .agg #[.int .i64 d.kind, .int .i64 d.who, .int .i64 d.tgt, .int .i64 d.lev, .int .u32 d.parts, .int .i64 d.val]

/-- The row of the kinds. -/
def rowKs (gK : Nat) (ks : List Int) : Rw := ⟨3, 1, .slice (some ⟨gK, 0, none⟩) ks.length ks.length, ks.length, ints ks⟩
/-- What the first k deeds do. -/
def stA {σ : Type} (step : σ → Dd → Int × σ) (s0 : σ) (ds : List Dd) (k : Nat) : List Int × σ := runA step s0 (ds.take k)

set_option maxRecDepth 100000 in
set_option maxHeartbeats 4000000 in
theorem mRun_any {w0 : World} {σ : Type} (step : σ → Dd → Int × σ) (s0 : σ) (kn fr : σ → Nat → Nat) (Pf : σ → Prop) (ks : List Int) (nc nt gK : Nat) (g : Nat) (lb : Array Value) (R : σ → List Rw) (ds : List Dd) (A3 : Option Addr) (c3 : Nat) (w : World)
    (hks : ks.length ≤ 1000000) (hn : nc ≤ 1000) (hn2 : nt ≤ 8) (hn3 : ds.length ≤ 1000) (hM : RowsM w0 (rowKs gK ks :: R s0) w) (hr3 : Row w0 A3 (deedsC ds))
    (hkn : kn s0 = fun _ => 0) (hfr : fr s0 = one) (hS : StepOk step kn fr Pf ks nc nt) (hP : ∀ l, Pf (runA step s0 l).2)
    (eg : ∀ args w, (callFunc g args).run Try.prog w = .ok (.enter g args) w)
    (hf : ∀ (s : σ) (d : Dd) (ex : List Rw) (b m : Nat) (f : Nat → Nat) (W : World), Pf s → codeK ks nc nt d = 0 → RowsK w0 (R s ++ ex) b nc m f W →
      Calls Try.prog g (#[ddV d] ++ lb) W fun e W' => e = .returned (.int .i64 (step s d).1) ∧ RowsK w0 (R (step s d).2 ++ ex) b nc m f W') :
    Calls Try.prog 38 #[.int .i64 nc, .int .i64 nt, .slice (some ⟨gK, 0, none⟩) ks.length ks.length, .slice A3 ds.length c3, .func (.func g) #[] lb] w fun e w' => ∃ bC BF kF, e = .returned (.tuple #[.slice (some ⟨bC, 0, none⟩) ds.length ds.length, .slice BF nt kF]) ∧
      RowsM w0 (⟨28, 1, .slice (some ⟨bC, 0, none⟩) ds.length ds.length, ds.length, ints (runA step s0 ds).1⟩ :: ⟨38, 1, .slice BF nt kF, nt, words (tabA nt (fr (runA step s0 ds).2))⟩ :: rowKs gK ks :: R (runA step s0 ds).2) w' := by
  have HF := Lib.hid hf
  have HP := Lib.hid hP
  have HS := Lib.hid hS
  have hmm := @run_makeMap Try.prog
  obtain ⟨i2, hi2, hx0, hx1, hx2⟩ := info_parts infoEr
  have HI2 := Lib.hid (And.intro hi2 (And.intro hx0 (And.intro hx1 hx2)))
  have HMd := Lib.hid hM.drew
  clear hf hi2 hx0 hx1 hx2 hP hS hM
  go_enter Try.func38, Try.ntmps38
  go_upto_region 1 with fail
  go_cut [12, 13, 14] (fun v10 v11 v12 wx => ∃ bC mb BF kF, v10 = .slice (some ⟨bC, 0, none⟩) ds.length ds.length ∧ v11 = .map (some mb) ∧ v12 = .slice BF nt kF ∧
    RowsK w0 (⟨28, 1, .slice (some ⟨bC, 0, none⟩) ds.length ds.length, ds.length, ints (List.replicate ds.length 0)⟩ :: ⟨38, 1, .slice BF nt kF, nt, words (tabA nt one)⟩ :: rowKs gK ks :: R s0) mb nc 0 (fun _ => 0) wx)
  case first =>
    refine wp_region_held_drew (S := fun _ => True) (by kernel_rfl) trivial (fun hHeld => ?_)
    generalize w.drew = wd at *
    refine' wpAnyH_take (i := 0) (oi := ⟨some 17, _, _, _, _, none⟩) (v := _) rfl (by kernel_rfl) (by kernel_rfl) (by kernel_rfl) (fun _ _ _ h => h) (Or.inl ⟨by rfl, ?hym0⟩) hHeld ?restm0
    case hym0 => (intro W hSw; obtain _ := hSw; go_simp; try with_reducible rfl)
    simp only [Act.put, List.setIfInBounds_toArray, List.set_cons_zero, List.set_cons_succ]
    refine' wpAnyH_take (i := 1) (oi := ⟨some 18, _, _, _, _, none⟩) (v := _) rfl (by kernel_rfl) (by kernel_rfl) (by kernel_rfl) (fun _ _ _ h => h) (Or.inl ⟨by rfl, ?hym1⟩) hHeld ?restm1
    case hym1 => (intro W hSw; obtain _ := hSw; go_simp; try with_reducible rfl)
    simp only [Act.put, List.setIfInBounds_toArray, List.set_cons_zero, List.set_cons_succ]
    refine' wpAnyH_take (i := 4) (oi := ⟨some 21, _, _, _, _, none⟩) (v := _) rfl (by kernel_rfl) (by kernel_rfl) (by kernel_rfl) (fun _ _ _ h => h) (Or.inl ⟨by rfl, ?hym4⟩) hHeld ?restm4
    case hym4 => (intro W hSw; obtain _ := hSw; go_simp; try with_reducible rfl)
    simp only [Act.put, List.setIfInBounds_toArray, List.set_cons_zero, List.set_cons_succ]
    refine wpAnyH_ready (rs := [2, 3, 5]) (by kernel_rfl) (by simp) ?_
    refine AllReadyH.cons (o := ⟨some 19, _, _, _, _, none⟩) rfl (fun K hK => ?_) (AllReadyH.cons (o := ⟨some 20, _, _, _, _, none⟩) rfl (fun K hK => ?_) (AllReadyH.cons (o := ⟨some 22, _, _, _, _, none⟩) rfl (fun K hK => ?_) AllReadyH.nil))
    · refine wp_make_full _ _ 24 rfl w0.heap.size 28 i2 (.int .i64 0) 1 Try.underlying24 HI2.out.1 HI2.out.2.1 HI2.out.2.2.1 .i64 .i64 ds.length rfl rfl (by rw [HI2.out.2.2.2]; omega) (by unfold maxLen; omega) HMd.out.below.size ?_
      intro wx hown hgr
      rw [made_ints] at hown
      have HM2 := Lib.hid (HMd.out.made hown hgr (Nat.le_refl _))
      clear hown hgr
      generalize wd.heap.size = bC at *
      simp only [Act.put, List.setIfInBounds_toArray, List.set_cons_zero, List.set_cons_succ]
      refine hK.out _ _ trivial (fun hHeld => ?_)
      clear hK K HMd
      refine wpAnyH_ready (rs := [3, 5]) (by kernel_rfl) (by simp) ?_
      refine AllReadyH.cons (o := ⟨some 20, _, _, _, _, none⟩) rfl (fun K hK => ?_) (AllReadyH.cons (o := ⟨some 22, _, _, _, _, none⟩) rfl (fun K hK => ?_) AllReadyH.nil)
      · go_simp
        have HM23 := Lib.hid (HM2.out.mapNew nc)
        generalize wx.heap.size = mb at *
        refine hK.out _ _ trivial (fun hHeld => ?_)
        clear hK K HM2
        generalize wx.alloc _ = wxx at *
        refine wpAnyH_ready (rs := [5]) (by kernel_rfl) (by simp) ?_
        refine AllReadyH.cons (o := ⟨some 22, _, _, _, _, none⟩) rfl (fun K hK => ?_) AllReadyH.nil
        go_simp
        refine (mOwn_any nt hn2 _).mono ?_
        rintro e wxxx ⟨BF, kF, rfl, hm2⟩
        have HM235 := Lib.hid (HM23.out.beside hm2)
        clear hm2
        refine hK.out _ _ trivial (fun hHeld => ?_)
        clear hK K HM23
        refine' wpAnyH_take (i := 6) (oi := ⟨some 12, _, _, _, _, none⟩) (v := _) rfl (by kernel_rfl) (by kernel_rfl) (by kernel_rfl) (fun _ _ _ h => h) (Or.inl ⟨by rfl, ?hyc235⟩) hHeld ?restc235
        case hyc235 => (intro W hSw; obtain _ := hSw; go_simp; try with_reducible rfl)
        simp only [Act.put, List.setIfInBounds_toArray, List.set_cons_zero, List.set_cons_succ]
        refine' wpAnyH_take (i := 7) (oi := ⟨some 13, _, _, _, _, none⟩) (v := _) rfl (by kernel_rfl) (by kernel_rfl) (by kernel_rfl) (fun _ _ _ h => h) (Or.inl ⟨by rfl, ?hyd2356⟩) hHeld ?restd2356
        case hyd2356 => (intro W hSw; obtain _ := hSw; go_simp; try with_reducible rfl)
        simp only [Act.put, List.setIfInBounds_toArray, List.set_cons_zero, List.set_cons_succ]
        refine' wpAnyH_take (i := 8) (oi := ⟨some 14, _, _, _, _, none⟩) (v := _) rfl (by kernel_rfl) (by kernel_rfl) (by kernel_rfl) (fun _ _ _ h => h) (Or.inl ⟨by rfl, ?hye2356⟩) hHeld ?reste2356
        case hye2356 => (intro W hSw; obtain _ := hSw; go_simp; try with_reducible rfl)
        simp only [Act.put, List.setIfInBounds_toArray, List.set_cons_zero, List.set_cons_succ]
        refine wpAnyH_done (by kernel_rfl) ?_ _
        go_wp2_with fail
        go_meet
        exact ⟨bC, mb, BF, kF, rfl, rfl, rfl, by have h := HM235.out; rw [List.append_assoc] at h; exact h.swap⟩
      · go_simp
        refine (mOwn_any nt hn2 _).mono ?_
        rintro e wxx ⟨BF, kF, rfl, hm2⟩
        have HM25 := Lib.hid (HM2.out.beside hm2)
        clear hm2
        refine hK.out _ _ trivial (fun hHeld => ?_)
        clear hK K HM2
        refine' wpAnyH_take (i := 6) (oi := ⟨some 12, _, _, _, _, none⟩) (v := _) rfl (by kernel_rfl) (by kernel_rfl) (by kernel_rfl) (fun _ _ _ h => h) (Or.inl ⟨by rfl, ?hyc25⟩) hHeld ?restc25
        case hyc25 => (intro W hSw; obtain _ := hSw; go_simp; try with_reducible rfl)
        simp only [Act.put, List.setIfInBounds_toArray, List.set_cons_zero, List.set_cons_succ]
        refine wpAnyH_ready (rs := [3]) (by kernel_rfl) (by simp) ?_
        refine AllReadyH.cons (o := ⟨some 20, _, _, _, _, none⟩) rfl (fun K hK => ?_) AllReadyH.nil
        go_simp
        have HM2563 := Lib.hid (HM25.out.mapNew nc)
        generalize wxx.heap.size = mb at *
        refine hK.out _ _ trivial (fun hHeld => ?_)
        clear hK K HM25
        generalize wxx.alloc _ = wxxx at *
        refine' wpAnyH_take (i := 7) (oi := ⟨some 13, _, _, _, _, none⟩) (v := _) rfl (by kernel_rfl) (by kernel_rfl) (by kernel_rfl) (fun _ _ _ h => h) (Or.inl ⟨by rfl, ?hyd2563⟩) hHeld ?restd2563
        case hyd2563 => (intro W hSw; obtain _ := hSw; go_simp; try with_reducible rfl)
        simp only [Act.put, List.setIfInBounds_toArray, List.set_cons_zero, List.set_cons_succ]
        refine' wpAnyH_take (i := 8) (oi := ⟨some 14, _, _, _, _, none⟩) (v := _) rfl (by kernel_rfl) (by kernel_rfl) (by kernel_rfl) (fun _ _ _ h => h) (Or.inl ⟨by rfl, ?hye2563⟩) hHeld ?reste2563
        case hye2563 => (intro W hSw; obtain _ := hSw; go_simp; try with_reducible rfl)
        simp only [Act.put, List.setIfInBounds_toArray, List.set_cons_zero, List.set_cons_succ]
        refine wpAnyH_done (by kernel_rfl) ?_ _
        go_wp2_with fail
        go_meet
        exact ⟨bC, mb, BF, kF, rfl, rfl, rfl, by have h := HM2563.out; rw [List.append_assoc] at h; exact h.swap⟩
    · go_simp
      have HM3 := Lib.hid (HMd.out.mapNew nc)
      generalize wd.heap.size = mb at *
      refine hK.out _ _ trivial (fun hHeld => ?_)
      clear hK K HMd
      generalize wd.alloc _ = wx at *
      refine wpAnyH_ready (rs := [2, 5]) (by kernel_rfl) (by simp) ?_
      refine AllReadyH.cons (o := ⟨some 19, _, _, _, _, none⟩) rfl (fun K hK => ?_) (AllReadyH.cons (o := ⟨some 22, _, _, _, _, none⟩) rfl (fun K hK => ?_) AllReadyH.nil)
      · refine wp_make_full _ _ 24 rfl w0.heap.size 28 i2 (.int .i64 0) 1 Try.underlying24 HI2.out.1 HI2.out.2.1 HI2.out.2.2.1 .i64 .i64 ds.length rfl rfl (by rw [HI2.out.2.2.2]; omega) (by unfold maxLen; omega) HM3.out.rows.below.size ?_
        intro wxx hown hgr
        rw [made_ints] at hown
        have HM32 := Lib.hid (HM3.out.made hown hgr (Nat.le_refl _))
        clear hown hgr
        generalize wx.heap.size = bC at *
        simp only [Act.put, List.setIfInBounds_toArray, List.set_cons_zero, List.set_cons_succ]
        refine hK.out _ _ trivial (fun hHeld => ?_)
        clear hK K HM3
        refine wpAnyH_ready (rs := [5]) (by kernel_rfl) (by simp) ?_
        refine AllReadyH.cons (o := ⟨some 22, _, _, _, _, none⟩) rfl (fun K hK => ?_) AllReadyH.nil
        go_simp
        refine (mOwn_any nt hn2 _).mono ?_
        rintro e wxxx ⟨BF, kF, rfl, hm2⟩
        have HM325 := Lib.hid (HM32.out.beside hm2)
        clear hm2
        refine hK.out _ _ trivial (fun hHeld => ?_)
        clear hK K HM32
        refine' wpAnyH_take (i := 6) (oi := ⟨some 12, _, _, _, _, none⟩) (v := _) rfl (by kernel_rfl) (by kernel_rfl) (by kernel_rfl) (fun _ _ _ h => h) (Or.inl ⟨by rfl, ?hyc325⟩) hHeld ?restc325
        case hyc325 => (intro W hSw; obtain _ := hSw; go_simp; try with_reducible rfl)
        simp only [Act.put, List.setIfInBounds_toArray, List.set_cons_zero, List.set_cons_succ]
        refine' wpAnyH_take (i := 7) (oi := ⟨some 13, _, _, _, _, none⟩) (v := _) rfl (by kernel_rfl) (by kernel_rfl) (by kernel_rfl) (fun _ _ _ h => h) (Or.inl ⟨by rfl, ?hyd3256⟩) hHeld ?restd3256
        case hyd3256 => (intro W hSw; obtain _ := hSw; go_simp; try with_reducible rfl)
        simp only [Act.put, List.setIfInBounds_toArray, List.set_cons_zero, List.set_cons_succ]
        refine' wpAnyH_take (i := 8) (oi := ⟨some 14, _, _, _, _, none⟩) (v := _) rfl (by kernel_rfl) (by kernel_rfl) (by kernel_rfl) (fun _ _ _ h => h) (Or.inl ⟨by rfl, ?hye3256⟩) hHeld ?reste3256
        case hye3256 => (intro W hSw; obtain _ := hSw; go_simp; try with_reducible rfl)
        simp only [Act.put, List.setIfInBounds_toArray, List.set_cons_zero, List.set_cons_succ]
        refine wpAnyH_done (by kernel_rfl) ?_ _
        go_wp2_with fail
        go_meet
        exact ⟨bC, mb, BF, kF, rfl, rfl, rfl, by have h := HM325.out; rw [List.append_assoc] at h; exact h.swap⟩
      · go_simp
        refine (mOwn_any nt hn2 _).mono ?_
        rintro e wxx ⟨BF, kF, rfl, hm2⟩
        have HM35 := Lib.hid (HM3.out.beside hm2)
        clear hm2
        refine hK.out _ _ trivial (fun hHeld => ?_)
        clear hK K HM3
        refine wpAnyH_ready (rs := [2]) (by kernel_rfl) (by simp) ?_
        refine AllReadyH.cons (o := ⟨some 19, _, _, _, _, none⟩) rfl (fun K hK => ?_) AllReadyH.nil
        refine wp_make_full _ _ 24 rfl w0.heap.size 28 i2 (.int .i64 0) 1 Try.underlying24 HI2.out.1 HI2.out.2.1 HI2.out.2.2.1 .i64 .i64 ds.length rfl rfl (by rw [HI2.out.2.2.2]; omega) (by unfold maxLen; omega) HM35.out.rows.below.size ?_
        intro wxxx hown hgr
        rw [made_ints] at hown
        have HM352 := Lib.hid (HM35.out.made hown hgr (Nat.le_refl _))
        clear hown hgr
        generalize wxx.heap.size = bC at *
        simp only [Act.put, List.setIfInBounds_toArray, List.set_cons_zero, List.set_cons_succ]
        refine hK.out _ _ trivial (fun hHeld => ?_)
        clear hK K HM35
        refine' wpAnyH_take (i := 6) (oi := ⟨some 12, _, _, _, _, none⟩) (v := _) rfl (by kernel_rfl) (by kernel_rfl) (by kernel_rfl) (fun _ _ _ h => h) (Or.inl ⟨by rfl, ?hyc352⟩) hHeld ?restc352
        case hyc352 => (intro W hSw; obtain _ := hSw; go_simp; try with_reducible rfl)
        simp only [Act.put, List.setIfInBounds_toArray, List.set_cons_zero, List.set_cons_succ]
        refine' wpAnyH_take (i := 7) (oi := ⟨some 13, _, _, _, _, none⟩) (v := _) rfl (by kernel_rfl) (by kernel_rfl) (by kernel_rfl) (fun _ _ _ h => h) (Or.inl ⟨by rfl, ?hyd3526⟩) hHeld ?restd3526
        case hyd3526 => (intro W hSw; obtain _ := hSw; go_simp; try with_reducible rfl)
        simp only [Act.put, List.setIfInBounds_toArray, List.set_cons_zero, List.set_cons_succ]
        refine' wpAnyH_take (i := 8) (oi := ⟨some 14, _, _, _, _, none⟩) (v := _) rfl (by kernel_rfl) (by kernel_rfl) (by kernel_rfl) (fun _ _ _ h => h) (Or.inl ⟨by rfl, ?hye3526⟩) hHeld ?reste3526
        case hye3526 => (intro W hSw; obtain _ := hSw; go_simp; try with_reducible rfl)
        simp only [Act.put, List.setIfInBounds_toArray, List.set_cons_zero, List.set_cons_succ]
        refine wpAnyH_done (by kernel_rfl) ?_ _
        go_wp2_with fail
        go_meet
        exact ⟨bC, mb, BF, kF, rfl, rfl, rfl, by have h := HM352.out; rw [List.append_assoc] at h; exact h.swap.flip⟩
    · go_simp
      refine (mOwn_any nt hn2 _).mono ?_
      rintro e wx ⟨BF, kF, rfl, hm2⟩
      have HM5 := Lib.hid (HMd.out.beside hm2)
      clear hm2
      refine hK.out _ _ trivial (fun hHeld => ?_)
      clear hK K HMd
      refine wpAnyH_ready (rs := [2, 3]) (by kernel_rfl) (by simp) ?_
      refine AllReadyH.cons (o := ⟨some 19, _, _, _, _, none⟩) rfl (fun K hK => ?_) (AllReadyH.cons (o := ⟨some 20, _, _, _, _, none⟩) rfl (fun K hK => ?_) AllReadyH.nil)
      · refine wp_make_full _ _ 24 rfl w0.heap.size 28 i2 (.int .i64 0) 1 Try.underlying24 HI2.out.1 HI2.out.2.1 HI2.out.2.2.1 .i64 .i64 ds.length rfl rfl (by rw [HI2.out.2.2.2]; omega) (by unfold maxLen; omega) HM5.out.below.size ?_
        intro wxx hown hgr
        rw [made_ints] at hown
        have HM52 := Lib.hid (HM5.out.made hown hgr (Nat.le_refl _))
        clear hown hgr
        generalize wx.heap.size = bC at *
        simp only [Act.put, List.setIfInBounds_toArray, List.set_cons_zero, List.set_cons_succ]
        refine hK.out _ _ trivial (fun hHeld => ?_)
        clear hK K HM5
        refine' wpAnyH_take (i := 6) (oi := ⟨some 12, _, _, _, _, none⟩) (v := _) rfl (by kernel_rfl) (by kernel_rfl) (by kernel_rfl) (fun _ _ _ h => h) (Or.inl ⟨by rfl, ?hyc52⟩) hHeld ?restc52
        case hyc52 => (intro W hSw; obtain _ := hSw; go_simp; try with_reducible rfl)
        simp only [Act.put, List.setIfInBounds_toArray, List.set_cons_zero, List.set_cons_succ]
        refine wpAnyH_ready (rs := [3]) (by kernel_rfl) (by simp) ?_
        refine AllReadyH.cons (o := ⟨some 20, _, _, _, _, none⟩) rfl (fun K hK => ?_) AllReadyH.nil
        go_simp
        have HM5263 := Lib.hid (HM52.out.mapNew nc)
        generalize wxx.heap.size = mb at *
        refine hK.out _ _ trivial (fun hHeld => ?_)
        clear hK K HM52
        generalize wxx.alloc _ = wxxx at *
        refine' wpAnyH_take (i := 7) (oi := ⟨some 13, _, _, _, _, none⟩) (v := _) rfl (by kernel_rfl) (by kernel_rfl) (by kernel_rfl) (fun _ _ _ h => h) (Or.inl ⟨by rfl, ?hyd5263⟩) hHeld ?restd5263
        case hyd5263 => (intro W hSw; obtain _ := hSw; go_simp; try with_reducible rfl)
        simp only [Act.put, List.setIfInBounds_toArray, List.set_cons_zero, List.set_cons_succ]
        refine' wpAnyH_take (i := 8) (oi := ⟨some 14, _, _, _, _, none⟩) (v := _) rfl (by kernel_rfl) (by kernel_rfl) (by kernel_rfl) (fun _ _ _ h => h) (Or.inl ⟨by rfl, ?hye5263⟩) hHeld ?reste5263
        case hye5263 => (intro W hSw; obtain _ := hSw; go_simp; try with_reducible rfl)
        simp only [Act.put, List.setIfInBounds_toArray, List.set_cons_zero, List.set_cons_succ]
        refine wpAnyH_done (by kernel_rfl) ?_ _
        go_wp2_with fail
        go_meet
        exact ⟨bC, mb, BF, kF, rfl, rfl, rfl, by have h := HM5263.out; rw [List.append_assoc] at h; exact h.swap.flip⟩
      · go_simp
        have HM53 := Lib.hid (HM5.out.mapNew nc)
        generalize wx.heap.size = mb at *
        refine hK.out _ _ trivial (fun hHeld => ?_)
        clear hK K HM5
        generalize wx.alloc _ = wxx at *
        refine wpAnyH_ready (rs := [2]) (by kernel_rfl) (by simp) ?_
        refine AllReadyH.cons (o := ⟨some 19, _, _, _, _, none⟩) rfl (fun K hK => ?_) AllReadyH.nil
        refine wp_make_full _ _ 24 rfl w0.heap.size 28 i2 (.int .i64 0) 1 Try.underlying24 HI2.out.1 HI2.out.2.1 HI2.out.2.2.1 .i64 .i64 ds.length rfl rfl (by rw [HI2.out.2.2.2]; omega) (by unfold maxLen; omega) HM53.out.rows.below.size ?_
        intro wxxx hown hgr
        rw [made_ints] at hown
        have HM532 := Lib.hid (HM53.out.made hown hgr (Nat.le_refl _))
        clear hown hgr
        generalize wxx.heap.size = bC at *
        simp only [Act.put, List.setIfInBounds_toArray, List.set_cons_zero, List.set_cons_succ]
        refine hK.out _ _ trivial (fun hHeld => ?_)
        clear hK K HM53
        refine' wpAnyH_take (i := 6) (oi := ⟨some 12, _, _, _, _, none⟩) (v := _) rfl (by kernel_rfl) (by kernel_rfl) (by kernel_rfl) (fun _ _ _ h => h) (Or.inl ⟨by rfl, ?hyc532⟩) hHeld ?restc532
        case hyc532 => (intro W hSw; obtain _ := hSw; go_simp; try with_reducible rfl)
        simp only [Act.put, List.setIfInBounds_toArray, List.set_cons_zero, List.set_cons_succ]
        refine' wpAnyH_take (i := 7) (oi := ⟨some 13, _, _, _, _, none⟩) (v := _) rfl (by kernel_rfl) (by kernel_rfl) (by kernel_rfl) (fun _ _ _ h => h) (Or.inl ⟨by rfl, ?hyd5326⟩) hHeld ?restd5326
        case hyd5326 => (intro W hSw; obtain _ := hSw; go_simp; try with_reducible rfl)
        simp only [Act.put, List.setIfInBounds_toArray, List.set_cons_zero, List.set_cons_succ]
        refine' wpAnyH_take (i := 8) (oi := ⟨some 14, _, _, _, _, none⟩) (v := _) rfl (by kernel_rfl) (by kernel_rfl) (by kernel_rfl) (fun _ _ _ h => h) (Or.inl ⟨by rfl, ?hye5326⟩) hHeld ?reste5326
        case hye5326 => (intro W hSw; obtain _ := hSw; go_simp; try with_reducible rfl)
        simp only [Act.put, List.setIfInBounds_toArray, List.set_cons_zero, List.set_cons_succ]
        refine wpAnyH_done (by kernel_rfl) ?_ _
        go_wp2_with fail
        go_meet
        exact ⟨bC, mb, BF, kF, rfl, rfl, rfl, by have h := HM532.out; rw [List.append_assoc] at h; exact h.swap.flip⟩

  case rest =>
  obtain ⟨bC, mb, BF, kF, rfl, rfl, rfl, hm⟩ := hcut
  have HM := Lib.hid hm
  clear hm HMd hmm
  go_wp2
  go_loopw [25] (fun v wr => ∃ k m : Nat, v = .int .i64 k ∧ k ≤ ds.length ∧ m ≤ k ∧ RowsK w0 (⟨28, 1, .slice (some ⟨bC, 0, none⟩) ds.length ds.length, ds.length, ints ((stA step s0 ds k).1 ++ List.replicate (ds.length - k) 0)⟩ ::
    ⟨38, 1, .slice BF nt kF, nt, words (tabA nt (fr (stA step s0 ds k).2))⟩ :: rowKs gK ks :: R (stA step s0 ds k).2) mb nc m (kn (stA step s0 ds k).2) wr) (fun v _ => ds.length - (intOf v).toNat)
  case atStart => exact ⟨0, 0, rfl, Nat.zero_le _, Nat.le_refl _, by
    have h := HM.out
    rw [← hkn, ← hfr] at h
    exact h⟩
  case round =>
    clear HM
    obtain ⟨k, m, rfl, hk, hmk, hm⟩ := hrel
    by_cases hlt : k < ds.length
    · obtain ⟨d, hd⟩ := get_some hlt
      obtain ⟨b3, o3, rfl, e0, e1, e2, e3, e4, e5⟩ := RowD.cells (hr3.below hm.rows.below) hd
      have HN := Lib.hid (show stA step s0 ds (k + 1) = _ from runA_succ hd)
      have hl : (stA step s0 ds k).1.length = k := by unfold stA; rw [runA_length, List.length_take]; omega
      have HL := Lib.hid hl
      have hF : Pf (stA step s0 ds k).2 := HP.out _
      change Hid (stA step s0 ds (k + 1) = ((stA step s0 ds k).1 ++ [(step (stA step s0 ds k).2 d).1], (step (stA step s0 ds k).2 d).2)) at HN
      have HFi := Lib.hid hF
      clear hd hl hF
      generalize (stA step s0 ds k).1 = cd at *
      generalize (stA step s0 ds k).2 = s at *
      obtain ⟨kind, who, tgt, lev, parts, val⟩ := d
      simp only at e0 e1 e2 e3 e4 e5
      have HM1 := Lib.hid (hm.box (cs := #[.int .i64 kind, .int .i64 who, .int .i64 tgt, .int .i64 lev, .int .u32 (parts : Int), .int .i64 val]) (t := 62) 6 rfl)
      clear hm
      have hkd : decide ((k : Int) < ds.length) = true := by rw [decide_eq_true_iff]; omega
      go_upto_region 5 with fail
      generalize wr.alloc _ = w1 at *
      generalize wr.heap.size = sz at *
      clear e0 e1 e2 e3 e4 e5
      rw [show List.replicate (ds.length - k) (0 : Int) = 0 :: List.replicate (ds.length - (k + 1)) 0 by rw [show ds.length - k = (ds.length - (k + 1)) + 1 by omega, List.replicate_succ]] at HM1
      have d0 := HM1.out.cell (k := 0) rfl (i := 0) rfl
      have d1 := HM1.out.cell (k := 0) rfl (i := 1) rfl
      have d2 := HM1.out.cell (k := 0) rfl (i := 2) rfl
      have d3 := HM1.out.cell (k := 0) rfl (i := 3) rfl
      have d4 := HM1.out.cell (k := 0) rfl (i := 4) rfl
      have d5 := HM1.out.cell (k := 0) rfl (i := 5) rfl
      have kD := mDeed_any ks (some ⟨gK, 0, none⟩) ks.length hks nc nt kind who tgt lev parts val w1 (HM1.out.rows.row (k := 3) rfl)
      obtain ⟨qc, hqc⟩ : ∃ qc, codeK ks nc nt ⟨kind, who, tgt, lev, parts, val⟩ = qc := ⟨_, rfl⟩
      rw [hqc] at kD
      have HQC := Lib.hid hqc
      clear hqc
      go_wp2_with fail
      refine kD.mono ?_
      rintro e w2 ⟨rfl, hb2⟩
      have HM2 := Lib.hid (HM1.out.grow hb2)
      clear hb2 kD d0 d1 d2 d3 d4 d5 HM1
      have c0 : w2.cell? ⟨bC, k, none⟩ = some (.int .i64 0) := HM2.out.cell (k := 1) rfl (i := k) (by rw [← HL.out]; simp [ints])
      have f0 := HM2.out.free (k := 1) rfl k
      have hn := HM2.out.store (k := 1) rfl k (.int .i64 qc)
      rw [show (ints (cd ++ 0 :: List.replicate (ds.length - (k + 1)) 0)).set k (.int .i64 qc) = ints (cd ++ qc :: List.replicate (ds.length - (k + 1)) 0) by rw [← HL.out]; simp [ints]] at hn
      have HM3 := Lib.hid hn
      clear hn
      go_upto_region 6 with fail
      generalize World.setCell w2 ⟨bC, k, none⟩ (.int .i64 qc) = w3 at *
      clear c0 f0 HM2
      have c0 : w3.cell? ⟨bC, k, none⟩ = some (.int .i64 qc) := HM3.out.cell (k := 1) rfl (i := k) (by rw [← HL.out]; simp [ints])
      by_cases hq0 : qc = 0
      · subst hq0
        have d0 := HM3.out.cell (k := 0) rfl (i := 0) rfl
        have d1 := HM3.out.cell (k := 0) rfl (i := 1) rfl
        have d2 := HM3.out.cell (k := 0) rfl (i := 2) rfl
        have d3 := HM3.out.cell (k := 0) rfl (i := 3) rfl
        have d4 := HM3.out.cell (k := 0) rfl (i := 4) rfl
        have d5 := HM3.out.cell (k := 0) rfl (i := 5) rfl
        have kE := HF.out s ⟨kind, who, tgt, lev, parts, val⟩ _ _ _ _ w3 HFi.out HQC.out (RowsK.swap (A := [_, _, _, _]) HM3.out)
        obtain ⟨q, s', hq⟩ : ∃ q s', step s ⟨kind, who, tgt, lev, parts, val⟩ = (q, s') := ⟨_, _, rfl⟩
        rw [hq] at HN kE
        simp only [ddV] at HN kE
        have HKE := Lib.hid kE
        have HQ := Lib.hid hq
        clear hq kE
        go_wp2_with fail
        refine HKE.out.mono ?_
        rintro e w4 ⟨rfl, hm4⟩
        have HM4 := Lib.hid (RowsK.swap (B := [_, _, _, _]) hm4)
        clear hm4 d0 d1 d2 d3 d4 d5 c0 HM3 HKE
        have c0 : w4.cell? ⟨bC, k, none⟩ = some (.int .i64 0) := HM4.out.cell (k := 1) rfl (i := k) (by rw [← HL.out]; simp [ints])
        have f0 := HM4.out.free (k := 1) rfl k
        have hn := HM4.out.store (k := 1) rfl k (.int .i64 q)
        rw [show (ints (cd ++ 0 :: List.replicate (ds.length - (k + 1)) 0)).set k (.int .i64 q) = ints (cd ++ q :: List.replicate (ds.length - (k + 1)) 0) by rw [← HL.out]; simp [ints]] at hn
        have HM5 := Lib.hid hn
        clear hn
        go_upto_region 8 with fail
        generalize World.setCell w4 ⟨bC, k, none⟩ (.int .i64 q) = w5 at *
        clear c0 f0 HM4
        have c0 : w5.cell? ⟨bC, k, none⟩ = some (.int .i64 q) := HM5.out.cell (k := 1) rfl (i := k) (by rw [← HL.out]; simp [ints])
        by_cases hqq : q = 0
        · subst hqq
          obtain ⟨b, hb0, hbn, hcase⟩ := HS.out.yes _ _ _ HQC.out HQ.out
          simp only at hb0 hcase
          subst hb0
          have d0 := HM5.out.cell (k := 0) rfl (i := 0) rfl
          have d1 := HM5.out.cell (k := 0) rfl (i := 1) rfl
          have d2 := HM5.out.cell (k := 0) rfl (i := 2) rfl
          have hp1 : kn s b < 4294967296 := Nat.lt_of_lt_of_le ((HS.out.small _ HFi.out).2 b hbn) (Nat.le_trans (Nat.pow_le_pow_right (by omega) (by omega : nt ≤ 32)) (by decide))
          rcases hcase with ⟨rfl, hkn, hfr⟩ | ⟨t, rfl, ht, ⟨rfl, hkn, hfr⟩ | ⟨rfl, hkn, hfr⟩⟩
          · obtain ⟨o, ho⟩ := HM5.out.del hn hbn 0
            have hd0 : (Builtin.delete_ #[81, 3] 0 #[.map (some mb), .int .i64 (b : Nat)]).run Try.prog w5 = .ok (.tuple #[]) (setBlock w5 mb (o 0)) := (ho 0).1
            have HMN := Lib.hid (show RowsK w0 _ mb nc m (kn s') _ by rw [hkn]; exact (show RowsK w0 _ mb nc m _ (setBlock w5 mb (o 0)) from (ho 0).2).tail)
            rw [← hfr] at HMN
            clear hkn hfr ho HM5
            go_upto_region 15 with fail
            go_wp2
            go_roundw
            case rel => exact ⟨k + 1, m, by go_num, by omega, by omega, by rw [HN.out, List.append_assoc]; exact HMN.out⟩
            case measure => simp [intOf]; omega
          · obtain ⟨gf, kg, hgv, hgc⟩ := HM5.out.rows.solid (k := 2) rfl (by show 0 < nt; omega)
            simp only [Value.slice.injEq, true_and] at hgv
            obtain ⟨rfl, rfl⟩ := hgv
            have r0 := HM5.out.cell (k := 2) rfl (i := t) (words_at (tabA_get (fr s) ht))
            have hp2 : fr s t < 4294967296 := Nat.lt_of_lt_of_le ((HS.out.small _ HFi.out).1 t ht) (Nat.le_trans (Nat.pow_le_pow_right (by omega) (by omega : nt ≤ 32)) (by decide))
            have hor := u32_or_nat (kn s b) (fr s t) hp1 hp2
            have hlk : (Instr.lookup 81 (.map (some mb)) (.int .i64 (b : Nat)) false).run Try.prog w5.drew = .ok (.int .u32 (kn s b : Nat)) w5.drew := HM5.out.look hn hbn 1
            obtain ⟨o, ho⟩ := HM5.out.put hn (by unfold maxLen; omega) hbn (v := kn s b ||| fr s t) (Nat.or_lt_two_pow (n := 32) hp1 hp2)
            have hup : (Instr.mapUpdate 81 (.map (some mb)) (.int .i64 (b : Nat)) (.int .u32 ((kn s b ||| fr s t : Nat) : Int))).run Try.prog w5.drew = .ok () (setBlock w5.drew mb (o 1)) := (ho 1).1
            have HMN := Lib.hid (show RowsK w0 _ mb nc (m + 1) (kn s') _ by rw [hkn]; exact (show RowsK w0 _ mb nc (m + 1) _ (setBlock w5.drew mb (o 1)) from (ho 1).2).tail)
            rw [← hfr] at HMN
            clear hkn hfr ho HM5
            go_upto_region 11 with fail
            refine wp_region_still_tail 10 (by kernel_rfl) (by kernel_rfl) ?_
            simp only [List.take_succ_cons, List.take_zero, List.drop_succ_cons, List.drop_zero]
            iterate 10 still_step
            refine wpStill_nil ?_
            go_wp2
            go_roundw
            case rel => exact ⟨k + 1, m + 1, by go_num, by omega, by omega, by rw [HN.out, List.append_assoc]; exact HMN.out⟩
            case measure => simp [intOf]; omega
          · obtain ⟨gf, kg, hgv, hgc⟩ := HM5.out.rows.solid (k := 2) rfl (by show 0 < nt; omega)
            simp only [Value.slice.injEq, true_and] at hgv
            obtain ⟨rfl, rfl⟩ := hgv
            have r0 := HM5.out.cell (k := 2) rfl (i := t) (words_at (tabA_get (fr s) ht))
            have hp2 : fr s t < 4294967296 := Nat.lt_of_lt_of_le ((HS.out.small _ HFi.out).1 t ht) (Nat.le_trans (Nat.pow_le_pow_right (by omega) (by omega : nt ≤ 32)) (by decide))
            have hor := u32_or_nat (fr s t) (kn s b) hp2 hp1
            have hlk : (Instr.lookup 81 (.map (some mb)) (.int .i64 (b : Nat)) false).run Try.prog w5.drew = .ok (.int .u32 (kn s b : Nat)) w5.drew := HM5.out.look hn hbn 1
            have ff := HM5.out.free (k := 2) rfl t
            have hn2' := HM5.out.drew.store (k := 2) rfl t (.int .u32 ((fr s t ||| kn s b : Nat) : Int))
            rw [words_set, tabA_set] at hn2'
            have HMN := Lib.hid (show RowsK w0 _ mb nc m (kn s') _ by rw [hkn]; exact hn2'.tail)
            rw [← hfr] at HMN
            clear hkn hfr hn2' HM5
            go_upto_region 13 with fail
            refine wp_region_still_tail 11 (by kernel_rfl) (by kernel_rfl) ?_
            simp only [List.take_succ_cons, List.take_zero, List.drop_succ_cons, List.drop_zero]
            iterate 11 still_step
            refine wpStill_nil ?_
            go_wp2
            go_roundw
            case rel => exact ⟨k + 1, m, by go_num, by omega, by omega, by rw [HN.out, List.append_assoc]; exact HMN.out⟩
            case measure => simp [intOf]; omega
        · obtain rfl := HS.out.no _ _ _ _ HQ.out hqq
          have HMN := Lib.hid HM5.out.tail
          have hqb : (q != 0) = true := by simpa using hqq
          clear hqq HM5
          go_wp2
          go_roundw
          case rel => exact ⟨k + 1, m, by go_num, by omega, by omega, by rw [HN.out, List.append_assoc]; exact HMN.out⟩
          case measure => simp [intOf]; omega
      · rw [HS.out.bad _ _ (by rw [HQC.out]; exact hq0), HQC.out] at HN
        have HMN := Lib.hid HM3.out.tail
        have hqb : (qc == 0) = false := by simpa using hq0
        have hqn : (qc != 0) = true := by simpa using hq0
        clear hq0 HM3
        go_wp2
        go_roundw
        case rel => exact ⟨k + 1, m, by go_num, by omega, by omega, by rw [HN.out, List.append_assoc]; exact HMN.out⟩
        case measure => simp [intOf]; omega
    · obtain rfl : k = ds.length := by omega
      have hst : stA step s0 ds ds.length = runA step s0 ds := by unfold stA; rw [List.take_length]
      rw [hst, Nat.sub_self, List.replicate_zero, List.append_nil] at hm
      have HN := Lib.hid hm.rows
      have hkd : decide ((ds.length : Int) < ds.length) = false := by rw [decide_eq_false_iff_not]; omega
      clear hm hst hlt hk
      go_wp2
      refine bodyPost_ret (v := .tuple #[.slice (some ⟨bC, 0, none⟩) ds.length ds.length, .slice BF nt kF]) (by simp [results, Try.results38, go_sem]) rfl ?_
      exact ⟨_, _, _, rfl, HN.out⟩

end Go.Proofs.Ytdiaglaokgehbaa
