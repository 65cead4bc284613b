/- syllogistref.Class. -/
import Derived.Test.YtcokpjffgeihbaaWT1
import Derived.Test.YtcokpjffgeihbaaTr2
namespace Go.Proofs.Ytcokpjffgeihbaa
open Go.RowKit

set_option maxRecDepth 100000 in
set_option maxHeartbeats 4000000 in
theorem refClass_any (n : Nat) (hn : n ≤ 4) (f : List Bool) (A : Option Addr) (c : Nat) (w : World) (hf : f.length = one n) (hr : Row w A (boolsC f)) :
    Calls Try.prog 19 #[.int .i64 n, .slice A f.length c] w fun e w' => e = .returned (.int .u32 (classF n (atB f))) ∧ Below w.heap.size w w' := by
  have h16 := one_le_16 hn
  have h1p := one_pos n
  have HF := Lib.hid hf
  obtain ⟨b, off, rfl, c0⟩ := atB_cell hr (k := 0) (by omega)
  obtain ⟨b', off', he, c1⟩ := atB_cell hr (k := full n) (by rw [hf]; exact full_lt n)
  simp only [Option.some.injEq, Addr.mk.injEq, and_true] at he
  obtain ⟨rfl, rfl⟩ := he
  have hfu : (one n : Int) - 1 = (full n : Nat) := by unfold full; omega
  rw [Nat.add_zero] at c0
  have hdual := refDual_any n hn f (some ⟨b, off, none⟩) c w hf hr
  rw [hf] at hdual ⊢
  generalize hx0 : atB f 0 = x0 at c0
  generalize hx1 : atB f (full n) = x1 at c1
  have HX0 := Lib.hid hx0
  have HX1 := Lib.hid hx1
  clear hx0 hx1 hf
  go_enter Try.func19, Try.ntmps19
  go_upto_if 15 with fail
  go_cut [5] (fun v wx => v = .int .u32 ((!x0).toNat : Nat) ∧ w = wx)
  case first =>
    cases x0
    all_goals (go_wp2_with fail; go_meet; exact ⟨rfl, rfl⟩)
  case rest =>
  obtain ⟨rfl, rfl⟩ := hcut
  go_upto_if 23 with fail
  go_cut [5] (fun v wx => v = .int .u32 (((!x0).toNat + 2 * x1.toNat : Nat) : Int) ∧ w = wx)
  case first =>
    cases x1 <;> cases x0
    all_goals (go_wp2_with fail; go_meet; exact ⟨by first | rfl | go_num, rfl⟩)
  case rest =>
  obtain ⟨rfl, rfl⟩ := hcut
  clear c0 c1
  go_wp2_with fail
  refine hdual.mono ?_
  rintro e w1 ⟨rfl, hown, hb1⟩
  have hrow1 := hr.below hb1
  have hbools := Bools_any f (tabB (one n) (dualF n (atB f))) (some ⟨b, off, none⟩) (some ⟨w.heap.size, 0, none⟩) c (one n) w1 hrow1 hown.row (by rw [HF.out]; omega) (by simp; omega)
  rw [self_dec HF.out, tabB_length, HF.out] at hbools
  generalize hx2 : selfB n (atB f) = x2 at hbools
  have HX2 := Lib.hid hx2
  clear hx2 hown hdual
  go_wp2_with fail
  refine hbools.mono ?_
  rintro e w2 ⟨rfl, dd, hw2⟩
  have hb2 : Below w.heap.size w w2 := by rw [hw2]; exact below_drewN hb1 _
  have hrow2 := hr.below hb2
  clear hw2 hbools hrow1 hb1
  go_upto_if 30 with fail
  go_cut [5] (fun v wx => (∃ q : Nat, q = cls (!x0) x1 x2 false false ∧ v = .int .u32 q) ∧ w2 = wx)
  case first =>
    cases x2 <;> cases x1 <;> cases x0
    all_goals (go_wp2_with fail; go_meet; exact ⟨⟨_, rfl, by first | rfl | go_num⟩, rfl⟩)
  case rest =>
  obtain ⟨⟨q, hq, rfl⟩, rfl⟩ := hcut
  have hq32 : q < 32 := by rw [hq]; exact cls_lt _ _ _ _ _
  have HQ := Lib.hid hq
  clear hq
  go_wp2
  go_loopw [6, 7] (fun rv av wr => ∃ a : Nat, av = .int .i64 a ∧ a ≤ one n ∧ (∃ r : Bool, r = riseP n (atB f) a ∧ rv = .bool r) ∧ w2 = wr) (fun _ av _ => one n - (intOf av).toNat)
  case atStart => exact ⟨0, rfl, Nat.zero_le _, ⟨true, rfl, rfl⟩, rfl⟩
  case round =>
    obtain ⟨a, rfl, ha, ⟨r, hr1, rfl⟩, rfl⟩ := hrel
    have HR1 := Lib.hid hr1
    clear hr1
    by_cases hlt : a < one n
    · go_wp2
      go_loopw [6, 8] (fun rv bv wr => ∃ t : Nat, bv = .int .i64 t ∧ t ≤ one n ∧ (∃ r2 : Bool, r2 = (r && riseR (atB f) a t) ∧ rv = .bool r2) ∧ w2 = wr) (fun _ bv _ => one n - (intOf bv).toNat)
      case atStart => exact ⟨0, rfl, Nat.zero_le _, ⟨r, by simp [riseR], rfl⟩, rfl⟩
      case round =>
        obtain ⟨t, rfl, ht, ⟨r2, hr2, rfl⟩, rfl⟩ := hrel
        by_cases htn : t < one n
        · have hor := i64_or_eq (show a < 16 by omega) (show t < 16 by omega)
          obtain ⟨b1, o1, he, c2⟩ := atB_cell hrow2 (k := a) (by rw [HF.out]; exact hlt)
          simp only [Option.some.injEq, Addr.mk.injEq, and_true] at he
          obtain ⟨rfl, rfl⟩ := he
          obtain ⟨b1, o1, he, c3⟩ := atB_cell hrow2 (k := t) (by rw [HF.out]; exact htn)
          simp only [Option.some.injEq, Addr.mk.injEq, and_true] at he
          obtain ⟨rfl, rfl⟩ := he
          have HN := Lib.hid (show (r && riseR (atB f) a (t + 1)) = (r2 && !(sub a t && atB f a && !atB f t)) by rw [riseR_succ, hr2]; simp only [Bool.and_assoc])
          clear hr2
          generalize hxa : atB f a = xa at *
          generalize hxt : atB f t = xt at *
          clear hxa hxt
          cases hsub : sub a t with
          | false =>
            have hne : (((a ||| t : Nat) : Int) == (t : Int)) = false := by
              rw [beq_eq_false_iff_ne]
              intro e
              have : sub a t = true := by unfold sub; rw [beq_iff_eq]; omega
              rw [this] at hsub; cases hsub
            rw [hsub] at HN
            clear hsub
            go_wp2
            go_roundw
            case rel => exact ⟨t + 1, by go_num, by omega, ⟨r2, by rw [HN.out]; simp, rfl⟩, trivial⟩
            case measure => simp [intOf]; omega
          | true =>
            have hne : (((a ||| t : Nat) : Int) == (t : Int)) = true := by
              rw [beq_iff_eq]
              unfold sub at hsub
              rw [beq_iff_eq] at hsub
              omega
            rw [hsub] at HN
            clear hsub
            cases xa <;> cases xt
            all_goals
              go_wp2
              go_roundw
              case rel => exact ⟨t + 1, by go_num, by omega, ⟨_, by rw [HN.out]; simp, rfl⟩, trivial⟩
              case measure => simp [intOf]; omega
        · obtain rfl : t = one n := by omega
          have HR2 := Lib.hid (show r2 = riseP n (atB f) (a + 1) by rw [hr2, riseP_succ, HR1.out])
          clear hr2
          go_wp2
          go_roundw
          case rel => exact ⟨a + 1, by go_num, by omega, ⟨r2, HR2.out, rfl⟩, trivial⟩
          case measure => simp [intOf]; omega
    · obtain rfl : a = one n := by omega
      clear hrow2
      go_upto_if 63 with fail
      go_cut [5] (fun v wx => (∃ q : Nat, q = cls (!x0) x1 x2 r false ∧ v = .int .u32 q) ∧ w2 = wx)
      case first =>
        have e1 : q + 8 = cls (!x0) x1 x2 true false := by rw [HQ.out]; unfold cls; simp
        have HQ2 := HQ
        clear HQ
        cases r
        · go_wp2_with fail
          go_meet
          exact ⟨⟨q, HQ2.out, by first | rfl | go_num⟩, rfl⟩
        · go_wp2_with fail
          go_meet
          exact ⟨⟨q + 8, e1, by first | rfl | go_num⟩, rfl⟩
      case rest =>
      obtain ⟨⟨q2, hq2, rfl⟩, rfl⟩ := hcut
      have hq232 : q2 < 32 := by rw [hq2]; exact cls_lt _ _ _ _ _
      have HQ2 := Lib.hid hq2
      clear hq2 HQ hq32
      have hsums := refSums_any n hn f (some ⟨b, off, none⟩) c w2 HF.out (hr.below hb2)
      rw [HF.out] at hsums
      go_wp2_with fail
      refine hsums.mono ?_
      rintro e w3 ⟨rfl, hown3, hb3⟩
      have hb23 := hb2.trans (hb3.mono hb2.size)
      have HO3 := Lib.hid hown3
      clear hsums hown3 hb3
      go_wp2
      go_loopw [9, 11] (fun rv sv wr => ∃ s : Nat, sv = .int .i64 s ∧ s ≤ one n ∧ (∃ z : Bool, z = straP (mob n (atB f)) s ∧ rv = .bool z) ∧ w3 = wr) (fun _ sv _ => one n - (intOf sv).toNat)
      case atStart => exact ⟨0, rfl, Nat.zero_le _, ⟨true, rfl, rfl⟩, rfl⟩
      case round =>
        obtain ⟨s, rfl, hs, ⟨z, hz, rfl⟩, rfl⟩ := hrel
        by_cases hlt2 : s < one n
        · have c4 := HO3.out.cell hlt2
          have HN := Lib.hid (show straP (mob n (atB f)) (s + 1) = (z && !(decide (1 < pop s) && mob n (atB f) s)) by rw [straP_succ, hz])
          clear hz
          generalize mob n (atB f) s = x at c4 HN
          go_wp2_with fail
          refine (Size_any s (by omega) _).mono ?_
          rintro e w4 ⟨rfl, rfl⟩
          by_cases hp : 1 < pop s
          · rw [decide_eq_true hp] at HN
            cases x
            all_goals
              go_wp2
              go_roundw
              case rel => exact ⟨s + 1, by go_num, by omega, ⟨_, by rw [HN.out]; simp, rfl⟩, trivial⟩
              case measure => simp [intOf]; omega
          · rw [decide_eq_false hp] at HN
            go_wp2
            go_roundw
            case rel => exact ⟨s + 1, by go_num, by omega, ⟨z, by rw [HN.out]; simp, rfl⟩, trivial⟩
            case measure => simp [intOf]; omega
        · obtain rfl : s = one n := by omega
          have HE := Lib.hid (show ∀ y, y = z → q2 + 16 * y.toNat = classF n (atB f) from fun y hy => by
            rw [hy]
            unfold classF
            rw [← hz, HQ2.out, ← HR1.out, HX0.out, HX1.out, HX2.out]
            unfold cls
            simp)
          clear hz
          cases z
          · go_wp2
            go_ret
            exact ⟨ret_int (by have := HE.out false rfl; simp at this; rw [this]), hb23⟩
          · go_wp2
            go_ret
            exact ⟨ret_int (by have := HE.out true rfl; simp at this; rw [← this]; go_num), hb23⟩

end Go.Proofs.Ytcokpjffgeihbaa
