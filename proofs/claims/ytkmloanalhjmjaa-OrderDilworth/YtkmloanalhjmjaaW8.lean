/- syllogistref.Cover and order.Covers. -/
import Derived.Test.YtkmloanalhjmjaaCovers
namespace Go.Proofs.Ytkmloanalhjmjaa
open Go.RowKit

set_option maxHeartbeats 1000000 in
theorem Cover_any (n a b : Nat) (ps : List (Int × Int)) (A : Option Addr) (c : Nat) (w : World) (hr : Row w A (pairsC ps)) (hn6 : n ≤ 6) (hl : ps.length ≤ 20) (ha : a < n) (hb : b < n) :
    Calls Try.prog 20 #[.int .i64 n, .slice A ps.length c, .int .i64 a, .int .i64 b] w fun e w' => e = .returned (.bool (covB n ps a b)) ∧ Below w.heap.size w w' := by
  by_cases hab : a = b
  · have HV := Lib.hid (show covB n ps a b = false from covB_false (by rintro ⟨h, _⟩; exact h hab))
    have hd : ((a : Int) == (b : Int)) = true := by simp; omega
    clear hab
    go_enter Try.func20, Try.ntmps20
    go_wp2
    go_ret
    exact ⟨ret_bool HV.out.symm, Below.refl _ _⟩
  · have hd : ((a : Int) == (b : Int)) = false := by simp; omega
    have HAB := Lib.hid hab
    clear hab
    go_enter Try.func20, Try.ntmps20
    go_wp2_with fail
    refine (Under_any n ps A c a b _ hr hl).mono ?_
    rintro e w1 ⟨rfl, hb1⟩
    cases hu : under ps a b with
    | false =>
      have HV := Lib.hid (show covB n ps a b = false from covB_false (by rintro ⟨_, h, _⟩; rw [hu] at h; cases h))
      clear hu
      go_wp2
      go_ret
      exact ⟨ret_bool HV.out.symm, hb1⟩
    | true =>
      have HU := Lib.hid hu
      clear hu
      go_wp2
      go_loopw [9] (fun v wr => ∃ k : Nat, v = .int .i64 k ∧ k ≤ n ∧ Betw ps a b k ∧ Below w.heap.size w wr) (fun v _ => n - (intOf v).toNat)
      case atStart => exact ⟨0, rfl, Nat.zero_le _, by intro d hd; omega, hb1⟩
      case round =>
        clear hb1
        obtain ⟨k, rfl, hk, hbt, hbel⟩ := hrel
        have HT := Lib.hid hbt
        clear hbt
        by_cases hkn : k < n
        · by_cases hka : k = a
          · have h1 : ((k : Int) != (a : Int)) = false := by simp; omega
            have HK := Lib.hid hka
            clear hka
            go_wp2
            go_roundw
            case rel => exact ⟨k + 1, by go_num, by omega, HT.out.step (fun h => absurd HK.out h), hbel⟩
            case measure => simp [intOf]; omega
          · have h1 : ((k : Int) != (a : Int)) = true := by simp; omega
            have HK := Lib.hid hka
            clear hka
            by_cases hkb : k = b
            · have h2 : ((k : Int) != (b : Int)) = false := by simp; omega
              have HKB := Lib.hid hkb
              clear hkb
              go_wp2
              go_roundw
              case rel => exact ⟨k + 1, by go_num, by omega, HT.out.step (fun _ h => absurd HKB.out h), hbel⟩
              case measure => simp [intOf]; omega
            · have h2 : ((k : Int) != (b : Int)) = true := by simp; omega
              have HKB := Lib.hid hkb
              clear hkb
              go_wp2_with fail
              refine (Under_any n ps A c a k _ (hr.below hbel) hl).mono ?_
              rintro e w2 ⟨rfl, hb2⟩
              have hbel2 := hbel.trans (hb2.mono hbel.size)
              cases hu1 : under ps a k with
              | false =>
                have HU1 := Lib.hid hu1
                clear hu1
                go_wp2
                go_roundw
                case rel => exact ⟨k + 1, by go_num, by omega, HT.out.step (fun _ _ h => by rw [HU1.out] at h; exact absurd h.1 (by simp)), hbel2⟩
                case measure => simp [intOf]; omega
              | true =>
                have HU1 := Lib.hid hu1
                clear hu1
                go_wp2_with fail
                refine (Under_any n ps A c k b _ (hr.below hbel2) hl).mono ?_
                rintro e w3 ⟨rfl, hb3⟩
                have hbel3 := hbel2.trans (hb3.mono hbel2.size)
                cases hu2 : under ps k b with
                | false =>
                  have HU2 := Lib.hid hu2
                  clear hu2
                  go_wp2
                  go_roundw
                  case rel => exact ⟨k + 1, by go_num, by omega, HT.out.step (fun _ _ h => by rw [HU2.out] at h; exact absurd h.2 (by simp)), hbel3⟩
                  case measure => simp [intOf]; omega
                | true =>
                  have HV := Lib.hid (show covB n ps a b = false from covB_false (by rintro ⟨_, _, h⟩; exact h k hkn HK.out HKB.out ⟨HU1.out, hu2⟩))
                  clear hu2
                  go_wp2
                  go_ret
                  exact ⟨ret_bool HV.out.symm, hbel3⟩
        · obtain rfl : k = n := by omega
          have HV := Lib.hid (show covB k ps a b = true from covB_iff.2 ⟨HAB.out, HU.out, HT.out⟩)
          go_wp2
          go_ret
          exact ⟨ret_bool HV.out.symm, hbel⟩

theorem info35 : (Try.prog.info? 35).map (fun i => (i.zero, i.size, i.bytes)) = some (some (.agg #[.int .i64 0, .int .i64 0]), 2, 16) := by kernel_rfl

/-- Pairs of the call's own. -/
def OwnP (w : World) (B : Nat) (v : Value) (cs : List (Int × Int)) : Prop := w.ownsRow B 35 2 v cs.length (pairsC cs)
theorem OwnP.nil (w : World) (B : Nat) : OwnP w B (.slice none 0 0) [] := World.ownsRow_nil w B _ _
theorem pairsC_append (xs ys : List (Int × Int)) : pairsC (xs ++ ys) = pairsC xs ++ pairsC ys := by simp [pairsC]
theorem OwnP.row {w : World} {B : Nat} {v : Value} {cs : List (Int × Int)} (h : OwnP w B v cs) : ∃ A c, v = .slice A cs.length c ∧ Row w A (pairsC cs) ∧ cs.length ≤ maxLen := by
  rcases h.2 with ⟨hv, hn⟩ | ⟨g, cap, cur, hv, hg, hh, h1, h2, h3, h4⟩
  · have : cs = [] := List.eq_nil_of_length_eq_zero hn
    subst this
    exact ⟨none, 0, hv, .inl rfl, by simp [maxLen]⟩
  · subst hv
    refine ⟨some ⟨g, 0, none⟩, cap, rfl, .inr ⟨g, 0, rfl, fun j u hu => ?_⟩, by omega⟩
    have hj : j < (pairsC cs).length := (List.getElem?_eq_some_iff.1 hu).1
    rw [pairsC_length] at hj
    rw [Nat.zero_add, World.ownsRow.cellAt h j (by omega)]
    exact hu
theorem OwnP.below {w w' : World} {B : Nat} {v : Value} {cs : List (Int × Int)} (h : OwnP w B v cs) (hb : Below w.heap.size w w') : OwnP w' B v cs :=
  World.ownsRow.kept h (row := none) ⟨hb.os, hb.tape, hb.output, hb.size, fun k hk _ => hb.block k hk⟩ (by cases hv : v.ownBlock <;> simp)
theorem OwnP.rebase {w : World} {B B' : Nat} {v : Value} {cs : List (Int × Int)} (h : OwnP w B v cs) (hb : B' ≤ B) : OwnP w B' v cs := by
  obtain ⟨h1, h2⟩ := h
  refine ⟨h1, ?_⟩
  rcases h2 with h2 | ⟨g', cap', cur, hv, hg, r⟩
  · exact .inl h2
  · exact .inr ⟨g', cap', cur, hv, Nat.le_trans hb hg, r⟩

theorem cell_two (w : World) (x y : Value) (t : TypeId) : ∀ j u, [x, y][j]? = some u → (w.alloc (.cells #[x, y] t)).cell? ((⟨w.heap.size, 0, none⟩ : Addr).add j) = some u := by
  intro j u hu
  match j, hu with
  | 0, hu => simp at hu; subst hu; simp [Addr.add]
  | 1, hu => simp at hu; subst hu; simp [Addr.add]

theorem Covers_err (n : Int) (ps : List (Int × Int)) (A : Option Addr) (c : Nat) (w : World) (hm : ps.length ≤ maxLen) (hr : Row w A (pairsC ps)) (hc : code n ps ≠ 0) :
    Calls Try.prog 19 #[.int .i64 n, .slice A ps.length c] w fun e w' => e = .returned (.tuple #[.slice none 0 0, .int .i64 (code n ps)]) ∧ Below w.heap.size w w' := by
  go_enter Try.func19, Try.ntmps19
  go_wp2_with fail
  refine (Table_err n ps A c _ hm hr hc).mono ?_
  rintro e w1 ⟨rfl, hb1⟩
  have hk : (code n ps != 0) = true := by simpa using hc
  clear hc
  go_wp2
  go_ret2
  exact ⟨rfl, hb1⟩

/-- The loops of Covers: what lies in memory. -/
def CovA (n : Nat) (ps : List (Int × Int)) (w w1 w2 : World) (v i : Value) (wr : World) : Prop :=
  ∃ a : Nat, i = .int .i64 a ∧ a ≤ n ∧ OwnP wr w2.heap.size v (covL n ps a 0) ∧ Below w2.heap.size w2 wr ∧ Below w1.heap.size w1 wr ∧ Below w.heap.size w wr
def CovB (n : Nat) (ps : List (Int × Int)) (w w1 w2 : World) (a : Nat) (v i : Value) (wr : World) : Prop :=
  ∃ b : Nat, i = .int .i64 b ∧ b ≤ n ∧ OwnP wr w2.heap.size v (covL n ps a b) ∧ Below w2.heap.size w2 wr ∧ Below w1.heap.size w1 wr ∧ Below w.heap.size w wr

theorem u32_cov {n a b : Nat} {ps : List (Int × Int)} (hn : n ≤ 6) (ha : a < n) (hb : b < n) (hab : a ≠ b) :
    (bits .and .u32 (upT n ps a : Int) (rev n (upT n ps) b : Int) == bits .or .u32 (one a : Int) (one b : Int)) = covB n ps a b := by
  rw [u32_and_nat _ _ (upT_u32 hn ps a) (rev_u32 hn _ b), u32_or_nat _ _ (one_lt (by omega)) (one_lt (by omega)), ← cov_words ha hb hab, Bool.eq_iff_iff]
  simp only [beq_iff_eq]
  omega

set_option maxHeartbeats 1000000 in
theorem Covers_ok (n : Nat) (ps : List (Int × Int)) (A : Option Addr) (c : Nat) (w : World) (hm : ps.length ≤ maxLen) (hr : Row w A (pairsC ps)) (hc : code n ps = 0) :
    Calls Try.prog 19 #[.int .i64 n, .slice A ps.length c] w fun e w' => ∃ v, e = .returned (.tuple #[v, .int .i64 0]) ∧ OwnP w' w.heap.size v (covL n ps n 0) ∧ Below w.heap.size w w' := by
  obtain ⟨h2, h3, h4⟩ := code_zero hc
  obtain ⟨hn1, hn6, hl⟩ : 1 ≤ n ∧ n ≤ 6 ∧ ps.length ≤ 20 := by unfold Large at h2; omega
  obtain ⟨i0, hi, hz0, hz1, hz2⟩ := info_parts info35
  have HI := Lib.hid (And.intro hi (And.intro hz0 (And.intro hz1 hz2)))
  have HC := Lib.hid hc
  clear h2 h3 h4 hc hi hz0 hz1 hz2
  go_enter Try.func19, Try.ntmps19
  go_wp2_with fail
  refine (Table_ok n ps A c _ hm hr HC.out).mono ?_
  rintro e w1 ⟨g, rfl, hown, hb1⟩
  have HO := Lib.hid hown
  clear hown
  go_wp2_with fail
  refine (reverse_any n (upT n ps) _ n _ HO.out.tab hn1 hn6 (fun a _ => upT_u32 hn6 ps a)).mono ?_
  rintro e w2 ⟨rfl, hown, hb2⟩
  have HO2 := Lib.hid hown
  have HB2 := Lib.hid (hb1.trans (hb2.mono hb1.size))
  have hsz := hb2.size
  have hsz1 := hb1.size
  clear hown
  go_wp2
  go_loopw [9, 24] (fun v i wr => CovA n ps w w1 w2 v i wr) (fun _ i _ => n - (intOf i).toNat)
  case atStart => exact ⟨0, rfl, Nat.zero_le _, by rw [covL_zero]; exact OwnP.nil _ _, Below.refl _ _, hb2, HB2.out⟩
  case round =>
    obtain ⟨a, rfl, ha, hown, hb3, hb31, hb30⟩ := hrel
    have HP := Lib.hid hown
    clear hown
    by_cases han : a < n
    · go_wp2
      go_loopw [9, 28] (fun v i wr => CovB n ps w w1 w2 a v i wr) (fun _ i _ => n - (intOf i).toNat)
      case atStart => exact ⟨0, rfl, Nat.zero_le _, HP.out, hb3, hb31, hb30⟩
      case round =>
        clear HP hb3 hb31 hb30
        obtain ⟨b, rfl, hb, hown, hb3, hb31, hb30⟩ := hrel
        have HP := Lib.hid hown
        clear hown
        by_cases hbn : b < n
        · have hca := (HO.out.below hb31).cell han
          have hcb := (HO2.out.below hb3).cell hbn
          by_cases hab : a = b
          · have hd : ((a : Int) != (b : Int)) = false := by simp; omega
            have HV := Lib.hid (show covB n ps a b = false from covB_false (by rintro ⟨h, _⟩; exact h hab))
            clear hab
            go_wp2
            go_quiet (fail)
            go_wp2
            go_roundw
            case rel => exact ⟨b + 1, by go_num, by omega, by rw [covL_no HV.out]; exact HP.out, below_drewN hb3 _, below_drewN hb31 _, below_drewN hb30 _⟩
            case measure => simp [intOf]; omega
          · have hd : ((a : Int) != (b : Int)) = true := by simp; omega
            have HD := Lib.hid (u32_cov (ps := ps) hn6 han hbn hab)
            clear hab
            cases hv : covB n ps a b with
            | false =>
              have hd2 := HD.out.trans hv
              have HV := Lib.hid hv
              clear hv
              go_wp2
              go_quiet ((go_at_call 39; exact only_quiet _ (by omega) _ _))
              go_wp2
              go_roundw
              case rel => exact ⟨b + 1, by go_num, by omega, by rw [covL_no HV.out]; exact HP.out, below_drewN hb3 _, below_drewN hb31 _, below_drewN hb30 _⟩
              case measure => simp [intOf]; omega
            | true =>
              have hd2 := HD.out.trans hv
              have HV := Lib.hid hv
              clear hv
              go_wp2
              go_quiet ((go_at_call 39; exact only_quiet _ (by omega) _ _))
              have HP3 : Hid (OwnP (wr.drewN nq) w2.heap.size _ (covL n ps a b)) := HP
              have HB3 := Lib.hid (And.intro (below_drewN hb3 nq) (And.intro (below_drewN hb31 nq) (below_drewN hb30 nq)))
              have hsz3 : w2.heap.size ≤ (wr.drewN nq).heap.size := HB3.out.1.size
              clear HP hb3 hb31 hb30 hca hcb hd2
              generalize wr.drewN nq = w3 at *
              have hlen := covL_len n ps a b
              have hmul : a * n ≤ 5 * 6 := Nat.mul_le_mul (by omega) hn6
              obtain ⟨hi, hz0, hz1, hz2⟩ := HI.out
              go_wp2_with (at_builtin; refine wpList_append_lies _ rfl _ _ 22 rfl w2.heap.size 35 i0 (.agg #[.int .i64 0, .int .i64 0]) 2 16 Try.underlying22 hi hz0 hz1 hz2 rfl (by decide) _ _ _ rfl (HP3.out.alloc _) ⟨w3.heap.size, 0, none⟩ 1 1 [.int .i64 a, .int .i64 b] rfl rfl (cell_two _ _ _ _) ?c1 (by decide) ?c2 ?c3 ?c4 _ rfl ?c5)
              case c1 => intro u hu; simp at hu; rcases hu with rfl | rfl <;> rfl
              case c2 => unfold maxLen; omega
              case c3 => omega
              case c4 => simp; omega
              case c5 =>
                intro g3 cap3 w4 hown4 hgrow4 hat4 hlt4
                have HG4 := Lib.hid hgrow4
                have HO4 := Lib.hid hown4
                clear hown4 hgrow4 hat4 hi hz0 hz1 hz2
                go_wp2
                go_roundw
                case rel =>
                  have hlt := fun k hk => (World.ownsRow.lt HP3.out k hk).1
                  refine ⟨b + 1, by go_num, by omega, ?_, ?_, ?_, ?_⟩
                  · rw [covL_yes HV.out]
                    unfold OwnP
                    rw [pairsC_append, List.length_append]
                    exact HO4.out
                  · exact (HB3.out.1.alloc hsz3 _).grown HG4.out (by simp; omega) hlt
                  · exact (HB3.out.2.1.alloc (by omega) _).grown HG4.out (by simp; omega) (fun k hk => by have := hlt k hk; omega)
                  · exact (HB3.out.2.2.alloc (by omega) _).grown HG4.out (by simp; omega) (fun k hk => by have := hlt k hk; omega)
                case measure => simp [intOf]; omega
        · obtain rfl : b = n := by omega
          go_wp2
          go_roundw
          case rel => exact ⟨a + 1, by go_num, by omega, by rw [← covL_next]; exact HP.out, hb3, hb31, hb30⟩
          case measure => simp [intOf]; omega
    · obtain rfl : a = n := by omega
      go_wp2
      go_ret2
      exact ⟨_, rfl, HP.out.rebase (by omega), hb30⟩

end Go.Proofs.Ytkmloanalhjmjaa
