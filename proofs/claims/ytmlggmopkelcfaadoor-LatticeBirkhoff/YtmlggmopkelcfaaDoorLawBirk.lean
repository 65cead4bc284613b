/- The law after Birkhoff. -/
import Derived.Test.YtmlggmopkelcfaaDoorBirk2
import Derived.Test.YtmlggmopkelcfaaDoorLatSpec
import Derived.Test.YtmlggmopkelcfaaDoorDownSpec
import Derived.Test.YtmlggmopkelcfaaDoorWP
import Derived.Test.YtmlggmopkelcfaaDoorWI
namespace Go.Proofs.YtmlggmopkelcfaaDoor
open Go.RowKit

/-- The first join-irreducible things. -/
noncomputable def irrL (n : Nat) (ps : List (Int × Int)) (k : Nat) : List Nat := (List.range k).filter (irrB n ps)
theorem irrL_yes {n : Nat} {ps : List (Int × Int)} {k : Nat} (h : irrB n ps k = true) : irrL n ps (k + 1) = irrL n ps k ++ [k] := by
  unfold irrL; rw [List.range_succ, List.filter_append]; simp [h]
theorem irrL_no {n : Nat} {ps : List (Int × Int)} {k : Nat} (h : irrB n ps k = false) : irrL n ps (k + 1) = irrL n ps k := by
  unfold irrL; rw [List.range_succ, List.filter_append]; simp [h]
theorem irrL_len (n : Nat) (ps : List (Int × Int)) (k : Nat) : (irrL n ps k).length ≤ k := by
  unfold irrL; exact Nat.le_trans (List.length_filter_le _ _) (by simp)
theorem irrL_nodup (n : Nat) (ps : List (Int × Int)) (k : Nat) : (irrL n ps k).Nodup := List.Pairwise.filter _ List.nodup_range
theorem mem_irrL {n : Nat} {ps : List (Int × Int)} {k i : Nat} : i ∈ irrL n ps k ↔ i < k ∧ irrB n ps i = true := by unfold irrL; rw [List.mem_filter, List.mem_range]
theorem irrW_bit {n : Nat} {ps : List (Int × Int)} {i : Nat} (hi : i < n) : (irrW n ps n).testBit i = irrB n ps i := by unfold irrW; rw [testBit_wordOf]; simp [hi]

/-- The pairs among them: for the first a, and the first b of a. -/
structure Prs (ps : List (Int × Int)) (own : List Nat) (a b : Nat) (q : List (Nat × Nat)) : Prop where
  nodup : q.Nodup
  mem : ∀ i j : Nat, (i, j) ∈ q ↔ (i < a ∧ j < own.length ∨ i = a ∧ j < b) ∧ ∃ x y : Nat, own[i]? = some x ∧ own[j]? = some y ∧ i ≠ j ∧ under ps x y = true
theorem Prs.init (ps : List (Int × Int)) (own : List Nat) : Prs ps own 0 0 [] := ⟨by simp, fun i j => by simp⟩
theorem Prs.next {ps : List (Int × Int)} {own : List Nat} {a : Nat} {q : List (Nat × Nat)} (h : Prs ps own a own.length q) : Prs ps own (a + 1) 0 q :=
  ⟨h.nodup, fun i j => by rw [h.mem]; constructor <;> (rintro ⟨h1, h2⟩; exact ⟨by omega, h2⟩)⟩
theorem Prs.skip {ps : List (Int × Int)} {own : List Nat} {a b x y : Nat} {q : List (Nat × Nat)} (h : Prs ps own a b q) (hx : own[a]? = some x) (hy : own[b]? = some y) (hno : ¬ (a ≠ b ∧ under ps x y = true)) : Prs ps own a (b + 1) q :=
  ⟨h.nodup, fun i j => by
    rw [h.mem]
    constructor
    · rintro ⟨h1, h2⟩; exact ⟨by omega, h2⟩
    · rintro ⟨h1, u, v, h2, h3, h4, h5⟩
      refine ⟨?_, u, v, h2, h3, h4, h5⟩
      by_cases e : i = a ∧ j = b
      · obtain ⟨rfl, rfl⟩ := e
        rw [hx] at h2; rw [hy] at h3
        cases h2; cases h3
        exact absurd ⟨h4, h5⟩ hno
      · omega⟩
theorem Prs.add {ps : List (Int × Int)} {own : List Nat} {a b x y : Nat} {q : List (Nat × Nat)} (h : Prs ps own a b q) (hx : own[a]? = some x) (hy : own[b]? = some y) (hne : a ≠ b) (hu : under ps x y = true) : Prs ps own a (b + 1) (q ++ [(a, b)]) :=
  ⟨by
    rw [List.nodup_append]
    refine ⟨h.nodup, by simp, fun p hp r hr e => ?_⟩
    simp at hr
    subst hr
    subst e
    have := ((h.mem a b).1 hp).1
    omega, fun i j => by
    rw [List.mem_append, h.mem]
    constructor
    · rintro (⟨h1, h2⟩ | h1)
      · exact ⟨by omega, h2⟩
      · simp at h1
        obtain ⟨rfl, rfl⟩ := h1
        exact ⟨by omega, x, y, hx, hy, hne, hu⟩
    · rintro ⟨h1, h2⟩
      by_cases e : i = a ∧ j = b
      · right; simp [e]
      · left; exact ⟨by omega, h2⟩⟩
def pint (q : List (Nat × Nat)) : List (Int × Int) := q.map fun p => ((p.1 : Int), (p.2 : Int))
theorem pint_length (q : List (Nat × Nat)) : (pint q).length = q.length := by simp [pint]
theorem pint_append (q r : List (Nat × Nat)) : pint (q ++ r) = pint q ++ pint r := by simp [pint]
theorem Prs.few {n : Nat} {ps : List (Int × Int)} {own : List Nat} {a b : Nat} {q : List (Nat × Nat)} (h : Prs ps own a b q) (hcy : ¬ Cyc n ps) (hm : own.length ≤ 6) (hn : own.Nodup) (ho : ∀ i ∈ own, i < n) : q.length ≤ 18 := by
  have lt : ∀ {i x : Nat}, own[i]? = some x → i < own.length := fun h => (List.getElem?_eq_some_iff.1 h).1
  refine pairs_few hm h.nodup (fun p hp => ?_) fun p hp hq => ?_
  · obtain ⟨_, x, y, h2, h3, _⟩ := (h.mem p.1 p.2).1 hp
    exact ⟨lt h2, lt h3⟩
  · obtain ⟨_, x, y, h2, h3, h4, h5⟩ := (h.mem p.1 p.2).1 hp
    obtain ⟨_, u, v, k2, k3, k4, k5⟩ := (h.mem p.2 p.1).1 hq
    rw [h3] at k2; rw [h2] at k3
    cases k2; cases k3
    have e := under_anti hcy (ho x (List.mem_of_getElem? h2)) (ho y (List.mem_of_getElem? h3)) h5 k5
    subst e
    obtain ⟨i1, i2⟩ := List.getElem?_eq_some_iff.1 h2
    obtain ⟨j1, j2⟩ := List.getElem?_eq_some_iff.1 h3
    exact h4 ((List.getElem_inj hn).1 (i2.trans j2.symm))
theorem Prs.irrs {n : Nat} {ps : List (Int × Int)} {q : List (Nat × Nat)} (h : Prs ps (irrL n ps n) (irrL n ps n).length 0 q) : Irrs n ps (irrL n ps n) (pint q) where
  nodup := irrL_nodup n ps n
  mem i := mem_irrL
  less p := by
    unfold pint
    rw [List.mem_map]
    constructor
    · rintro ⟨⟨i, j⟩, hm, rfl⟩
      obtain ⟨_, x, y, h2, h3, h4, h5⟩ := (h.mem i j).1 hm
      exact ⟨i, j, x, y, rfl, h2, h3, h4, h5⟩
    · rintro ⟨i, j, x, y, rfl, h2, h3, h4, h5⟩
      have hi := (List.getElem?_eq_some_iff.1 h2).1
      have hj := (List.getElem?_eq_some_iff.1 h3).1
      exact ⟨(i, j), (h.mem i j).2 ⟨.inl ⟨hi, hj⟩, x, y, h2, h3, h4, h5⟩, rfl⟩

/-- The loop that lists them. -/
def BirkA (n : Nat) (ps : List (Int × Int)) (w w3 : World) (v iv : Value) (wr : World) : Prop :=
  ∃ k : Nat, iv = .int .i64 k ∧ k ≤ n ∧ (∃ l, l = irrL n ps k ∧ OwnI wr w3.heap.size v (nats l)) ∧ Below w3.heap.size w3 wr ∧ Below w.heap.size w wr

/-- The loops that list the pairs. -/
def BirkB (ps : List (Int × Int)) (l : List Nat) (w w5 : World) (v av : Value) (wr : World) : Prop :=
  ∃ a : Nat, av = .int .i64 a ∧ a ≤ l.length ∧ (∃ q, Prs ps l a 0 q ∧ OwnP wr w5.heap.size v (pint q)) ∧ Below w5.heap.size w5 wr ∧ Below w.heap.size w wr
def BirkC (ps : List (Int × Int)) (l : List Nat) (a : Nat) (w w5 : World) (v bv : Value) (wr : World) : Prop :=
  ∃ b : Nat, bv = .int .i64 b ∧ b ≤ l.length ∧ (∃ q, Prs ps l a b q ∧ OwnP wr w5.heap.size v (pint q)) ∧ Below w5.heap.size w5 wr ∧ Below w.heap.size w wr

set_option maxHeartbeats 2000000 in
theorem LatticeBirkhoff_with (hS : ShOk 4 true) (hI : IrrOk 5) (hM : ManyOk 8) (n : Int) (ps : List (Int × Int)) (A : Option Addr) (c : Nat) (w : World) (hm : ps.length ≤ maxLen) (hr : Row w A (pairsC ps)) (hX : Laid w) :
    Calls Tryd.prog 3 #[.int .i64 n, .slice A ps.length c] w fun e w' => e = .returned (.bool true) ∧ Below w.heap.size w w' := by
  have HTw := Lib.hid (codeL_ok two_code two_lat)
  go_enter Tryd.func3, Tryd.ntmps3
  go_wp2_with fail
  have hr2 : Row (w.alloc (.cells #[.int .i64 0, .int .i64 1] 26)) (some ⟨w.heap.size, 0, none⟩) (pairsC two) := by
    refine .inr ⟨w.heap.size, 0, rfl, fun j v hv => ?_⟩
    have hv2 : [Value.int .i64 0, .int .i64 1][j]? = some v := hv
    simpa using hv2
  refine (hS ((2 : Nat) : Int) two _ 1 _ (by simp [two, maxLen]) hr2 (hX.below ((Below.refl _ _).alloc (Nat.le_refl _) _))).mono ?_
  rintro e w1 ⟨rfl, hb1⟩
  rw [HTw.out, show (((0 : Int) == 0) && shB ((2 : Nat) : Int).toNat two true) = true from two_share]
  have hb01 : Below w.heap.size w w1 := ((Below.refl _ _).alloc (Nat.le_refl _) _).trans (hb1.mono (by simp))
  clear hb1 hr2
  go_wp2_with fail
  refine (hS n ps A c _ hm (hr.below hb01) (hX.below hb01)).mono ?_
  rintro e w2 ⟨rfl, hb2⟩
  have hb02 := hb01.trans (hb2.mono hb01.size)
  clear hb01 hb2
  go_wp2_with fail
  refine (hI n ps A c _ hm (hr.below hb02) (hX.below hb02)).mono ?_
  rintro e w3 ⟨rfl, hb3⟩
  have hb03 := hb02.trans (hb3.mono hb02.size)
  clear hb02 hb3
  by_cases hc : codeL n ps = 0
  · have hc0 : code n ps = 0 := by
      by_cases h : code n ps = 0
      · exact h
      · rw [codeL_err h] at hc; exact hc
    obtain ⟨h2, h3, h4⟩ := code_zero hc0
    obtain ⟨n, rfl⟩ := Int.eq_ofNat_of_zero_le (show 0 ≤ n by unfold Large at h2; omega)
    obtain ⟨hn1, hn6, hl⟩ : 1 ≤ n ∧ n ≤ 6 ∧ ps.length ≤ 20 := by unfold Large at h2; omega
    have HL := Lib.hid (codeL_zero hc).2
    have HY := Lib.hid h4
    rw [hc, if_pos rfl, Int.toNat_natCast, show (((0 : Int) == 0) && shB n ps true) = shB n ps true from rfl]
    clear h2 h3 h4 hc hc0 HTw
    cases hsh : shB n ps true with
    | false =>
      go_wp2
      go_ret
      exact ⟨rfl, hb03⟩
    | true =>
      have HSh := Lib.hid hsh
      clear hsh
      obtain ⟨i0, hi, hz0, hz1, hz2⟩ := info_parts info3
      have HI := Lib.hid (And.intro hi (And.intro hz0 (And.intro hz1 hz2)))
      have hW : irrW n ps n < 4294967296 := by have h1 := irrW_lt n ps n; have h2 := one_le_64 hn6; omega
      have hsz3 := hb03.size
      clear hi hz0 hz1 hz2 hS hI
      go_wp2
      go_loopw [11, 12] (fun v iv wr => BirkA n ps w w3 v iv wr) (fun _ iv _ => n - (intOf iv).toNat)
      case atStart => exact ⟨0, rfl, Nat.zero_le _, ⟨[], rfl, World.ownsRow_nil _ _ _ _⟩, Below.refl _ _, hb03⟩
      case round =>
        clear hb03
        obtain ⟨k, rfl, hk, ⟨l, hle, hown⟩, hb3, hbel⟩ := hrel
        have hll : l.length ≤ 6 := by rw [hle]; have := irrL_len n ps k; omega
        have HLe := Lib.hid hle
        have HO := Lib.hid hown
        have hsz := hb3.size
        clear hle hown
        by_cases hkn : k < n
        · have HBit := Lib.hid (irrW_bit (ps := ps) hkn)
          go_wp2_with fail
          refine (Bit_any (irrW n ps n) k (by omega) hW _).mono ?_
          rintro e w4 ⟨rfl, rfl⟩
          rw [HBit.out]
          cases hirr : irrB n ps k with
          | true =>
            have HS := Lib.hid (irrL_yes hirr)
            clear hirr
            have HO3 := Lib.hid (show wr.ownsRow w3.heap.size 3 1 _ (nats l).length (ints (nats l)) from HO.out)
            have hnl : (nats l).length = l.length := nats_length l
            obtain ⟨hi, hz0, hz1, hz2⟩ := HI.out
            go_wp2_with (first | (at_builtin; refine wpList_append_lies _ rfl _ _ 30 rfl w3.heap.size 3 i0 (.int .i64 0) 1 8 Tryd.underlying30 hi hz0 hz1 hz2 rfl (by decide) _ _ _ rfl (HO3.out.alloc _) ⟨wr.heap.size, 0, none⟩ 1 1 [.int .i64 k] rfl rfl (cell_one_new _ _ _) ?c1 (by decide) ?c2 ?c3 ?c4 _ rfl ?c6))
            case c1 => intro u hu; simp at hu; subst hu; rfl
            case c2 => unfold maxLen; omega
            case c3 => omega
            case c4 => simp; omega
            case c6 =>
              intro g3 cap3 w4 hown4 hgrow4 hat4 hlt4
              have HG4 := Lib.hid hgrow4
              have HO4 := Lib.hid hown4
              clear hown4 hgrow4 hat4 hi hz0 hz1 hz2
              go_wp2
              go_roundw
              case rel =>
                have hlt := fun k hk => (World.ownsRow.lt HO3.out k hk).1
                refine ⟨k + 1, by go_num, by omega, ⟨l ++ [k], by rw [HS.out, HLe.out], ?_⟩, ?_, ?_⟩
                · rw [nats_append]
                  unfold OwnI
                  rw [ints_append, List.length_append, nats_length]
                  exact HO4.out
                · exact (hb3.alloc hsz _).grown HG4.out (by simp; omega) hlt
                · exact (hbel.alloc (by omega) _).grown HG4.out (by simp; omega) (fun k hk => by have := hlt k hk; omega)
              case measure => simp [intOf]; omega
          | false =>
            have HS := Lib.hid (irrL_no hirr)
            clear hirr
            go_wp2
            go_roundw
            case rel => exact ⟨k + 1, by go_num, by omega, ⟨l, by rw [HS.out, HLe.out], HO.out⟩, hb3, hbel⟩
            case measure => simp [intOf]; omega
        · have hke : n = k := by omega
          subst hke
          obtain ⟨A4, c4, hv, hrow4, _⟩ := HO.out.row
          rw [nats_length] at hv
          subst hv
          have HR4 := Lib.hid hrow4
          clear HO hrow4
          by_cases hl0 : l.length = 0
          · have h1 : n = 1 := irr_none HY.out HL.out hn1 fun i hi => by
              cases e : irrB n ps i with
              | false => rfl
              | true =>
                have := mem_irrL.2 ⟨hi, e⟩
                rw [← HLe.out, List.eq_nil_of_length_eq_zero hl0] at this
                cases this
            have hd0 : ((l.length : Int) == 0) = true := by rw [hl0]; rfl
            subst h1
            go_wp2
            go_ret
            exact ⟨rfl, hbel⟩
          · have hd0 : ((l.length : Int) == 0) = false := by rw [beq_eq_false_iff_ne]; omega
            obtain ⟨i1, ji, jz0, jz1, jz2⟩ := info_parts info35
            have HJ := Lib.hid (And.intro ji (And.intro jz0 (And.intro jz1 jz2)))
            have HNd := Lib.hid (show l.Nodup by rw [HLe.out]; exact irrL_nodup n ps n)
            have HLn := Lib.hid (show ∀ i ∈ l, i < n by intro i hi; rw [HLe.out] at hi; exact (mem_irrL.1 hi).1)
            obtain ⟨w5, hw5⟩ : ∃ w5 : World, w5 = wr := ⟨_, rfl⟩
            subst hw5
            have hsz5 := hbel.size
            clear ji jz0 jz1 jz2 HI
            go_wp2
            go_loopw [13, 14] (fun v av wr => BirkB ps l w w5 v av wr) (fun _ av _ => l.length - (intOf av).toNat)
            case atStart => exact ⟨0, rfl, Nat.zero_le _, ⟨[], Prs.init ps l, OwnP.nil _ _⟩, Below.refl _ _, hbel⟩
            case round =>
              clear hbel hb3
              obtain ⟨a, rfl, ha, ⟨q, hq, hown⟩, hb5, hbel⟩ := hrel
              have HQ := Lib.hid hq
              have HO := Lib.hid hown
              clear hq hown
              by_cases hal : a < l.length
              · obtain ⟨x, hx⟩ := get_some hal
                have HX := Lib.hid hx
                clear hx
                go_wp2
                go_loopw [13, 15] (fun v bv wr => BirkC ps l a w w5 v bv wr) (fun _ bv _ => l.length - (intOf bv).toNat)
                case atStart => exact ⟨0, rfl, Nat.zero_le _, ⟨q, HQ.out, HO.out⟩, hb5, hbel⟩
                case round =>
                  clear hbel hb5 HQ HO
                  obtain ⟨b, rfl, hb, ⟨q, hq, hown⟩, hb5, hbel⟩ := hrel
                  have hqf : q.length ≤ 18 := hq.few HY.out hll HNd.out HLn.out
                  have HQ := Lib.hid hq
                  have HO := Lib.hid hown
                  clear hq hown
                  by_cases hbl : b < l.length
                  · obtain ⟨y, hy⟩ := get_some hbl
                    obtain ⟨go, oo, rfl, hcell⟩ := (HR4.out.below hb5).at (k := 0) (by rw [ints_length, nats_length]; omega)
                    have hca := hcell a _ (ints_at (nats_at HX.out))
                    have hcb := hcell b _ (ints_at (nats_at hy))
                    have HYb := Lib.hid hy
                    clear hcell hy
                    by_cases hab : a = b
                    · have hd : ((a : Int) != (b : Int)) = false := by simp; omega
                      have HS := Lib.hid (HQ.out.skip HX.out HYb.out (fun h => h.1 hab))
                      clear hab
                      have hax : (a : Int) < (l.length : Int) := by omega
                      have hbx : (b : Int) < (l.length : Int) := by omega
                      obtain ⟨w6, hw6⟩ : ∃ w6 : World, w6 = wr := ⟨_, rfl⟩
                      go_wp2
                      go_quiet (fail)
                      go_wp2
                      go_roundw
                      case rel => exact ⟨b + 1, by go_num, by omega, ⟨q, HS.out, HO.out⟩, below_drewN hb5 _, below_drewN hbel _⟩
                      case measure => simp [intOf]; omega
                    · have hd : ((a : Int) != (b : Int)) = true := by simp; omega
                      have HAb := Lib.hid hab
                      clear hab
                      have hax : (a : Int) < (l.length : Int) := by omega
                      have hbx : (b : Int) < (l.length : Int) := by omega
                      have hsz6 := hb5.size
                      obtain ⟨w6, hw6⟩ : ∃ w6 : World, w6 = wr := ⟨_, rfl⟩
                      subst hw6
                      go_wp2
                      refine wp_region_still_tail 14 (by kernel_rfl) (by kernel_rfl) ?_
                      simp only [List.take_succ_cons, List.take_zero, List.drop_succ_cons, List.drop_zero]
                      iterate 14 still_step
                      refine wpStill_nil ?_
                      go_wp2_with fail
                      refine (Under_any n ps A c x y _ (show Row w6.drew A (pairsC ps) from hr.below hbel.drew) hl).mono ?_
                      rintro e w7 ⟨rfl, hb7⟩
                      have hbel7 := hbel.drew.trans (hb7.mono hbel.size)
                      have hb57 := hb5.drew.trans (hb7.mono hb5.size)
                      have hsz7 := hb57.size
                      have HP3 := Lib.hid (show w7.ownsRow w5.heap.size 26 2 _ (pint q).length (pairsC (pint q)) from (show OwnP w6.drew _ _ _ from HO.out).below hb7)
                      have hpl : (pint q).length = q.length := pint_length q
                      clear hb7 HO hca hcb hb5 hbel
                      cases hu : under ps x y with
                      | true =>
                        have HS := Lib.hid (HQ.out.add HX.out HYb.out HAb.out hu)
                        clear hu
                        obtain ⟨hi, hz0, hz1, hz2⟩ := HJ.out
                        go_wp2_with (first | (at_builtin; refine wpList_append_lies _ rfl _ _ 22 rfl w5.heap.size 26 i1 (.agg #[.int .i64 0, .int .i64 0]) 2 16 Tryd.underlying22 hi hz0 hz1 hz2 rfl (by decide) _ _ _ rfl (HP3.out.alloc _) ⟨w7.heap.size, 0, none⟩ 1 1 [.int .i64 a, .int .i64 b] rfl rfl (cell_two _ _ _ _) ?c1 (by decide) ?c2 ?c3 ?c4 _ rfl ?c5))
                        case c1 => intro u hu; simp at hu; rcases hu with rfl | rfl <;> rfl
                        case c2 => unfold maxLen; omega
                        case c3 => omega
                        case c4 => simp; omega
                        case c5 =>
                          intro g3 cap3 w8 hown8 hgrow8 hat8 hlt8
                          have HG8 := Lib.hid hgrow8
                          have HO8 := Lib.hid hown8
                          clear hown8 hgrow8 hat8 hi hz0 hz1 hz2
                          go_wp2
                          go_roundw
                          case rel =>
                            have hlt := fun k hk => (World.ownsRow.lt HP3.out k hk).1
                            refine ⟨b + 1, by go_num, by omega, ⟨q ++ [(a, b)], HS.out, ?_⟩, ?_, ?_⟩
                            · rw [pint_append]
                              unfold OwnP
                              rw [pairsC_append, List.length_append, pint_length]
                              exact HO8.out
                            · exact (hb57.alloc hsz7 _).grown HG8.out (by simp; omega) hlt
                            · exact (hbel7.alloc (by omega) _).grown HG8.out (by simp; omega) (fun k hk => by have := hlt k hk; omega)
                          case measure => simp [intOf]; omega
                      | false =>
                        have HS := Lib.hid (HQ.out.skip HX.out HYb.out (fun h => by rw [hu] at h; cases h.2))
                        clear hu
                        go_wp2
                        go_roundw
                        case rel => exact ⟨b + 1, by go_num, by omega, ⟨q, HS.out, HP3.out⟩, hb57, hbel7⟩
                        case measure => simp [intOf]; omega
                  · have hbe : b = l.length := by omega
                    subst hbe
                    go_wp2
                    go_roundw
                    case rel => exact ⟨a + 1, by go_num, by omega, ⟨q, HQ.out.next, HO.out⟩, hb5, hbel⟩
                    case measure => simp [intOf]; omega
              · have hae : a = l.length := by omega
                subst hae
                have hirr : Irrs n ps l (pint q) := by
                  have h := HQ.out
                  rw [HLe.out] at h ⊢
                  exact h.irrs
                have hqf : (pint q).length ≤ 18 := by rw [pint_length]; exact HQ.out.few HY.out hll HNd.out HLn.out
                have hcode : code (l.length : Int) (pint q) = 0 := by
                  refine code_ok (fun h => ?_) (fun p hp => ?_) (hirr.cyc HY.out)
                  · unfold Large at h; omega
                  · obtain ⟨i, j, x, y, rfl, h2, h3, _⟩ := (hirr.less p).1 hp
                    have hi := (List.getElem?_eq_some_iff.1 h2).1
                    have hj := (List.getElem?_eq_some_iff.1 h3).1
                    refine ⟨?_, ?_⟩ <;> constructor <;> omega
                have hB := hirr.birkhoff HY.out HL.out HSh.out hn1
                obtain ⟨A6, c6, rfl, hrow6, hmx6⟩ := HO.out.row
                have key := hM (l.length : Int) (pint q) A6 c6 _ hmx6 hrow6 (hX.below hbel)
                rw [hcode, if_pos rfl, Int.toNat_natCast, hB] at key
                have KEY := Lib.hid key
                clear key hB hcode hirr HO hrow6 hM
                go_wp2_with fail
                refine KEY.out.mono ?_
                rintro e w7 ⟨rfl, hb7⟩
                have HB := Lib.hid (hbel.trans (hb7.mono hbel.size))
                clear KEY hbel hb5 hb7
                go_wp2
                go_ret
                exact ⟨rfl, HB.out⟩
  · rw [show (codeL n ps == 0) = false from by simpa using hc, Bool.false_and, if_neg hc]
    generalize codeL n ps = k at *
    have hk : (k == 0) = false := by simpa using hc
    have hk2 : (k != 0) = true := by simpa using hc
    clear hc
    go_wp2
    go_ret
    exact ⟨rfl, hb03⟩

end Go.Proofs.YtmlggmopkelcfaaDoor
