/- The law on Keys, by the document's answer. -/
import Derived.Test.YtdiofkkdhdhkaaaLawFCd
namespace Go.Proofs.Ytdiofkkdhdhkaaa
open Go.RowKit

/-- A key, as far as the first i things were left out. -/
def keyP (n : Nat) (rs : List (Nat × Nat)) (s i : Nat) : Bool := (closeW n rs s == full n) && (List.range i).all fun j => !(s.testBit j && (closeW n rs (s - one j) == full n))
theorem keyP_yes {n : Nat} {rs : List (Nat × Nat)} {s i : Nat} (h : s.testBit i = true) (h2 : closeW n rs (s - one i) = full n) : keyP n rs s (i + 1) = false := by
  simp [keyP, List.range_succ, h, h2]
theorem keyP_no {n : Nat} {rs : List (Nat × Nat)} {s i : Nat} (h : ¬ (s.testBit i = true ∧ closeW n rs (s - one i) = full n)) : keyP n rs s (i + 1) = keyP n rs s i := by
  have : (!(s.testBit i && (closeW n rs (s - one i) == full n))) = true := by
    rw [Bool.not_eq_true', ← Bool.not_eq_true, Bool.and_eq_true, beq_iff_eq]; exact h
  simp only [keyP, List.range_succ, List.all_append, List.all_cons, List.all_nil, this, Bool.and_true]

/-- The loop over the things that are left out. -/
def KyRel (n : Nat) (rs : List (Nat × Nat)) (k : Nat) (u : List Nat) (w w2 : World) (v kv iv : Value) (wr : World) : Prop :=
  ∃ i : Nat, iv = .int .i64 i ∧ i ≤ n ∧ (∃ q, q = keyP n rs k i ∧ kv = .bool q) ∧ OwnU wr w2.heap.size v u ∧ Below w2.heap.size w2 wr ∧ Below w.heap.size w wr

set_option maxHeartbeats 2000000 in
theorem FollowKeys_with (hJ : KeysOk 20) (n : Int) (rs : List (Nat × Nat)) (A : Option Addr) (c : Nat) (w : World) (h32 : W32 rs) (hm : rs.length ≤ maxLen) (hr : Row w A (rulesC rs)) (hX : Laid w) :
    Calls Try.prog 6 #[.int .i64 n, .slice A rs.length c] w fun e w' => e = .returned (.bool true) ∧ Below w.heap.size w w' := by
  have key := hJ n rs A c w h32 hm hr hX
  by_cases hc : codeR n rs 0 = 0
  · obtain ⟨n, rfl, hn1, hn6, hl, hf, h1⟩ := codeR_zero hc
    obtain ⟨i0, hi, hz0, hz1, hz2⟩ := info_parts info29
    have HI := Lib.hid (And.intro hi (And.intro hz0 (And.intro hz1 hz2)))
    have HC := Lib.hid hc
    rw [hc, if_pos rfl, Int.toNat_natCast] at key
    have h64 := one_le_64 hn6
    have h1n := one_int n (by omega)
    have hfull : (one n : Int) - 1 = (full n : Nat) := by have := one_pos n; unfold full; omega
    have HFe := Lib.hid (show one n = full n + 1 by have := one_pos n; unfold full; omega)
    clear hc hi hz0 hz1 hz2
    go_enter Try.func6, Try.ntmps6
    go_wp2_with fail
    refine key.mono ?_
    rintro e w1 ⟨A2, c2, l, rfl, hle, _, hrow, hb1⟩
    have HLe := Lib.hid hle
    have HR := Lib.hid hrow
    have hll : l.length ≤ 64 := by rw [hle]; have := filter_len (keyB n rs) (one n); omega
    clear hle hrow
    go_wp2_with fail
    refine (RulesCheck_any n rs A c 0 _ (hr.below hb1)).mono ?_
    rintro e w2 ⟨rfl, hb2⟩
    rw [HC.out]
    have hb02 := hb1.trans (hb2.mono hb1.size)
    have HR2 := Lib.hid (HR.out.below hb2)
    have hsz2 := hb02.size
    clear hb1 hb2 key HR
    go_wp2
    rw [h1n]
    clear h1n hfull
    go_loopw [9, 10] (fun v sv wr => CdRel n (keyB n rs) w w2 v sv wr) (fun _ sv _ => one n - (intOf sv).toNat)
    case atStart => exact ⟨0, rfl, Nat.zero_le _, ⟨[], rfl, World.ownsRow_nil _ _ _ _⟩, Below.refl _ _, hb02⟩
    case round =>
      clear hb02
      obtain ⟨k, rfl, hk, ⟨u, hu, hown⟩, hb2, hbel⟩ := hrel
      have hul : u.length ≤ 64 := by rw [hu]; have := filter_len (keyB n rs) k; omega
      have HU := Lib.hid hu
      have HO := Lib.hid hown
      clear hu hown
      by_cases hlt : k < one n
      · have hle : k ≤ full n := by have := HFe.out; omega
        go_wp2_with fail
        refine (Close_any n rs A c k _ hn6 (hr.below hbel) h32 (by omega) (by omega)).mono ?_
        rintro e w3 ⟨rfl, hb3⟩
        have hbel3 := hbel.trans (hb3.mono hbel.size)
        have hb23 := hb2.trans (hb3.mono hb2.size)
        have HO3 := Lib.hid (ownU_below HO.out hb3)
        clear hb3 HO hb2 hbel
        have HK0 := Lib.hid (show ((closeW n rs k : Int) == (full n : Int)) = keyP n rs k 0 by
          rw [Bool.eq_iff_iff]; simp [keyP]; omega)
        go_wp2
        rw [HK0.out]
        go_loopw [11, 12] (fun kv iv wr => KyRel n rs k u w w2 _ kv iv wr) (fun _ iv _ => n - (intOf iv).toNat)
        case atStart => exact ⟨0, rfl, Nat.zero_le _, ⟨_, rfl, rfl⟩, HO3.out, hb23, hbel3⟩
        case round =>
          clear hb23 hbel3 HO3
          obtain ⟨i, rfl, hi, ⟨q, hq, rfl⟩, hown, hb2, hbel⟩ := hrel
          have HQ := Lib.hid hq
          have HO := Lib.hid hown
          clear hq hown
          by_cases hin : i < n
          · have h1i := one_int i (by omega)
            cases hbit : k.testBit i with
            | true =>
              have hge : one i ≤ k := by
                rcases Nat.lt_or_ge k (one i) with h | h
                · rw [lt_one_testBit h (Nat.le_refl i)] at hbit; cases hbit
                · exact h
              have hsub : (k : Int) - (one i : Int) = ((k - one i : Nat) : Int) := by omega
              go_wp2_with fail
              refine (Bit_any k i (by omega) (by omega) _).mono ?_
              rintro e w4 ⟨rfl, rfl⟩
              rw [hbit]
              go_wp2_with fail
              refine (Close_any n rs A c (k - one i) _ hn6 (hr.below hbel) h32 (by omega) (by omega)).mono ?_
              rintro e w4 ⟨rfl, hb4⟩
              have hbel4 := hbel.trans (hb4.mono hbel.size)
              have hb24 := hb2.trans (hb4.mono hb2.size)
              have HO4 := Lib.hid (ownU_below HO.out hb4)
              clear hb4 HO hb2 hbel h1i hsub
              by_cases hcl : closeW n rs (k - one i) = full n
              · have hd : ((closeW n rs (k - one i) : Int) == (full n : Int)) = true := by rw [hcl]; simp
                have HS := Lib.hid (keyP_yes hbit hcl)
                clear hbit hcl
                go_wp2
                go_roundw
                case rel => exact ⟨i + 1, by go_num, by omega, ⟨false, HS.out.symm, rfl⟩, HO4.out, hb24, hbel4⟩
                case measure => simp [intOf]; omega
              · have hd : ((closeW n rs (k - one i) : Int) == (full n : Int)) = false := by rw [beq_eq_false_iff_ne]; omega
                have HS := Lib.hid (keyP_no (n := n) (rs := rs) (s := k) (i := i) (fun h => hcl h.2))
                clear hbit hcl
                go_wp2
                go_roundw
                case rel => exact ⟨i + 1, by go_num, by omega, ⟨q, by rw [HS.out, HQ.out], rfl⟩, HO4.out, hb24, hbel4⟩
                case measure => simp [intOf]; omega
            | false =>
              have HS := Lib.hid (keyP_no (n := n) (rs := rs) (s := k) (i := i) (fun h => by rw [hbit] at h; cases h.1))
              go_wp2_with fail
              refine (Bit_any k i (by omega) (by omega) _).mono ?_
              rintro e w4 ⟨rfl, rfl⟩
              rw [hbit]
              clear hbit h1i
              go_wp2
              go_roundw
              case rel => exact ⟨i + 1, by go_num, by omega, ⟨q, by rw [HS.out, HQ.out], rfl⟩, HO.out, hb2, hbel⟩
              case measure => simp [intOf]; omega
          · have hie : i = n := by omega
            subst hie
            have hsz3 := hb2.size
            have HO3 := Lib.hid (show _root_.Go.World.ownsRow _ w2.heap.size 23 1 _ u.length (words u) from HO.out)
            cases q with
            | true =>
              have HS := Lib.hid (filter_yes (p := keyB i rs) (k := k) HQ.out.symm)
              obtain ⟨hi, hz0, hz1, hz2⟩ := HI.out
              go_wp2_with (first | (at_builtin; refine wpList_append_lies _ rfl _ _ 36 rfl w2.heap.size 23 i0 (.int .u32 0) 1 4 Try.underlying36 hi hz0 hz1 hz2 rfl (by decide) _ _ _ rfl (HO3.out.alloc _) ⟨_, 0, none⟩ 1 1 [.int .u32 k] rfl rfl (cell_one_new _ _ _) ?c1 (by decide) ?c2 ?c3 ?c4 _ rfl ?c6))
              case c1 => intro u hu; simp at hu; subst hu; rfl
              case c2 => unfold maxLen; omega
              case c3 => omega
              case c4 => simp; omega
              case c6 =>
                intro g3 cap3 w4 hown4 hgrow4 hat4 hlt4
                have HG4 := Lib.hid hgrow4
                have HO4 := Lib.hid hown4
                clear hown4 hgrow4 hat4 hi hz0 hz1 hz2
                go_wp2
                go_roundw
                case rel =>
                  have hlt := fun k hk => (World.ownsRow.lt HO3.out k hk).1
                  refine ⟨k + 1, by go_num, by omega, ⟨u ++ [k], by rw [HS.out, HU.out], ?_⟩, ?_, ?_⟩
                  · unfold OwnU
                    rw [words_append, List.length_append]
                    exact HO4.out
                  · exact (hb2.alloc hsz3 _).grown HG4.out (by simp; omega) hlt
                  · exact (hbel.alloc (by omega) _).grown HG4.out (by simp; omega) (fun k hk => by have := hlt k hk; omega)
                case measure => simp [intOf]; omega
            | false =>
              have HS := Lib.hid (filter_no (p := keyB i rs) (k := k) HQ.out.symm)
              go_wp2
              go_roundw
              case rel => exact ⟨k + 1, by go_num, by omega, ⟨u, by rw [HS.out, HU.out], HO.out⟩, hb2, hbel⟩
              case measure => simp [intOf]; omega
      · have hke : k = one n := by omega
        have hgt : ¬ k ≤ full n := by have := HFe.out; omega
        obtain ⟨A5, c5, rfl, hrow5, _⟩ := OwnU.row HO.out
        have HR5 := Lib.hid hrow5
        have HKe := Lib.hid hke
        clear HO hrow5 hke
        go_wp2_with fail
        refine (Words_any l u A2 A5 c2 c5 _ (HR2.out.below hb2) HR5.out (by omega) (by omega)).mono ?_
        rintro e w4 ⟨rfl, d, rfl⟩
        rw [show decide (l = u) = true from by rw [decide_eq_true_iff, HLe.out, HU.out, HKe.out]]
        have HB := Lib.hid (below_drewN hbel d)
        clear hb2 hbel
        go_wp2
        go_ret
        exact ⟨rfl, HB.out⟩
  · rw [if_neg hc] at key
    go_enter Try.func6, Try.ntmps6
    go_wp2_with fail
    refine key.mono ?_
    rintro e w1 ⟨A2, c2, l, rfl, rfl, _, hrow, hb1⟩
    go_wp2_with fail
    refine (RulesCheck_any n rs A c 0 _ (hr.below hb1)).mono ?_
    rintro e w2 ⟨rfl, hb2⟩
    have HB := Lib.hid (hb1.trans (hb2.mono hb1.size))
    clear key hrow hb1 hb2
    generalize codeR n rs 0 = k at *
    have hk : (k == 0) = false := by simpa using hc
    have hk2 : (k != 0) = true := by simpa using hc
    clear hc
    go_wp2
    go_ret
    exact ⟨rfl, HB.out⟩
end Go.Proofs.Ytdiofkkdhdhkaaa
