/- The law after Sperner, by the document's answer. -/
import Derived.Test.YtdiofkkdhdhkaaaFSpec
import Derived.Test.YtdiofkkdhdhkaaaSper
namespace Go.Proofs.Ytdiofkkdhdhkaaa
open Go.RowKit

theorem most_at {n : Nat} (h1 : 1 ≤ n) (h6 : n ≤ 6) : [Value.int .i64 1, Value.int .i64 1, Value.int .i64 2, Value.int .i64 3, Value.int .i64 6, Value.int .i64 10, Value.int .i64 20][n]? = some (.int .i64 (most n : Nat)) := by
  obtain rfl | rfl | rfl | rfl | rfl | rfl : n = 1 ∨ n = 2 ∨ n = 3 ∨ n = 4 ∨ n = 5 ∨ n = 6 := by omega
  all_goals rfl

set_option maxHeartbeats 2000000 in
theorem FollowKey_with (hJ : KeysOk 20) (n : Int) (rs : List (Nat × Nat)) (A : Option Addr) (c : Nat) (w : World) (h32 : W32 rs) (hm : rs.length ≤ maxLen) (hr : Row w A (rulesC rs)) (hX : Laid w) :
    Calls Try.prog 11 #[.int .i64 n, .slice A rs.length c] w fun e w' => e = .returned (.bool true) ∧ Below w.heap.size w w' := by
  have key := hJ n rs A c w h32 hm hr hX
  by_cases hc : codeR n rs 0 = 0
  · obtain ⟨n, rfl, hn1, hn6, hl, hf, h1⟩ := codeR_zero hc
    have HC := Lib.hid hc
    rw [hc, if_pos rfl, Int.toNat_natCast] at key
    have h64 := one_le_64 hn6
    clear hc
    go_enter Try.func11, Try.ntmps11
    go_wp2_with fail
    refine key.mono ?_
    rintro e w1 ⟨A2, c2, l, rfl, hle, hcap, hrow, hb1⟩
    have HLe := Lib.hid (show l = keyL n rs from hle)
    have HR := Lib.hid hrow
    have hll : l.length ≤ 64 := by rw [hle]; have := filter_len (keyB n rs) (one n); omega
    clear hle hrow
    go_wp2_with fail
    refine (ruled_any n rs A c 0 _ (hr.below hb1)).mono ?_
    rintro e w2 ⟨rfl, hb2⟩
    rw [HC.out]
    have hb02 := hb1.trans (hb2.mono hb1.size)
    have HR2 := Lib.hid (HR.out.below hb2)
    have hsz2 := hb02.size
    clear hb1 hb2 key HR
    have hpos : 0 < l.length := by rw [HLe.out]; exact keyL_some n rs
    have hfew : l.length ≤ most n := by rw [HLe.out]; exact keyL_few hn6 hf
    have hmost : [Value.int .i64 1, Value.int .i64 1, Value.int .i64 2, Value.int .i64 3, Value.int .i64 6, Value.int .i64 10, Value.int .i64 20][n]? = some (.int .i64 (most n : Nat)) := most_at hn1 hn6
    have hd0 : ((l.length : Int) == 0) = false := by rw [beq_eq_false_iff_ne]; omega
    have hd1 : ¬ (most n : Int) < (l.length : Int) := by omega
    go_wp2
    rw [show decide (most n < l.length) = false from decide_eq_false (by omega)]
    have hb03 := hb02.alloc hsz2 (.cells #[.int .i64 1, .int .i64 1, .int .i64 2, .int .i64 3, .int .i64 6, .int .i64 10, .int .i64 20] 3)
    have HR3 := Lib.hid (HR2.out.below ((Below.refl _ _).alloc (Nat.le_refl _) (.cells #[.int .i64 1, .int .i64 1, .int .i64 2, .int .i64 3, .int .i64 6, .int .i64 10, .int .i64 20] 3)))
    generalize w2.alloc (.cells #[.int .i64 1, .int .i64 1, .int .i64 2, .int .i64 3, .int .i64 6, .int .i64 10, .int .i64 20] 3) = w3 at *
    obtain ⟨g, off, rfl, hcell⟩ := HR3.out.at (k := 0) (by rw [words_length]; omega)
    have HCell := Lib.hid (fun (j v : Nat) (h : l[j]? = some v) => hcell j _ (words_at h))
    have HApart := Lib.hid (fun (i j a b : Nat) (ha : l[i]? = some a) (hb : l[j]? = some b) (hij : i ≠ j) => show sub a b = false by
      cases e : sub a b with
      | false => rfl
      | true =>
        exfalso
        have m1 := mem_keyL.1 (HLe.out ▸ List.mem_of_getElem? ha)
        have m2 := mem_keyL.1 (HLe.out ▸ List.mem_of_getElem? hb)
        have e2 := key_anti hf m2.1 m1.2 m2.2 e
        have hn : l.Nodup := by rw [HLe.out]; exact keyL_nodup n rs
        obtain ⟨i1, i2⟩ := List.getElem?_eq_some_iff.1 ha
        obtain ⟨j1, j2⟩ := List.getElem?_eq_some_iff.1 hb
        exact hij ((List.getElem_inj hn).1 (i2.trans (e2.trans j2.symm))))
    have HLt := Lib.hid (fun (j v : Nat) (h : l[j]? = some v) => show v < 4294967296 by
      have m1 := (mem_keyL.1 (HLe.out ▸ List.mem_of_getElem? h)).1
      omega)
    clear hmost hd0 hd1 hfew hcell HR3 HR2 hb02 HLe
    go_loopw [43] (fun iv wr => ∃ k : Nat, iv = .int .i64 k ∧ k ≤ l.length ∧ w3 = wr) (fun iv _ => l.length - (intOf iv).toNat)
    case atStart => exact ⟨0, rfl, Nat.zero_le _, rfl⟩
    case round =>
      obtain ⟨k, rfl, hk, rfl⟩ := hrel
      by_cases hlt : k < l.length
      · obtain ⟨a, ha⟩ := get_some hlt
        have ca := HCell.out k a ha
        have ha32 := HLt.out k a ha
        have HA := Lib.hid ha
        clear ha
        go_wp2
        go_loopw [52] (fun jv wr => ∃ j : Nat, jv = .int .i64 j ∧ j ≤ k ∧ w3 = wr) (fun jv _ => k - (intOf jv).toNat)
        case atStart => exact ⟨0, rfl, Nat.zero_le _, rfl⟩
        case round =>
          obtain ⟨j, rfl, hj, rfl⟩ := hrel
          by_cases hjk : j < k
          · obtain ⟨b, hb⟩ := get_some (show j < l.length by omega)
            have cb := HCell.out j b hb
            have hb32 := HLt.out j b hb
            have h1 := HApart.out k j a b HA.out hb (by omega)
            have h2 := HApart.out j k b a hb HA.out (by omega)
            clear hb
            go_wp2_with fail
            refine (In_any a b ha32 hb32 _).mono ?_
            rintro e w4 ⟨rfl, rfl⟩
            rw [show (a ||| b == b) = false from h1]
            go_wp2_with fail
            refine (In_any b a hb32 ha32 _).mono ?_
            rintro e w4 ⟨rfl, rfl⟩
            rw [show (b ||| a == a) = false from h2]
            clear h1 h2
            go_wp2
            go_roundw
            case rel => exact ⟨j + 1, by go_num, by omega, trivial⟩
            case measure => simp [intOf]; omega
          · have hje : j = k := by omega
            subst hje
            go_wp2
            go_roundw
            case rel => exact ⟨j + 1, by go_num, by omega, trivial⟩
            case measure => simp [intOf]; omega
      · go_wp2
        go_ret
        exact ⟨rfl, hb03⟩
  · rw [if_neg hc] at key
    go_enter Try.func11, Try.ntmps11
    go_wp2_with fail
    refine key.mono ?_
    rintro e w1 ⟨A2, c2, l, rfl, rfl, _, hrow, hb1⟩
    go_wp2_with fail
    refine (ruled_any n rs A c 0 _ (hr.below hb1)).mono ?_
    rintro e w2 ⟨rfl, hb2⟩
    have HB := Lib.hid (hb1.trans (hb2.mono hb1.size))
    clear key hrow hb1 hb2
    generalize codeR n rs 0 = k at *
    have hk : (k == 0) = false := by simpa using hc
    have hk2 : (k != 0) = true := by simpa using hc
    rw [hk]
    clear hc
    go_wp2
    go_ret
    exact ⟨rfl, HB.out⟩
end Go.Proofs.Ytdiofkkdhdhkaaa
