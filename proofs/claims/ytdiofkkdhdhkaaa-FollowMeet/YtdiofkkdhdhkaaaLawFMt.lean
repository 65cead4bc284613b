/- The law after Moore, by the document's answer. -/
import Derived.Test.YtdiofkkdhdhkaaaFSpec
namespace Go.Proofs.Ytdiofkkdhdhkaaa
open Go.RowKit

/-- The closed sets, all of them. -/
def allCl (n : Nat) (rs : List (Nat × Nat)) : List Nat := (List.range (one n)).filter (closedB rs)
theorem mem_allCl {n : Nat} {rs : List (Nat × Nat)} {s : Nat} : s ∈ allCl n rs ↔ s < one n ∧ closedB rs s = true := by unfold allCl; rw [List.mem_filter, List.mem_range]
theorem allCl_last {n : Nat} {rs : List (Nat × Nat)} (hf : FitR n rs) : ∃ l, allCl n rs = l ++ [full n] := by
  unfold allCl
  have e : one n = full n + 1 := by have := one_pos n; unfold full; omega
  rw [e, filter_yes (closed_full hf)]
  exact ⟨_, rfl⟩

set_option maxHeartbeats 2000000 in
theorem FollowMeet_with (hJ : ClosedOk 17) (n : Int) (rs : List (Nat × Nat)) (A : Option Addr) (c i j : Nat) (w : World) (hi : i < 256) (hj : j < 256) (h32 : W32 rs) (hm : rs.length ≤ maxLen) (hr : Row w A (rulesC rs)) (hX : Laid w) :
    Calls Try.prog 10 #[.int .i64 n, .slice A rs.length c, .int .u8 i, .int .u8 j] w fun e w' => e = .returned (.bool true) ∧ Below w.heap.size w w' := by
  have key := hJ n rs A c w h32 hm hr hX
  by_cases hc : codeR n rs 0 = 0
  · obtain ⟨n, rfl, hn1, hn6, hl, hf, _⟩ := codeR_zero hc
    have HC := Lib.hid hc
    rw [hc, if_pos rfl, Int.toNat_natCast] at key
    have h64 := one_le_64 hn6
    have h1n := one_int n (by omega)
    have hfull : ((one n : Int) - 1) % 4294967296 = (full n : Nat) := by have := one_pos n; unfold full; omega
    clear hc
    go_enter Try.func10, Try.ntmps10
    go_wp2_with fail
    refine key.mono ?_
    rintro e w1 ⟨A2, c2, l, rfl, hle, hrow, hb1⟩
    have HLe := Lib.hid (show l = allCl n rs from hle)
    have HR := Lib.hid hrow
    have hll : l.length ≤ 64 := by rw [hle]; have := filter_len (closedB rs) (one n); omega
    clear hle hrow
    go_wp2_with fail
    refine (ruled_any n rs A c 0 _ (hr.below hb1)).mono ?_
    rintro e w2 ⟨rfl, hb2⟩
    rw [HC.out]
    have hb02 := hb1.trans (hb2.mono hb1.size)
    have HR2 := Lib.hid (HR.out.below hb2)
    clear hb1 hb2 key HR
    obtain ⟨l0, hl0⟩ := allCl_last hf
    have hlast : l[l.length - 1]? = some (full n) := by rw [HLe.out, hl0]; simp
    have hpos : 0 < l.length := by rw [HLe.out, hl0]; simp
    have hmi : i % l.length < l.length := Nat.mod_lt _ hpos
    have hmj : j % l.length < l.length := Nat.mod_lt _ hpos
    obtain ⟨x, hx⟩ := get_some hmi
    obtain ⟨y, hy⟩ := get_some hmj
    obtain ⟨g, off, rfl, hcell⟩ := HR2.out.at (k := 0) (by rw [words_length]; omega)
    have c1 := hcell _ _ (words_at hlast)
    have cx := hcell _ _ (words_at hx)
    have cy := hcell _ _ (words_at hy)
    have HX := Lib.hid (mem_allCl.1 (by rw [← HLe.out]; exact List.mem_of_getElem? hx))
    have HY := Lib.hid (mem_allCl.1 (by rw [← HLe.out]; exact List.mem_of_getElem? hy))
    have hx32 : x < 4294967296 := by have := HX.out.1; omega
    have hy32 : y < 4294967296 := by have := HY.out.1; omega
    have HM := Lib.hid (show x &&& y ∈ l by rw [HLe.out]; exact mem_allCl.2 ⟨Nat.lt_of_le_of_lt Nat.and_le_left HX.out.1, closed_and HX.out.2 HY.out.2⟩)
    have hlz : ((l.length : Int) == 0) = false := by rw [beq_eq_false_iff_ne]; omega
    have hq : ((full n : Int) != (one n : Int) - 1) = false := by have := one_pos n; unfold full; simp; omega
    clear hcell hx hy hlast hl0
    go_wp2
    go_quiet (fail)
    go_wp2
    rw [h1n, u32_and_nat x y hx32 hy32]
    have hbq := below_drewN hb02 nq
    have HRq := Lib.hid (HR2.out.drewN nq)
    generalize x &&& y = z at *
    generalize w2.drewN nq = w3 at *
    clear h1n hfull hq hlz c1 cx cy hmi hmj hb02 HR2 HX HY
    go_loopw [65] (fun iv wr => ∃ k : Nat, iv = .int .i64 k ∧ k ≤ l.length ∧ ¬ z ∈ l.take k ∧ w3 = wr) (fun iv _ => l.length - (intOf iv).toNat)
    case atStart => exact ⟨0, rfl, Nat.zero_le _, by simp, rfl⟩
    case round =>
      obtain ⟨k, rfl, hk, hno, rfl⟩ := hrel
      have HN := Lib.hid hno
      clear hno
      by_cases hlt : k < l.length
      · obtain ⟨v, hv⟩ := get_some hlt
        obtain ⟨g', off', e, hcell⟩ := HRq.out.at (k := 0) (by rw [words_length]; omega)
        simp only [Option.some.injEq, Addr.mk.injEq, and_true] at e
        obtain ⟨rfl, rfl⟩ := e
        have cv := hcell _ _ (words_at hv)
        have HV := Lib.hid hv
        clear hcell hv
        by_cases hz : v = z
        · subst hz
          go_wp2
          go_ret
          exact ⟨rfl, hbq⟩
        · have hd : ((v : Int) == (z : Int)) = false := by rw [beq_eq_false_iff_ne]; omega
          have HS := Lib.hid (mem_take_succ HV.out HN.out (fun e => hz e.symm))
          clear hz
          go_wp2
          go_roundw
          case rel => exact ⟨k + 1, by go_num, by omega, HS.out, trivial⟩
          case measure => simp [intOf]; omega
      · exfalso
        have h1 := HN.out
        rw [List.take_of_length_le (by omega)] at h1
        exact h1 HM.out
  · rw [if_neg hc] at key
    go_enter Try.func10, Try.ntmps10
    go_wp2_with fail
    refine key.mono ?_
    rintro e w1 ⟨A2, c2, l, rfl, rfl, hrow, hb1⟩
    go_wp2_with fail
    refine (ruled_any n rs A c 0 _ (hr.below hb1)).mono ?_
    rintro e w2 ⟨rfl, hb2⟩
    have HB := Lib.hid (hb1.trans (hb2.mono hb1.size))
    clear key hrow hb1 hb2
    generalize codeR n rs 0 = k at *
    have hk : (k == 0) = false := by simpa using hc
    have hk2 : (k != 0) = true := by simpa using hc
    rw [hk]
    clear hc
    go_wp2
    go_ret
    exact ⟨rfl, HB.out⟩
end Go.Proofs.Ytdiofkkdhdhkaaa
