/- The laws on Close and Does, by the document's answers. -/
import Derived.Test.YtdiofkkdhdhkaaaFSpec
import Derived.Deep.RegionHeld3
namespace Go.Proofs.Ytdiofkkdhdhkaaa
open Go.RowKit

set_option maxHeartbeats 1000000 in
theorem FollowCloses_with (hF : CloseOk 12) (n : Int) (rs : List (Nat × Nat)) (A : Option Addr) (c s : Nat) (w : World) (hs : s < 4294967296) (h32 : W32 rs) (hm : rs.length ≤ maxLen) (hr : Row w A (rulesC rs)) (hX : Laid w) :
    Calls Try.prog 3 #[.int .i64 n, .slice A rs.length c, .int .u32 s] w fun e w' => e = .returned (.bool true) ∧ Below w.heap.size w w' := by
  have key := hF n rs A c s w hs h32 hm hr hX
  by_cases hc : codeR n rs s = 0
  · obtain ⟨n, rfl, hn1, hn6, hl, hf, hk⟩ := codeR_zero hc
    rw [hc, if_pos rfl, Int.toNat_natCast] at key
    have HC := Lib.hid hc
    have h64 := one_le_64 hn6
    have hcl := closeW_lt n rs s
    clear hc
    go_enter Try.func3, Try.ntmps3
    go_wp2_with fail
    refine key.mono ?_
    rintro e w1 ⟨rfl, hb1⟩
    go_wp2_with fail
    refine (RulesCheck_any n rs A c s _ (hr.below hb1)).mono ?_
    rintro e w2 ⟨rfl, hb2⟩
    rw [HC.out]
    have hb02 := hb1.trans (hb2.mono hb1.size)
    clear hb1 hb2 key
    go_wp2_with fail
    refine (Close_any n rs A c s _ hn6 (hr.below hb02) h32 hs (by omega)).mono ?_
    rintro e w3 ⟨rfl, hb3⟩
    have hb03 := hb02.trans (hb3.mono hb02.size)
    clear hb02 hb3
    go_wp2
    go_ret
    exact ⟨rfl, hb03⟩
  · rw [if_neg hc] at key
    go_enter Try.func3, Try.ntmps3
    go_wp2_with fail
    refine key.mono ?_
    rintro e w1 ⟨rfl, hb1⟩
    go_wp2_with fail
    refine (RulesCheck_any n rs A c s _ (hr.below hb1)).mono ?_
    rintro e w2 ⟨rfl, hb2⟩
    have HB := Lib.hid (hb1.trans (hb2.mono hb1.size))
    clear key hb1 hb2
    generalize codeR n rs s = k at *
    have hk : (k == 0) = false := by simpa using hc
    have hk2 : (k != 0) = true := by simpa using hc
    clear hc
    go_wp2
    go_ret
    exact ⟨rfl, HB.out⟩

/-- A rule in memory. -/
def RuleAt (w : World) (g a b : Nat) : Prop := w.cell? ⟨g, 0, none⟩ = some (.int .u32 (a : Int)) ∧ w.cell? ⟨g, 1, none⟩ = some (.int .u32 (b : Int))
theorem RuleAt.below {w w' : World} {g a b : Nat} (h : RuleAt w g a b) (hb : Below w.heap.size w w') : RuleAt w' g a b :=
  ⟨(hb.cell (p := ⟨g, 0, none⟩) (block_lt_of_cell h.1)).trans h.1, (hb.cell (p := ⟨g, 1, none⟩) (block_lt_of_cell h.2)).trans h.2⟩
theorem RuleAt.made (w : World) (a b : Nat) (t : TypeId) : RuleAt (w.alloc (.cells #[.int .u32 (a : Int), .int .u32 (b : Int)] t)) w.heap.size a b := by
  constructor <;> simp

set_option maxHeartbeats 1000000 in
theorem FollowDoes_with (hF : DoesOk 15) (n : Int) (rs : List (Nat × Nat)) (A : Option Addr) (c a b : Nat) (w : World) (ha : a < 4294967296) (hb : b < 4294967296) (h32 : W32 rs) (hm : rs.length ≤ maxLen) (hr : Row w A (rulesC rs)) (hX : Laid w) :
    Calls Try.prog 4 #[.int .i64 n, .slice A rs.length c, .agg #[.int .u32 a, .int .u32 b]] w fun e w' => e = .returned (.bool true) ∧ Below w.heap.size w w' := by
  have hb0 : Below w.heap.size w (w.alloc (.cells #[.int .u32 (a : Int), .int .u32 (b : Int)] 31)) := (Below.refl _ _).alloc (Nat.le_refl _) _
  have key := hF n rs A c a b _ ha hb h32 hm (hr.below hb0) (hX.below hb0)
  have hR0 := RuleAt.made w a b 31
  have hor : bits .or .u32 (a : Int) (b : Int) = ((a ||| b : Nat) : Int) := u32_or_nat _ _ ha hb
  by_cases hc : codeR n rs (a ||| b) = 0
  · obtain ⟨n, rfl, hn1, hn6, hl, hf, hk⟩ := codeR_zero hc
    rw [hc, Int.toNat_natCast, show (((0 : Int) == 0) && sub b (closeW n rs a)) = sub b (closeW n rs a) from rfl] at key
    have HC := Lib.hid hc
    have h64 := one_le_64 hn6
    have hcl := closeW_lt n rs a
    have KEY := Lib.hid key
    have HR0 := Lib.hid hR0
    clear hc key hR0
    go_enter Try.func4, Try.ntmps4
    go_wp2_with fail
    refine KEY.out.mono ?_
    rintro e w1 ⟨rfl, hb1⟩
    have hR1 := HR0.out.below hb1
    have hb01 := hb0.trans (hb1.mono hb0.size)
    obtain ⟨c0, c1⟩ := hR1
    clear hb1 hb0 HR0 KEY
    go_wp2_with fail
    refine (RulesCheck_any n rs A c (a ||| b) _ (hr.below hb01)).mono ?_
    rintro e w2 ⟨rfl, hb2⟩
    rw [HC.out]
    have hR2 := RuleAt.below ⟨c0, c1⟩ hb2
    have hb02 := hb01.trans (hb2.mono hb01.size)
    clear hb01 hb2 c0 c1
    obtain ⟨c0, c1⟩ := hR2
    have hRd : RuleAt w2.drew w.heap.size a b := ⟨c0, c1⟩
    have hrd : Row w2.drew A (rulesC rs) := hr.below hb02.drew
    have hbd : Below w.heap.size w w2.drew := hb02.drew
    generalize hsz : w.heap.size = sz at *
    have HRd := Lib.hid hRd
    have HBd := Lib.hid hbd
    clear hRd hbd hb02
    go_wp2
    go_region_held3 (fun w' => w'.cell? ⟨sz, 0, none⟩ = some (.int .u32 (a : Int)) ∧ w'.cell? ⟨sz, 1, none⟩ = some (.int .u32 (b : Int))) (first | exact HRd.out | exact HR3.out)
      (first
      | (go_at_call 14
         refine (Close_any n rs A c a _ hn6 hrd h32 ha (by omega)).mono ?_
         rintro e w3 ⟨rfl, hb3⟩
         have HR3 := Lib.hid (HRd.out.below hb3)
         have HB3 := Lib.hid (HBd.out.trans (hb3.mono (by rw [← hsz]; exact HBd.out.size)))
         clear hb3)
      | (go_at_call 16
         refine (In_any b (closeW n rs a) hb (by omega) _).mono ?_
         rintro e w4 ⟨rfl, rfl⟩
         rw [show (b ||| closeW n rs a == closeW n rs a) = sub b (closeW n rs a) from rfl]))
    all_goals
      go_wp2
      go_ret
      exact ⟨ret_bool (by simp), by rw [hsz]; exact HB3.out⟩
  · have KEY := Lib.hid key
    have HR0 := Lib.hid hR0
    have hkf : (codeR n rs (a ||| b) == 0) = false := by simpa using hc
    rw [hkf, Bool.false_and] at key
    go_enter Try.func4, Try.ntmps4
    go_wp2_with fail
    refine key.mono ?_
    rintro e w1 ⟨rfl, hb1⟩
    have hR1 := HR0.out.below hb1
    have hb01 := hb0.trans (hb1.mono hb0.size)
    obtain ⟨c0, c1⟩ := hR1
    clear hb1 hb0 HR0 KEY hR0
    go_wp2_with fail
    refine (RulesCheck_any n rs A c (a ||| b) _ (hr.below hb01)).mono ?_
    rintro e w2 ⟨rfl, hb2⟩
    have HB := Lib.hid (hb01.trans (hb2.mono hb01.size))
    clear key hb01 hb2 c0 c1
    generalize codeR n rs (a ||| b) = k at *
    have hk : (k == 0) = false := by simpa using hc
    have hk2 : (k != 0) = true := by simpa using hc
    clear hc
    go_wp2
    go_ret
    exact ⟨rfl, HB.out⟩

set_option maxHeartbeats 1000000 in
theorem FollowClose_with (hF : CloseOk 12) (n : Int) (rs : List (Nat × Nat)) (A : Option Addr) (c s t : Nat) (w : World) (hs : s < 4294967296) (ht : t < 4294967296) (h32 : W32 rs) (hm : rs.length ≤ maxLen) (hr : Row w A (rulesC rs)) (hX : Laid w) :
    Calls Try.prog 8 #[.int .i64 n, .slice A rs.length c, .int .u32 s, .int .u32 t] w fun e w' => e = .returned (.bool true) ∧ Below w.heap.size w w' := by
  have key := hF n rs A c s w hs h32 hm hr hX
  by_cases hc : codeR n rs s = 0
  · obtain ⟨n, rfl, hn1, hn6, hl, hf, hk⟩ := codeR_zero hc
    rw [hc, if_pos rfl, Int.toNat_natCast] at key
    have HC := Lib.hid hc
    have h64 := one_le_64 hn6
    have hcl := closeW_lt n rs s
    have hcc := close_closed hf s
    have key2 := fun w' hr hX => hF n rs A c (closeW n rs s) w' (by omega) h32 hm hr hX
    rw [codeR_of hc hcl, if_pos rfl, Int.toNat_natCast, close_own hcl hcc] at key2
    have hst : s ||| t < 4294967296 := Nat.or_lt_two_pow (n := 32) hs ht
    have key3 := fun w' hr hX => hF n rs A c (s ||| t) w' hst h32 hm hr hX
    have hor : bits .or .u32 (s : Int) (t : Int) = ((s ||| t : Nat) : Int) := u32_or_nat _ _ hs ht
    have HSub := Lib.hid (close_sub (rs := rs) hk)
    have HCC := Lib.hid hcc
    have KEY := Lib.hid key
    have KEY2 := Lib.hid key2
    clear hc key key2 hcc
    go_enter Try.func8, Try.ntmps8
    go_wp2_with fail
    refine KEY.out.mono ?_
    rintro e w1 ⟨rfl, hb1⟩
    go_wp2_with fail
    refine (ruled_any n rs A c s _ (hr.below hb1)).mono ?_
    rintro e w2 ⟨rfl, hb2⟩
    rw [HC.out]
    have hb02 := hb1.trans (hb2.mono hb1.size)
    clear hb1 hb2 KEY
    go_wp2_with fail
    refine (KEY2.out _ (hr.below hb02) (hX.below hb02)).mono ?_
    rintro e w3 ⟨rfl, hb3⟩
    have hb03 := hb02.trans (hb3.mono hb02.size)
    clear hb02 hb3 KEY2
    go_wp2_with fail
    refine (In_any s (closeW n rs s) hs (by omega) _).mono ?_
    rintro e w4 ⟨rfl, rfl⟩
    rw [show (s ||| closeW n rs s == closeW n rs s) = true from HSub.out]
    go_wp2_with fail
    refine (Closed_any rs A c (closeW n rs s) _ (hr.below hb03) h32 (by omega) (by omega)).mono ?_
    rintro e w4 ⟨rfl, hb4⟩
    rw [HCC.out]
    have hb04 := hb03.trans (hb4.mono hb03.size)
    clear hb03 hb4
    by_cases hk2 : s ||| t < one n
    · rw [codeR_of HC.out hk2, if_pos rfl, Int.toNat_natCast] at key3
      have KEY3 := Lib.hid key3
      have HC2 := Lib.hid (codeR_of HC.out hk2)
      have HMono := Lib.hid (close_mono hf hk2 (sub_orL s t))
      have hcl2 := closeW_lt n rs (s ||| t)
      clear key3
      go_wp2_with fail
      refine (KEY3.out _ (hr.below hb04) (hX.below hb04)).mono ?_
      rintro e w5 ⟨rfl, hb5⟩
      have hb05 := hb04.trans (hb5.mono hb04.size)
      clear hb04 hb5 KEY3
      go_wp2_with fail
      refine (ruled_any n rs A c (s ||| t) _ (hr.below hb05)).mono ?_
      rintro e w6 ⟨rfl, hb6⟩
      rw [HC2.out]
      have hb06 := hb05.trans (hb6.mono hb05.size)
      clear hb05 hb6
      go_wp2_with fail
      refine (In_any (closeW n rs s) (closeW n rs (s ||| t)) (by omega) (by omega) _).mono ?_
      rintro e w7 ⟨rfl, rfl⟩
      rw [show (closeW n rs s ||| closeW n rs (s ||| t) == closeW n rs (s ||| t)) = true from HMono.out]
      go_wp2
      go_ret
      exact ⟨rfl, hb06⟩
    · have hne : codeR n rs (s ||| t) ≠ 0 := fun h => by
        obtain ⟨k, e, _, _, _, _, h6⟩ := codeR_zero h
        obtain rfl : n = k := by omega
        exact hk2 h6
      rw [if_neg hne] at key3
      have KEY3 := Lib.hid key3
      have hr1 := hne
      clear key3
      go_wp2_with fail
      refine (KEY3.out _ (hr.below hb04) (hX.below hb04)).mono ?_
      rintro e w5 ⟨rfl, hb5⟩
      have hb05 := hb04.trans (hb5.mono hb04.size)
      clear hb04 hb5 KEY3
      go_wp2_with fail
      refine (ruled_any n rs A c (s ||| t) _ (hr.below hb05)).mono ?_
      rintro e w6 ⟨rfl, hb6⟩
      have hb06 := hb05.trans (hb6.mono hb05.size)
      clear hb05 hb6
      generalize codeR n rs (s ||| t) = k at *
      have hk : (k == 0) = false := by simpa using hne
      have hk2 : (k != 0) = true := by simpa using hne
      rw [hk]
      clear hne hr1
      go_wp2
      go_ret
      exact ⟨rfl, hb06⟩
  · rw [if_neg hc] at key
    go_enter Try.func8, Try.ntmps8
    go_wp2_with fail
    refine key.mono ?_
    rintro e w1 ⟨rfl, hb1⟩
    go_wp2_with fail
    refine (ruled_any n rs A c s _ (hr.below hb1)).mono ?_
    rintro e w2 ⟨rfl, hb2⟩
    have HB := Lib.hid (hb1.trans (hb2.mono hb1.size))
    clear key hb1 hb2
    generalize codeR n rs s = k at *
    have hk : (k == 0) = false := by simpa using hc
    have hk2 : (k != 0) = true := by simpa using hc
    rw [hk]
    clear hc
    go_wp2
    go_ret
    exact ⟨rfl, HB.out⟩
end Go.Proofs.Ytdiofkkdhdhkaaa
