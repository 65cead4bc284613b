/- The law after Armstrong, by the document's answers. -/
import Derived.Test.YtdiofkkdhdhkaaaLawFCl
namespace Go.Proofs.Ytdiofkkdhdhkaaa
open Go.RowKit

theorem close_via {n : Nat} {rs : List (Nat × Nat)} (hf : FitR n rs) {a b c : Nat} (_ha : a < one n) (h1 : sub b (closeW n rs a) = true) (h2 : sub c (closeW n rs b) = true) : sub c (closeW n rs a) = true :=
  sub_trans h2 (close_least (closeW_lt _ _ _) h1 (close_closed hf a))
theorem close_more {n : Nat} {rs : List (Nat × Nat)} (hf : FitR n rs) {a b c : Nat} (hac : a ||| c < one n) (h1 : sub b (closeW n rs a) = true) : sub (b ||| c) (closeW n rs (a ||| c)) = true :=
  or_sub.2 ⟨sub_trans h1 (close_mono hf hac (sub_orL a c)), sub_trans (sub_orR a c) (close_sub hac)⟩

set_option maxHeartbeats 2000000 in
theorem FollowArmstrong_with (hF : DoesOk 15) (n : Int) (rs : List (Nat × Nat)) (A : Option Addr) (cc a b c : Nat) (w : World) (ha : a < 4294967296) (hb : b < 4294967296) (hc : c < 4294967296) (h32 : W32 rs) (hm : rs.length ≤ maxLen) (hr : Row w A (rulesC rs)) (hX : Laid w) :
    Calls Try.prog 9 #[.int .i64 n, .slice A rs.length cc, .int .u32 a, .int .u32 b, .int .u32 c] w fun e w' => e = .returned (.bool true) ∧ Below w.heap.size w w' := by
  have hab : a ||| b < 4294967296 := Nat.or_lt_two_pow (n := 32) ha hb
  have hac : a ||| c < 4294967296 := Nat.or_lt_two_pow (n := 32) ha hc
  have hbc : b ||| c < 4294967296 := Nat.or_lt_two_pow (n := 32) hb hc
  have habc : a ||| b ||| c < 4294967296 := Nat.or_lt_two_pow (n := 32) hab hc
  have o1 : bits .or .u32 (a : Int) (b : Int) = ((a ||| b : Nat) : Int) := u32_or_nat _ _ ha hb
  have o2 : bits .or .u32 (a : Int) (c : Int) = ((a ||| c : Nat) : Int) := u32_or_nat _ _ ha hc
  have o3 : bits .or .u32 (b : Int) (c : Int) = ((b ||| c : Nat) : Int) := u32_or_nat _ _ hb hc
  have o4 : bits .or .u32 ((a ||| b : Nat) : Int) (c : Int) = ((a ||| b ||| c : Nat) : Int) := u32_or_nat _ _ hab hc
  by_cases h0 : codeR n rs (a ||| b ||| c) = 0
  · obtain ⟨n, rfl, hn1, hn6, hl, hf, hk⟩ := codeR_zero h0
    have hk' := or_lt_iff.1 hk
    have hk'' := or_lt_iff.1 hk'.1
    have yes : ∀ x y : Nat, x < one n → y < one n → codeR n rs (x ||| y) = 0 := fun x y hx hy => codeR_of h0 (or_lt_one hx hy)
    have D : ∀ (x y : Nat) (w' : World), x < one n → y < one n → Row w' A (rulesC rs) → Laid w' →
        Calls Try.prog 15 #[.int .i64 n, .slice A rs.length cc, .agg #[.int .u32 x, .int .u32 y]] w' fun e w'' => e = .returned (.tuple #[.bool (sub y (closeW n rs x)), .int .i64 0]) ∧ Below w'.heap.size w' w'' := by
      intro x y w' hx hy hr' hX'
      have h64 := one_le_64 hn6
      have := hF n rs A cc x y w' (by omega) (by omega) h32 hm hr' hX'
      rw [yes x y hx hy, Int.toNat_natCast, show (((0 : Int) == 0) && sub y (closeW n rs x)) = sub y (closeW n rs x) from rfl] at this
      exact this
    have HD := Lib.hid D
    have HC := Lib.hid h0
    have HK := Lib.hid (And.intro hk''.1 (And.intro hk''.2 hk'.2))
    have HOwn := Lib.hid (sub_trans (sub_orL a b) (close_sub (rs := rs) (or_lt_one hk''.1 hk''.2)))
    have HVia := Lib.hid (fun h1 h2 => close_via (c := c) (b := b) hf hk''.1 h1 h2)
    have HMore := Lib.hid (fun h1 => close_more (b := b) hf (or_lt_one hk''.1 hk'.2) h1)
    clear D h0 yes hk hk' hk''
    go_enter Try.func9, Try.ntmps9
    go_wp2_with fail
    refine (ruled_any n rs A cc (a ||| b ||| c) _ hr).mono ?_
    rintro e w1 ⟨rfl, hb1⟩
    rw [HC.out]
    go_wp2_with fail
    refine (HD.out (a ||| b) a _ (or_lt_one HK.out.1 HK.out.2.1) HK.out.1 (hr.below hb1) (hX.below hb1)).mono ?_
    rintro e w2 ⟨rfl, h⟩
    have hb2 := hb1.trans (h.mono hb1.size)
    clear h hb1
    go_wp2_with fail
    refine (HD.out a b _ HK.out.1 HK.out.2.1 (hr.below hb2) (hX.below hb2)).mono ?_
    rintro e w3 ⟨rfl, h⟩
    have hb3 := hb2.trans (h.mono hb2.size)
    clear h hb2
    go_wp2_with fail
    refine (HD.out b c _ HK.out.2.1 HK.out.2.2 (hr.below hb3) (hX.below hb3)).mono ?_
    rintro e w4 ⟨rfl, h⟩
    have hb4 := hb3.trans (h.mono hb3.size)
    clear h hb3
    go_wp2_with fail
    refine (HD.out a c _ HK.out.1 HK.out.2.2 (hr.below hb4) (hX.below hb4)).mono ?_
    rintro e w5 ⟨rfl, h⟩
    have hb5 := hb4.trans (h.mono hb4.size)
    clear h hb4
    go_wp2_with fail
    refine (HD.out (a ||| c) (b ||| c) _ (or_lt_one HK.out.1 HK.out.2.2) (or_lt_one HK.out.2.1 HK.out.2.2) (hr.below hb5) (hX.below hb5)).mono ?_
    rintro e w6 ⟨rfl, h⟩
    have hb6 := hb5.trans (h.mono hb5.size)
    clear h hb5
    rw [HOwn.out]
    clear HD HK
    generalize hx : sub b (closeW n rs a) = x at *
    generalize hy : sub c (closeW n rs b) = y at *
    generalize hz : sub c (closeW n rs a) = z at *
    generalize hu : sub (b ||| c) (closeW n rs (a ||| c)) = u at *
    have h1 := HVia.out
    have h2 := HMore.out
    clear HVia HMore hx hy hz hu
    cases x <;> cases y <;> cases z <;> cases u <;> simp at h1 h2 <;> (go_wp2; go_ret; exact ⟨rfl, hb6⟩)
  · have key := fun w' hr hX => hF n rs A cc (a ||| b ||| c) (a ||| b ||| c) w' habc habc h32 hm hr hX
    rw [Nat.or_self] at key
    have hkf : (codeR n rs (a ||| b ||| c) == 0) = false := by simpa using h0
    rw [hkf, Bool.false_and] at key
    have KEY := Lib.hid key
    clear key hF
    go_enter Try.func9, Try.ntmps9
    go_wp2_with fail
    refine (ruled_any n rs A cc (a ||| b ||| c) _ hr).mono ?_
    rintro e w1 ⟨rfl, hb1⟩
    rw [hkf]
    go_wp2_with fail
    refine (KEY.out _ (hr.below hb1) (hX.below hb1)).mono ?_
    rintro e w2 ⟨rfl, hb2⟩
    have HB := Lib.hid (hb1.trans (hb2.mono hb1.size))
    clear KEY hb1 hb2
    generalize codeR n rs (a ||| b ||| c) = k at *
    have hk2 : (k != 0) = true := by simpa using h0
    clear h0
    go_wp2
    go_ret
    exact ⟨rfl, HB.out⟩
end Go.Proofs.Ytdiofkkdhdhkaaa
