/- The law TwoTurn. -/
import Derived.Test.YtekeeodnjlebcaaDoorLawJ1
namespace Go.Proofs.YtekeeodnjlebcaaDoor
open Go.RowKit

theorem mod_neg {n b : Nat} (h : b < n + n) : (b + n) % (n + n) = neg n b := by
  unfold neg
  split
  · exact Nat.mod_eq_of_lt (by omega)
  · rw [Nat.mod_eq_sub_mod (by omega), Nat.mod_eq_of_lt (by omega)]
    omega
theorem turn_bits {n : Nat} {l : List Cla} (h : TwoOk n l) {a b : Nat} (ha : a < n + n) (hb : b < n + n) : (reachW n l a).testBit b = (reachW n l (neg n b)).testBit (neg n a) := by
  rw [Bool.eq_iff_iff, mem_reach, mem_reach]
  constructor
  · rintro ⟨_, hr⟩; exact ⟨neg_lt ha, h.turn ha hr⟩
  · rintro ⟨_, hr⟩
    have := h.turn (neg_lt hb) hr
    rw [neg_neg ha, neg_neg hb] at this
    exact ⟨hb, this⟩
theorem Bit_stillB {b : Bool} (s k : Nat) (h : s.testBit k = b) (hk : k < 32) (hs : s < 4294967296) (w : World) : Calls Tryd.prog 11 #[.int .u32 s, .int .i64 k] w fun e w' => e = .returned (.bool b) ∧ w' = w :=
  (Bit_any s k hk hs w).mono fun _ _ ⟨he, hw⟩ => ⟨by rw [he, h], hw.symm⟩

set_option maxHeartbeats 2000000 in
theorem TwoTurn_with (hF : JReachOk 7) (n : Int) (rs : List Cla) (A : Option Addr) (c i j : Nat) (w : World) (hi : i < 256) (hj : j < 256) (h32 : W32 rs) (hm : rs.length ≤ maxLen) (hr : Row w A (rulesC rs)) (hX : Laid w) :
    Calls Tryd.prog 6 #[.int .i64 n, .slice A rs.length c, .int .u8 i, .int .u8 j] w fun e w' => e = .returned (.bool true) ∧ Below w.heap.size w w' := by
  have key := hF n rs A c w h32 hm hr hX
  by_cases hc : codeD n rs = 0
  · rw [hc] at key
    obtain ⟨n, rfl, hn1, hn6, hl, hg, hcc⟩ := codeD_zero hc
    rw [reachL_ok hc] at key
    have HC := Lib.hid hc
    clear hc hcc
    have h2n : 0 < n + n := by omega
    obtain ⟨a, haa⟩ : ∃ a, i % (n + n) = a := ⟨_, rfl⟩
    obtain ⟨b, hbb⟩ : ∃ b, j % (n + n) = b := ⟨_, rfl⟩
    have ha : a < n + n := by rw [← haa]; exact Nat.mod_lt _ h2n
    have hb : b < n + n := by rw [← hbb]; exact Nat.mod_lt _ h2n
    obtain ⟨nb, hnb⟩ : ∃ nb, neg n b = nb := ⟨_, rfl⟩
    obtain ⟨na, hna⟩ : ∃ na, neg n a = na := ⟨_, rfl⟩
    have hnbl : nb < n + n := by rw [← hnb]; exact neg_lt hb
    have hnal : na < n + n := by rw [← hna]; exact neg_lt ha
    have hturn := turn_bits hg ha hb
    rw [hnb, hna] at hturn
    have hself : (reachW n rs a).testBit a = true := mem_reach.2 ⟨ha, .here⟩
    have h4096 : one (n + n) ≤ 4096 := by
      have : one (n + n) ≤ one 12 := Nat.pow_le_pow_right (by omega) (by omega)
      simpa [one] using this
    have r1 := reachW_lt n rs a
    have r2 := reachW_lt n rs nb
    have m1 : Int.tmod (i : Int) ((n : Int) + (n : Int)) = (a : Int) := by rw [← haa]; rfl
    have m2 : Int.tmod (j : Int) ((n : Int) + (n : Int)) = (b : Int) := by rw [← hbb]; rfl
    have m3 : Int.tmod ((b : Int) + (n : Int)) ((n : Int) + (n : Int)) = (nb : Int) := by rw [← hnb, ← mod_neg hb]; rfl
    have m4 : Int.tmod ((a : Int) + (n : Int)) ((n : Int) + (n : Int)) = (na : Int) := by rw [← hna, ← mod_neg ha]; rfl
    have s1 : IntKind.i64.wrap ((n : Int) + (n : Int)) = (n : Int) + (n : Int) := IntWalk.i64_in _ (by omega)
    have s2 : IntKind.i64.wrap ((b : Int) + (n : Int)) = (b : Int) + (n : Int) := IntWalk.i64_in _ (by omega)
    have s3 : IntKind.i64.wrap ((a : Int) + (n : Int)) = (a : Int) + (n : Int) := IntWalk.i64_in _ (by omega)
    have s4 : IntKind.i64.wrap (i : Int) = (i : Int) := IntWalk.i64_in _ (by omega)
    have s5 : IntKind.i64.wrap (j : Int) = (j : Int) := IntWalk.i64_in _ (by omega)
    have z1 : ¬ ((n : Int) + (n : Int) = 0) := by omega
    have z2 : (((n : Int) + (n : Int)) == 0) = false := by rw [beq_eq_false_iff_ne]; exact z1
    clear haa hbb hnb hna
    go_enter Tryd.func6, Tryd.ntmps6
    go_wp2_with fail
    refine key.mono ?_
    rintro e w1 ⟨A2, c2, L, rfl, hL, hrow, hb1⟩
    have hLl : L.length = n + n := by rw [hL]; simp
    have hat1 : L[a]? = some (reachW n rs a) := by rw [hL]; simp [ha]
    have hat2 : L[nb]? = some (reachW n rs nb) := by rw [hL]; simp [hnbl]
    have HLl := Lib.hid hLl
    clear key hL hLl
    go_wp2_with fail
    refine (TwoCheck_any n rs A c _ (hr.below hb1) h32 hm).mono ?_
    rintro e w2 ⟨rfl, hb2⟩
    have hb12 := hb1.trans (hb2.mono hb1.size)
    have hrow2 := hrow.below hb2
    rw [HC.out]
    clear hb2 hb1 hrow
    have hq : ((L.length : Int) != (n : Int) + (n : Int)) = false := by rw [HLl.out]; simp
    have la : (a : Int) < (L.length : Int) := by rw [HLl.out]; omega
    have lb : (nb : Int) < (L.length : Int) := by rw [HLl.out]; omega
    have la' : a < L.length := by rw [HLl.out]; omega
    have lb' : nb < L.length := by rw [HLl.out]; omega
    obtain ⟨g, o, rfl, hcell⟩ := hrow2.at (k := a) (by rw [words_length]; exact la')
    have ca := hcell _ _ (words_at hat1)
    have cb := hcell _ _ (words_at hat2)
    have p0 : (0 : Int) ≤ (a : Int) := by omega
    have p1 : (0 : Int) ≤ (nb : Int) := by omega
    have hl12 : L.length ≤ 12 := by rw [HLl.out]; omega
    obtain ⟨x, hx⟩ : ∃ x, reachW n rs a = x := ⟨_, rfl⟩
    obtain ⟨y, hy⟩ : ∃ y, reachW n rs nb = y := ⟨_, rfl⟩
    rw [hx] at ca hturn hself r1
    rw [hy] at cb hturn r2
    obtain ⟨bt, hbt⟩ : ∃ bt, x.testBit b = bt := ⟨_, rfl⟩
    have k1 := fun W => Bit_stillB x a hself (by omega) (by omega) W
    have k2 := fun W => Bit_stillB x b hbt (by omega) (by omega) W
    have k3 := fun W => Bit_stillB y na (hturn.symm.trans hbt) (by omega) (by omega) W
    clear hcell hat1 hat2 hx hy hturn hself hbt
    go_wp2
    go_quiet (first
      | (go_at_call 11; with_reducible exact Calls.quiet_of_same (k1 _))
      | (go_at_call 11; with_reducible exact Calls.quiet_of_same (k2 _))
      | (go_at_call 11; with_reducible exact Calls.quiet_of_same (k3 _)))
    go_wp2
    go_ret
    exact ⟨ret_bool (by first | rfl | simp), below_drewN hb12 _⟩
  · rw [reachL_err hc] at key
    go_enter Tryd.func6, Tryd.ntmps6
    go_wp2_with fail
    refine key.mono ?_
    rintro e w1 ⟨A2, c2, L, rfl, rfl, hrow, hb1⟩
    clear key
    go_wp2_with fail
    refine (TwoCheck_any n rs A c _ (hr.below hb1) h32 hm).mono ?_
    rintro e w2 ⟨rfl, hb2⟩
    have hb12 := hb1.trans (hb2.mono hb1.size)
    clear hb2 hb1
    generalize codeD n rs = k at *
    have hk2 : (k != 0) = true := by simpa using hc
    clear hc
    go_wp2
    go_ret
    exact ⟨ret_bool (by simp), hb12⟩

end Go.Proofs.YtekeeodnjlebcaaDoor
