/- The laws TwoSolves, TwoSolve, TwoReaches, TwoStucks. -/
import Derived.Test.YtekeeodnjlebcaaDoorJSpec
import Derived.Test.YtekeeodnjlebcaaDoorTwR
namespace Go.Proofs.YtekeeodnjlebcaaDoor
open Go.RowKit

set_option maxHeartbeats 1000000 in
theorem TwoSolve_with (hF : JSolveOk 12) (hG : JStuckOk 10) (hH : ISolveOk 13) (n : Int) (rs : List Cla) (A : Option Addr) (c : Nat) (w : World) (h32 : W32 rs) (hm : rs.length ≤ maxLen) (hr : Row w A (rulesC rs)) (hX : Laid w) :
    Calls Tryd.prog 5 #[.int .i64 n, .slice A rs.length c] w fun e w' => e = .returned (.bool true) ∧ Below w.heap.size w w' := by
  have key := hF n rs A c w h32 hm hr hX
  have key2 := fun W (hb : Below w.heap.size w W) => hG n rs A c W h32 hm (hr.below hb) (hX.below hb)
  have key3 := fun W (hb : Below w.heap.size w W) => hH n rs A c W h32 hm (hr.below hb) (hX.below hb)
  by_cases hc : codeD n rs = 0
  · rw [codeE_ok hc, solD_ok hc] at key
    rw [hc] at key2
    obtain ⟨n, rfl, hn1, hn6, hl, hg, hcc⟩ := codeD_zero hc
    rw [stuckD_ok hc] at key2
    have HC := Lib.hid hc
    have hst := hg.stuck
    cases hfs : firstS n rs with
    | none =>
      rw [codeS_none hcc hfs, solS_none hcc hfs] at key
      rw [codeS_none hcc hfs, solS_none hcc hfs] at key3
      have hne : stuckW n rs ≠ 0 := fun h => (hst.1 h) hfs
      generalize stuckW n rs = sw at *
      have hq : ((sw : Int) == 0) = false := by rw [beq_eq_false_iff_ne]; omega
      clear hc hfs hcc hst hne
      go_enter Tryd.func5, Tryd.ntmps5
      go_wp2_with fail
      refine key.mono ?_
      rintro e w1 ⟨rfl, hb1⟩
      have K2 := key2 w1 hb1
      clear key key2
      go_wp2_with fail
      refine K2.mono ?_
      rintro e w2 ⟨rfl, hb2⟩
      have hb12 := hb1.trans (hb2.mono hb1.size)
      have K3 := key3 w2 hb12
      clear hb2 hb1 K2 key3
      go_wp2_with fail
      refine K3.mono ?_
      rintro e w3 ⟨rfl, hb3⟩
      have hb13 := hb12.trans (hb3.mono hb12.size)
      clear hb3 hb12 K3
      go_wp2_with fail
      refine (TwoCheck_any n rs A c _ (hr.below hb13) h32 hm).mono ?_
      rintro e w4 ⟨rfl, hb4⟩
      have hb14 := hb13.trans (hb4.mono hb13.size)
      rw [HC.out]
      clear hb4 hb13
      go_wp2
      go_ret
      exact ⟨rfl, hb14⟩
    | some s =>
      rw [codeS_some hcc hfs, solS_some hcc hfs] at key
      rw [codeS_some hcc hfs, solS_some hcc hfs] at key3
      have h0 : stuckW n rs = 0 := hst.2 (by rw [hfs]; simp)
      rw [h0] at key2
      clear hc hfs hcc hst h0
      go_enter Tryd.func5, Tryd.ntmps5
      go_wp2_with fail
      refine key.mono ?_
      rintro e w1 ⟨rfl, hb1⟩
      have K2 := key2 w1 hb1
      clear key key2
      go_wp2_with fail
      refine K2.mono ?_
      rintro e w2 ⟨rfl, hb2⟩
      have hb12 := hb1.trans (hb2.mono hb1.size)
      have K3 := key3 w2 hb12
      clear hb2 hb1 K2 key3
      go_wp2_with fail
      refine K3.mono ?_
      rintro e w3 ⟨rfl, hb3⟩
      have hb13 := hb12.trans (hb3.mono hb12.size)
      clear hb3 hb12 K3
      go_wp2_with fail
      refine (TwoCheck_any n rs A c _ (hr.below hb13) h32 hm).mono ?_
      rintro e w4 ⟨rfl, hb4⟩
      have hb14 := hb13.trans (hb4.mono hb13.size)
      rw [HC.out]
      clear hb4 hb13
      go_wp2
      go_ret
      exact ⟨ret_bool (by simp), hb14⟩
  · rw [codeE_err hc, solD_err hc] at key
    rw [stuckD_err hc] at key2
    generalize codeS n rs = ks at *
    generalize solS n rs = ss at *
    go_enter Tryd.func5, Tryd.ntmps5
    go_wp2_with fail
    refine key.mono ?_
    rintro e w1 ⟨rfl, hb1⟩
    have K2 := key2 w1 hb1
    clear key key2
    go_wp2_with fail
    refine K2.mono ?_
    rintro e w2 ⟨rfl, hb2⟩
    have hb12 := hb1.trans (hb2.mono hb1.size)
    have K3 := key3 w2 hb12
    clear hb2 hb1 K2 key3
    go_wp2_with fail
    refine K3.mono ?_
    rintro e w3 ⟨rfl, hb3⟩
    have hb13 := hb12.trans (hb3.mono hb12.size)
    clear hb3 hb12 K3
    go_wp2_with fail
    refine (TwoCheck_any n rs A c _ (hr.below hb13) h32 hm).mono ?_
    rintro e w4 ⟨rfl, hb4⟩
    have hb14 := hb13.trans (hb4.mono hb13.size)
    clear hb4 hb13
    generalize codeD n rs = k at *
    have hk2 : (k != 0) = true := by simpa using hc
    clear hc
    go_wp2
    go_ret
    exact ⟨ret_bool (by simp), hb14⟩

theorem or_add {q v : Nat} (h : q < one v) : q ||| one v = q + one v := by
  have := Nat.two_pow_add_eq_or_of_lt (i := v) h 1
  unfold one at *
  rw [Nat.mul_one] at this
  rw [Nat.or_comm, ← this, Nat.add_comm]

set_option maxHeartbeats 1000000 in
theorem TwoReaches_with (hF : JReachOk 7) (n : Int) (rs : List Cla) (A : Option Addr) (c : Nat) (w : World) (h32 : W32 rs) (hm : rs.length ≤ maxLen) (hr : Row w A (rulesC rs)) (hX : Laid w) :
    Calls Tryd.prog 3 #[.int .i64 n, .slice A rs.length c] w fun e w' => e = .returned (.bool true) ∧ Below w.heap.size w w' := by
  have key := hF n rs A c w h32 hm hr hX
  by_cases hc : codeD n rs = 0
  · rw [hc] at key
    obtain ⟨n, rfl, hn1, hn6, hl, hg, hcc⟩ := codeD_zero hc
    rw [reachL_ok hc] at key
    have HC := Lib.hid hc
    clear hc hcc
    go_enter Tryd.func3, Tryd.ntmps3
    go_wp2_with fail
    refine key.mono ?_
    rintro e w1 ⟨A2, c2, L, rfl, hL, hrow, hb1⟩
    have hLl : L.length = n + n := by rw [hL]; simp
    have hat : ∀ i, i < n + n → L[i]? = some (reachW n rs i) := fun i hi => by rw [hL]; simp [hi]
    have HAt := Lib.hid hat
    clear key hL hat
    go_wp2_with fail
    refine (TwoCheck_any n rs A c _ (hr.below hb1) h32 hm).mono ?_
    rintro e w2 ⟨rfl, hb2⟩
    have hb12 := hb1.trans (hb2.mono hb1.size)
    have hrow2 := hrow.below hb2
    rw [HC.out]
    clear hb2 hb1 hrow
    have hq : ((L.length : Int) != (n : Int) + (n : Int)) = false := by rw [hLl]; simp
    have hl12 : L.length ≤ 12 := by omega
    have HLl := Lib.hid hLl
    clear hLl
    go_wp2
    go_loopw [8] (fun iv wr => ∃ i : Nat, iv = .int .i64 i ∧ i ≤ n + n ∧ Below w2.heap.size w2 wr) (fun iv _ => n + n - (intOf iv).toNat)
    case atStart => exact ⟨0, rfl, Nat.zero_le _, Below.refl _ _⟩
    case round =>
      obtain ⟨i, rfl, hi, hbel⟩ := hrel
      have hbw := hb12.trans (hbel.mono hb12.size)
      by_cases hlt : i < n + n
      · have hiL : i < L.length := by rw [HLl.out]; exact hlt
        obtain ⟨g, o, rfl, hcell⟩ := (hrow2.below hbel).at (k := i) (by rw [words_length]; exact hiL)
        have ci := hcell _ _ (words_at (HAt.out i hlt))
        have keyR := fun W (hW : Below w.heap.size w W) => Reach_any n hn6 rs A c i W hg hlt h32 hl (hr.below hW)
        generalize reachW n rs i = x at *
        have HBd := Lib.hid (show Below w.heap.size w wr.drew from hbw.drew)
        have HB2 := Lib.hid (show Below w2.heap.size w2 wr.drew from hbel.drew)
        have HSd := Lib.hid (show wr.drew.cell? ⟨g, o + i, none⟩ = some (.int .u32 (x : Int)) from ci)
        clear hcell
        go_wp2
        go_region_held3 (fun w' => w'.cell? ⟨g, o + i, none⟩ = some (.int .u32 (x : Int))) (first | exact ci | exact HSd.out | exact HS4.out | go_keep)
          (first
          | (go_at_call 9
             refine (keyR _ HBd.out).mono ?_
             rintro e w4 ⟨rfl, hb4⟩
             have HS4 := Lib.hid (cell_kp' hb4 HSd.out)
             have HB4 := Lib.hid (HB2.out.trans (hb4.mono HB2.out.size))
             clear hb4))
        all_goals
          go_wp2
          go_roundw
          case rel => exact ⟨i + 1, by go_num, by omega, HB4.out⟩
          case measure => simp [intOf]; omega
      · go_wp2
        go_ret
        exact ⟨rfl, hbw⟩
  · rw [reachL_err hc] at key
    go_enter Tryd.func3, Tryd.ntmps3
    go_wp2_with fail
    refine key.mono ?_
    rintro e w1 ⟨A2, c2, L, rfl, rfl, hrow, hb1⟩
    clear key
    go_wp2_with fail
    refine (TwoCheck_any n rs A c _ (hr.below hb1) h32 hm).mono ?_
    rintro e w2 ⟨rfl, hb2⟩
    have hb12 := hb1.trans (hb2.mono hb1.size)
    clear hb2 hb1
    generalize codeD n rs = k at *
    have hk2 : (k != 0) = true := by simpa using hc
    clear hc
    go_wp2
    go_ret
    exact ⟨ret_bool (by simp), hb12⟩

set_option maxHeartbeats 1000000 in
theorem TwoStucks_with (hF : JStuckOk 10) (n : Int) (rs : List Cla) (A : Option Addr) (c : Nat) (w : World) (h32 : W32 rs) (hm : rs.length ≤ maxLen) (hr : Row w A (rulesC rs)) (hX : Laid w) :
    Calls Tryd.prog 4 #[.int .i64 n, .slice A rs.length c] w fun e w' => e = .returned (.bool true) ∧ Below w.heap.size w w' := by
  have key := hF n rs A c w h32 hm hr hX
  by_cases hc : codeD n rs = 0
  · rw [hc] at key
    obtain ⟨n, rfl, hn1, hn6, hl, hg, hcc⟩ := codeD_zero hc
    rw [stuckD_ok hc] at key
    have HC := Lib.hid hc
    obtain ⟨sw, hsw⟩ : ∃ sw, stuckW n rs = sw := ⟨_, rfl⟩
    rw [hsw] at key
    have HSW := Lib.hid hsw
    clear hc hcc hsw
    go_enter Tryd.func4, Tryd.ntmps4
    go_wp2_with fail
    refine key.mono ?_
    rintro e w1 ⟨rfl, hb1⟩
    clear key
    go_wp2_with fail
    refine (TwoCheck_any n rs A c _ (hr.below hb1) h32 hm).mono ?_
    rintro e w2 ⟨rfl, hb2⟩
    have hb12 := hb1.trans (hb2.mono hb1.size)
    rw [HC.out]
    clear hb2 hb1
    go_wp2
    go_loopw [8, 9] (fun qv vv wr => ∃ v : Nat, vv = .int .i64 v ∧ v ≤ n ∧ (∃ q : Nat, q = wordOf v (stuckP n rs) ∧ qv = .int .u32 q) ∧ Below w.heap.size w wr) (fun _ vv _ => n - (intOf vv).toNat)
    case atStart => exact ⟨0, rfl, Nat.zero_le _, ⟨0, rfl, rfl⟩, hb12⟩
    case round =>
      clear hb12
      obtain ⟨v, rfl, hv, ⟨q, hq, rfl⟩, hbel⟩ := hrel
      have hq32 : q < one v := by rw [hq]; exact wordOf_lt _ _
      have HQ := Lib.hid hq
      clear hq
      by_cases hlt : v < n
      · have key1 := Reach_any n hn6 rs A c v wr hg (by omega) h32 hl (hr.below hbel)
        have key2 := fun W (hW : Below w.heap.size w W) => Reach_any n hn6 rs A c (v + n) W hg (by omega) h32 hl (hr.below hW)
        have h4096 : one (n + n) ≤ 4096 := by
          have : one (n + n) ≤ one 12 := Nat.pow_le_pow_right (by omega) (by omega)
          simpa [one] using this
        have r1 := reachW_lt n rs v
        have r2 := reachW_lt n rs (v + n)
        have HStep := Lib.hid (show wordOf (v + 1) (stuckP n rs) = wordOf v (stuckP n rs) ||| (if stuckP n rs v = true then one v else 0) from rfl)
        rw [show stuckP n rs v = ((reachW n rs v).testBit (v + n) && (reachW n rs (v + n)).testBit v) from rfl, ← HQ.out] at HStep
        generalize reachW n rs v = x at *
        generalize reachW n rs (v + n) = y at *
        have h1v := one_int v (by omega)
        have hov : one v ≤ 64 := one_le_64 (by omega)
        have bx := fun W => Bit_any x (v + n) (by omega) (by omega) W
        have hby := fun W => Bit_any y v (by omega) (by omega) W
        have hcast : ((v + n : Nat) : Int) = (v : Int) + (n : Int) := by omega
        rw [hcast] at key2 bx
        obtain ⟨b1, hb1⟩ : ∃ b, x.testBit (v + n) = b := ⟨_, rfl⟩
        obtain ⟨b2, hb2⟩ : ∃ b, y.testBit v = b := ⟨_, rfl⟩
        rw [hb1] at bx HStep
        rw [hb2] at hby HStep
        clear hb1 hb2 hcast
        cases b1 with
        | false =>
          go_wp2_with fail
          refine key1.mono ?_
          rintro e w3 ⟨rfl, hb3⟩
          have hb4 := hbel.trans (hb3.mono hbel.size)
          clear hb3 key1 key2
          go_wp2_with fail
          refine (bx _).mono ?_
          rintro e w5 ⟨rfl, rfl⟩
          clear bx hby
          go_wp2
          go_roundw
          case rel => exact ⟨v + 1, by go_num, by omega, ⟨q, by rw [HStep.out]; simp, rfl⟩, hb4⟩
          case measure => simp [intOf]; omega
        | true =>
          cases b2 with
          | false =>
            go_wp2_with fail
            refine key1.mono ?_
            rintro e w3 ⟨rfl, hb3⟩
            have hb4 := hbel.trans (hb3.mono hbel.size)
            clear hb3 key1
            go_wp2_with fail
            refine (bx _).mono ?_
            rintro e w5 ⟨rfl, rfl⟩
            go_wp2_with fail
            refine (key2 _ hb4).mono ?_
            rintro e w6 ⟨rfl, hb6⟩
            have hb7 := hb4.trans (hb6.mono hb4.size)
            clear hb6 key2
            go_wp2_with fail
            refine (hby _).mono ?_
            rintro e w8 ⟨rfl, rfl⟩
            clear bx hby
            go_wp2
            go_roundw
            case rel => exact ⟨v + 1, by go_num, by omega, ⟨q, by rw [HStep.out]; simp, rfl⟩, hb7⟩
            case measure => simp [intOf]; omega
          | true =>
            have hadd := or_add hq32
            have hmod : ((q : Int) + (one v : Int)) % 4294967296 = ((q + one v : Nat) : Int) := by omega
            go_wp2_with fail
            refine key1.mono ?_
            rintro e w3 ⟨rfl, hb3⟩
            have hb4 := hbel.trans (hb3.mono hbel.size)
            clear hb3 key1
            go_wp2_with fail
            refine (bx _).mono ?_
            rintro e w5 ⟨rfl, rfl⟩
            go_wp2_with fail
            refine (key2 _ hb4).mono ?_
            rintro e w6 ⟨rfl, hb6⟩
            have hb7 := hb4.trans (hb6.mono hb4.size)
            clear hb6 key2
            go_wp2_with fail
            refine (hby _).mono ?_
            rintro e w8 ⟨rfl, rfl⟩
            clear bx hby
            go_wp2
            go_roundw
            case rel => exact ⟨v + 1, by go_num, by omega, ⟨q + one v, by rw [HStep.out, ← hadd]; simp, by first | rfl | (rw [hmod]) | (congr 1; omega)⟩, hb7⟩
            case measure => simp [intOf]; omega
      · obtain rfl : v = n := by omega
        have HE := Lib.hid (show q = sw by rw [HQ.out, ← HSW.out]; rfl)
        go_wp2
        go_ret
        exact ⟨ret_bool (by rw [HE.out]; simp), hbel⟩
  · rw [stuckD_err hc] at key
    go_enter Tryd.func4, Tryd.ntmps4
    go_wp2_with fail
    refine key.mono ?_
    rintro e w1 ⟨rfl, hb1⟩
    clear key
    go_wp2_with fail
    refine (TwoCheck_any n rs A c _ (hr.below hb1) h32 hm).mono ?_
    rintro e w2 ⟨rfl, hb2⟩
    have hb12 := hb1.trans (hb2.mono hb1.size)
    clear hb2 hb1
    generalize codeD n rs = k at *
    have hk2 : (k != 0) = true := by simpa using hc
    clear hc
    go_wp2
    go_ret
    exact ⟨ret_bool (by simp), hb12⟩

end Go.Proofs.YtekeeodnjlebcaaDoor
