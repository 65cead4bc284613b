/- The laws on fixed sets, by the document's answers. -/
import Derived.Test.YtihhplkcpdepgaaXSpec
import Derived.Test.YtihhplkcpdepgaaW9
namespace Go.Proofs.Ytihhplkcpdepgaa
open Go.RowKit

set_option maxHeartbeats 1000000 in
theorem FixRises_with (hF : XRisesOk 9) (n : Int) (f : List Nat) (A : Option Addr) (c : Nat) (w : World) (h32 : U32 f) (hm : f.length ≤ maxLen) (hr : Row w A (words f)) (hX : Laid w) :
    Calls Try.prog 3 #[.int .i64 n, .slice A f.length c] w fun e w' => e = .returned (.bool true) ∧ Below w.heap.size w w' := by
  have key := hF n f A c w h32 hm hr hX
  by_cases hc : codeM n f = 0
  · obtain ⟨n, rfl, hn1, hn5, hl, hf⟩ := codeM_zero hc
    have hl32 : f.length ≤ 32 := by have := one_le_32 hn5; omega
    rw [hc, show (((0 : Int) == 0) && riseB f) = riseB f from rfl] at key
    have HC := Lib.hid hc
    clear hc hl
    go_enter Try.func3, Try.ntmps3
    go_wp2_with fail
    refine key.mono ?_
    rintro e w1 ⟨rfl, hb1⟩
    go_wp2_with fail
    refine (MapCheck_any n f A c _ (hr.below hb1)).mono ?_
    rintro e w2 ⟨rfl, rfl⟩
    rw [HC.out]
    clear key
    go_wp2_with fail
    refine (Rises_any f A c _ (hr.below hb1) h32 hl32).mono ?_
    rintro e w3 ⟨rfl, d, rfl⟩
    have HB := Lib.hid (below_drewN hb1 d)
    clear hb1
    go_wp2
    go_ret
    exact ⟨ret_bool (by simp), HB.out⟩
  · have hcb : (codeM n f == 0) = false := by simpa using hc
    rw [hcb, Bool.false_and] at key
    go_enter Try.func3, Try.ntmps3
    go_wp2_with fail
    refine key.mono ?_
    rintro e w1 ⟨rfl, hb1⟩
    go_wp2_with fail
    refine (MapCheck_any n f A c _ (hr.below hb1)).mono ?_
    rintro e w2 ⟨rfl, rfl⟩
    clear key hcb
    generalize codeM n f = k at *
    have hk : (k == 0) = false := by simpa using hc
    have hk2 : (k != 0) = true := by simpa using hc
    clear hc
    go_wp2
    go_ret
    exact ⟨rfl, hb1⟩

set_option maxHeartbeats 1000000 in
theorem FixAlls_with (hF : XAllOk 12) (n : Int) (f : List Nat) (A : Option Addr) (c : Nat) (w : World) (h32 : U32 f) (hm : f.length ≤ maxLen) (hr : Row w A (words f)) (hX : Laid w) :
    Calls Try.prog 4 #[.int .i64 n, .slice A f.length c] w fun e w' => e = .returned (.bool true) ∧ Below w.heap.size w w' := by
  have key := hF n f A c w h32 hm hr hX
  by_cases hc : codeM n f = 0
  · obtain ⟨n, rfl, hn1, hn5, hl, hf⟩ := codeM_zero hc
    have hl32 : f.length ≤ 32 := by have := one_le_32 hn5; omega
    rw [hc, if_pos rfl] at key
    have HC := Lib.hid hc
    clear hc hl
    go_enter Try.func4, Try.ntmps4
    go_wp2_with fail
    refine key.mono ?_
    rintro e w1 ⟨A2, c2, l, rfl, hle, hrow, hb1⟩
    have HR := Lib.hid hrow
    have HLe := Lib.hid hle
    have hll : l.length ≤ 32 := by rw [hle]; have := filter_len (fixB f) f.length; unfold fixL; omega
    clear hrow hle key
    go_wp2_with fail
    refine (MapCheck_any n f A c _ (hr.below hb1)).mono ?_
    rintro e w2 ⟨rfl, rfl⟩
    rw [HC.out]
    go_wp2_with fail
    refine (Fixed_any f A c _ (hr.below hb1) hl32).mono ?_
    rintro e w3 ⟨A3, c3, u, rfl, hu, hrow3, hb3⟩
    have HU := Lib.hid hu
    have HR3 := Lib.hid hrow3
    have HR2 := Lib.hid (HR.out.below hb3)
    have hul : u.length ≤ 32 := by rw [hu]; have := filter_len (fixB f) f.length; unfold fixL; omega
    have hb03 := hb1.trans (hb3.mono hb1.size)
    clear hu hrow3 HR hb1 hb3
    go_wp2_with fail
    refine (Words_any l u A2 A3 c2 c3 _ HR2.out HR3.out (by omega) (by omega)).mono ?_
    rintro e w4 ⟨rfl, d, rfl⟩
    rw [show decide (l = u) = true from by rw [decide_eq_true_iff, HLe.out, HU.out]]
    have HB := Lib.hid (below_drewN hb03 d)
    clear hb03
    go_wp2
    go_ret
    exact ⟨rfl, HB.out⟩
  · rw [if_neg hc] at key
    go_enter Try.func4, Try.ntmps4
    go_wp2_with fail
    refine key.mono ?_
    rintro e w1 ⟨A2, c2, l, rfl, rfl, hrow, hb1⟩
    go_wp2_with fail
    refine (MapCheck_any n f A c _ (hr.below hb1)).mono ?_
    rintro e w2 ⟨rfl, rfl⟩
    clear key hrow
    generalize codeM n f = k at *
    have hk : (k == 0) = false := by simpa using hc
    have hk2 : (k != 0) = true := by simpa using hc
    clear hc
    go_wp2
    go_ret
    exact ⟨rfl, hb1⟩

set_option maxHeartbeats 1000000 in
theorem FixLeasts_with (hF : XLeastOk 15) (n : Int) (f : List Nat) (A : Option Addr) (c : Nat) (w : World) (h32 : U32 f) (hm : f.length ≤ maxLen) (hr : Row w A (words f)) (hX : Laid w) :
    Calls Try.prog 5 #[.int .i64 n, .slice A f.length c] w fun e w' => e = .returned (.bool true) ∧ Below w.heap.size w w' := by
  have key := hF n f A c w h32 hm hr hX
  by_cases hc : codeM n f = 0
  · obtain ⟨n, rfl, hn1, hn5, hl, hf⟩ := codeM_zero hc
    have h32n := one_le_32 hn5
    have hl32 : f.length ≤ 32 := by omega
    have HC := Lib.hid hc
    have HL := Lib.hid hl
    clear hl
    cases hri : riseB f with
    | true =>
      rw [codeN_ok hc hri, Int.toNat_natCast] at key
      have HRi := Lib.hid hri
      clear hc hri
      go_enter Try.func5, Try.ntmps5
      go_wp2_with fail
      refine key.mono ?_
      rintro e w1 ⟨s, rfl, hs, _, hb1⟩
      have HS := Lib.hid (hs trivial)
      have hs32 : s < 32 := by have := HS.out.1; omega
      clear hs key
      go_wp2_with fail
      refine (MapCheck_any n f A c _ (hr.below hb1)).mono ?_
      rintro e w2 ⟨rfl, rfl⟩
      rw [HC.out]
      go_wp2_with fail
      refine (Rises_any f A c _ (hr.below hb1) h32 hl32).mono ?_
      rintro e w3 ⟨rfl, d, rfl⟩
      rw [HRi.out]
      have hb2 := below_drewN hb1 d
      generalize w1.drewN d = w2 at *
      go_wp2_with fail
      refine (Fixed_any f A c _ (hr.below hb2) hl32).mono ?_
      rintro e w3 ⟨A3, c3, u, rfl, hu, hrow3, hb3⟩
      have HU := Lib.hid hu
      have HR3 := Lib.hid hrow3
      have hul : u.length ≤ 32 := by rw [hu]; have := filter_len (fixB f) f.length; unfold fixL; omega
      have hb03 := hb2.trans (hb3.mono hb2.size)
      clear hu hrow3 hb1 hb2 hb3
      go_wp2
      go_loopw [8, 39] (fun bv iv wr => ∃ k : Nat, iv = .int .i64 k ∧ k ≤ u.length ∧ (∃ q, q = decide (s ∈ u.take k) ∧ bv = .bool q) ∧ w3 = wr) (fun _ iv _ => u.length - (intOf iv).toNat)
      case atStart => exact ⟨0, rfl, Nat.zero_le _, ⟨false, by simp, rfl⟩, rfl⟩
      case round =>
        obtain ⟨k, rfl, hk, ⟨q, hq, rfl⟩, rfl⟩ := hrel
        have HQ := Lib.hid hq
        clear hq
        by_cases hlt : k < u.length
        · obtain ⟨x, hx⟩ := get_some hlt
          obtain ⟨g, off, rfl, hcell⟩ := HR3.out.at (k := k) (by rw [words_length]; exact hlt)
          have cx := hcell _ _ (words_at hx)
          have hfx := mem_fixL.1 (by rw [← HU.out]; exact List.mem_of_getElem? hx)
          have hx32 : x < 32 := by omega
          have HIn := Lib.hid (show (s ||| x == x) = true from HS.out.2.2 x (by have := HL.out; omega) hfx.2)
          have HN := Lib.hid (show decide (s ∈ u.take (k + 1)) = (q || (x == s)) by
            rw [HQ.out, List.take_add_one, hx, Bool.eq_iff_iff]
            simp
            constructor
            · rintro (h | h)
              · exact .inl h
              · exact .inr h.symm
            · rintro (h | h)
              · exact .inl h
              · exact .inr h.symm)
          clear hcell hx hfx
          cases q with
          | true =>
            go_wp2_with fail
            refine (In_any s x (by omega) (by omega) _).mono ?_
            rintro e w4 ⟨rfl, rfl⟩
            rw [HIn.out]
            go_wp2
            go_roundw
            case rel => exact ⟨k + 1, by go_num, by omega, ⟨true, by rw [HN.out]; rfl, rfl⟩, trivial⟩
            case measure => simp [intOf]; omega
          | false =>
            by_cases hxs : x = s
            · have hq : ((x : Int) == (s : Int)) = true := by rw [hxs]; simp
              have hq2 : (x == s) = true := by simpa using hxs
              rw [hq2] at HN
              clear hxs hq2
              go_wp2_with fail
              refine (In_any s x (by omega) (by omega) _).mono ?_
              rintro e w4 ⟨rfl, rfl⟩
              rw [HIn.out]
              go_wp2
              go_roundw
              case rel => exact ⟨k + 1, by go_num, by omega, ⟨true, by rw [HN.out]; rfl, rfl⟩, trivial⟩
              case measure => simp [intOf]; omega
            · have hq : ((x : Int) == (s : Int)) = false := by rw [beq_eq_false_iff_ne]; omega
              have hq2 : (x == s) = false := by simpa using hxs
              rw [hq2] at HN
              clear hxs hq2
              go_wp2_with fail
              refine (In_any s x (by omega) (by omega) _).mono ?_
              rintro e w4 ⟨rfl, rfl⟩
              rw [HIn.out]
              go_wp2
              go_roundw
              case rel => exact ⟨k + 1, by go_num, by omega, ⟨false, by rw [HN.out]; rfl, rfl⟩, trivial⟩
              case measure => simp [intOf]; omega
        · have HT := Lib.hid (show q = true by
            rw [HQ.out, List.take_of_length_le (by omega), decide_eq_true_iff, HU.out]
            exact mem_fixL.2 ⟨by have := HL.out; have := HS.out.1; omega, HS.out.2.1⟩)
          rw [HT.out]
          go_wp2
          go_ret
          exact ⟨rfl, hb03⟩
    | false =>
      rw [codeN_none hc hri] at key
      have HRi := Lib.hid hri
      clear hc hri
      go_enter Try.func5, Try.ntmps5
      go_wp2_with fail
      refine key.mono ?_
      rintro e w1 ⟨s, rfl, _, hs, hb1⟩
      obtain rfl := hs (by decide)
      clear hs key
      go_wp2_with fail
      refine (MapCheck_any n f A c _ (hr.below hb1)).mono ?_
      rintro e w2 ⟨rfl, rfl⟩
      rw [HC.out]
      go_wp2_with fail
      refine (Rises_any f A c _ (hr.below hb1) h32 hl32).mono ?_
      rintro e w3 ⟨rfl, d, rfl⟩
      rw [HRi.out]
      have HB := Lib.hid (below_drewN hb1 d)
      clear hb1
      go_wp2
      go_ret
      exact ⟨rfl, HB.out⟩
  · rw [codeN_err hc] at key
    go_enter Try.func5, Try.ntmps5
    go_wp2_with fail
    refine key.mono ?_
    rintro e w1 ⟨s, rfl, _, hs, hb1⟩
    obtain rfl := hs hc
    clear hs
    go_wp2_with fail
    refine (MapCheck_any n f A c _ (hr.below hb1)).mono ?_
    rintro e w2 ⟨rfl, rfl⟩
    clear key
    generalize codeM n f = k at *
    have hk : (k == 0) = false := by simpa using hc
    have hk2 : (k != 0) = true := by simpa using hc
    clear hc
    go_wp2
    go_ret
    exact ⟨rfl, hb1⟩

set_option maxHeartbeats 1000000 in
theorem FixMosts_with (hF : XMostOk 17) (n : Int) (f : List Nat) (A : Option Addr) (c : Nat) (w : World) (h32 : U32 f) (hm : f.length ≤ maxLen) (hr : Row w A (words f)) (hX : Laid w) :
    Calls Try.prog 6 #[.int .i64 n, .slice A f.length c] w fun e w' => e = .returned (.bool true) ∧ Below w.heap.size w w' := by
  have key := hF n f A c w h32 hm hr hX
  by_cases hc : codeM n f = 0
  · obtain ⟨n, rfl, hn1, hn5, hl, hf⟩ := codeM_zero hc
    have h32n := one_le_32 hn5
    have hl32 : f.length ≤ 32 := by omega
    have HC := Lib.hid hc
    have HL := Lib.hid hl
    clear hl
    cases hri : riseB f with
    | true =>
      rw [codeN_ok hc hri, Int.toNat_natCast] at key
      have HRi := Lib.hid hri
      clear hc hri
      go_enter Try.func6, Try.ntmps6
      go_wp2_with fail
      refine key.mono ?_
      rintro e w1 ⟨s, rfl, hs, _, hb1⟩
      have HS := Lib.hid (hs trivial)
      have hs32 : s < 32 := by have := HS.out.1; omega
      clear hs key
      go_wp2_with fail
      refine (MapCheck_any n f A c _ (hr.below hb1)).mono ?_
      rintro e w2 ⟨rfl, rfl⟩
      rw [HC.out]
      go_wp2_with fail
      refine (Rises_any f A c _ (hr.below hb1) h32 hl32).mono ?_
      rintro e w3 ⟨rfl, d, rfl⟩
      rw [HRi.out]
      have hb2 := below_drewN hb1 d
      generalize w1.drewN d = w2 at *
      go_wp2_with fail
      refine (Fixed_any f A c _ (hr.below hb2) hl32).mono ?_
      rintro e w3 ⟨A3, c3, u, rfl, hu, hrow3, hb3⟩
      have HU := Lib.hid hu
      have HR3 := Lib.hid hrow3
      have hul : u.length ≤ 32 := by rw [hu]; have := filter_len (fixB f) f.length; unfold fixL; omega
      have hb03 := hb2.trans (hb3.mono hb2.size)
      clear hu hrow3 hb1 hb2 hb3
      go_wp2
      go_loopw [8, 39] (fun bv iv wr => ∃ k : Nat, iv = .int .i64 k ∧ k ≤ u.length ∧ (∃ q, q = decide (s ∈ u.take k) ∧ bv = .bool q) ∧ w3 = wr) (fun _ iv _ => u.length - (intOf iv).toNat)
      case atStart => exact ⟨0, rfl, Nat.zero_le _, ⟨false, by simp, rfl⟩, rfl⟩
      case round =>
        obtain ⟨k, rfl, hk, ⟨q, hq, rfl⟩, rfl⟩ := hrel
        have HQ := Lib.hid hq
        clear hq
        by_cases hlt : k < u.length
        · obtain ⟨x, hx⟩ := get_some hlt
          obtain ⟨g, off, rfl, hcell⟩ := HR3.out.at (k := k) (by rw [words_length]; exact hlt)
          have cx := hcell _ _ (words_at hx)
          have hfx := mem_fixL.1 (by rw [← HU.out]; exact List.mem_of_getElem? hx)
          have hx32 : x < 32 := by omega
          have HIn := Lib.hid (show (x ||| s == s) = true from HS.out.2.2 x (by have := HL.out; omega) hfx.2)
          have HN := Lib.hid (show decide (s ∈ u.take (k + 1)) = (q || (x == s)) by
            rw [HQ.out, List.take_add_one, hx, Bool.eq_iff_iff]
            simp
            constructor
            · rintro (h | h)
              · exact .inl h
              · exact .inr h.symm
            · rintro (h | h)
              · exact .inl h
              · exact .inr h.symm)
          clear hcell hx hfx
          cases q with
          | true =>
            go_wp2_with fail
            refine (In_any x s (by omega) (by omega) _).mono ?_
            rintro e w4 ⟨rfl, rfl⟩
            rw [HIn.out]
            go_wp2
            go_roundw
            case rel => exact ⟨k + 1, by go_num, by omega, ⟨true, by rw [HN.out]; rfl, rfl⟩, trivial⟩
            case measure => simp [intOf]; omega
          | false =>
            by_cases hxs : x = s
            · have hq : ((x : Int) == (s : Int)) = true := by rw [hxs]; simp
              have hq2 : (x == s) = true := by simpa using hxs
              rw [hq2] at HN
              clear hxs hq2
              go_wp2_with fail
              refine (In_any x s (by omega) (by omega) _).mono ?_
              rintro e w4 ⟨rfl, rfl⟩
              rw [HIn.out]
              go_wp2
              go_roundw
              case rel => exact ⟨k + 1, by go_num, by omega, ⟨true, by rw [HN.out]; rfl, rfl⟩, trivial⟩
              case measure => simp [intOf]; omega
            · have hq : ((x : Int) == (s : Int)) = false := by rw [beq_eq_false_iff_ne]; omega
              have hq2 : (x == s) = false := by simpa using hxs
              rw [hq2] at HN
              clear hxs hq2
              go_wp2_with fail
              refine (In_any x s (by omega) (by omega) _).mono ?_
              rintro e w4 ⟨rfl, rfl⟩
              rw [HIn.out]
              go_wp2
              go_roundw
              case rel => exact ⟨k + 1, by go_num, by omega, ⟨false, by rw [HN.out]; rfl, rfl⟩, trivial⟩
              case measure => simp [intOf]; omega
        · have HT := Lib.hid (show q = true by
            rw [HQ.out, List.take_of_length_le (by omega), decide_eq_true_iff, HU.out]
            exact mem_fixL.2 ⟨by have := HL.out; have := HS.out.1; omega, HS.out.2.1⟩)
          rw [HT.out]
          go_wp2
          go_ret
          exact ⟨rfl, hb03⟩
    | false =>
      rw [codeN_none hc hri] at key
      have HRi := Lib.hid hri
      clear hc hri
      go_enter Try.func6, Try.ntmps6
      go_wp2_with fail
      refine key.mono ?_
      rintro e w1 ⟨s, rfl, _, hs, hb1⟩
      obtain rfl := hs (by decide)
      clear hs key
      go_wp2_with fail
      refine (MapCheck_any n f A c _ (hr.below hb1)).mono ?_
      rintro e w2 ⟨rfl, rfl⟩
      rw [HC.out]
      go_wp2_with fail
      refine (Rises_any f A c _ (hr.below hb1) h32 hl32).mono ?_
      rintro e w3 ⟨rfl, d, rfl⟩
      rw [HRi.out]
      have HB := Lib.hid (below_drewN hb1 d)
      clear hb1
      go_wp2
      go_ret
      exact ⟨rfl, HB.out⟩
  · rw [codeN_err hc] at key
    go_enter Try.func6, Try.ntmps6
    go_wp2_with fail
    refine key.mono ?_
    rintro e w1 ⟨s, rfl, _, hs, hb1⟩
    obtain rfl := hs hc
    clear hs
    go_wp2_with fail
    refine (MapCheck_any n f A c _ (hr.below hb1)).mono ?_
    rintro e w2 ⟨rfl, rfl⟩
    clear key
    generalize codeM n f = k at *
    have hk : (k == 0) = false := by simpa using hc
    have hk2 : (k != 0) = true := by simpa using hc
    clear hc
    go_wp2
    go_ret
    exact ⟨rfl, hb1⟩
end Go.Proofs.Ytihhplkcpdepgaa
