/- choice.leads, choice.value, choice.check, choice.Read. -/
import Derived.Test.YtnoehmokaeegeaaHSpec
namespace Go.Proofs.Ytnoehmokaeegeaa
open Go.RowKit

/-- May a node of the variable v, behind i nodes, go to k? As the program asks. -/
def leadB (l : List Nd) (i : Nat) (v k : Int) : Bool := decide (kidOk l i v k)

set_option maxHeartbeats 1000000 in
theorem cLeads_any (l : List Nd) (i : Nat) (A : Option Addr) (c : Nat) (v k : Int) (w : World) (hl : l.length ≤ 20) (hi : i ≤ l.length) (hr : Row w A (nodesC l)) :
    Calls Try.prog 28 #[.slice A i c, .int .i64 v, .int .i64 k] w fun e w' => e = .returned (.bool (leadB l i v k)) ∧ w = w' := by
  by_cases h0 : k < 0
  · have HB := Lib.hid (show leadB l i v k = false from decide_eq_false (by rintro ⟨h, _⟩; omega))
    go_enter Try.func28, Try.ntmps28
    go_wp2
    go_ret
    exact ⟨ret_bool HB.out.symm, rfl⟩
  · by_cases h1 : (i : Int) + 2 ≤ k
    · have HB := Lib.hid (show leadB l i v k = false from decide_eq_false (by rintro ⟨_, h, _⟩; omega))
      go_enter Try.func28, Try.ntmps28
      go_wp2
      go_ret
      exact ⟨ret_bool HB.out.symm, rfl⟩
    · by_cases h2 : k < 2
      · have HB := Lib.hid (show leadB l i v k = true from decide_eq_true ⟨by omega, by omega, fun h => by omega⟩)
        go_enter Try.func28, Try.ntmps28
        go_wp2
        go_ret
        exact ⟨ret_bool HB.out.symm, rfl⟩
      · obtain ⟨m, rfl⟩ : ∃ m : Nat, k = (m : Int) + 2 := ⟨(k - 2).toNat, by omega⟩
        have e2 : (m : Int) + 2 - 2 = m := by omega
        have hmi : m < i := by omega
        have hnd := nd_at (l := l) (k := (m : Int) + 2) (by omega) (by omega)
        rw [show ((m : Int) + 2 - 2).toNat = m by omega] at hnd
        obtain ⟨g, off, rfl, c0, _, _⟩ := RowN.at hr hnd
        have HB := Lib.hid (show leadB l i v ((m : Int) + 2) = decide (v < (nd l ((m : Int) + 2)).1) by
          unfold leadB
          rw [decide_eq_decide]
          exact ⟨fun h => h.2.2 (by omega), fun h => ⟨by omega, by omega, fun _ => h⟩⟩)
        generalize nd l ((m : Int) + 2) = z at *
        obtain ⟨zv, zr⟩ := z
        simp only at c0 HB
        clear hnd
        go_enter Try.func28, Try.ntmps28
        go_wp2
        go_ret
        exact ⟨ret_bool (by rw [HB.out]), rfl⟩

theorem cLeads_still {b : Bool} (l : List Nd) (i : Nat) (A : Option Addr) (c : Nat) (v k : Int) (h : leadB l i v k = b) (w : World) (hl : l.length ≤ 20) (hi : i ≤ l.length) (hr : Row w A (nodesC l)) :
    Calls Try.prog 28 #[.slice A i c, .int .i64 v, .int .i64 k] w fun e w' => e = .returned (.bool b) ∧ w' = w :=
  (cLeads_any l i A c v k w hl hi hr).mono fun _ _ ⟨he, hw⟩ => ⟨by rw [he, h], hw.symm⟩

theorem i64_bit (s v : Nat) (hs : s < 16) : (bits .and .i64 ((s : Int) / 2 ^ v) 1 == 1) = s.testBit v := by
  have e : (s : Int) / 2 ^ v = ((s / 2 ^ v : Nat) : Int) := by simp
  have hlt : s / 2 ^ v < 16 := Nat.lt_of_le_of_lt (Nat.div_le_self _ _) hs
  rw [e, Nat.testBit_eq_decide_div_mod_eq]
  generalize s / 2 ^ v = a at *
  have h : ∀ a, a < 16 → (bits .and .i64 ((a : Nat) : Int) 1 == 1) = decide (a % 2 = 1) := by decide +kernel
  exact h a hlt

set_option maxHeartbeats 1000000 in
theorem cValue_any (n : Nat) (hn : n ≤ 4) (l : List Nd) (A : Option Addr) (c : Nat) (root : Int) (s : Nat) (w : World) (hl : l.length ≤ 20) (hr : Row w A (nodesC l)) (hg : GoodD n l) (h0 : 0 ≤ root) (h1 : root < l.length + 2) (hs : s < 16) :
    Calls Try.prog 22 #[.slice A l.length c, .int .i64 root, .int .i64 s] w fun e w' => e = .returned (.bool (tell l root s)) ∧ Below w.heap.size w w' := by
  go_enter Try.func22, Try.ntmps22
  go_wp2
  go_loopw [7] (fun v wr => ∃ k : Int, v = .int .i64 k ∧ 0 ≤ k ∧ k < l.length + 2 ∧ tell l root s = tell l k s ∧ Below w.heap.size w wr) (fun v _ => (intOf v).toNat)
  case atStart => exact ⟨root, rfl, h0, h1, rfl, Below.refl _ _⟩
  case round =>
    obtain ⟨k, rfl, k0, k1, ht, hbel⟩ := hrel
    have HT := Lib.hid ht
    clear ht
    by_cases h2 : k < 2
    · have HL := Lib.hid (tell_leaf (l := l) (s := s) h2)
      go_wp2
      go_ret
      exact ⟨ret_bool (by rw [HT.out, HL.out]), hbel⟩
    · have h2' : 2 ≤ k := by omega
      obtain ⟨m, rfl⟩ : ∃ m : Nat, k = (m : Int) + 2 := ⟨(k - 2).toNat, by omega⟩
      obtain ⟨v1, v2, ⟨a1, a2, _⟩, ⟨b1, b2, _⟩⟩ := hg.node h2' k1
      have hnd := nd_at h2' k1
      have HS := Lib.hid (tell_step hg h2' k1 s)
      generalize nd l ((m : Int) + 2) = b at *
      rw [show ((m : Int) + 2 - 2).toNat = m by omega] at hnd a2 b2
      obtain ⟨g, off, rfl, c0, c1, c2⟩ := RowN.at (hr.below hbel) hnd
      obtain ⟨bv, bl, bh⟩ := b
      simp only at *
      obtain ⟨vv, rfl⟩ := Int.eq_ofNat_of_zero_le v1
      have e2 : (m : Int) + 2 - 2 = m := by omega
      have hml : m < l.length := by omega
      rw [Int.toNat_natCast] at HS
      have hb1 := hbel.alloc hbel.size (.cells #[.int .i64 (vv : Int), .int .i64 bl, .int .i64 bh] 52)
      clear hnd
      have hbit := i64_bit s vv hs
      cases hb : s.testBit vv with
      | true =>
        rw [hb, if_pos rfl] at HS
        rw [hb] at hbit
        clear hb
        go_wp2
        go_roundw
        case rel => exact ⟨bh, rfl, b1, by omega, by rw [HT.out, HS.out], hb1⟩
        case measure => simp [intOf]; omega
      | false =>
        rw [hb, if_neg (by decide)] at HS
        rw [hb] at hbit
        clear hb
        go_wp2
        go_roundw
        case rel => exact ⟨bl, rfl, a1, by omega, by rw [HT.out, HS.out], hb1⟩
        case measure => simp [intOf]; omega

set_option maxHeartbeats 2000000 in
theorem cCheck_any (n : Int) (l : List Nd) (A : Option Addr) (c : Nat) (root : Int) (w : World) (hm : l.length ≤ maxLen) (hcp : l.length ≤ c) (hr : Row w A (nodesC l)) :
    Calls Try.prog 21 #[.int .i64 n, .slice A l.length c, .int .i64 root] w fun e w' => e = .returned (.int .i64 (codeD n l root)) ∧ Below w.heap.size w w' := by
  have hmm : l.length < 9223372036854775808 := by unfold maxLen at hm; omega
  by_cases hL : LargeD n l.length
  · have HC := Lib.hid (show codeD n l root = 1 by unfold codeD; rw [if_pos hL])
    have HX := Lib.hid hL
    clear hL
    go_enter Try.func21, Try.ntmps21
    go_wp2_with fail
    all_goals first
      | (go_ret; exact ⟨ret_int HC.out.symm, Below.refl _ _⟩)
      | (have := HX.out; unfold LargeD at this; omega)
  · have HC := Lib.hid (show codeD n l root = codeB n l root by unfold codeD; rw [if_neg hL])
    obtain ⟨n, rfl⟩ := Int.eq_ofNat_of_zero_le (show 0 ≤ n by unfold LargeD at hL; omega)
    have hk : n ≤ 4 := by unfold LargeD at hL; omega
    have hl : l.length ≤ 20 := by unfold LargeD at hL; omega
    clear hL
    rw [HC.out]
    go_enter Try.func21, Try.ntmps21
    go_wp2
    go_loopw [22] (fun iv wr => ∃ i : Nat, iv = .int .i64 i ∧ i ≤ l.length ∧ firstC n l i = 0 ∧ Below w.heap.size w wr) (fun iv _ => l.length - (intOf iv).toNat)
    case atStart => exact ⟨0, rfl, Nat.zero_le _, rfl, Below.refl _ _⟩
    case round =>
      obtain ⟨i, rfl, hi, hf, hbel⟩ := hrel
      have HFi := Lib.hid hf
      clear hf
      by_cases hlt : i < l.length
      · obtain ⟨b, hb⟩ := get_some hlt
        obtain ⟨g, off, rfl, c0, c1, c2⟩ := RowN.at (hr.below hbel) hb
        have HN := Lib.hid (firstC_next HFi.out hb)
        have HE := Lib.hid (show nodeC n l i b ≠ 0 → nodeC n l i b = codeB n l root from fun h => by
          have h1 : firstC n l (i + 1) ≠ 0 := by rw [firstC_next HFi.out hb]; exact h
          have h2 := firstC_stay h1 l.length (by omega)
          unfold codeB
          rw [if_pos (by rw [h2]; exact h1), h2, firstC_next HFi.out hb])
        obtain ⟨bv, bl, bh⟩ := b
        have HBi := Lib.hid hb
        clear hb
        have hb1 := hbel.alloc hbel.size (.cells #[.int .i64 bv, .int .i64 bl, .int .i64 bh] 52)
        have hN1 := NdC.made wr bv bl bh 52
        by_cases hv1 : bv < 0
        · have HC := Lib.hid (show codeB n l root = 4 by rw [← HE.out (by simp [nodeC, hv1])]; simp [nodeC, hv1])
          go_wp2
          go_ret
          exact ⟨ret_int HC.out.symm, hb1⟩
        · by_cases hv2 : (n : Int) ≤ bv
          · have HC := Lib.hid (show codeB n l root = 4 by rw [← HE.out (by simp [nodeC, hv2])]; simp [nodeC, hv2])
            go_wp2
            go_ret
            exact ⟨ret_int HC.out.symm, hb1⟩
          · have HND := Lib.hid (show nodeC n l i (bv, bl, bh) = if kidOk l i bv bl ∧ kidOk l i bv bh then 0 else 3 by unfold nodeC; rw [if_neg (by simp only; omega)])
            have hic : i ≤ c := by omega
            have hr4 := hr.below hb1
            obtain ⟨q1, hq1⟩ : ∃ q, leadB l i bv bl = q := ⟨_, rfl⟩
            obtain ⟨q2, hq2⟩ : ∃ q, leadB l i bv bh = q := ⟨_, rfl⟩
            have HQ1 := Lib.hid hq1
            have HQ2 := Lib.hid hq2
            have HB1 := Lib.hid hb1
            obtain ⟨d0, d1, d2⟩ := hN1
            have HNo := Lib.hid (show ¬ (q1 = true ∧ q2 = true) → codeB n l root = 3 from fun h => by
              have h4 : nodeC n l i (bv, bl, bh) = 3 := by
                rw [HND.out, if_neg]
                rintro ⟨k1, k2⟩
                exact h ⟨hq1 ▸ decide_eq_true k1, hq2 ▸ decide_eq_true k2⟩
              rw [← HE.out (by rw [h4]; decide), h4])
            have HYes := Lib.hid (show q1 = true → q2 = true → firstC n l (i + 1) = 0 from fun h1 h2 => by
              rw [HN.out, HND.out, if_pos ⟨of_decide_eq_true (hq1.trans h1), of_decide_eq_true (hq2.trans h2)⟩])
            clear hq1 hq2 hb1
            go_wp2
            generalize wr.alloc (.cells #[.int .i64 bv, .int .i64 bl, .int .i64 bh] 52) = w4 at *
            have ca := fun q => cLeads_still l i (some ⟨g, off, none⟩) c bv bl HQ1.out (w4.drewN q) hl hi (hr4.drewN q)
            have cb := fun q => cLeads_still l i (some ⟨g, off, none⟩) c bv bh HQ2.out (w4.drewN q) hl hi (hr4.drewN q)
            cases q1 with
            | false =>
              have HC := Lib.hid (HNo.out (by simp))
              go_quiet (first
                | (go_at_call 28; with_reducible exact Calls.quiet_of_same (ca _))
                | (go_at_call 28; with_reducible exact Calls.quiet_of_same (cb _)))
              go_wp2
              go_ret
              exact ⟨ret_int HC.out.symm, below_drewN HB1.out _⟩
            | true =>
              cases q2 with
              | false =>
                have HC := Lib.hid (HNo.out (by simp))
                go_quiet (first
                  | (go_at_call 28; with_reducible exact Calls.quiet_of_same (ca _))
                  | (go_at_call 28; with_reducible exact Calls.quiet_of_same (cb _)))
                go_wp2
                go_ret
                exact ⟨ret_int HC.out.symm, below_drewN HB1.out _⟩
              | true =>
                have HZ := Lib.hid (HYes.out rfl rfl)
                go_quiet (first
                  | (go_at_call 28; with_reducible exact Calls.quiet_of_same (ca _))
                  | (go_at_call 28; with_reducible exact Calls.quiet_of_same (cb _)))
                go_wp2
                go_roundw
                case rel => exact ⟨i + 1, by go_num, by omega, HZ.out, below_drewN HB1.out _⟩
                case measure => simp [intOf]; omega
      · obtain rfl : i = l.length := by omega
        by_cases hr1 : root < 0
        · have HC := Lib.hid (show codeB n l root = 2 by unfold codeB; rw [if_neg (by simpa using HFi.out), if_neg (by omega)])
          go_wp2
          go_ret
          exact ⟨ret_int HC.out.symm, hbel⟩
        · by_cases hr2 : root < l.length + 2
          · have HC := Lib.hid (show codeB n l root = 0 by unfold codeB; rw [if_neg (by simpa using HFi.out), if_pos (by omega)])
            go_wp2
            go_ret
            exact ⟨ret_int HC.out.symm, hbel⟩
          · have HC := Lib.hid (show codeB n l root = 2 by unfold codeB; rw [if_neg (by simpa using HFi.out), if_neg (by omega)])
            go_wp2
            go_ret
            exact ⟨ret_int HC.out.symm, hbel⟩

/-- The first s elements are made. -/
def upTo (D : Nat → Bool) (s : Nat) : Nat → Bool := fun i => if i < s then D i else false
theorem upTo_zero (D : Nat → Bool) (i : Nat) : false = upTo D 0 i := by simp [upTo]
theorem upTo_succ (D : Nat → Bool) (s i : Nat) : updB (upTo D s) s (D s) i = upTo D (s + 1) i := by
  unfold updB upTo
  by_cases h : i = s
  · subst h; simp
  · by_cases h2 : i < s
    · have : i < s + 1 := by omega
      simp [h, h2, this]
    · have : ¬ i < s + 1 := by omega
      simp [h, h2, this]
theorem upTo_all (D : Nat → Bool) {s i : Nat} (h : i < s) : upTo D s i = D i := by simp [upTo, h]

set_option maxHeartbeats 2000000 in
theorem HRead_own (n : Nat) (hn : n ≤ 4) (l : List Nd) (A : Option Addr) (c : Nat) (root : Int) (w : World) (hm : l.length ≤ maxLen) (hcp : l.length ≤ c) (hr : Row w A (nodesC l)) (hc : codeD n l root = 0) :
    Calls Try.prog 12 #[.int .i64 n, .slice A l.length c, .int .i64 root] w fun e w' => ∃ g, e = .returned (.tuple #[.slice (some ⟨g, 0, none⟩) (one n) (one n), .int .i64 0]) ∧ OwnB w' w.heap.size g (one n) (tell l root) ∧ Below w.heap.size w w' := by
  have hck := cCheck_any n l A c root w hm hcp hr
  obtain ⟨k, hk1, hk, hl, hg, h0, h1⟩ := codeD_zero hc
  rw [hc] at hck
  obtain ⟨i0, hi, hz0, hz1, hz2⟩ := info_parts infoB
  have h1n := one_i64 n
  have h16 := one_le_16 hn
  have h1p := one_pos n
  have HI := Lib.hid (And.intro hi (And.intro hz0 (And.intro hz1 hz2)))
  have hk2 : k = n := by omega
  subst hk2
  clear hi hz0 hz1 hz2 hc hk1
  go_enter Try.func12, Try.ntmps12
  go_wp2_with fail
  refine hck.mono ?_
  rintro e w1 ⟨rfl, hb1⟩
  go_wp2_with (at_make; refine wpList_make_full _ rfl _ _ 22 rfl w1.heap.size 4 i0 (.bool false) 1 Try.underlying22 HI.out.1 HI.out.2.1 HI.out.2.2.1 .i64 .i64 (one k) (one k) (one k) rfl rfl rfl rfl ?b2 ?b3 (Nat.le_refl _) ?c5)
  case b2 => rw [HI.out.2.2.2]; omega
  case b3 => unfold maxLen; omega
  case c5 =>
    intro w2 hown hgrow
    have HO := Lib.hid (ownB_made hown)
    have HB := Lib.hid (hb1.grown hgrow hb1.size (by intro k hk; cases hk))
    have hsz := hb1.size
    clear hown hgrow hck
    go_wp2
    go_loopw [23] (fun v wr => ∃ s : Nat, v = .int .i64 s ∧ s ≤ one k ∧ OwnB wr w1.heap.size w1.heap.size (one k) (upTo (tell l root) s) ∧ Below w.heap.size w wr) (fun v _ => one k - (intOf v).toNat)
    case atStart => exact ⟨0, rfl, Nat.zero_le _, HO.out.congr (fun i _ => upTo_zero _ i), HB.out⟩
    case round =>
      clear HO HB
      obtain ⟨s, rfl, hs, hown, hbel⟩ := hrel
      have HO := Lib.hid hown
      clear hown
      by_cases hlt : s < one k
      · have cv := cValue_any k hn l A c root s wr hl (hr.below hbel) hg h0 h1 (by omega)
        go_wp2_with fail
        refine cv.mono ?_
        rintro e w3 ⟨rfl, hb3⟩
        have hO3 := HO.out.below hb3
        have c2 := hO3.cell hlt
        have f2 := hO3.free s
        have HO2 := Lib.hid (show OwnB _ _ _ _ (upTo (tell l root) (s + 1)) from (hO3.stored s (tell l root s)).congr (fun i _ => upTo_succ _ _ _))
        have hb4 := hbel.trans (hb3.mono hbel.size)
        clear hb3 hO3 cv
        go_wp2
        go_roundw
        case rel => exact ⟨s + 1, by go_num, by omega, HO2.out, hb4.setCell hsz _⟩
        case measure => simp [intOf]; omega
      · obtain rfl : s = one k := by omega
        go_wp2
        go_ret2
        exact ⟨_, rfl, own_rebase (HO.out.congr (fun i hi => upTo_all _ hi)) hsz, hbel⟩

set_option maxHeartbeats 1000000 in
theorem HRead_ok : HReadOk 12 := by
  intro n l A c root w hm hcp hr _
  by_cases hc : codeD n l root = 0
  · obtain ⟨k, rfl, hk, _⟩ := codeD_zero hc
    refine (HRead_own k hk l A c root w hm hcp hr hc).mono ?_
    rintro e w1 ⟨g, rfl, hown, hb⟩
    rw [hc]
    exact ⟨_, one k, tabB (one k) (tell l root), by rw [tabB_length], by simp, hown.row, hb⟩
  · have hck := cCheck_any n l A c root w hm hcp hr
    have HC := Lib.hid hc
    have hne : (codeD n l root != 0) = true := by simpa using hc
    clear hc
    generalize codeD n l root = q at *
    go_enter Try.func12, Try.ntmps12
    go_wp2_with fail
    refine hck.mono ?_
    rintro e w1 ⟨rfl, hb1⟩
    clear hck
    go_wp2
    go_ret2
    exact ⟨_, 0, [], rfl, by first | rfl | rw [if_neg HC.out], .inl rfl, hb1⟩

end Go.Proofs.Ytnoehmokaeegeaa
