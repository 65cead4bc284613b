/- downs.read, downs.Fill, downs.Edge, downs.All, downs.Many. -/
import Derived.Test.YtmlggmopkelcfaaDoorWFill
import Derived.Test.YtmlggmopkelcfaaDoorWU
namespace Go.Proofs.YtmlggmopkelcfaaDoor
open Go.RowKit

/-- What the shift leaves. -/
theorem shr_iff {s n : Nat} : ((s : Int) / 2 ^ n != 0) = !decide (s < one n) := by
  have e : (s : Int) / 2 ^ n = ((s / 2 ^ n : Nat) : Int) := by simp
  have h : s / 2 ^ n = 0 ↔ s < one n := Nat.div_eq_zero_iff_lt (x := s) (Nat.two_pow_pos n)
  rw [e, Bool.eq_iff_iff]
  simp only [bne_iff_ne, ne_eq, Bool.not_eq_true', decide_eq_false_iff_not, ← h]
  generalize s / 2 ^ n = q
  omega

theorem codeS_zero {n : Nat} {ps : List (Int × Int)} {s : Nat} (h : codeS n ps s = 0) : code n ps = 0 ∧ s < one n := by
  by_cases h0 : code n ps = 0
  · refine ⟨h0, ?_⟩
    apply Classical.byContradiction
    intro hk
    rw [codeS_no h0 hk] at h
    omega
  · rw [codeS_err h0] at h
    exact absurd h h0
theorem codeS_nat {n : Int} {ps : List (Int × Int)} {s : Nat} (h : codeS n ps s = 0) : ∃ k : Nat, n = k ∧ 1 ≤ k ∧ k ≤ 6 ∧ code k ps = 0 ∧ s < one k := by
  have h0 : code n ps = 0 := by
    apply Classical.byContradiction
    intro h0
    rw [codeS_err h0] at h
    exact h0 h
  have h2 := (code_zero h0).1
  obtain ⟨k, rfl⟩ := Int.eq_ofNat_of_zero_le (show 0 ≤ n by unfold Large at h2; omega)
  obtain ⟨hn1, hn6, hl⟩ : 1 ≤ k ∧ k ≤ 6 ∧ ps.length ≤ 20 := by unfold Large at h2; omega
  exact ⟨k, rfl, hn1, hn6, codeS_zero h⟩

/-- The loop of All. -/
def AllP (n : Nat) (ps : List (Int × Int)) (w w2 : World) (v sv : Value) (wr : World) : Prop :=
  ∃ k : Nat, sv = .int .u32 k ∧ k ≤ one n ∧ (∃ l, l = downL n ps k ∧ OwnU wr w2.heap.size v l) ∧ Below w2.heap.size w2 wr ∧ Below w.heap.size w wr

set_option maxHeartbeats 1000000 in
theorem All_ok : AllOk 17 := by
  intro n ps A c w hm hr _
  by_cases hc : code n ps = 0
  · rw [hc, if_pos rfl]
    have h2 := (code_zero hc).1
    obtain ⟨n, rfl⟩ := Int.eq_ofNat_of_zero_le (show 0 ≤ n by unfold Large at h2; omega)
    obtain ⟨hn1, hn6, hl⟩ : 1 ≤ n ∧ n ≤ 6 ∧ ps.length ≤ 20 := by unfold Large at h2; omega
    rw [Int.toNat_natCast]
    obtain ⟨i0, hi, hz0, hz1, hz2⟩ := info_parts info29
    have HI := Lib.hid (And.intro hi (And.intro hz0 (And.intro hz1 hz2)))
    have HC := Lib.hid hc
    have h64 := one_le_64 hn6
    have h1n := one_int n (by omega)
    clear h2 hc hi hz0 hz1 hz2
    go_enter Tryd.func17, Tryd.ntmps17
    go_wp2_with fail
    refine (Table_ok n ps A c _ hm hr HC.out).mono ?_
    rintro e w1 ⟨g, rfl, hown, hb1⟩
    have HO := Lib.hid hown
    clear hown
    go_wp2_with fail
    refine (dnReverse_any n (upT n ps) _ _ _ HO.out.tab hn1 hn6 (fun a _ => upT_u32 hn6 ps a)).mono ?_
    rintro e w2 ⟨rfl, hown, hb2⟩
    have HO2 := Lib.hid hown
    have hb02 := hb1.trans (hb2.mono hb1.size)
    have hsz2 := hb02.size
    clear hown hb1 hb2 HO
    go_wp2
    rw [h1n]
    clear h1n
    go_loopw [9, 24] (fun v sv wr => AllP n ps w w2 v sv wr) (fun _ sv _ => one n - (intOf sv).toNat)
    case atStart => exact ⟨0, rfl, Nat.zero_le _, ⟨[], rfl, World.ownsRow_nil _ _ _ _⟩, Below.refl _ _, hb02⟩
    case round =>
      clear hb02
      obtain ⟨k, rfl, hk, ⟨u, hu, hown⟩, hb2, hbel⟩ := hrel
      have hul : u.length ≤ 64 := by rw [hu]; have := downL_len n ps k; omega
      have HU := Lib.hid hu
      have HO := Lib.hid (show _root_.Go.World.ownsRow _ w2.heap.size 27 1 _ u.length (words u) from hown)
      clear hu hown
      by_cases hlt : k < one n
      · have HT := Lib.hid (HO2.out.below hb2).tab
        have HK := Lib.hid hlt
        have HV := Lib.hid (fillP_all (ps := ps) hlt)
        have hsz3 := hb2.size
        cases hd : downB n ps k with
        | true =>
          have HS := Lib.hid (downL_yes hd)
          have hne : ((fillW n ps k : Int) == (k : Int)) = true := by rw [(fill_iff hlt).2 hd]; simp
          clear hd
          obtain ⟨hi, hz0, hz1, hz2⟩ := HI.out
          go_wp2_with fail
          refine (fill_any n k (rev n (upT n ps)) _ _ _ HT.out hn1 hn6 HK.out (fun a => rev_lt _ _ a)).mono ?_
          rintro e w3 ⟨rfl, rfl⟩
          rw [HV.out]
          go_wp2_with (first | (at_builtin; refine wpList_append_lies _ rfl _ _ 36 rfl w2.heap.size 27 i0 (.int .u32 0) 1 4 Tryd.underlying36 hi hz0 hz1 hz2 rfl (by decide) _ _ _ rfl (HO.out.alloc _) ⟨_, 0, none⟩ 1 1 [.int .u32 k] rfl rfl (cell_one_new _ _ _) ?c1 (by decide) ?c2 ?c3 ?c4 _ rfl ?c6))
          case c1 => intro u hu; simp at hu; subst hu; rfl
          case c2 => unfold maxLen; omega
          case c3 => omega
          case c4 => simp; omega
          case c6 =>
            intro g3 cap3 w4 hown4 hgrow4 hat4 hlt4
            have HG4 := Lib.hid hgrow4
            have HO4 := Lib.hid hown4
            clear hown4 hgrow4 hat4 hi hz0 hz1 hz2
            go_wp2
            go_roundw
            case rel =>
              have hlt := fun k hk => (World.ownsRow.lt HO.out k hk).1
              refine ⟨k + 1, by go_num, by omega, ⟨u ++ [k], by rw [HS.out, HU.out], ?_⟩, ?_, ?_⟩
              · unfold OwnU
                rw [words_append, List.length_append]
                exact HO4.out
              · exact (hb2.alloc hsz3 _).grown HG4.out (by simp; omega) hlt
              · exact (hbel.alloc (by omega) _).grown HG4.out (by simp; omega) (fun k hk => by have := hlt k hk; omega)
            case measure => simp [intOf]; omega
        | false =>
          have HS := Lib.hid (downL_no hd)
          have hne : ((fillW n ps k : Int) == (k : Int)) = false := by
            rw [beq_eq_false_iff_ne]
            intro e
            rw [(fill_iff hlt).1 (by omega)] at hd
            cases hd
          clear hd
          go_wp2_with fail
          refine (fill_any n k (rev n (upT n ps)) _ _ _ HT.out hn1 hn6 HK.out (fun a => rev_lt _ _ a)).mono ?_
          rintro e w3 ⟨rfl, rfl⟩
          rw [HV.out]
          go_wp2
          go_roundw
          case rel =>
            exact ⟨k + 1, by go_num, by omega, ⟨u, by rw [HS.out, HU.out], HO.out⟩, hb2, hbel⟩
          case measure => simp [intOf]; omega
      · have hke : k = one n := by omega
        subst hke
        obtain ⟨A5, c5, rfl, hrow5, _⟩ := OwnU.row HO.out
        have HR5 := Lib.hid hrow5
        clear HO hrow5
        go_wp2
        go_ret2
        exact ⟨A5, c5, u, rfl, HU.out, HR5.out, hbel⟩
  · rw [if_neg hc]
    have hk : (code n ps != 0) = true := by simpa using hc
    have HC := Lib.hid hc
    clear hc
    go_enter Tryd.func17, Tryd.ntmps17
    go_wp2_with fail
    refine (Table_err n ps A c _ hm hr HC.out).mono ?_
    rintro e w1 ⟨rfl, hb1⟩
    go_wp2
    go_ret2
    exact ⟨none, 0, [], rfl, rfl, .inl rfl, hb1⟩
theorem Many_ok : ManyOk 8 := by
  intro n ps A c w hm hr hX
  generalize hq : (if code n ps = 0 then cntW (downB n.toNat ps) (one n.toNat) else 0) = q
  have HQ := Lib.hid hq
  clear hq
  go_enter Tryd.func8, Tryd.ntmps8
  go_wp2_with fail
  refine (All_ok n ps A c _ hm hr hX).mono ?_
  rintro e w1 ⟨A2, c2, l, rfl, hl, _, hb1⟩
  have HL := Lib.hid (show l.length = q by rw [← HQ.out, hl]; split <;> rfl)
  clear hl
  go_wp2
  go_ret2
  exact ⟨by rw [HL.out]; rfl, hb1⟩
end Go.Proofs.YtmlggmopkelcfaaDoor
