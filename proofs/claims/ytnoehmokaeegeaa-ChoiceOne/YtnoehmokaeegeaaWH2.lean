/- syllogistlaw.treeCode; syllogistref.Branches, Read. -/
import Derived.Test.YtnoehmokaeegeaaWH1
import Derived.Test.YtnoehmokaeegeaaSetW
namespace Go.Proofs.Ytnoehmokaeegeaa
open Go.RowKit

set_option maxHeartbeats 1000000 in
theorem treeCode_any (n : Int) (l : List Nd) (A : Option Addr) (c : Nat) (root : Int) (w : World) (hm : l.length ≤ maxLen) (hr : Row w A (nodesC l)) :
    Calls Try.prog 13 #[.int .i64 n, .slice A l.length c, .int .i64 root] w fun e w' => e = .returned (.int .i64 (codeD n l root)) ∧ Below w.heap.size w w' := by
  have hmm : l.length < 9223372036854775808 := by unfold maxLen at hm; omega
  by_cases hL : LargeD n l.length
  · have HC := Lib.hid (show codeD n l root = 1 by unfold codeD; rw [if_pos hL])
    have HX := Lib.hid hL
    clear hL
    go_enter Try.func13, Try.ntmps13
    go_wp2_with fail
    all_goals first
      | (go_ret; exact ⟨ret_int HC.out.symm, Below.refl _ _⟩)
      | (have := HX.out; unfold LargeD at this; omega)
  · have HC := Lib.hid (show codeD n l root = codeB n l root by unfold codeD; rw [if_neg hL])
    obtain ⟨k, rfl⟩ := Int.eq_ofNat_of_zero_le (show 0 ≤ n by unfold LargeD at hL; omega)
    have hk : k ≤ 4 := by unfold LargeD at hL; omega
    have hl : l.length ≤ 20 := by unfold LargeD at hL; omega
    clear hL
    go_enter Try.func13, Try.ntmps13
    go_wp2_with fail
    refine (BranchCheck_any k hk l A c root _ hl hr).mono ?_
    rintro e w1 ⟨rfl, hb⟩
    go_wp2
    go_ret
    exact ⟨ret_int HC.out.symm, hb⟩

set_option maxHeartbeats 1000000 in
theorem Branches_any (xs ys : List Nd) (A A2 : Option Addr) (c c2 : Nat) (w : World) (h : Row w A (nodesC xs)) (h2 : Row w A2 (nodesC ys)) (hn : xs.length ≤ maxLen) (hn2 : ys.length ≤ maxLen) :
    Calls Try.prog 11 #[.slice A xs.length c, .slice A2 ys.length c2] w fun e w' => e = .returned (.bool (decide (xs = ys))) ∧ ∃ d, w' = w.drewN d := by
  have hm1 : xs.length < 9223372036854775808 := by unfold maxLen at hn; omega
  have hm2 : ys.length < 9223372036854775808 := by unfold maxLen at hn2; omega
  by_cases hl : xs.length = ys.length
  · have hd : ((xs.length : Int) != (ys.length : Int)) = false := by simp [hl]
    have HL := Lib.hid hl
    have hle : xs.length ≤ ys.length := by omega
    clear hl
    go_enter Try.func11, Try.ntmps11
    go_wp2
    go_loopw [5] (fun sv wr => ∃ k d : Nat, sv = .int .i64 k ∧ k ≤ xs.length ∧ xs.take k = ys.take k ∧ wr = w.drewN d) (fun sv _ => xs.length - (intOf sv).toNat)
    case atStart => exact ⟨0, 0, rfl, Nat.zero_le _, rfl, rfl⟩
    case round =>
      obtain ⟨k, d, rfl, hk, ht, rfl⟩ := hrel
      have HT := Lib.hid ht
      clear ht
      by_cases hlt : k < xs.length
      · obtain ⟨x, hx⟩ := get_some hlt
        obtain ⟨y, hy⟩ := get_some (show k < ys.length by omega)
        obtain ⟨b, off, rfl, a0, a1, a2⟩ := RowN.at h hx
        obtain ⟨b', off', rfl, b0, b1, b2⟩ := RowN.at h2 hy
        have HX := Lib.hid hx
        have HY := Lib.hid hy
        clear hx hy
        obtain ⟨x1, x2, x3⟩ := x
        obtain ⟨y1, y2, y3⟩ := y
        by_cases hxy : x1 = y1 ∧ x2 = y2 ∧ x3 = y3
        · obtain ⟨rfl, rfl, rfl⟩ := hxy
          have HT2 := Lib.hid (show xs.take (k + 1) = ys.take (k + 1) by rw [List.take_add_one, List.take_add_one, HT.out, HX.out, HY.out])
          go_wp2
          go_quiet (fail)
          go_wp2
          go_roundw
          case rel => exact ⟨k + 1, _, by go_num, by omega, HT2.out, by first | rfl | exact (World.drewN_drewN _ _ _)⟩
          case measure => simp [intOf]; omega
        · have HT2 := Lib.hid (show ¬ xs = ys from fun e => by
            have h1 := HX.out
            have h3 := HY.out
            rw [e, h3] at h1
            simp at h1
            exact hxy ⟨h1.1.symm, h1.2.1.symm, h1.2.2.symm⟩)
          have HXY := Lib.hid hxy
          clear hxy
          by_cases h1 : x1 = y1
          · subst h1
            by_cases h3 : x2 = y2
            · subst h3
              have h4 : (x3 == y3) = false := by
                rw [beq_eq_false_iff_ne]
                intro e
                exact HXY.out ⟨rfl, rfl, e⟩
              go_wp2
              go_quiet (fail)
              go_wp2
              go_ret
              exact ⟨ret_bool (by simpa using HT2.out), _, by first | rfl | exact (World.drewN_drewN _ _ _)⟩
            · have h4 : (x2 == y2) = false := by
                rw [beq_eq_false_iff_ne]
                exact h3
              clear h3
              go_wp2
              go_quiet (fail)
              go_wp2
              go_ret
              exact ⟨ret_bool (by simpa using HT2.out), _, by first | rfl | exact (World.drewN_drewN _ _ _)⟩
          · have h3 : (x1 == y1) = false := by
              rw [beq_eq_false_iff_ne]
              exact h1
            clear h1
            go_wp2
            go_quiet (fail)
            go_wp2
            go_ret
            exact ⟨ret_bool (by simpa using HT2.out), _, by first | rfl | exact (World.drewN_drewN _ _ _)⟩
      · obtain rfl : k = xs.length := by omega
        have HE := Lib.hid (show xs = ys by
          have := HT.out
          rw [List.take_length, HL.out, List.take_length] at this
          exact this)
        go_wp2
        go_ret
        exact ⟨ret_bool (by simpa using HE.out), d, rfl⟩
  · have hd : ((xs.length : Int) != (ys.length : Int)) = true := by simp; omega
    have HL := Lib.hid (show ¬ xs = ys from fun e => hl (by rw [e]))
    clear hl
    go_enter Try.func11, Try.ntmps11
    go_wp2
    go_ret
    exact ⟨ret_bool (by simpa using HL.out), 0, rfl⟩

set_option maxHeartbeats 2000000 in
theorem refRead_any (n : Nat) (hn : n ≤ 4) (l : List Nd) (A : Option Addr) (c : Nat) (root : Int) (w : World) (hl : l.length ≤ 20) (hr : Row w A (nodesC l)) (hg : GoodD n l) (h0 : 0 ≤ root) (hk : root < l.length + 2) :
    Calls Try.prog 15 #[.int .i64 n, .slice A l.length c, .int .i64 root] w fun e w' => ∃ v, e = .returned v ∧ OwnX w' w.heap.size v (tabB (one n) (tell l root)) ∧ Below w.heap.size w w' := by
  obtain ⟨i0, hi, hz0, hz1, hz2⟩ := info_parts infoB
  have HI := Lib.hid (And.intro hi (And.intro hz0 (And.intro hz1 hz2)))
  have h16 := one_le_16 hn
  have h1n := one_int n (by omega)
  clear hi hz0 hz1 hz2
  go_enter Try.func15, Try.ntmps15
  go_wp2
  go_loopw [7, 8] (fun v sv wr => ∃ s : Nat, sv = .int .u32 s ∧ s ≤ one n ∧ (∃ f, f = tabB s (tell l root) ∧ OwnX wr w.heap.size v f) ∧ Below w.heap.size w wr) (fun _ sv _ => one n - (intOf sv).toNat)
  case atStart => exact ⟨0, rfl, Nat.zero_le _, ⟨[], rfl, World.ownsRow_nil _ _ _ _⟩, Below.refl _ _⟩
  case round =>
    obtain ⟨s, rfl, hs, ⟨f, hf, hown⟩, hbel⟩ := hrel
    have hfl : f.length ≤ 16 := by rw [hf]; simp; omega
    have hsz := hbel.size
    have HF := Lib.hid hf
    have HO := Lib.hid (show _root_.Go.World.ownsRow _ w.heap.size 4 1 _ f.length (boolsC f) from hown)
    clear hf hown
    by_cases hlt : s < one n
    · have HS := Lib.hid (show tabB (s + 1) (tell l root) = f ++ [tell l root s] by rw [tabB_succ, HF.out])
      have ht := Tells_any n hn l A c s wr (by omega) hl (hr.below hbel) hg _ root (Nat.le_refl _) h0 hk
      generalize tell l root s = x at ht HS
      go_wp2_with fail
      refine ht.mono ?_
      rintro e w2 ⟨rfl, rfl⟩
      obtain ⟨hi, hz0, hz1, hz2⟩ := HI.out
      go_wp2_with (first | (at_builtin; refine wpList_append_lies _ rfl _ _ 22 rfl w.heap.size 4 i0 (.bool false) 1 1 Try.underlying22 hi hz0 hz1 hz2 rfl (by decide) _ _ _ rfl (HO.out.alloc _) ⟨_, 0, none⟩ 1 1 [.bool x] rfl rfl (cell_one_new _ _ _) ?c1 (by decide) ?c2 ?c3 ?c4 _ rfl ?c6))
      case c1 => intro u hu; simp at hu; subst hu; rfl
      case c2 => unfold maxLen; omega
      case c3 => omega
      case c4 => simp; omega
      case c6 =>
        intro g3 cap3 w5 hown5 hgrow5 hat5 hlt5
        have hb7 := (hbel.alloc hsz _).grown hgrow5 (by simp; omega) (fun k hk => (World.ownsRow.lt HO.out k hk).1)
        have HO5 := Lib.hid hown5
        clear hown5 hgrow5 hat5
        go_wp2
        go_roundw
        case rel =>
          refine ⟨s + 1, by go_num, by omega, ⟨_, HS.out.symm, ?_⟩, hb7⟩
          unfold OwnX
          rw [boolsC_append, List.length_append]
          exact HO5.out
        case measure => simp [intOf]; omega
    · obtain rfl : s = one n := by omega
      go_wp2
      go_ret
      exact ⟨_, rfl, by rw [← HF.out]; exact HO.out, hbel⟩

end Go.Proofs.Ytnoehmokaeegeaa
