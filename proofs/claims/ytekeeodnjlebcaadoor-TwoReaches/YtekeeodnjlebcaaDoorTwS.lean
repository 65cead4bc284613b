/- syllogistref.Said (this text is written by wip/mkTwS.py). -/
import Derived.Test.YtekeeodnjlebcaaDoorTwA
namespace Go.Proofs.YtekeeodnjlebcaaDoor
open Go.RowKit

theorem cell_kp' {w w' : World} {b o : Nat} {v : Value} (hb : Below w.heap.size w w') (h : w.cell? ⟨b, o, none⟩ = some v) : w'.cell? ⟨b, o, none⟩ = some v :=
  (hb.cell (p := ⟨b, o, none⟩) (block_lt_of_cell h)).trans h
theorem natB (a b : Nat) : ((a : Int) == (b : Int)) = (a == b) := by
  rw [Bool.eq_iff_iff, beq_iff_eq, beq_iff_eq]
  omega
theorem len_two {L : List Nat} (h : L.length = 2) : ∃ a b, L = [a, b] := by
  match L, h with
  | [a, b], _ => exact ⟨a, b, rfl⟩
theorem litsK_bits {n : Nat} {c : Cla} {k : Nat} {x y : Bool} (hx : c.1.testBit k = x) (hy : c.2.testBit k = y) : litsK n c (k + 1) = litsK n c k ++ ((if x = true then [k] else []) ++ (if y = true then [k + n] else [])) := by
  rw [litsK_succ, hx, hy]
theorem litsK_short (n : Nat) (c : Cla) : ∀ k, (litsK n c k).length ≤ 2 * k
  | 0 => by simp [litsK]
  | k + 1 => by
    have := litsK_short n c k
    rw [litsK_succ, List.length_append, List.length_append]
    cases c.1.testBit k <;> cases c.2.testBit k <;> simp <;> omega

set_option maxHeartbeats 2000000 in
theorem Said_any (n : Nat) (hn : n ≤ 6) (c1 c2 i j : Nat) (w : World) (h1 : c1 < 4294967296) (h2 : c2 < 4294967296) (hi : i < n + n) (hs : (litsK n (c1, c2) n).length = 1 ∨ (litsK n (c1, c2) n).length = 2) :
    Calls Tryd.prog 19 #[.int .i64 n, .agg #[.int .u32 c1, .int .u32 c2], .int .i64 i, .int .i64 j] w fun e w' => e = .returned (.bool (saidB n (c1, c2) i j)) ∧ Below w.heap.size w w' := by
  have hb0 := (Below.refl w.heap.size w).alloc (Nat.le_refl _) (.cells #[.int .u32 (c1 : Int), .int .u32 (c2 : Int)] 37)
  obtain ⟨z0, z1⟩ := two_cells (heap_alloc_new w (.cells #[.int .u32 (c1 : Int), .int .u32 (c2 : Int)] 37))
  obtain ⟨i0, hi0, hz0, hz1, hz2⟩ := info_parts info3
  have HI := Lib.hid (And.intro hi0 (And.intro hz0 (And.intro hz1 hz2)))
  have HSz := Lib.hid hs
  clear hi0 hz0 hz1 hz2 hs
  go_enter Tryd.func19, Tryd.ntmps19
  go_wp2
  generalize w.alloc (.cells #[.int .u32 (c1 : Int), .int .u32 (c2 : Int)] 37) = w1 at *
  go_loopw [9, 10] (fun lv vv wr => ∃ v : Nat, vv = .int .i64 v ∧ v ≤ n ∧ (∃ u, u = nats (litsK n (c1, c2) v) ∧ OwnI wr w1.heap.size lv u) ∧ Below w1.heap.size w1 wr) (fun _ vv _ => n - (intOf vv).toNat)
  case atStart => exact ⟨0, rfl, Nat.zero_le _, ⟨[], rfl, World.ownsRow_nil _ _ _ _⟩, Below.refl _ _⟩
  case round =>
    obtain ⟨v, rfl, hv, ⟨u, hu, hown⟩, hbel⟩ := hrel
    have hul : u.length ≤ 12 := by rw [hu]; have := litsK_short n (c1, c2) v; simp [nats]; omega
    have HU := Lib.hid hu
    have HO := Lib.hid (show OwnI _ w1.heap.size _ u from hown)
    have hsz := hbel.size
    clear hu hown
    by_cases hlt : v < n
    · have e1 := cell_kp' hbel z0
      obtain ⟨b1, hb1⟩ : ∃ b, c1.testBit v = b := ⟨_, rfl⟩
      obtain ⟨b2, hb2⟩ : ∃ b, c2.testBit v = b := ⟨_, rfl⟩
      have HStep := Lib.hid (litsK_bits (n := n) (c := (c1, c2)) hb1 hb2)
      go_wp2_with fail
      refine (Bit_any c1 v (by omega) h1 _).mono ?_
      rintro e w2 ⟨rfl, rfl⟩
      rw [hb1]
      clear hb1
      cases b1 with
      | true =>
          obtain ⟨hi0, hz0, hz1, hz2⟩ := HI.out
          go_wp2_with (first | (at_builtin; refine wpList_append_lies _ rfl _ _ 41 rfl w1.heap.size 3 i0 (.int .i64 0) 1 8 Tryd.underlying41 hi0 hz0 hz1 hz2 rfl (by decide) _ _ _ rfl (World.ownsRow.alloc HO.out _) ⟨_, 0, none⟩ 1 1 [.int .i64 ((v : Int))] rfl rfl (cell_one_new _ _ _) ?c1 (by decide) ?c2 ?c3 ?c4 _ rfl ?c6))
          case c1 => intro u hu; simp at hu; subst hu; rfl
          case c2 => first | (unfold maxLen; omega) | (simp; unfold maxLen; omega)
          case c3 => first | omega | (simp; omega)
          case c4 => simp; omega
          case c6 =>
            intro g5 cap5 w5 hown5 hgrow5 hat5 hlt5
            have HB5 := Lib.hid (show Below w1.heap.size w1 w5 from (hbel.alloc (by omega) _).grown hgrow5 (by simp; omega) (fun k hk => (World.ownsRow.lt HO.out k hk).1))
            have HO5 := Lib.hid (show OwnI w5 w1.heap.size (.slice (some ⟨g5, 0, none⟩) (u.length + 1) cap5) (u ++ [(v : Int)]) by
              unfold OwnI
              rw [ints_append]
              simp only [List.length_append, List.length_cons, List.length_nil, Nat.zero_add] at hown5 ⊢
              exact hown5)
            have hsz5 := HB5.out.size
            clear hown5 hgrow5 hat5 hi0 hz0 hz1 hz2
            have e2 := cell_kp' HB5.out z1
            go_wp2_with fail
            refine (Bit_any c2 v (by omega) h2 _).mono ?_
            rintro e w6 ⟨rfl, rfl⟩
            rw [hb2]
            cases b2 with
            | true =>
              obtain ⟨hi0, hz0, hz1, hz2⟩ := HI.out
              go_wp2_with (first | (at_builtin; refine wpList_append_lies _ rfl _ _ 41 rfl w1.heap.size 3 i0 (.int .i64 0) 1 8 Tryd.underlying41 hi0 hz0 hz1 hz2 rfl (by decide) _ _ _ rfl (World.ownsRow.alloc HO5.out _) ⟨_, 0, none⟩ 1 1 [.int .i64 ((v : Int) + (n : Int))] rfl rfl (cell_one_new _ _ _) ?c1 (by decide) ?c2 ?c3 ?c4 _ rfl ?c6))
              case c1 => intro u hu; simp at hu; subst hu; rfl
              case c2 => first | (unfold maxLen; omega) | (simp; unfold maxLen; omega)
              case c3 => first | omega | (simp; omega)
              case c4 => simp; omega
              case c6 =>
                intro g7 cap7 w7 hown7 hgrow7 hat7 hlt7
                have HB7 := Lib.hid (show Below w1.heap.size w1 w7 from (HB5.out.alloc (by omega) _).grown hgrow7 (by simp; omega) (fun k hk => (World.ownsRow.lt HO5.out k hk).1))
                have HO7 := Lib.hid (show OwnI w7 w1.heap.size (.slice (some ⟨g7, 0, none⟩) ((u.length + 1) + 1) cap7) (u ++ [(v : Int)] ++ [(v : Int) + (n : Int)]) by
                  unfold OwnI
                  rw [ints_append]
                  simp only [List.length_append, List.length_cons, List.length_nil, Nat.zero_add] at hown7 ⊢
                  exact hown7)
                have hsz7 := HB7.out.size
                clear hown7 hgrow7 hat7 hi0 hz0 hz1 hz2
                go_wp2
                go_roundw
                case rel => exact ⟨v + 1, by go_num, by omega, ⟨u ++ [(v : Int)] ++ [(v : Int) + (n : Int)], by rw [HStep.out, HU.out]; simp [nats], by first | exact HO7.out | (simpa using HO7.out)⟩, HB7.out⟩
                case measure => simp [intOf]; omega
            | false =>
              go_wp2
              go_roundw
              case rel => exact ⟨v + 1, by go_num, by omega, ⟨u ++ [(v : Int)], by rw [HStep.out, HU.out]; simp [nats], by first | exact HO5.out | (simpa using HO5.out)⟩, HB5.out⟩
              case measure => simp [intOf]; omega
      | false =>
        have e2 := cell_kp' hbel z1
        go_wp2_with fail
        refine (Bit_any c2 v (by omega) h2 _).mono ?_
        rintro e w6 ⟨rfl, rfl⟩
        rw [hb2]
        cases b2 with
        | true =>
          obtain ⟨hi0, hz0, hz1, hz2⟩ := HI.out
          go_wp2_with (first | (at_builtin; refine wpList_append_lies _ rfl _ _ 41 rfl w1.heap.size 3 i0 (.int .i64 0) 1 8 Tryd.underlying41 hi0 hz0 hz1 hz2 rfl (by decide) _ _ _ rfl (World.ownsRow.alloc HO.out _) ⟨_, 0, none⟩ 1 1 [.int .i64 ((v : Int) + (n : Int))] rfl rfl (cell_one_new _ _ _) ?c1 (by decide) ?c2 ?c3 ?c4 _ rfl ?c6))
          case c1 => intro u hu; simp at hu; subst hu; rfl
          case c2 => first | (unfold maxLen; omega) | (simp; unfold maxLen; omega)
          case c3 => first | omega | (simp; omega)
          case c4 => simp; omega
          case c6 =>
            intro g7 cap7 w7 hown7 hgrow7 hat7 hlt7
            have HB7 := Lib.hid (show Below w1.heap.size w1 w7 from (hbel.alloc (by omega) _).grown hgrow7 (by simp; omega) (fun k hk => (World.ownsRow.lt HO.out k hk).1))
            have HO7 := Lib.hid (show OwnI w7 w1.heap.size (.slice (some ⟨g7, 0, none⟩) (u.length + 1) cap7) (u ++ [(v : Int) + (n : Int)]) by
              unfold OwnI
              rw [ints_append]
              simp only [List.length_append, List.length_cons, List.length_nil, Nat.zero_add] at hown7 ⊢
              exact hown7)
            have hsz7 := HB7.out.size
            clear hown7 hgrow7 hat7 hi0 hz0 hz1 hz2
            go_wp2
            go_roundw
            case rel => exact ⟨v + 1, by go_num, by omega, ⟨u ++ [(v : Int) + (n : Int)], by rw [HStep.out, HU.out]; simp [nats], by first | exact HO7.out | (simpa using HO7.out)⟩, HB7.out⟩
            case measure => simp [intOf]; omega
        | false =>
          go_wp2
          go_roundw
          case rel => exact ⟨v + 1, by go_num, by omega, ⟨u, by rw [HStep.out, HU.out]; simp [nats], by first | exact HO.out | (simpa using HO.out)⟩, hbel⟩
          case measure => simp [intOf]; omega
    · obtain rfl : v = n := by omega
      have hbw := hb0.trans (hbel.mono hb0.size)
      obtain ⟨q, hq⟩ : ∃ q, neg v i = q := ⟨_, rfl⟩
      have HSaid := Lib.hid (show saidB v (c1, c2) i j = saidL (litsK v (c1, c2) v) q j by unfold saidB; rw [hq])
      have HQ := Lib.hid hq
      clear hq
      rcases HSz.out with hL | hL
      · obtain ⟨a, ha⟩ : ∃ a, litsK v (c1, c2) v = [a] := List.length_eq_one_iff.1 hL
        obtain rfl : u = [(a : Int)] := by rw [HU.out, ha]; rfl
        obtain ⟨A5, c5, rfl, hrow5, _⟩ := OwnI.row HO.out
        obtain ⟨g, o, rfl, hc⟩ := hrow5.at (k := 0) (by simp)
        have d0 := hc 0 _ (ints_at (xs := [(a : Int)]) (k := 0) (y := (a : Int)) rfl)
        obtain ⟨x1, k1⟩ : ∃ x, ((a : Int) == (q : Int)) = x := ⟨_, rfl⟩
        obtain ⟨x2, k2⟩ : ∃ x, ((a : Int) == (j : Int)) = x := ⟨_, rfl⟩
        have HR := Lib.hid (show saidB v (c1, c2) i j = (x1 && x2) by
          rw [HSaid.out, ha, ← k1, ← k2, natB, natB]
          simp [saidL])
        rw [Nat.add_zero] at d0
        clear hL ha hc HO hrow5
        by_cases hiv : i < v
        · have eq : (i : Int) + (v : Int) = (q : Int) := by rw [← HQ.out]; unfold neg; rw [if_pos hiv]; omega
          rw [← eq] at k1
          clear eq
          cases x1 <;> cases x2
          all_goals
            go_wp2
            go_ret
            exact ⟨ret_bool (by rw [HR.out]; first | rfl | simp [*]), hbw⟩
        · have eq : (i : Int) - (v : Int) = (q : Int) := by rw [← HQ.out]; unfold neg; rw [if_neg hiv]; omega
          rw [← eq] at k1
          clear eq
          cases x1 <;> cases x2
          all_goals
            go_wp2
            go_ret
            exact ⟨ret_bool (by rw [HR.out]; first | rfl | simp [*]), hbw⟩
      · obtain ⟨a, b, hab⟩ : ∃ a b, litsK v (c1, c2) v = [a, b] := len_two hL
        obtain rfl : u = [(a : Int), (b : Int)] := by rw [HU.out, hab]; rfl
        obtain ⟨A5, c5, rfl, hrow5, _⟩ := OwnI.row HO.out
        obtain ⟨g, o, rfl, hc⟩ := hrow5.at (k := 0) (by simp)
        have d0 := hc 0 _ (ints_at (xs := [(a : Int), (b : Int)]) (k := 0) (y := (a : Int)) rfl)
        have d1 := hc 1 _ (ints_at (xs := [(a : Int), (b : Int)]) (k := 1) (y := (b : Int)) rfl)
        obtain ⟨x1, k1⟩ : ∃ x, ((a : Int) == (q : Int)) = x := ⟨_, rfl⟩
        obtain ⟨x2, k2⟩ : ∃ x, ((b : Int) == (j : Int)) = x := ⟨_, rfl⟩
        obtain ⟨x3, k3⟩ : ∃ x, ((b : Int) == (q : Int)) = x := ⟨_, rfl⟩
        obtain ⟨x4, k4⟩ : ∃ x, ((a : Int) == (j : Int)) = x := ⟨_, rfl⟩
        have HR := Lib.hid (show saidB v (c1, c2) i j = ((x1 && x2) || (x3 && x4)) by
          rw [HSaid.out, hab, ← k1, ← k2, ← k3, ← k4, natB, natB, natB, natB]
          simp [saidL])
        rw [Nat.add_zero] at d0
        clear hL hab hc HO hrow5
        by_cases hiv : i < v
        · have eq : (i : Int) + (v : Int) = (q : Int) := by rw [← HQ.out]; unfold neg; rw [if_pos hiv]; omega
          rw [← eq] at k1 k3
          clear eq
          cases x1 <;> cases x2 <;> cases x3 <;> cases x4
          all_goals
            go_wp2
            go_ret
            exact ⟨ret_bool (by rw [HR.out]; first | rfl | simp [*]), hbw⟩
        · have eq : (i : Int) - (v : Int) = (q : Int) := by rw [← HQ.out]; unfold neg; rw [if_neg hiv]; omega
          rw [← eq] at k1 k3
          clear eq
          cases x1 <;> cases x2 <;> cases x3 <;> cases x4
          all_goals
            go_wp2
            go_ret
            exact ⟨ret_bool (by rw [HR.out]; first | rfl | simp [*]), hbw⟩

end Go.Proofs.YtekeeodnjlebcaaDoor
