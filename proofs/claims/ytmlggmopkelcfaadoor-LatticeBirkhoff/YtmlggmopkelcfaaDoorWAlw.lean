/- lattice.distributes, lattice.always. -/
import Derived.Test.YtmlggmopkelcfaaDoorWJoin
namespace Go.Proofs.YtmlggmopkelcfaaDoor
open Go.RowKit

/-- Does the law of distribution hold at a, b, c? -/
noncomputable def distB (n : Nat) (ps : List (Int × Int)) (a b c : Nat) : Bool := decide (mt n ps a (jn n ps b c) = jn n ps (mt n ps a b) (mt n ps a c))

set_option maxHeartbeats 2000000 in
theorem dist_any (n : Nat) (ps : List (Int × Int)) (A : Option Addr) (k Bj Bm a b c : Nat) (Vj Vm : Value) (w : World) (hL : latB n ps = true) (hj : MatR w Bj Vj n (jn n ps)) (hm : MatR w Bm Vm n (mt n ps)) (ha : a < n) (hb : b < n) (hc : c < n) :
    Calls Tryd.prog 11 #[.agg #[.slice A n k, Vj, Vm], .int .i64 a, .int .i64 b, .int .i64 c] w fun e w' => e = .returned (.bool (distB n ps a b c)) ∧ Below w.heap.size w w' := by
  have hb1 := (Below.refl w.heap.size w).alloc (Nat.le_refl _) (.cells #[.slice A n k, Vj, Vm] 39)
  have h3 := three_new w (.slice A n k) Vj Vm 39
  have hj1 := hj.below hb1
  have hm1 := hm.below hb1
  obtain ⟨gj, rfl⟩ := hj.shape
  obtain ⟨gm, rfl⟩ := hm.shape
  obtain ⟨gj', blj, ej, _, _, j1, j2⟩ := hj1
  obtain ⟨gm', blm, em, _, _, m1, m2⟩ := hm1
  obtain rfl : gj = gj' := by simpa using ej
  obtain rfl : gm = gm' := by simpa using em
  obtain ⟨x, hx⟩ : ∃ x, x = jn n ps b c := ⟨_, rfl⟩
  obtain ⟨y, hy⟩ : ∃ y, y = mt n ps a b := ⟨_, rfl⟩
  obtain ⟨z, hz⟩ : ∃ z, z = mt n ps a c := ⟨_, rfl⟩
  have hxn : x < n := by rw [hx]; exact (jn_isJ hL hb hc).2.lt
  have hyn : y < n := by rw [hy]; exact (mt_isM hL ha hb).2.lt
  have hzn : z < n := by rw [hz]; exact (mt_isM hL ha hc).2.lt
  obtain ⟨p, hp⟩ : ∃ p, p = mt n ps a x := ⟨_, rfl⟩
  obtain ⟨q, hq⟩ : ∃ q, q = jn n ps y z := ⟨_, rfl⟩
  have f1 := m1 a ha
  have f2 := j1 b hb
  have f3 := j2 b c hb hc
  have f4 := m2 a x ha hxn
  have f5 := m2 a b ha hb
  have f6 := j1 y hyn
  have f7 := m2 a c ha hc
  have f8 := j2 y z hyn hzn
  rw [← hx] at f3
  rw [← hy] at f5
  rw [← hz] at f7
  rw [← hp] at f4
  rw [← hq] at f8
  have HR := Lib.hid (show distB n ps a b c = decide (p = q) by unfold distB; rw [hp, hq, hx, hy, hz])
  have HB1 := Lib.hid hb1
  have c0 := h3.c0
  have c1 := h3.c1
  have c2 := h3.c2
  clear hx hy hz hp hq j1 j2 m1 m2 ej em hj hm hL hb1 h3
  go_enter Tryd.func11, Tryd.ntmps11
  go_wp2
  obtain ⟨s, hs⟩ : ∃ s, s = w.heap.size := ⟨_, rfl⟩
  have HS := Lib.hid hs
  rw [← hs] at c0 c1 c2 ⊢
  generalize w.alloc (.cells #[.slice A n k, .slice (some ⟨gj, 0, none⟩) n n, .slice (some ⟨gm, 0, none⟩) n n] 39) = w1 at *
  clear hs
  go_quiet (fail)
  go_wp2
  go_ret
  refine ⟨ret_bool ?_, below_drewN HB1.out _⟩
  rw [HR.out, Bool.eq_iff_iff, beq_iff_eq, decide_eq_true_iff]
  omega

/-- Something holds for any three of n things. -/
noncomputable def allB (n : Nat) (h : Nat → Nat → Nat → Bool) : Bool := @decide (∀ a b c, a < n → b < n → c < n → h a b c = true) (Classical.propDecidable _)
def AlwP (n : Nat) (h : Nat → Nat → Nat → Bool) (i j k : Nat) : Prop := ∀ a b c, a < n → b < n → c < n → (a < i ∨ a = i ∧ (b < j ∨ b = j ∧ c < k)) → h a b c = true

theorem allB_no {n : Nat} {h : Nat → Nat → Nat → Bool} {a b c : Nat} (ha : a < n) (hb : b < n) (hc : c < n) (hh : h a b c = false) : allB n h = false := by
  unfold allB
  refine @decide_eq_false _ (Classical.propDecidable _) fun k => ?_
  have := k a b c ha hb hc
  rw [hh] at this
  cases this
theorem allB_yes {n : Nat} {h : Nat → Nat → Nat → Bool} (k : AlwP n h n 0 0) : allB n h = true := by
  unfold allB
  exact @decide_eq_true _ (Classical.propDecidable _) fun a b c ha hb hc => k a b c ha hb hc (.inl ha)
/-- The loops of always: the world. -/
def AlwW (n : Nat) (A : Option Addr) (k : Nat) (w wr : World) : Prop := wr.cell? ⟨w.heap.size, 0, none⟩ = some (.slice A n k) ∧ Below w.heap.size w wr
theorem AlwW.below {n : Nat} {A : Option Addr} {k : Nat} {w wr w' : World} (h : AlwW n A k w wr) (hb : Below wr.heap.size wr w') : AlwW n A k w w' :=
  ⟨cell_below hb (block_lt_of_cell h.1) h.1, h.2.trans (hb.mono h.2.size)⟩

set_option maxHeartbeats 2000000 in
theorem always_any (n : Nat) (A : Option Addr) (k gj gm g : Nat) (fst lb : Array Value) (h : Nat → Nat → Nat → Bool) (w : World) (hn6 : n ≤ 6)
    (eg : ∀ args w, (callFunc g args).run Tryd.prog w = .ok (.enter g args) w)
    (hf : ∀ (a b c : Nat) (W : World), a < n → b < n → c < n → Below w.heap.size w W → Calls Tryd.prog g (fst ++ (#[.int .i64 a, .int .i64 b, .int .i64 c] ++ lb)) W fun e W' => e = .returned (.bool (h a b c)) ∧ Below W.heap.size W W') :
    Calls Tryd.prog 10 #[.agg #[.slice A n k, .slice (some ⟨gj, 0, none⟩) n n, .slice (some ⟨gm, 0, none⟩) n n], .func (.func g) fst lb] w fun e w' => e = .returned (.bool (allB n h)) ∧ Below w.heap.size w w' := by
  have HF := Lib.hid hf
  clear hf
  have hb1 := (Below.refl w.heap.size w).alloc (Nat.le_refl _) (.cells #[.slice A n k, .slice (some ⟨gj, 0, none⟩) n n, .slice (some ⟨gm, 0, none⟩) n n] 39)
  have h3 := three_new w (.slice A n k) (.slice (some ⟨gj, 0, none⟩) n n) (.slice (some ⟨gm, 0, none⟩) n n) 39
  have c0 := h3.c0
  have HB1 := Lib.hid hb1
  clear hb1 h3
  go_enter Tryd.func10, Tryd.ntmps10
  go_wp2
  go_loopw [11] (fun v wr => ∃ i : Nat, v = .int .i64 i ∧ i ≤ n ∧ AlwP n h i 0 0 ∧ AlwW n A k w wr) (fun v _ => n - (intOf v).toNat)
  case atStart => exact ⟨0, rfl, Nat.zero_le _, fun a b c _ _ _ hx => by omega, c0, HB1.out⟩
  case round =>
    clear c0 HB1
    obtain ⟨i, rfl, hi, hp, hw⟩ := hrel
    have HP := Lib.hid hp
    have HW := Lib.hid hw
    clear hp
    by_cases hlt : i < n
    · have cb := hw.1
      clear hw
      go_wp2
      go_loopw [17] (fun v wr => ∃ j : Nat, v = .int .i64 j ∧ j ≤ n ∧ AlwP n h i j 0 ∧ AlwW n A k w wr) (fun v _ => n - (intOf v).toNat)
      case atStart => exact ⟨0, rfl, Nat.zero_le _, HP.out, HW.out⟩
      case round =>
        clear cb HP HW
        obtain ⟨j, rfl, hj, hp, hw⟩ := hrel
        have HP := Lib.hid hp
        have HW := Lib.hid hw
        clear hp
        by_cases hjlt : j < n
        · have cb := hw.1
          clear hw
          go_wp2
          go_loopw [23] (fun v wr => ∃ l : Nat, v = .int .i64 l ∧ l ≤ n ∧ AlwP n h i j l ∧ AlwW n A k w wr) (fun v _ => n - (intOf v).toNat)
          case atStart => exact ⟨0, rfl, Nat.zero_le _, HP.out, HW.out⟩
          case round =>
            clear cb HP HW
            obtain ⟨l, rfl, hl, hp, hw⟩ := hrel
            have HP := Lib.hid hp
            have HW := Lib.hid hw
            clear hp
            by_cases hllt : l < n
            · have key := HF.out i j l _ hlt hjlt hllt hw.2
              clear hw
              cases hh : h i j l with
              | true =>
                rw [hh] at key
                have HH := Lib.hid hh
                clear hh
                go_wp2_with fail
                refine key.mono ?_
                rintro e w2 ⟨rfl, hb2⟩
                have HW2 := Lib.hid (HW.out.below hb2)
                clear hb2 key
                go_wp2
                go_roundw
                case rel => exact ⟨l + 1, by go_num, by omega, fun a b c ha hb hc hx => by
                  by_cases e : a = i ∧ b = j ∧ c = l
                  · obtain ⟨rfl, rfl, rfl⟩ := e; exact HH.out
                  · exact HP.out a b c ha hb hc (by omega), HW2.out⟩
                case measure => simp [intOf]; omega
              | false =>
                rw [hh] at key
                have HH := Lib.hid (allB_no hlt hjlt hllt hh)
                clear hh
                go_wp2_with fail
                refine key.mono ?_
                rintro e w2 ⟨rfl, hb2⟩
                have HW2 := Lib.hid (HW.out.below hb2)
                clear hb2 key
                go_wp2
                go_ret
                exact ⟨ret_bool HH.out.symm, HW2.out.2⟩
            · clear hw
              go_wp2
              go_roundw
              case rel => exact ⟨j + 1, by go_num, by omega, fun a b c ha hb hc hx => HP.out a b c ha hb hc (by omega), HW.out⟩
              case measure => simp [intOf]; omega
        · clear hw
          go_wp2
          go_roundw
          case rel => exact ⟨i + 1, by go_num, by omega, fun a b c ha hb hc hx => HP.out a b c ha hb hc (by omega), HW.out⟩
          case measure => simp [intOf]; omega
    · obtain rfl : i = n := by omega
      clear hw
      have HA := Lib.hid (allB_yes HP.out)
      go_wp2
      go_ret
      exact ⟨ret_bool HA.out.symm, HW.out.2⟩

end Go.Proofs.YtmlggmopkelcfaaDoor
