/- follow.split. -/
import Derived.Test.YtdiofkkdhdhkaaaWFo7
namespace Go.Proofs.Ytdiofkkdhdhkaaa
open Go.RowKit

/-- A rule, part by part. -/
def splitR (r : Nat × Nat) (k : Nat) : List (Nat × Nat) := ((List.range k).filter fun t => r.2.testBit t && !r.1.testBit t).map fun t => (r.1, one t)
def splitL (rs : List (Nat × Nat)) : List (Nat × Nat) := rs.flatMap fun r => splitR r 6
theorem splitR_yes {r : Nat × Nat} {k : Nat} (h : (r.2.testBit k && !r.1.testBit k) = true) : splitR r (k + 1) = splitR r k ++ [(r.1, one k)] := by
  unfold splitR
  rw [filter_yes (p := fun t => r.2.testBit t && !r.1.testBit t) h]
  simp
theorem splitR_no {r : Nat × Nat} {k : Nat} (h : (r.2.testBit k && !r.1.testBit k) = false) : splitR r (k + 1) = splitR r k := by
  unfold splitR
  rw [filter_no (p := fun t => r.2.testBit t && !r.1.testBit t) h]
theorem splitR_len (r : Nat × Nat) (k : Nat) : (splitR r k).length ≤ k := by
  unfold splitR
  rw [List.length_map]
  exact filter_len _ _
theorem splitL_len (rs : List (Nat × Nat)) : (splitL rs).length ≤ 6 * rs.length := by
  induction rs with
  | nil => simp [splitL]
  | cons r rs ih =>
    have := splitR_len r 6
    simp only [splitL, List.flatMap_cons, List.length_append, List.length_cons] at *
    omega
theorem splitL_take {rs : List (Nat × Nat)} {k : Nat} {r : Nat × Nat} (h : rs[k]? = some r) : splitL (rs.take (k + 1)) = splitL (rs.take k) ++ splitR r 6 := by
  rw [List.take_add_one, h]
  simp [splitL]
theorem u32_part {a b k : Nat} (ha : a < 4294967296) (hb : b < 4294967296) (hk : k < 32) :
    (bits .andNot .u32 (bits .and .u32 (one k : Int) (b : Int)) (a : Int) == 0) = !(b.testBit k && !a.testBit k) := by
  have h1 := one_lt hk
  have hlt : one k &&& b < 4294967296 := Nat.lt_of_le_of_lt Nat.and_le_left h1
  rw [u32_and_nat _ _ h1 hb, u32_subB hlt ha, Bool.eq_iff_iff, sub_iff]
  constructor
  · intro h
    cases e : b.testBit k with
    | false => rfl
    | true =>
      have := h k (by rw [Nat.testBit_and, one_testBit, e]; simp)
      rw [this]; rfl
  · intro h i hi
    rw [Nat.testBit_and, one_testBit, Bool.and_eq_true, decide_eq_true_iff] at hi
    obtain ⟨rfl, h2⟩ := hi
    rw [h2] at h
    simpa using h
theorem fwOnly_quiet (k : Nat) (hk : k < 32) (w : World) (n : Nat) : Calls Try.prog 35 #[.int .i64 k] (w.drewN n) fun e w'' => e = .returned (.int .u32 (one k)) ∧ ∃ m, w'' = w.drewN m :=
  Calls.quiet_of_same ((fwOnly_any k hk _).mono fun _ _ ⟨he, hw⟩ => ⟨he, hw.symm⟩)

theorem RuleAt.grown {w w' : World} {g a b : Nat} {row : Option Nat} (h : RuleAt w g a b) (hg : w.grownBy w' row) (hne : row ≠ some g) : RuleAt w' g a b := by
  have hk := block_lt_of_cell h.1
  have e : w'.heap[g]? = w.heap[g]? := hg.block g hk (fun e => hne e.symm)
  exact ⟨(World.cell?_of_block (w := w) (a := ⟨g, 0, none⟩) e).trans h.1, (World.cell?_of_block (w := w) (a := ⟨g, 1, none⟩) e).trans h.2⟩

set_option maxHeartbeats 4000000 in
theorem fwSplit_any (rs : List (Nat × Nat)) (A : Option Addr) (c : Nat) (w : World) (hr : Row w A (rulesC rs)) (h32 : W32 rs) (hl : rs.length ≤ 100) :
    Calls Try.prog 31 #[.slice A rs.length c] w fun e w' => ∃ v, e = .returned v ∧ OwnR w' w.heap.size v (splitL rs) ∧ Below w.heap.size w w' := by
  obtain ⟨i0, hi, hz0, hz1, hz2⟩ := info_parts infoR
  have HI := Lib.hid (And.intro hi (And.intro hz0 (And.intro hz1 hz2)))
  clear hi hz0 hz1 hz2
  go_enter Try.func31, Try.ntmps31
  go_wp2
  go_loopw [3, 9] (fun v iv wr => ∃ k : Nat, iv = .int .i64 k ∧ k ≤ rs.length ∧ (∃ l, l = splitL (rs.take k) ∧ OwnR wr w.heap.size v l) ∧ Below w.heap.size w wr) (fun _ iv _ => rs.length - (intOf iv).toNat)
  case atStart => exact ⟨0, rfl, Nat.zero_le _, ⟨[], rfl, World.ownsRow_nil _ _ _ _⟩, Below.refl _ _⟩
  case round =>
    obtain ⟨k, rfl, hk, ⟨l, hl0, hown⟩, hbel⟩ := hrel
    have HL := Lib.hid hl0
    have hll : l.length ≤ 6 * k := by
      rw [hl0]
      have := splitL_len (rs.take k)
      rw [List.length_take] at this
      omega
    have HO := Lib.hid hown
    clear hl0 hown
    by_cases hlt : k < rs.length
    · obtain ⟨r, hrk⟩ := get_some hlt
      obtain ⟨r1, r2⟩ := r
      obtain ⟨b, off, rfl, c1, c2⟩ := RowR.at (hr.below hbel) hrk
      obtain ⟨b1, b2⟩ := h32 _ (List.mem_of_getElem? hrk)
      have HR := Lib.hid hrk
      clear hrk
      have hb2 := hbel.alloc hbel.size (.cells #[.int .u32 (r1 : Int), .int .u32 (r2 : Int)] 31)
      have HO2 := Lib.hid (show OwnR (wr.alloc (.cells #[.int .u32 (r1 : Int), .int .u32 (r2 : Int)] 31)) w.heap.size _ l from World.ownsRow.alloc HO.out _)
      have HR2 := Lib.hid (RuleAt.made wr r1 r2 31)
      go_wp2
      go_loopw [3, 13] (fun v iv wi => ∃ t : Nat, iv = .int .i64 t ∧ t ≤ 6 ∧ RuleAt wi wr.heap.size r1 r2 ∧ (∃ l', l' = l ++ splitR (r1, r2) t ∧ OwnR wi w.heap.size v l') ∧ Below w.heap.size w wi ∧ wr.heap.size < wi.heap.size ∧ v.ownBlock ≠ some wr.heap.size) (fun _ iv _ => 6 - (intOf iv).toNat)
      case atStart => exact ⟨0, rfl, by omega, HR2.out, ⟨l, by simp [splitR], HO2.out⟩, hb2, by simp, fun h => by have := (World.ownsRow.lt HO.out _ h).2; omega⟩
      case round =>
        clear HO2 HR2 hb2
        rename World => wi
        obtain ⟨t, rfl, ht, hRi, ⟨l', hl', hown⟩, hbi, hszi, hne⟩ := hrel
        have HNE := Lib.hid hne
        clear hne
        have hll' : l'.length ≤ 606 := by
          rw [hl', List.length_append]
          have := splitR_len (r1, r2) t
          omega
        have HL' := Lib.hid hl'
        have HOi := Lib.hid hown
        have HRi := Lib.hid hRi
        obtain ⟨e0, e1⟩ := hRi
        clear hl' hown
        by_cases hlt6 : t < 6
        · have hp := u32_part b1 b2 (show t < 32 by omega)
          cases hc : (r2.testBit t && !r1.testBit t) with
          | false =>
            rw [hc, Bool.not_false, beq_iff_eq] at hp
            have HS := Lib.hid (splitR_no (r := (r1, r2)) hc)
            clear hc
            go_wp2
            go_quiet ((go_at_call 35; exact fwOnly_quiet t (by omega) _ _))
            go_wp2
            go_roundw
            case rel => exact ⟨t + 1, by go_num, by omega, HRi.out, ⟨l', by rw [HS.out]; exact HL'.out, own_drewN HOi.out _⟩, below_drewN hbi _, hszi, HNE.out⟩
            case measure => simp [intOf]; omega
          | true =>
            rw [hc, Bool.not_true, beq_eq_false_iff_ne] at hp
            have HS := Lib.hid (splitR_yes (r := (r1, r2)) hc)
            clear hc
            go_wp2
            go_quiet ((go_at_call 35; exact fwOnly_quiet t (by omega) _ _))
            go_wp2
            obtain ⟨hi, hz0, hz1, hz2⟩ := HI.out
            have HOw := Lib.hid (show _root_.Go.World.ownsRow (wi.alloc (.cells #[.int .u32 (r1 : Int), .int .u32 ((one t : Nat) : Int)] 31)) w.heap.size 31 2 u3 l'.length (rulesC l') from World.ownsRow.alloc HOi.out _)
            have HNw := Lib.hid (show News (wi.alloc (.cells #[.int .u32 (r1 : Int), .int .u32 ((one t : Nat) : Int)] 31)) ⟨wi.heap.size, 0, none⟩ [(r1, one t)] from row_news (row_new wi wi.heap.size rfl [.int .u32 (r1 : Int), .int .u32 ((one t : Nat) : Int)] 31))
            have HRw := Lib.hid (show RuleAt ((wi.drewN (nq + 1)).alloc (.cells #[.int .u32 (r1 : Int), .int .u32 ((one t : Nat) : Int)] 31)) wr.heap.size r1 r2 from RuleAt.below (w := wi) HRi.out ((below_drewN (Below.refl _ _) _).alloc (Nat.le_refl _) _))
            have HBw := Lib.hid ((below_drewN hbi (nq + 1)).alloc hbi.size (.cells #[.int .u32 (r1 : Int), .int .u32 ((one t : Nat) : Int)] 31))
            have HSz2 := Lib.hid (show wr.heap.size < ((wi.drewN (nq + 1)).alloc (.cells #[.int .u32 (r1 : Int), .int .u32 ((one t : Nat) : Int)] 31)).heap.size by simp; omega)
            have HSz3 := Lib.hid (show ((wi.drewN (nq + 1)).alloc (.cells #[.int .u32 (r1 : Int), .int .u32 ((one t : Nat) : Int)] 31)).heap.size ≠ wr.heap.size by simp; omega)
            have HM := Lib.hid (show l'.length + 1 ≤ maxLen by unfold maxLen; omega)
            have HY := Lib.hid (show (l'.length + 1) * 8 ≤ 140737488355328 by omega)
            have HSz := Lib.hid (show w.heap.size ≤ ((wi.drewN (nq + 1)).alloc (.cells #[.int .u32 (r1 : Int), .int .u32 ((one t : Nat) : Int)] 31)).heap.size from HBw.out.size)
            go_region_held3 (fun w' => w'.cell? ⟨wr.heap.size, 0, none⟩ = some (.int .u32 (r1 : Int)) ∧ w'.cell? ⟨wr.heap.size, 1, none⟩ = some (.int .u32 (r2 : Int))) (first | exact HRi.out | exact HRw.out | exact HR5.out | go_keep)
              (first
              | (refine step_append_any rfl (.tmp 25) (.tmp 31) 22 rfl w.heap.size 31 i0 (.agg #[.int .u32 0, .int .u32 0]) 2 8 Try.underlying22 hi hz0 hz1 hz2 rfl (by decide) u3 l'.length (rulesC l') (by simp [Act.eval]) HOw.out ⟨wi.heap.size, 0, none⟩ 1 1 (rulesC [(r1, one t)]) (by simp [Act.eval]) rfl HNw.out (rulesC_oneCell _) HM.out HY.out HSz.out ?_
                 intro v5 w5 hown5 hgrow5 hob5
                 have HNE5 := Lib.hid (show v5.ownBlock ≠ some wr.heap.size by
                   rcases hob5 with h | h
                   · rw [h]; exact HNE.out
                   · rw [h]; intro e; exact HSz3.out (Option.some.inj e))
                 have HR5 := Lib.hid (RuleAt.grown HRw.out hgrow5 HNE.out)
                 have HSz5 := Lib.hid (Nat.lt_of_lt_of_le HSz2.out hgrow5.size)
                 have HO5 := Lib.hid hown5
                 have HB5 := Lib.hid (HBw.out.grown hgrow5 HSz.out (fun k hk => (World.ownsRow.lt HOw.out k hk).1))
                 have HG5 := Lib.hid hgrow5
                 clear hown5 hgrow5 hob5)
              | (go_at_call 35
                 refine (fwOnly_any t (by omega) _).mono ?_
                 rintro e w3 ⟨rfl, rfl⟩))
            all_goals
              go_simp
              go_wp2
              go_roundw
              case rel => exact ⟨t + 1, by go_num, by omega, HR5.out, ⟨l' ++ [(r1, one t)], by rw [HS.out, HL'.out, List.append_assoc], by
                unfold OwnR
                rw [rulesC_append, List.length_append]
                exact HO5.out⟩, HB5.out, HSz5.out, HNE5.out⟩
              case measure => simp [intOf]; omega
        · obtain rfl : t = 6 := by omega
          go_wp2
          go_roundw
          case rel => exact ⟨k + 1, by go_num, by omega, ⟨l', by rw [splitL_take HR.out, ← HL.out]; exact HL'.out, HOi.out⟩, hbi⟩
          case measure => simp [intOf]; omega
    · have HS := Lib.hid (show l = splitL rs by rw [HL.out, List.take_of_length_le (by omega)])
      go_wp2
      go_ret
      exact ⟨_, rfl, by rw [← HS.out]; exact HO.out, hbel⟩

end Go.Proofs.Ytdiofkkdhdhkaaa
