/- follow.grow, follow.follows. -/
import Derived.Test.YtdiofkkdhdhkaaaWFo1
import Derived.OneCell
namespace Go.Proofs.Ytdiofkkdhdhkaaa
open Go.RowKit

set_option maxHeartbeats 400000 in
theorem fwIncl_any (x s g : Nat) (hx : x < 4294967296) (hs : s < 4294967296) (w : World) (hc : w.cell? ⟨g, 0, none⟩ = some (.int .u32 (s : Int))) :
    Calls Try.prog 34 #[.int .u32 x, .pointer (some ⟨g, 0, none⟩)] w fun e w' => e = .returned (.bool (sub x s)) ∧ w = w' := by
  go_enter Try.func34, Try.ntmps34
  go_wp2
  go_ret
  exact ⟨ret_bool (u32_subB hx hs), rfl⟩

/-- How far grow has come: the box holds s', between s and its closure. -/
def GrowI (n : Nat) (rs : List (Nat × Nat)) (s : Nat) (w wr : World) (s' : Nat) : Prop :=
  wr.heap[w.heap.size]? = some (.cells #[.int .u32 (s' : Int)] 23 (0, 0)) ∧ sub s s' = true ∧ sub s' (closeW n rs s) = true ∧ Below w.heap.size w wr

def boxOf (wr : World) (g : Nat) : Nat := match wr.cell? ⟨g, 0, none⟩ with
  | some v => (intOf v).toNat
  | none => 0

def agOf : Value → Nat
  | .bool true => 1
  | _ => 0

theorem GrowI.box {n s s' : Nat} {rs : List (Nat × Nat)} {w wr : World} (h : GrowI n rs s w wr s') : boxOf wr w.heap.size = s' := by
  unfold boxOf
  rw [cell_of_one h.1]
  simp [intOf]
theorem GrowI.alloc {n s s' : Nat} {rs : List (Nat × Nat)} {w wr : World} (h : GrowI n rs s w wr s') (o : Obj) : GrowI n rs s w (wr.alloc o) s' :=
  ⟨(Below.heap_alloc wr o _ (lt_of_block h.1)).trans h.1, h.2.1, h.2.2.1, h.2.2.2.alloc h.2.2.2.size o⟩
theorem GrowI.stored {n s s' : Nat} {rs : List (Nat × Nat)} {w wr : World} (h : GrowI n rs s w wr s') (hf : FitR n rs) {r : Nat × Nat} (hr : r ∈ rs) (h1 : sub r.1 s' = true) :
    GrowI n rs s w (wr.setCell ⟨w.heap.size, 0, none⟩ (.int .u32 ((s' ||| r.2 : Nat) : Int))) (s' ||| r.2) :=
  ⟨one_setCell h.1, sub_trans h.2.1 (sub_orL _ _), or_sub.2 ⟨h.2.2.1, closed_iff.1 (close_closed hf s) r hr (sub_trans h1 h.2.2.1)⟩, h.2.2.2.setCell (Nat.le_refl _) _⟩
theorem GrowI.lt {n s s' : Nat} {rs : List (Nat × Nat)} {w wr : World} (h : GrowI n rs s w wr s') : s' < one n := lt_of_sub h.2.2.1 (closeW_lt _ _ _)
theorem GrowI.done {n s s' : Nat} {rs : List (Nat × Nat)} {w wr : World} (h : GrowI n rs s w wr s') (hc : closedB rs s' = true) : s' = closeW n rs s :=
  sub_anti h.2.2.1 (close_least h.lt h.2.1 hc)
theorem or_gt {a b : Nat} (h : sub b a = false) : a < a ||| b := by
  rcases Nat.lt_or_eq_of_le (Nat.left_le_or (n := a) (m := b)) with h1 | h1
  · exact h1
  · have : sub b a = true := by
      unfold sub
      rw [Nat.or_comm, ← h1, beq_iff_eq]
    rw [this] at h
    cases h

set_option maxHeartbeats 1000000 in
theorem fwGrow_any (n : Nat) (hn : n ≤ 6) (rs : List (Nat × Nat)) (A : Option Addr) (c s : Nat) (w : World) (hr : Row w A (rulesC rs)) (hf : FitR n rs) (hl : rs.length ≤ 1000000) (hs : s < one n) :
    Calls Try.prog 27 #[.slice A rs.length c, .int .u32 s] w fun e w' => e = .returned (.int .u32 (closeW n rs s)) ∧ Below w.heap.size w w' := by
  have h64 := one_le_64 hn
  go_enter Try.func27, Try.ntmps27
  go_wp2
  go_loopw [6] (fun av wr => ∃ (ag : Bool) (s' : Nat), av = .bool ag ∧ (ag = false → closedB rs s' = true) ∧ GrowI n rs s w wr s') (fun av wr => 2 * (one n - boxOf wr w.heap.size) + agOf av)
  case atStart => exact ⟨true, s, rfl, by simp, ⟨heap_alloc_new _ _, sub_refl s, close_sub hs, (Below.refl _ _).alloc (Nat.le_refl _) _⟩⟩
  case round =>
    obtain ⟨ag, s0, rfl, hcl, hG⟩ := hrel
    have HG := Lib.hid hG
    have HC := Lib.hid hcl
    have hc0 := cell_of_one hG.1
    have hbel := hG.2.2.2
    clear hG hcl
    cases ag with
    | false =>
      have HE := Lib.hid (HG.out.done (HC.out rfl))
      go_wp2
      go_ret
      exact ⟨ret_int (by rw [HE.out]), hbel⟩
    | true =>
      go_wp2
      go_loopw [6, 13] (fun av iv wr2 => ∃ (ag : Bool) (k s' : Nat), av = .bool ag ∧ iv = .int .i64 k ∧ k ≤ rs.length ∧ (ag = false → s' = s0 ∧ closedB (rs.take k) s0 = true) ∧ (ag = true → s0 < s') ∧ GrowI n rs s w wr2 s') (fun _ iv _ => rs.length - (intOf iv).toNat)
      case atStart => exact ⟨false, 0, s0, rfl, rfl, Nat.zero_le _, fun _ => ⟨rfl, by simp [closedB]⟩, by simp, HG.out⟩
      case round =>
        obtain ⟨ag, k, s', rfl, rfl, hk, hno, hyes, hG⟩ := hrel
        have HN := Lib.hid hno
        have HY := Lib.hid hyes
        have HG' := Lib.hid hG
        have hc1 := cell_of_one hG.1
        have hfr := free_of_one hG.1
        have hbel2 := hG.2.2.2
        have hlt' := hG.lt
        have hsz := lt_of_block hG.1
        clear hno hyes hG
        by_cases hlt : k < rs.length
        · obtain ⟨r, hrk⟩ := get_some hlt
          obtain ⟨r1, r2⟩ := r
          obtain ⟨b, off, rfl, c1, c2⟩ := RowR.at (hr.below hbel2) hrk
          have hmem := List.mem_of_getElem? hrk
          obtain ⟨b1, b2⟩ := hf _ hmem
          have HR := Lib.hid hrk
          have HM := Lib.hid hmem
          clear hrk hmem
          have HA := Lib.hid (HG'.out.alloc (.cells #[.int .u32 (r1 : Int), .int .u32 (r2 : Int)] 31))
          cases h1 : sub r1 s' with
          | false =>
            go_wp2_with fail
            refine (fwIncl_any r1 s' w.heap.size (by omega) (by omega) _ (cell_of_one HA.out.1)).mono ?_
            rintro e w1 ⟨rfl, rfl⟩
            rw [h1]
            have HH := Lib.hid h1
            clear h1
            go_wp2
            go_roundw
            case rel => exact ⟨ag, k + 1, s', rfl, by go_num, by omega, fun e => by
              obtain ⟨q1, q2⟩ := HN.out e
              exact ⟨q1, closed_take q2 HR.out fun q => by rw [← q1, HH.out] at q; cases q⟩, HY.out, HA.out⟩
            case measure => simp [intOf]; omega
          | true =>
            cases h2 : sub r2 s' with
            | true =>
              go_wp2_with fail
              refine (fwIncl_any r1 s' w.heap.size (by omega) (by omega) _ (cell_of_one HA.out.1)).mono ?_
              rintro e w1 ⟨rfl, rfl⟩
              rw [h1]
              go_wp2_with fail
              refine (fwIncl_any r2 s' w.heap.size (by omega) (by omega) _ (cell_of_one HA.out.1)).mono ?_
              rintro e w1 ⟨rfl, rfl⟩
              rw [h2]
              have HH := Lib.hid h2
              clear h1 h2
              go_wp2
              go_roundw
              case rel => exact ⟨ag, k + 1, s', rfl, by go_num, by omega, fun e => by
                obtain ⟨q1, q2⟩ := HN.out e
                exact ⟨q1, closed_take q2 HR.out fun q => by rw [← q1]; exact HH.out⟩, HY.out, HA.out⟩
              case measure => simp [intOf]; omega
            | false =>
              have HS := Lib.hid ((HG'.out.stored hf HM.out h1).alloc (.cells #[.int .u32 (r1 : Int), .int .u32 (r2 : Int)] 31))
              have HT := Lib.hid (show s0 < s' ||| r2 by
                have := or_gt h2
                cases ag with
                | true => have := HY.out rfl; omega
                | false => have := (HN.out rfl).1; omega)
              have hor := u32_or_nat s' r2 (by omega) (by omega)
              go_wp2_with fail
              refine (fwIncl_any r1 s' w.heap.size (by omega) (by omega) _ (cell_of_one HA.out.1)).mono ?_
              rintro e w1 ⟨rfl, rfl⟩
              rw [h1]
              go_wp2_with fail
              refine (fwIncl_any r2 s' w.heap.size (by omega) (by omega) _ (cell_of_one HA.out.1)).mono ?_
              rintro e w1 ⟨rfl, rfl⟩
              rw [h2]
              clear h1 h2
              go_wp2
              go_roundw
              case rel => exact ⟨true, k + 1, s' ||| r2, rfl, by go_num, by omega, fun e => (by cases e), fun _ => HT.out, HS.out⟩
              case measure => simp [intOf]; omega
        · have HK := Lib.hid (show rs.take k = rs from List.take_of_length_le (by omega))
          have hbx := HG'.out.box
          have hbx0 := HG.out.box
          have hone := one_pos n
          go_wp2
          go_roundw
          case rel => exact ⟨ag, s', rfl, fun e => by
            obtain ⟨q1, q2⟩ := HN.out e
            rw [q1, ← HK.out]; exact q2, HG'.out⟩
          case measure =>
            rw [hbx, hbx0]
            cases ag with
            | true => have := HY.out rfl; simp [agOf]; omega
            | false => have := (HN.out rfl).1; simp [agOf]; omega

end Go.Proofs.Ytdiofkkdhdhkaaa
