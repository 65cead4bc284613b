/- lattice.bounds. -/
import Derived.Test.YtmlggmopkelcfaaDoorWBound
import Derived.Test.YtmlggmopkelcfaaDoorMem
namespace Go.Proofs.YtmlggmopkelcfaaDoor
open Go.RowKit

theorem infoIs : (Tryd.prog.info? 30).map (fun i => (i.zero, i.size, i.bytes)) = some (some (.slice none 0 0), 1, 24) := by kernel_rfl
theorem infoIz : (Tryd.prog.info? 3).map (fun i => (i.zero, i.size, i.bytes)) = some (some (.int .i64 0), 1, 8) := by kernel_rfl

/-- Any two things have a join. -/
def AllJ (n : Nat) (ps : List (Int × Int)) (i j : Nat) : Prop := ∀ a b : Nat, (a < i ∧ b < n ∨ a = i ∧ b < j) → 0 ≤ joined n ps a b
/-- What bounds hands back. -/
def BndsPost (n : Nat) (ps : List (Int × Int)) (w : World) (e : Ending) (w' : World) : Prop :=
  (AllJ n ps n 0 ∧ ∃ V, e = .returned (.tuple #[V, .int .i64 0]) ∧ MatR w' w.heap.size V n (jn n ps) ∧ Below w.heap.size w w') ∨
  (¬ AllJ n ps n 0 ∧ e = .returned (.tuple #[.slice none 0 0, .int .i64 5]) ∧ Below w.heap.size w w')
/-- On the way: the rows before a, and the first b of row a. -/
noncomputable def bndTo (n : Nat) (ps : List (Int × Int)) (a b : Nat) : Nat → Nat → Int := fun x y => if x < a ∨ x = a ∧ y < b then (jn n ps x y : Int) else 0
def BndsA (n : Nat) (ps : List (Int × Int)) (w : World) (v : Value) (wr : World) : Prop :=
  ∃ (a : Nat) (bl : Nat → Nat), v = .int .i64 a ∧ a ≤ n ∧ AllJ n ps a 0 ∧ MatM wr w.heap.size w.heap.size n a bl (bndTo n ps a 0) ∧ Below w.heap.size w wr
def BndsB (n : Nat) (ps : List (Int × Int)) (w : World) (a : Nat) (bl : Nat → Nat) (v : Value) (wr : World) : Prop :=
  ∃ b : Nat, v = .int .i64 b ∧ b ≤ n ∧ AllJ n ps a b ∧ MatM wr w.heap.size w.heap.size n (a + 1) bl (bndTo n ps a b) ∧ Below w.heap.size w wr

set_option maxHeartbeats 2000000 in
theorem bounds_any (n : Nat) (ps : List (Int × Int)) (A : Option Addr) (c : Nat) (w : World) (hr : Tab w A n (upT n ps)) (hT : Laid w) (hc : code n ps = 0) :
    Calls Tryd.prog 25 #[.slice A n c] w (BndsPost n ps w) := by
  obtain ⟨h2, h3, h4⟩ := code_zero hc
  obtain ⟨hn1, hn6, hl⟩ : 1 ≤ n ∧ n ≤ 6 ∧ ps.length ≤ 20 := by unfold Large at h2; omega
  obtain ⟨i0, hi, hz0, hz1, hz2⟩ := info_parts infoIs
  obtain ⟨i1, hj, hy0, hy1, hy2⟩ := info_parts infoIz
  have HI := Lib.hid (And.intro hi (And.intro hz0 (And.intro hz1 hz2)))
  have HJ := Lib.hid (And.intro hj (And.intro hy0 (And.intro hy1 hy2)))
  have HC := Lib.hid hc
  clear hi hz0 hz1 hz2 hj hy0 hy1 hy2 h2 h3 h4 hc
  go_enter Tryd.func25, Tryd.ntmps25
  go_wp2_with (at_make; refine wpList_make_full _ rfl _ _ 37 rfl w.heap.size 30 i0 (.slice none 0 0) 1 Tryd.underlying37 HI.out.1 HI.out.2.1 HI.out.2.2.1 .i64 .i64 n n n rfl rfl rfl rfl ?b2 ?b3 (Nat.le_refl _) ?c5)
  case b2 => rw [HI.out.2.2.2]; omega
  case b3 => unfold maxLen; omega
  case c5 =>
    intro w1 hown hgrow
    have HO := Lib.hid hown
    have HB := Lib.hid ((Below.refl w.heap.size w).grown hgrow (Nat.le_refl _) (by intro k hk; cases hk))
    clear hown hgrow
    go_wp2
    go_loopw [14] (fun v wr => BndsA n ps w v wr) (fun v _ => n - (intOf v).toNat)
    case atStart =>
      refine ⟨0, fun _ => 0, rfl, Nat.zero_le _, fun a b h => by omega, ?_, HB.out⟩
      exact ⟨Nat.le_refl _, (World.ownsRow.lt HO.out _ rfl).2, fun i => World.ownsRow.frozenAt HO.out i, fun i hi => by omega,
        fun i _ hi => (World.ownsRow.cellAt HO.out i (by omega)).trans (by rw [toList_madeCells_one]; simp [hi]), fun i hi => by omega, fun i j hi => by omega, fun i hi => by omega, fun i hi => by omega⟩
    case round =>
      clear HO HB
      obtain ⟨a, bl, rfl, ha, hall, hmat, hbel⟩ := hrel
      have HM := Lib.hid hmat
      have HL := Lib.hid hall
      clear hmat hall
      by_cases hlt : a < n
      · go_wp2_with (at_make; refine wpList_make_full _ rfl _ _ 30 rfl w.heap.size 3 i1 (.int .i64 0) 1 Tryd.underlying30 HJ.out.1 HJ.out.2.1 HJ.out.2.2.1 .i64 .i64 n n n rfl rfl rfl rfl ?d2 ?d3 hbel.size ?d5)
        case d2 => rw [HJ.out.2.2.2]; omega
        case d3 => unfold maxLen; omega
        case d5 =>
          intro w2 hown hgrow
          have hb2 := (Below.refl wr.heap.size wr).grown hgrow (Nat.le_refl _) (by intro k hk; cases hk)
          have hlt2 := (World.ownsRow.lt hown _ rfl).2
          have hfr2 : ∀ j, w2.frozen? ⟨wr.heap.size, j, none⟩ = false := fun j => World.ownsRow.frozenAt hown j
          have hz2 : ∀ j, j < n → w2.cell? ⟨wr.heap.size, j, none⟩ = some (.int .i64 0) := fun j hj => (World.ownsRow.cellAt hown j (by omega)).trans (by rw [toList_madeCells_one]; simp [hj])
          have HM2 := Lib.hid (HM.out.more hlt hbel.size hb2 hlt2 hfr2 hz2)
          have hmg := HM.out.below hb2
          have hg1 := hmg.todo a (Nat.le_refl _) hlt
          have hg2 := hmg.free a
          have HB2 := Lib.hid (hbel.trans (hb2.mono hbel.size))
          clear hown hgrow hlt2 hfr2 hz2 hmg hb2
          go_wp2_with fail
          obtain ⟨bl2, hbl2⟩ : ∃ bl2 : Nat → Nat, bl2 = fun x => if x = a then wr.heap.size else bl x := ⟨_, rfl⟩
          have HM3 := Lib.hid (show MatM (w2.setCell ⟨w.heap.size, a, none⟩ (.slice (some ⟨wr.heap.size, 0, none⟩) n n)) w.heap.size w.heap.size n (a + 1) bl2 (bndTo n ps a 0) by
            rw [hbl2]
            refine HM2.out.congr fun i j hi hj => ?_
            by_cases e : i = a
            · simp [bndTo, e]
            · simp [e])
          clear HM2 HM hbl2
          go_loopw [28] (fun v wr => BndsB n ps w a bl2 v wr) (fun v _ => n - (intOf v).toNat)
          case atStart => exact ⟨0, rfl, Nat.zero_le _, HL.out, HM3.out, HB2.out.setCell (Nat.le_refl _) _⟩
          case round =>
            clear HM3 HB2 HL hg1 hg2 hbel
            obtain ⟨b, rfl, hb, hall, hmat, hbel⟩ := hrel
            have HL := Lib.hid hall
            have HM := Lib.hid hmat
            have HB := Lib.hid hbel
            clear hall hmat
            by_cases hbl : b < n
            · go_wp2_with fail
              refine (bound_ok n ps A c a b _ (hr.below hbel) (hT.below hbel) HC.out).mono ?_
              rintro e w3 ⟨rfl, hb3⟩
              clear hbel
              by_cases hneg : joined n ps a b < 0
              · obtain ⟨h5, h6⟩ := bnd_none (f := joined) (n := n) (a := a) (b := b) HC.out (by unfold Off; omega) hneg
                rw [h5, h6]
                have HN := Lib.hid (show ¬ AllJ n ps n 0 from fun h => by have := h a b (.inl ⟨hlt, hbl⟩); omega)
                have HE := Lib.hid (HB.out.trans (hb3.mono HB.out.size))
                clear h5 h6 hneg hb3
                go_wp2
                go_ret2
                exact .inr ⟨HN.out, rfl, HE.out⟩
              · obtain ⟨h5, h6⟩ := bnd_ok (f := joined) (n := n) (a := a) (b := b) HC.out (by unfold Off; omega) hneg
                have h7 : joined (n : Int).toNat ps (a : Int).toNat (b : Int).toNat = (jn n ps a b : Int) := by
                  rw [Int.toNat_natCast, Int.toNat_natCast, Int.toNat_natCast]; unfold jn; omega
                rw [h7] at h6
                rw [h5, h6]
                have HA2 := Lib.hid (show AllJ n ps a (b + 1) from fun x y h => by
                  by_cases e : x = a ∧ y = b
                  · obtain ⟨rfl, rfl⟩ := e; omega
                  · exact HL.out x y (by omega))
                have HE := Lib.hid (HB.out.trans (hb3.mono HB.out.size))
                have hm3 := HM.out.below hb3
                have hc1 := hm3.made a (Nat.lt_succ_self a)
                have hc2 := hm3.cells a (Nat.lt_succ_self a) b hbl
                have hc3 := hm3.rfree a (Nat.lt_succ_self a) b
                have HM3 := Lib.hid ((hm3.put (Nat.lt_succ_self a) hbl (jn n ps a b)).congr (G := bndTo n ps a (b + 1)) fun i j hi hj => by
                  by_cases e : i = a ∧ j = b
                  · obtain ⟨rfl, rfl⟩ := e; simp [updF, bndTo]
                  · have e2 : (i < a ∨ i = a ∧ j < b) = (i < a ∨ i = a ∧ j < b + 1) := by apply propext; omega
                    simp only [updF, if_neg e, bndTo, e2])
                have HR := Lib.hid (hm3.rows a (Nat.lt_succ_self a))
                clear h5 h6 h7 hneg hb3 hm3
                go_wp2
                go_roundw
                case rel => exact ⟨b + 1, by go_num, by omega, HA2.out, HM3.out, HE.out.setCell HR.out.1 _⟩
                case measure => simp [intOf]; omega
            · obtain rfl : b = n := by omega
              go_wp2
              go_roundw
              case rel => exact ⟨a + 1, bl2, by go_num, by omega, fun x y h => HL.out x y (by omega), HM.out.congr fun i j hi hj => by
                have e2 : (i < a ∨ i = a ∧ j < b) = (i < a + 1 ∨ i = a + 1 ∧ j < 0) := by apply propext; omega
                simp only [bndTo, e2], hbel⟩
              case measure => simp [intOf]; omega
      · obtain rfl : a = n := by omega
        go_wp2
        go_ret2
        exact .inl ⟨HL.out, _, rfl, HM.out.read fun i j hi hj => by simp [bndTo, hi], hbel⟩

end Go.Proofs.YtmlggmopkelcfaaDoor
