/- syllogistref.Lined: the line by the document's own road. -/
import Derived.Test.YtkmloanalhjmjaaW12
import Derived.Test.YtkmloanalhjmjaaW9
namespace Go.Proofs.Ytkmloanalhjmjaa
open Go.RowKit

/-- What Lined answers. -/
def LinedPost (n : Nat) (ps : List (Int × Int)) (w : World) (e : Ending) (w' : World) : Prop :=
  ∃ A c, e = .returned (.slice A n c) ∧ Row w' A (ints (nats (lineL n ps n))) ∧ Below w.heap.size w w'

set_option maxHeartbeats 2000000 in
theorem Lined_any (n : Nat) (ps : List (Int × Int)) (Ap : Option Addr) (cp : Nat) (hn6 : n ≤ 6) (hl : ps.length ≤ 20) (hc : ¬ Cyc n ps) : ∀ (m k : Nat), k + m = n → ∀ (A : Option Addr) (c : Nat) (w : World),
    Row w Ap (pairsC ps) → Row w A (ints (nats (lineL n ps k))) → (k = 0 → A = none ∧ c = 0) →
    Calls Try.prog 23 #[.int .i64 n, .slice Ap ps.length cp, .slice A k c] w (LinedPost n ps w) := by
  intro m
  induction m with
  | zero =>
    intro k hk A c w hr hrow _
    obtain rfl : k = n := by omega
    clear hk
    go_enter Try.func23, Try.ntmps23
    go_wp2
    go_ret
    exact ⟨A, c, rfl, hrow, Below.refl _ _⟩
  | succ m ih =>
    intro k hk A c w hr hrow hnil
    have IH := Lib.hid ih
    have HC := Lib.hid hc
    have HR := Lib.hid hrow
    have HN := Lib.hid hnil
    have HK := Lib.hid hk
    have hkn : k < n := by omega
    have HF := Lib.hid (lineL_first hc hkn)
    have HLen := Lib.hid (lineL_length n ps k)
    have hd : ((k : Int) == (n : Int)) = false := by simp; omega
    have hxn := HF.out.1
    generalize hl0 : lineL n ps k = l at *
    have HL := Lib.hid hl0
    clear ih hc hrow hnil hk hl0
    generalize hx0 : nxt n ps l = x at *
    have HX := Lib.hid hx0
    clear hx0
    have hlk : l.length ≤ 6 := by rw [HLen.out]; omega
    go_enter Try.func23, Try.ntmps23
    go_wp2
    go_loopw [7] (fun v wr => ∃ i : Nat, v = .int .i64 i ∧ i ≤ x ∧ Below w.heap.size w wr) (fun v _ => n - (intOf v).toNat)
    case atStart => exact ⟨0, rfl, Nat.zero_le _, Below.refl _ _⟩
    case round =>
      obtain ⟨i, rfl, hi, hbel⟩ := hrel
      have hin : i < n := by omega
      have key := Has_any (nats l) A c i wr (HR.out.below hbel) (by rw [nats_length]; omega)
      rw [nats_length, HLen.out, show decide ((i : Int) ∈ nats l) = decide (i ∈ l) from by rw [decide_eq_decide]; exact mem_nats] at key
      have HKey := Lib.hid key
      clear key
      go_wp2_with fail
      refine HKey.out.mono ?_
      rintro e w' ⟨rfl, rfl⟩
      have HQ := Lib.hid (show (!decide (i ∈ l)) = rdyTo ps l i 0 from rfl)
      clear HKey
      go_wp2
      go_loopw [8, 9] (fun b v wr => ∃ (j : Nat) (ok : Bool), v = .int .i64 j ∧ j ≤ n ∧ b = .bool ok ∧ ok = rdyTo ps l i j ∧ Below w.heap.size w wr) (fun _ v _ => n - (intOf v).toNat)
      case atStart => exact ⟨0, _, rfl, Nat.zero_le _, rfl, HQ.out, hbel⟩
      case round =>
        clear HQ hbel
        obtain ⟨j, ok, rfl, hj, rfl, hok, hbel⟩ := hrel
        have HOk := Lib.hid hok
        clear hok
        by_cases hjn : j < n
        · have HS := Lib.hid (show rdyTo ps l i (j + 1) = (rdyTo ps l i j && (decide (j = i) || !under ps j i || decide (j ∈ l))) from rfl)
          cases ok with
          | false =>
            go_wp2
            go_roundw
            case rel => exact ⟨j + 1, false, by go_num, by omega, rfl, by rw [HS.out, ← HOk.out]; rfl, hbel⟩
            case measure => simp [intOf]; omega
          | true =>
            by_cases hji : j = i
            · have hd2 : ((j : Int) == (i : Int)) = true := by simp; omega
              have HJ := Lib.hid hji
              clear hji
              go_wp2
              go_roundw
              case rel => exact ⟨j + 1, true, by go_num, by omega, rfl, by rw [HS.out, ← HOk.out]; simp [HJ.out], hbel⟩
              case measure => simp [intOf]; omega
            · have hd2 : ((j : Int) == (i : Int)) = false := by simp; omega
              have HJ := Lib.hid hji
              clear hji
              go_wp2_with fail
              refine (Under_any n ps Ap cp j i _ (hr.below hbel) hl).mono ?_
              rintro e w2 ⟨rfl, hb2⟩
              have hbel2 := hbel.trans (hb2.mono hbel.size)
              cases hu : under ps j i with
              | false =>
                have HU := Lib.hid hu
                clear hu
                go_wp2
                go_roundw
                case rel => exact ⟨j + 1, true, by go_num, by omega, rfl, by rw [HS.out, ← HOk.out, HU.out]; simp, hbel2⟩
                case measure => simp [intOf]; omega
              | true =>
                have HU := Lib.hid hu
                clear hu
                have key := Has_any (nats l) A c j w2 (HR.out.below hbel2) (by rw [nats_length]; omega)
                rw [nats_length, HLen.out, show decide ((j : Int) ∈ nats l) = decide (j ∈ l) from by rw [decide_eq_decide]; exact mem_nats] at key
                have HKey := Lib.hid key
                clear key
                go_wp2_with fail
                refine HKey.out.mono ?_
                rintro e w' ⟨rfl, rfl⟩
                clear HKey
                go_wp2
                go_roundw
                case rel => exact ⟨j + 1, decide (j ∈ l), by go_num, by omega, rfl, by rw [HS.out, ← HOk.out, HU.out]; simp [HJ.out], hbel2⟩
                case measure => simp [intOf]; omega
        · obtain rfl : j = n := by omega
          by_cases hix : i = x
          · subst hix
            obtain rfl : ok = true := by rw [HOk.out]; exact HF.out.2.1
            obtain ⟨i0, hi, hz0, hz1, hz2⟩ := info_parts info3
            have HL1 := Lib.hid (show lineL j ps (k + 1) = l ++ [i] by rw [lineL, HL.out, HX.out])
            have hsz := hbel.size
            rcases Nat.eq_zero_or_pos k with h0 | h0
            · subst h0
              obtain ⟨rfl, rfl⟩ := HN.out rfl
              have hl0 : l = [] := List.eq_nil_of_length_eq_zero HLen.out
              subst hl0
              have HE := Lib.hid (World.ownsRow_lit (base := w.heap.size) (e := 3) (size := 1) wr #[] 0 hsz (by unfold maxLen; omega) rfl)
              have HB1 := Lib.hid (hbel.alloc hsz (.cells #[] 3))
              go_wp2_with (first | (at_builtin; refine wpList_append_lies _ rfl (.tmp 53) (.tmp 55) 36 rfl w.heap.size 3 i0 (.int .i64 0) 1 8 Try.underlying36 hi hz0 hz1 hz2 rfl (by decide) _ _ _ rfl (HE.out.alloc _) ⟨wr.heap.size + 1, 0, none⟩ 1 1 [.int .i64 i] rfl rfl ?c0 ?c1 (by decide) ?c2 ?c3 ?c4 _ rfl ?c5))
              case c1 => rfl
              case c2 => unfold maxLen; omega
              case c4 => first | omega | (simp; omega)
              case c5 =>
                intro g3 cap3 w4 hown4 hgrow4 hat4 hlt4
                have hb4 : Below w.heap.size w w4 := below_own (HB1.out.alloc (by simp; omega) _) (HE.out.alloc _) hgrow4
                have HO4 := Lib.hid (show OwnI w4 w.heap.size (.slice (some ⟨g3, 0, none⟩) 1 cap3) (nats [i]) from hown4)
                clear hown4 hgrow4 hat4 hi hz0 hz1 hz2 HE HB1
                have HR4 := Lib.hid (show Row w4 (some ⟨g3, 0, none⟩) (ints (nats (lineL j ps 1))) by rw [HL1.out]; exact OwnI.rowAt HO4.out)
                go_wp2_with fail
                refine (IH.out 1 (by have := HK.out; omega) _ _ _ (hr.below hb4) HR4.out (fun h => by omega)).mono ?_
                rintro e w5 ⟨A5, c5, rfl, hrow5, hb5⟩
                go_wp2
                go_ret
                exact ⟨A5, c5, rfl, hrow5, hb4.trans (hb5.mono hb4.size)⟩
            · have HRr := Lib.hid (HR.out.below hbel)
              obtain ⟨b, off, rfl, _⟩ := HRr.out.at (k := 0) (by rw [ints_length, nats_length, HLen.out]; exact h0)
              have HE := Lib.hid (World.ownsRow_lit (base := w.heap.size) (e := 3) (size := 1) wr #[] 0 hsz (by unfold maxLen; omega) rfl)
              have HB1 := Lib.hid (hbel.alloc hsz (.cells #[] 3))
              have HRa := Lib.hid (HRr.out.below ((Below.refl wr.heap.size wr).alloc (Nat.le_refl _) (.cells #[] 3)))
              have tok1 : True := trivial
              go_wp2_with (first | (at_builtin; have _t := tok1; refine wpList_append_lies _ rfl (.tmp 51) (.tmp 52) 36 rfl w.heap.size 3 i0 (.int .i64 0) 1 8 Try.underlying36 hi hz0 hz1 hz2 rfl (by decide) _ _ _ rfl HE.out ⟨b, off, none⟩ k c (ints (nats l)) rfl ?d0 (row_news HRa.out) (ints_oneCell _) h0 ?d2 ?d3 ?d4 _ rfl ?d5))
              case d0 => exact HLen.out
              case d2 => unfold maxLen; omega
              case d3 => omega
              case d4 => first | omega | (simp; omega)
              case d5 =>
                intro g2 cap2 w2 hown2 hgrow2 hat2 hlt2
                have hb2 : Below w.heap.size w w2 := below_own HB1.out HE.out hgrow2
                have hsz2 := hb2.size
                have HO2 := Lib.hid hown2
                clear hown2 hgrow2 hat2 HE HB1 HRa
                go_wp2_with (first | (at_builtin; refine wpList_append_lies _ rfl (.tmp 53) (.tmp 55) 36 rfl w.heap.size 3 i0 (.int .i64 0) 1 8 Try.underlying36 hi hz0 hz1 hz2 rfl (by decide) _ _ _ rfl (HO2.out.alloc _) ⟨w2.heap.size, 0, none⟩ 1 1 [.int .i64 i] rfl rfl (cell_one_new _ _ _) ?c1' (by decide) ?c2' ?c3' ?c4' _ rfl ?c5'))
                case c1' => intro u hu; simp at hu; subst hu; rfl
                case c2' => unfold maxLen; omega
                case c3' => omega
                case c4' => first | omega | (simp; omega)
                case c5' =>
                  intro g3 cap3 w4 hown4 hgrow4 hat4 hlt4
                  have hb4 : Below w.heap.size w w4 := below_own (hb2.alloc hsz2 _) (HO2.out.alloc _) hgrow4
                  have HO4 := Lib.hid hown4
                  clear hown4 hgrow4 hat4 hi hz0 hz1 hz2
                  have HR4 := Lib.hid (show Row w4 (some ⟨g3, 0, none⟩) (ints (nats (lineL j ps (k + 1)))) by rw [HL1.out, nats_append, ints_append]; exact Row.of_own HO4.out)
                  go_wp2_with fail
                  refine (IH.out (k + 1) (by have := HK.out; omega) _ _ _ (hr.below hb4) HR4.out (fun h => by omega)).mono ?_
                  rintro e w5 ⟨A5, c5, rfl, hrow5, hb5⟩
                  go_wp2
                  go_ret
                  exact ⟨A5, c5, rfl, hrow5, hb4.trans (hb5.mono hb4.size)⟩
          · obtain rfl : ok = false := by rw [HOk.out]; exact HF.out.2.2 i (by omega)
            go_wp2
            go_roundw
            case rel => exact ⟨i + 1, by go_num, by omega, hbel⟩
            case measure => simp [intOf]; omega

end Go.Proofs.Ytkmloanalhjmjaa
