/- The law after Ganter, by the document's answers. -/
import Derived.Test.YtlokldjookngkaaLawC3
import Derived.Test.YtlokldjookngkaaGan
import Derived.Test.YtlokldjookngkaaOwnI
namespace Go.Proofs.Ytlokldjookngkaa
open Go.RowKit

/-- The loop that goes on. -/
def GanRel (n : Nat) (rows : List Nat) (l : List (Nat × Nat)) (w w1 : World) (av v iv : Value) (wr : World) : Prop :=
  ∃ (k : Nat) (seen : List Nat) (p : Nat), iv = .int .i64 k ∧ k ≤ l.length ∧ seen.length = k ∧ Gan n rows seen p ∧ av = .int .u32 p ∧ OwnI wr w1.heap.size v (nats seen) ∧ Below w1.heap.size w1 wr ∧ Below w.heap.size w wr

set_option maxHeartbeats 2000000 in
theorem ConceptNext_with (hJ : CAllOk 16) (hN : CNextOk 18) (n : Int) (rows : List Nat) (A : Option Addr) (c : Nat) (w : World) (h32 : U32 rows) (hm : rows.length ≤ maxLen) (hr : Row w A (words rows)) (hX : Laid w) :
    Calls Try.prog 9 #[.int .i64 n, .slice A rows.length c] w fun e w' => e = .returned (.bool true) ∧ Below w.heap.size w w' := by
  have key := hJ n rows A c w h32 hm hr hX
  by_cases hc : codeT n rows 0 0 = 0
  · obtain ⟨n, rfl, hn1, hn6, hl, hf, _⟩ := codeT_zero hc
    rw [hc, if_pos rfl, Int.toNat_natCast] at key
    have HC := Lib.hid hc
    have h64 := one_le_64 hn6
    have KN := Lib.hid (fun (m : Nat) (w' : World) (hmn : m < one n) (hr' : Row w' A (words rows)) (hX' : Laid w') => show Calls Try.prog 18 #[.int .i64 n, .slice A rows.length c, .int .u32 m] w' fun e w'' => ∃ (s : Nat) (k : Int), e = .returned (.tuple #[.int .u32 s, .int .i64 k]) ∧ ((k = 0 ∧ IsNext n rows m s) ∨ (k = 5 ∧ s = 0 ∧ NoNext n rows m)) ∧ Below w'.heap.size w' w'' from
      (hN n rows A c m w' (by omega) h32 hm hr' hX').mono fun e w'' ⟨s, k, he, hp, hb⟩ => ⟨s, k, he, hp.2 (codeT_of hc hmn (one_pos _)), hb⟩)
    clear hc
    go_enter Try.func9, Try.ntmps9
    go_wp2_with fail
    refine key.mono ?_
    rintro e w1 ⟨A2, c2, l, rfl, hle, _, hrow, hb1⟩
    have HLe := Lib.hid hle
    have HR := Lib.hid hrow
    have hlen : l.length ≤ 64 := by rw [hle, conP_length]; have := conL_len n rows (one n); omega
    have hpos : 0 < l.length := by rw [hle, conP_length]; exact conL_pos n rows
    obtain ⟨x0, hx0⟩ := get_some (show 0 < (conL n rows (one n)).length from conL_pos n rows)
    have hl0 : l[0]? = some (ownW rows x0, x0) := by rw [hle]; exact conP_at hx0
    have HG := Lib.hid (Gan.init hx0)
    clear hle hrow key hx0
    go_wp2_with fail
    refine (tabled_any n rows A c 0 0 _ (hr.below hb1)).mono ?_
    rintro e w2 ⟨rfl, rfl⟩
    rw [HC.out]
    obtain ⟨g, off, rfl, c0, c1⟩ := RowP.at HR.out hl0
    rw [Nat.zero_mul, Nat.add_zero] at c0 c1
    have hd0 : ((l.length : Int) == 0) = false := by rw [beq_eq_false_iff_ne]; omega
    have hx64 := HG.out.lt
    have hwx : IntKind.i64.wrap (x0 : Int) = (x0 : Int) := IntWalk.i64_in _ (by omega)
    clear hl0
    go_wp2
    obtain ⟨i0, hi, hz0, hz1, hz2⟩ := info_parts info3
    have HI := Lib.hid (And.intro hi (And.intro hz0 (And.intro hz1 hz2)))
    have HLen := Lib.hid (show l.length = (conL n rows (one n)).length by rw [HLe.out, conP_length])
    have hsz1 := hb1.size
    clear hi hz0 hz1 hz2 hwx hd0 c0 c1
    go_loopw [7, 8, 40] (fun av v iv wr => GanRel n rows l w w1 av v iv wr) (fun _ _ iv _ => l.length - (intOf iv).toNat)
    case atStart => exact ⟨0, [], x0, rfl, Nat.zero_le _, rfl, HG.out, rfl, World.ownsRow_nil _ _ _ _, Below.refl _ _, hb1⟩
    case round =>
      clear hb1 HG hx64
      obtain ⟨k, seen, p, rfl, hk, hsl, hg, rfl, hown, hb2, hbel⟩ := hrel
      subst hsl
      have hlen2 : seen.length < l.length := by have := hg.len; rw [← HLen.out] at this; omega
      have hp := hg.lt
      have HG := Lib.hid hg
      have HO3 := Lib.hid (show _root_.Go.World.ownsRow _ w1.heap.size 3 1 _ (nats seen).length (ints (nats seen)) from hown)
      have hnl : (nats seen).length = seen.length := nats_length seen
      have hwp : IntKind.i64.wrap (p : Int) = (p : Int) := IntWalk.i64_in _ (by omega)
      have hsz := hb2.size
      obtain ⟨hi, hz0, hz1, hz2⟩ := HI.out
      clear hg hown
      go_wp2_with (first | (at_builtin; refine wpList_append_lies _ rfl _ _ 48 rfl w1.heap.size 3 i0 (.int .i64 0) 1 8 Try.underlying48 hi hz0 hz1 hz2 rfl (by decide) _ _ _ rfl (HO3.out.alloc _) ⟨_, 0, none⟩ 1 1 [.int .i64 p] rfl rfl (cell_one_new _ _ _) ?c1 (by decide) ?c2 ?c3 ?c4 _ rfl ?c6))
      case c1 => intro u hu; simp at hu; subst hu; rfl
      case c2 => unfold maxLen; omega
      case c3 => omega
      case c4 => simp; omega
      case c6 =>
        intro g3 cap3 w4 hown4 hgrow4 hat4 hlt4
        have hlt := fun k hk => (World.ownsRow.lt HO3.out k hk).1
        have hb4 := (hb2.alloc hsz _).grown hgrow4 (by simp; omega) hlt
        have hbel4 := (hbel.alloc (by omega) _).grown hgrow4 (by simp; omega) (fun k hk => by have := hlt k hk; omega)
        have HO4 := Lib.hid (show OwnI w4 w1.heap.size (.slice (some ⟨g3, 0, none⟩) (seen.length + 1) cap3) (nats (seen ++ [p])) by
          rw [nats_append]
          unfold OwnI
          rw [ints_append, List.length_append, nats_length]
          exact hown4)
        clear hown4 hgrow4 hat4 hi hz0 hz1 hz2 HO3 hlt hb2 hbel hlt4
        go_wp2_with fail
        refine (KN.out p _ hp (hr.below hbel4) (hX.below hbel4)).mono ?_
        rintro e w5 ⟨s, q, rfl, hsq, hb5⟩
        have hb15 := hb4.trans (hb5.mono hb4.size)
        have hb05 := hbel4.trans (hb5.mono hbel4.size)
        have HO5 := Lib.hid (HO4.out.below hb5)
        clear hb5 hb4 hbel4 HO4
        rcases hsq with ⟨rfl, hnx⟩ | ⟨rfl, rfl, hno⟩
        · have HG2 := Lib.hid (HG.out.step (by omega) hnx)
          clear hnx
          go_wp2
          go_roundw
          case rel => exact ⟨seen.length + 1, seen ++ [p], s, by go_num, by omega, by simp, HG2.out, rfl, HO5.out, hb15, hb05⟩
          case measure => simp [intOf]; omega
        · have HAll := Lib.hid (HG.out.all (by omega) hno)
          have hlast : seen.length + 1 = l.length := by rw [HLen.out]; exact HG.out.last (by omega) hno
          have HNo := Lib.hid hno
          have HHas := Lib.hid (fun (m : Nat) (W : World) (hW : Below w5.heap.size w5 W) (hmem : m ∈ conL n rows (one n)) => show Calls Try.prog 24 #[.slice (some ⟨g3, 0, none⟩) l.length cap3, .int .i64 m] W fun e w' => e = .returned (.bool true) ∧ W = w' from by
            have hro : Row w5 (some ⟨g3, 0, none⟩) (ints (nats (seen ++ [p]))) := by
              have h := HO5.out
              rw [show seen.length + 1 = (nats (seen ++ [p])).length by simp] at h
              exact h.rowAt
            have h := Has_any (nats (seen ++ [p])) (some ⟨g3, 0, none⟩) cap3 m W (hro.below hW) (by simp; omega)
            rw [show (nats (seen ++ [p])).length = l.length by simp; omega, show decide ((m : Int) ∈ nats (seen ++ [p])) = true from decide_eq_true (mem_nats.2 (HAll.out m hmem))] at h
            exact h)
          have HRl := Lib.hid (HR.out.below hb15)
          have hdl : ((l.length : Int) != (l.length : Int)) = false := by simp
          clear hno HO5
          go_wp2
          obtain ⟨w6, hw6⟩ : ∃ w6 : World, w6 = w5 := ⟨_, rfl⟩
          subst hw6
          go_loopw [65] (fun iv wi => ∃ j : Nat, iv = .int .i64 j ∧ j ≤ l.length ∧ Below w6.heap.size w6 wi ∧ Below w.heap.size w wi) (fun iv _ => l.length - (intOf iv).toNat)
          case atStart => exact ⟨0, rfl, Nat.zero_le _, Below.refl _ _, hb05⟩
          case round =>
            rename World => wi
            obtain ⟨j, rfl, hj, hb6, hbel⟩ := hrel
            by_cases hjl : j < l.length
            · obtain ⟨x, hx⟩ := get_some (show j < (conL n rows (one n)).length by rw [← HLen.out]; exact hjl)
              have hlj : l[j]? = some (ownW rows x, x) := by rw [HLe.out]; exact conP_at hx
              obtain ⟨g', off', eg, d0, d1⟩ := RowP.at (HRl.out.below hb6) hlj
              simp only [Option.some.injEq, Addr.mk.injEq, and_true] at eg
              obtain ⟨rfl, rfl⟩ := eg
              have HM := Lib.hid (List.mem_of_getElem? hx)
              have hx64 : x < one n := (mem_conL.1 HM.out).1
              have hwx : IntKind.i64.wrap (x : Int) = (x : Int) := IntWalk.i64_in _ (by omega)
              obtain ⟨y, hy⟩ : ∃ y, ownW rows x = y := ⟨_, rfl⟩
              rw [hy] at d0
              have hb7 := hb6.alloc hb6.size (.cells #[.int .u32 (y : Int), .int .u32 (x : Int)] 36)
              have hbel7 := hbel.alloc hbel.size (.cells #[.int .u32 (y : Int), .int .u32 (x : Int)] 36)
              clear hx hlj hy
              go_wp2_with fail
              refine (HHas.out x _ hb7 HM.out).mono ?_
              rintro e w8 ⟨rfl, rfl⟩
              clear hwx
              go_wp2
              go_roundw
              case rel => exact ⟨j + 1, by go_num, by omega, hb7, hbel7⟩
              case measure => simp [intOf]; omega
            · go_wp2_with fail
              refine (KN.out p _ hp (hr.below hbel) (hX.below hbel)).mono ?_
              rintro e w8 ⟨s, q, rfl, hsq, hb8⟩
              have HB8 := Lib.hid (hbel.trans (hb8.mono hbel.size))
              have hq5 : q = 5 := by
                rcases hsq with ⟨_, h⟩ | ⟨h, _⟩
                · have h4 := h.2.2.1
                  rw [HNo.out s h.1 h.2.1] at h4
                  cases h4
                · exact h
              subst hq5
              clear hsq hb8 hbel hb6
              go_wp2
              go_ret
              exact ⟨rfl, HB8.out⟩
  · rw [if_neg hc] at key
    go_enter Try.func9, Try.ntmps9
    go_wp2_with fail
    refine key.mono ?_
    rintro e w1 ⟨A2, c2, l, rfl, rfl, _, hrow, hb1⟩
    go_wp2_with fail
    refine (tabled_any n rows A c 0 0 _ (hr.below hb1)).mono ?_
    rintro e w2 ⟨rfl, rfl⟩
    clear key hrow
    generalize codeT n rows 0 0 = k at *
    have hk : (k == 0) = false := by simpa using hc
    have hk2 : (k != 0) = true := by simpa using hc
    rw [hk]
    clear hc
    go_wp2
    go_ret
    exact ⟨rfl, hb1⟩
end Go.Proofs.Ytlokldjookngkaa
