/- concept.Says. -/
import Derived.Test.YtlokldjookngkaaWCo2
namespace Go.Proofs.Ytlokldjookngkaa
open Go.RowKit

theorem cnDown_quiet (rows : List Nat) (A : Option Addr) (c m : Nat) (w : World) (k : Nat) (hr : Row w A (words rows)) (h32 : U32 rows) (hm : m < 4294967296) (hl : rows.length ≤ 8) :
    Calls Try.prog 30 #[.slice A rows.length c, .int .u32 m] (w.drewN k) fun e w'' => e = .returned (.int .u32 (ownW rows m)) ∧ ∃ q, w'' = w.drewN q :=
  (cnDown_any rows A c m (w.drewN k) hr h32 hm hl).mono fun _ _ ⟨he, hw⟩ => ⟨he, k, hw.symm⟩
theorem says_own {rows : List Nat} {a b : Nat} : saysB rows a b = sub (ownW rows a) (ownW rows b) := by
  rw [Bool.eq_iff_iff]
  unfold saysB
  rw [List.all_eq_true, sub_iff]
  constructor
  · intro h i hi
    obtain ⟨h1, h2⟩ := mem_own.1 hi
    exact mem_own.2 ⟨h1, closed_iff.1 (h _ (rows_mem h1)) (a, b) (by simp) h2⟩
  · intro h r hr
    refine closed_iff.2 fun x hx h2 => ?_
    simp at hx
    subst hx
    obtain ⟨i, hi, e⟩ := List.getElem_of_mem hr
    have hg : rows.getD i 0 = r := by rw [List.getD_eq_getElem?_getD, List.getElem?_eq_getElem hi]; exact e
    have := (mem_own.1 (h i (mem_own.2 ⟨hi, by rw [hg]; exact h2⟩))).2
    rw [hg] at this
    exact this

set_option maxHeartbeats 1000000 in
theorem CSays_ok : CSaysOk 20 := by
  intro n rows A c a b w ha hb h32 hm hr hX
  have hbx := below_alloc1 w (.cells #[.int .u32 (a : Int), .int .u32 (b : Int)] 40)
  have hR0 := RuleC.made w a b 40
  have hrow := row_new (w.alloc (.cells #[.int .u32 (a : Int), .int .u32 (b : Int)] 40)) (w.heap.size + 1) (by simp) (words [a, b]) 23
  have hb0 : Below w.heap.size w ((w.alloc (.cells #[.int .u32 (a : Int), .int .u32 (b : Int)] 40)).alloc (.cells (words [a, b]).toArray 23)) := hbx.alloc hbx.size _
  have key := cnCheck_any n rows A c [a, b] _ 2 _ (hr.below hb0) h32 hm hrow (by simp; omega) (by simp)
  have HR0 := Lib.hid (hR0.below (below_alloc1 _ (.cells (words [a, b]).toArray 23)))
  rw [orL_two] at key
  have HB0 := Lib.hid hb0
  by_cases h0 : codeT n rows 0 (a ||| b) = 0
  · obtain ⟨k, e, h1, h2, h3, h4, h5, h6⟩ := codeT_zero h0
    subst e
    rw [h0] at key
    rw [h0, show (((0 : Int) == 0) && saysB rows a b) = saysB rows a b from rfl]
    have o1 := Nat.lt_of_lt_of_le (ownW_lt rows a) (one_le_256' h3)
    have o2 := Nat.lt_of_lt_of_le (ownW_lt rows b) (one_le_256' h3)
    have HS := Lib.hid (u32_subB (show ownW rows a < 4294967296 by omega) (show ownW rows b < 4294967296 by omega))
    have HR := Lib.hid (hr.below hb0)
    have KEY := Lib.hid key
    clear h0 hrow hb0 hbx hR0 key
    go_enter Try.func20, Try.ntmps20
    go_wp2_with fail
    refine KEY.out.mono ?_
    rintro e w1 ⟨rfl, hw1⟩
    rw [hw1] at HR HR0 HB0
    obtain ⟨c0, c1⟩ := HR0.out
    clear hw1 KEY HR0
    go_wp2_with fail
    have ca := fun k => cnDown_quiet rows A c a w1 k HR.out h32 ha h3
    have cb := fun k => cnDown_quiet rows A c b w1 k HR.out h32 hb h3
    go_quiet ((go_at_call 30; first | with_reducible exact ca _ | with_reducible exact cb _))
    go_wp2
    go_ret2
    exact ⟨by rw [says_own, ← HS.out]; rfl, below_drewN HB0.out _⟩
  · have hkf : (codeT n rows 0 (a ||| b) == 0) = false := by simpa using h0
    rw [hkf, Bool.false_and]
    clear hkf
    generalize codeT n rows 0 (a ||| b) = k at *
    have KEY := Lib.hid key
    clear hrow hb0 hbx hR0 key HR0
    go_enter Try.func20, Try.ntmps20
    go_wp2_with fail
    refine KEY.out.mono ?_
    rintro e w1 ⟨rfl, rfl⟩
    go_wp2
    go_ret2
    exact ⟨rfl, HB0.out⟩

end Go.Proofs.Ytlokldjookngkaa
