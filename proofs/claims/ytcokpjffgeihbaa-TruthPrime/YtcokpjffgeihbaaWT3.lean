/- syllogistref.Product, Clauses, Primes. -/
import Derived.Test.YtcokpjffgeihbaaWT2
import Derived.Test.YtcokpjffgeihbaaSetW
import Derived.Laws.StructEq
namespace Go.Proofs.Ytcokpjffgeihbaa
open Go.RowKit

/-- Is the product true only where the table is, of the first k sets? -/
def prodB (F : Nat → Bool) (y n k : Nat) : Bool := (List.range k).all fun s => !(sub y s && (n &&& s == 0) && !F s)
theorem prodB_succ (F : Nat → Bool) (y n k : Nat) : prodB F y n (k + 1) = (prodB F y n k && !(sub y k && (n &&& k == 0) && !F k)) := by simp [prodB, List.range_succ]
theorem prodB_no {F : Nat → Bool} {y n k m : Nat} (hk : k < m) (h : (!(sub y k && (n &&& k == 0) && !F k)) = false) : prodB F y n m = false := by
  cases e : prodB F y n m with
  | false => rfl
  | true =>
    rw [prodB, List.all_eq_true] at e
    rw [e k (List.mem_range.2 hk)] at h
    cases h
theorem u32_and_zero {a b : Nat} (ha : a < 4294967296) (hb : b < 4294967296) : (bits .and .u32 (a : Int) (b : Int) == 0) = (a &&& b == 0) := by
  rw [u32_and_nat a b ha hb, Bool.eq_iff_iff, beq_iff_eq, beq_iff_eq]
  omega
/-- A struct of two words, in memory. -/
def TwoC (w : World) (g a b : Nat) : Prop := w.cell? ⟨g, 0, none⟩ = some (.int .u32 (a : Int)) ∧ w.cell? ⟨g, 1, none⟩ = some (.int .u32 (b : Int))
theorem TwoC.below {w w' : World} {g a b : Nat} (h : TwoC w g a b) (hb : Below w.heap.size w w') : TwoC w' g a b :=
  ⟨(hb.cell (p := ⟨g, 0, none⟩) (block_lt_of_cell h.1)).trans h.1, (hb.cell (p := ⟨g, 1, none⟩) (block_lt_of_cell h.2)).trans h.2⟩
theorem TwoC.made (w : World) (a b : Nat) (t : TypeId) : TwoC (w.alloc (.cells #[.int .u32 (a : Int), .int .u32 (b : Int)] t)) w.heap.size a b := by
  constructor <;> simp

set_option maxHeartbeats 1000000 in
theorem Product_any (f : List Bool) (A : Option Addr) (c y no : Nat) (w : World) (hl : f.length ≤ 16) (hr : Row w A (boolsC f)) (hy : y < 4294967296) (hno : no < 4294967296) :
    Calls Try.prog 38 #[.slice A f.length c, .agg #[.int .u32 y, .int .u32 no]] w fun e w' => e = .returned (.bool (prodB (atB f) y no f.length)) ∧ Below w.heap.size w w' := by
  have hb1 : Below w.heap.size w (w.alloc (.cells #[.int .u32 (y : Int), .int .u32 (no : Int)] 49)) := (Below.refl _ _).alloc (Nat.le_refl _) _
  have ht := TwoC.made w y no 49
  go_enter Try.func38, Try.ntmps38
  go_wp2
  generalize hw1 : w.alloc (.cells #[.int .u32 (y : Int), .int .u32 (no : Int)] 49) = w1 at *
  go_loopw [5] (fun sv wr => ∃ s : Nat, sv = .int .i64 s ∧ s ≤ f.length ∧ prodB (atB f) y no s = true ∧ w1 = wr) (fun sv _ => f.length - (intOf sv).toNat)
  case atStart => exact ⟨0, rfl, Nat.zero_le _, rfl, rfl⟩
  case round =>
    obtain ⟨s, rfl, hs, hp, rfl⟩ := hrel
    have HP := Lib.hid hp
    clear hp
    by_cases hlt : s < f.length
    · obtain ⟨b, off, rfl, c2⟩ := atB_cell (hr.below hb1) hlt
      obtain ⟨c0, c1⟩ := ht
      have hz := u32_and_zero hno (show s < 4294967296 by omega)
      have HN := Lib.hid (prodB_succ (atB f) y no s)
      have HX := Lib.hid (fun h => prodB_no (F := atB f) (y := y) (n := no) hlt h)
      rw [HP.out, Bool.true_and] at HN
      generalize atB f s = x at c2 HN HX
      go_wp2_with fail
      refine (In_any y s hy (by omega) _).mono ?_
      rintro e w2 ⟨rfl, rfl⟩
      rw [show (y ||| s == s) = sub y s from rfl]
      generalize sub y s = p at *
      generalize (no &&& s == 0) = z at *
      cases p
      · go_wp2
        go_roundw
        case rel => exact ⟨s + 1, by go_num, by omega, by rw [HN.out]; rfl, trivial⟩
        case measure => simp [intOf]; omega
      · cases z
        · rw [beq_eq_false_iff_ne] at hz
          go_wp2
          go_roundw
          case rel => exact ⟨s + 1, by go_num, by omega, by rw [HN.out]; rfl, trivial⟩
          case measure => simp [intOf]; omega
        · rw [beq_iff_eq] at hz
          cases x
          · go_wp2
            go_ret
            exact ⟨ret_bool (HX.out rfl).symm, hb1⟩
          · go_wp2
            go_roundw
            case rel => exact ⟨s + 1, by go_num, by omega, by rw [HN.out]; rfl, trivial⟩
            case measure => simp [intOf]; omega
    · obtain rfl : s = f.length := by omega
      go_wp2
      go_ret
      exact ⟨ret_bool HP.out.symm, hb1⟩

theorem RowR.cells {w : World} {A : Option Addr} {rs : List (Nat × Nat)} {k : Nat} {r : Nat × Nat} (h : Row w A (rulesC rs)) (hr : rs[k]? = some r) :
    ∃ b off, A = some ⟨b, off, none⟩ ∧ w.cell? ⟨b, off + k * 2, none⟩ = some (.int .u32 (r.1 : Int)) ∧ w.cell? ⟨b, off + k * 2 + 1, none⟩ = some (.int .u32 (r.2 : Int)) := by
  have hk : k < rs.length := (List.getElem?_eq_some_iff.1 hr).1
  obtain ⟨b, off, rfl, hc⟩ := h.at (k := k * 2) (by rw [rulesC_length]; omega)
  exact ⟨b, off, rfl, hc _ _ (rulesC_at0 hr), hc _ _ (rulesC_at1 hr)⟩

set_option maxHeartbeats 1000000 in
theorem Clauses_any (xs ys : List (Nat × Nat)) (A A2 : Option Addr) (c c2 : Nat) (w : World) (h : Row w A (rulesC xs)) (h2 : Row w A2 (rulesC ys)) (hn : xs.length ≤ maxLen) (hn2 : ys.length ≤ maxLen) :
    Calls Try.prog 22 #[.slice A xs.length c, .slice A2 ys.length c2] w fun e w' => e = .returned (.bool (decide (xs = ys))) ∧ ∃ d, w' = w.drewN d := by
  have hm1 : xs.length < 9223372036854775808 := by unfold maxLen at hn; omega
  have hm2 : ys.length < 9223372036854775808 := by unfold maxLen at hn2; omega
  by_cases hl : xs.length = ys.length
  · have hd : ((xs.length : Int) != (ys.length : Int)) = false := by simp [hl]
    have HL := Lib.hid hl
    have hle : xs.length ≤ ys.length := by omega
    clear hl
    go_enter Try.func22, Try.ntmps22
    go_wp2
    go_loopw [5] (fun sv wr => ∃ k d : Nat, sv = .int .i64 k ∧ k ≤ xs.length ∧ xs.take k = ys.take k ∧ wr = w.drewN d) (fun sv _ => xs.length - (intOf sv).toNat)
    case atStart => exact ⟨0, 0, rfl, Nat.zero_le _, rfl, rfl⟩
    case round =>
      obtain ⟨k, d, rfl, hk, ht, rfl⟩ := hrel
      have HT := Lib.hid ht
      clear ht
      by_cases hlt : k < xs.length
      · obtain ⟨x, hx⟩ := get_some hlt
        obtain ⟨y, hy⟩ := get_some (show k < ys.length by omega)
        obtain ⟨b, off, rfl, a0, a1⟩ := RowR.cells h hx
        obtain ⟨b', off', rfl, b0, b1⟩ := RowR.cells h2 hy
        have HX := Lib.hid hx
        have HY := Lib.hid hy
        clear hx hy
        obtain ⟨x1, x2⟩ := x
        obtain ⟨y1, y2⟩ := y
        by_cases hxy : x1 = y1 ∧ x2 = y2
        · obtain ⟨rfl, rfl⟩ := hxy
          have HT2 := Lib.hid (show xs.take (k + 1) = ys.take (k + 1) by rw [List.take_add_one, List.take_add_one, HT.out, HX.out, HY.out])
          go_wp2
          go_quiet (fail)
          go_wp2
          go_roundw
          case rel => exact ⟨k + 1, _, by go_num, by omega, HT2.out, by first | rfl | exact (World.drewN_drewN _ _ _)⟩
          case measure => simp [intOf]; omega
        · have HT2 := Lib.hid (show ¬ xs = ys from fun e => by
            have h1 := HX.out
            have h3 := HY.out
            rw [e, h3] at h1
            simp at h1
            exact hxy ⟨h1.1.symm, h1.2.symm⟩)
          have HXY := Lib.hid hxy
          clear hxy
          by_cases h1 : x1 = y1
          · subst h1
            have h3 : ((x2 : Int) == (y2 : Int)) = false := by
              rw [beq_eq_false_iff_ne]
              intro e
              exact HXY.out ⟨rfl, by omega⟩
            go_wp2
            go_quiet (fail)
            go_wp2
            go_ret
            exact ⟨ret_bool (by simpa using HT2.out), _, by first | rfl | exact (World.drewN_drewN _ _ _)⟩
          · have h3 : ((x1 : Int) == (y1 : Int)) = false := by
              rw [beq_eq_false_iff_ne]
              omega
            clear h1
            go_wp2
            go_quiet (fail)
            go_wp2
            go_ret
            exact ⟨ret_bool (by simpa using HT2.out), _, by first | rfl | exact (World.drewN_drewN _ _ _)⟩
      · obtain rfl : k = xs.length := by omega
        have HE := Lib.hid (show xs = ys by
          have := HT.out
          rw [List.take_length, HL.out, List.take_length] at this
          exact this)
        go_wp2
        go_ret
        exact ⟨ret_bool (by simpa using HE.out), d, rfl⟩
  · have hd : ((xs.length : Int) != (ys.length : Int)) = true := by simp; omega
    have HL := Lib.hid (show ¬ xs = ys from fun e => hl (by rw [e]))
    clear hl
    go_enter Try.func22, Try.ntmps22
    go_wp2
    go_ret
    exact ⟨ret_bool (by simpa using HL.out), 0, rfl⟩

end Go.Proofs.Ytcokpjffgeihbaa
