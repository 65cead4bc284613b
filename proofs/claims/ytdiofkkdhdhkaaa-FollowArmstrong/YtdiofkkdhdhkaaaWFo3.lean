/- follow.follows. -/
import Derived.Test.YtdiofkkdhdhkaaaWFo2
import Derived.Test.YtdiofkkdhdhkaaaLawFCl
namespace Go.Proofs.Ytdiofkkdhdhkaaa
open Go.RowKit

set_option maxHeartbeats 1000000 in
theorem fwFol_any (n : Nat) (hn : n ≤ 6) (rs : List (Nat × Nat)) (A : Option Addr) (c a b : Nat) (w : World) (hr : Row w A (rulesC rs)) (hf : FitR n rs) (hl : rs.length ≤ 1000000) (ha : a < one n) (hb : b < 4294967296) :
    Calls Try.prog 28 #[.slice A rs.length c, .agg #[.int .u32 a, .int .u32 b]] w fun e w' => e = .returned (.bool (sub b (closeW n rs a))) ∧ Below w.heap.size w w' := by
  have h64 := one_le_64 hn
  have hcl := closeW_lt n rs a
  have hb0 : Below w.heap.size w (w.alloc (.cells #[.int .u32 (a : Int), .int .u32 (b : Int)] 31)).drew := ((Below.refl _ _).alloc (Nat.le_refl _) _).drew
  have hRd : RuleAt (w.alloc (.cells #[.int .u32 (a : Int), .int .u32 (b : Int)] 31)).drew w.heap.size a b := RuleAt.made w a b 31
  have hrd := hr.below hb0
  have hz := u32_subB hb (show closeW n rs a < 4294967296 by omega)
  have HRd := Lib.hid hRd
  have HBd := Lib.hid hb0
  clear hRd hb0
  go_enter Try.func28, Try.ntmps28
  go_wp2
  generalize hsz : w.heap.size = sz at *
  go_region_held3 (fun w' => w'.cell? ⟨sz, 0, none⟩ = some (.int .u32 (a : Int)) ∧ w'.cell? ⟨sz, 1, none⟩ = some (.int .u32 (b : Int))) (first | exact HRd.out | exact HR3.out)
    (first
    | (go_at_call 27
       refine (fwGrow_any n hn rs A c a _ hrd hf hl ha).mono ?_
       rintro e w3 ⟨rfl, hb3⟩
       have HR3 := Lib.hid (HRd.out.below hb3)
       have HB3 := Lib.hid (HBd.out.trans (hb3.mono (by rw [← hsz]; exact HBd.out.size)))
       clear hb3))
  all_goals
    go_wp2
    go_ret
    exact ⟨by first | rfl | exact ret_bool hz, by rw [hsz]; exact HB3.out⟩

theorem heap_new_at (w : World) (o : Obj) (g : Nat) (hg : g = w.heap.size) : (w.alloc o).heap[g]? = some o := by
  rw [hg]
  exact heap_alloc_new w o
theorem two_set0 {w : World} {g : Nat} {x y u : Value} {t : TypeId} (h : w.heap[g]? = some (.cells #[x, y] t (0, 0))) :
    (w.setCell ⟨g, 0, none⟩ u).heap[g]? = some (.cells #[u, y] t (0, 0)) := by
  have hlt := lt_of_block h
  have h' : w.heap[g] = .cells #[x, y] t (0, 0) := by simpa [Array.getElem?_eq_getElem hlt] using h
  show (w.heap.modify g _)[g]? = _
  rw [Array.getElem?_eq_getElem (by simpa using hlt), Array.getElem_modify_self, h']
  rfl
theorem two_set1 {w : World} {g : Nat} {x y u : Value} {t : TypeId} (h : w.heap[g]? = some (.cells #[x, y] t (0, 0))) :
    (w.setCell ⟨g, 1, none⟩ u).heap[g]? = some (.cells #[x, u] t (0, 0)) := by
  have hlt := lt_of_block h
  have h' : w.heap[g] = .cells #[x, y] t (0, 0) := by simpa [Array.getElem?_eq_getElem hlt] using h
  show (w.heap.modify g _)[g]? = _
  rw [Array.getElem?_eq_getElem (by simpa using hlt), Array.getElem_modify_self, h']
  rfl
theorem two_setCell {w : World} {g : Nat} {x y u v : Value} {t : TypeId} (h : w.heap[g]? = some (.cells #[x, y] t (0, 0))) :
    ((w.setCell ⟨g, 0, none⟩ u).setCell ⟨g, 1, none⟩ v).heap[g]? = some (.cells #[u, v] t (0, 0)) := two_set1 (two_set0 h)
theorem two_other {w : World} {g g' : Nat} {o : Obj} {u v : Value} (h : w.heap[g']? = some o) (hg : g' ≠ g) :
    ((w.setCell ⟨g, 0, none⟩ u).setCell ⟨g, 1, none⟩ v).heap[g']? = some o :=
  (Below.heap_setCell _ _ _ _ hg).trans ((Below.heap_setCell _ _ _ _ hg).trans h)
/-- What shorten has left of a, once it has looked at the first k things. -/
def shortP (n : Nat) (rs : List (Nat × Nat)) (b a : Nat) : Nat → Nat
  | 0 => a
  | k + 1 => if sub b (closeW n rs (wo (shortP n rs b a k) (one k))) = true then wo (shortP n rs b a k) (one k) else shortP n rs b a k
def shortW (n : Nat) (rs : List (Nat × Nat)) (b a : Nat) : Nat := shortP n rs b a 6
theorem shortP_le (n : Nat) (rs : List (Nat × Nat)) (b a : Nat) : ∀ k, shortP n rs b a k ≤ a
  | 0 => Nat.le_refl _
  | k + 1 => by
    have := shortP_le n rs b a k
    unfold shortP
    split
    · exact Nat.le_trans (wo_le _ _) this
    · exact this

set_option maxHeartbeats 1000000 in
theorem fwShort_any (n : Nat) (hn : n ≤ 6) (rs : List (Nat × Nat)) (A : Option Addr) (c a b : Nat) (w : World) (hr : Row w A (rulesC rs)) (hf : FitR n rs) (hl : rs.length ≤ 1000000) (ha : a < one n) (hb : b < 4294967296) :
    Calls Try.prog 30 #[.slice A rs.length c, .agg #[.int .u32 a, .int .u32 b]] w fun e w' => e = .returned (.agg #[.int .u32 (shortW n rs b a), .int .u32 b]) ∧ Below w.heap.size w w' := by
  have h64 := one_le_64 hn
  go_enter Try.func30, Try.ntmps30
  go_wp2
  go_loopw [7] (fun iv wr => ∃ k : Nat, iv = .int .i64 k ∧ k ≤ 6 ∧ (∃ x : Nat, x = shortP n rs b a k ∧ wr.heap[w.heap.size]? = some (.cells #[.int .u32 (x : Int), .int .u32 (b : Int)] 31 (0, 0))) ∧
      wr.heap[w.heap.size + 1]? = some (.cells #[.int .u32 0, .int .u32 0] 31 (0, 0)) ∧ Below w.heap.size w wr) (fun iv _ => 6 - (intOf iv).toNat)
  case atStart =>
    refine ⟨0, rfl, by omega, ⟨_, rfl, ?_⟩, ?_, ((Below.refl _ _).alloc (Nat.le_refl _) _).alloc (by simp) _⟩
    · exact (Below.heap_alloc _ _ _ (by simp)).trans (heap_alloc_new _ _)
    · exact heap_new_at _ _ _ (by simp)
  case round =>
    obtain ⟨k, rfl, hk, ⟨x, hx, hh⟩, hh2, hbel⟩ := hrel
    have HX := Lib.hid hx
    have c0 : wr.cell? ⟨w.heap.size, 0, none⟩ = some (.int .u32 (x : Int)) := by simp [World.cell?, hh]
    have c1 : wr.cell? ⟨w.heap.size, 1, none⟩ = some (.int .u32 (b : Int)) := by simp [World.cell?, hh]
    have hgt := lt_of_block hh
    have hgt2 := lt_of_block hh2
    have hxa : x ≤ a := by rw [hx]; exact shortP_le n rs b a k
    have HH := Lib.hid hh
    have HH2 := Lib.hid hh2
    clear hh hx hh2
    by_cases hlt : k < 6
    · have h1k := one_lt (show k < 32 by omega)
      have hwo := u32_wo (show x < 4294967296 by omega) h1k
      have hwl := wo_le x (one k)
      have HW := Lib.hid (show RuleAt (wr.alloc (.cells #[.int .u32 ((wo x (one k) : Nat) : Int), .int .u32 (b : Int)] 31)).drew wr.heap.size (wo x (one k)) b from RuleAt.made wr (wo x (one k)) b 31)
      have HB := Lib.hid ((hbel.alloc hbel.size (.cells #[.int .u32 ((wo x (one k) : Nat) : Int), .int .u32 (b : Int)] 31)).drew)
      go_wp2
      generalize hsz : w.heap.size = sz at *
      go_region_held3 (fun w' => w'.cell? ⟨sz, 0, none⟩ = some (.int .u32 (x : Int)) ∧ w'.cell? ⟨sz, 1, none⟩ = some (.int .u32 (b : Int))) (first | exact ⟨c0, c1⟩ | go_keep)
        (first
        | (go_at_call 35
           refine (fwOnly_any k (by omega) _).mono ?_
           rintro e w3 ⟨rfl, rfl⟩))
      all_goals
        subst hsz
        clear hwo
        go_wp2_with fail
        refine (fwFol_any n hn rs A c (wo x (one k)) b _ (hr.below HB.out) hf hl (by omega) hb).mono ?_
        rintro e w4 ⟨rfl, hb4⟩
        have B4 : Below wr.heap.size wr w4 := (((Below.refl _ _).alloc (Nat.le_refl _) _).drew).trans (hb4.mono (by simp))
        have hR4 := HW.out.below hb4
        have h4 : w4.heap[w.heap.size]? = some (.cells #[.int .u32 (x : Int), .int .u32 (b : Int)] 31 (0, 0)) := (B4.block _ hgt).trans HH.out
        have H42 := Lib.hid ((B4.block _ hgt2).trans HH2.out)
        have H4 := Lib.hid h4
        have HB4 := Lib.hid (hbel.trans (B4.mono hbel.size))
        have f0 : w4.frozen? ⟨w.heap.size, 0, none⟩ = false := by simp [World.frozen?, h4]
        have f1 : w4.frozen? ⟨w.heap.size, 1, none⟩ = false := by simp [World.frozen?, h4]
        have d0 : w4.cell? ⟨w.heap.size, 0, none⟩ = some (.int .u32 (x : Int)) := by simp [World.cell?, h4]
        have d1 : w4.cell? ⟨w.heap.size, 1, none⟩ = some (.int .u32 (b : Int)) := by simp [World.cell?, h4]
        obtain ⟨e0, e1⟩ := hR4
        clear h4 hb4 B4 c0 c1
        cases h : sub b (closeW n rs (wo x (one k))) with
        | false =>
          have HS := Lib.hid (show x = shortP n rs b a (k + 1) by rw [shortP, ← HX.out, if_neg (by rw [h]; decide)])
          clear h
          go_wp2
          go_roundw
          case rel => exact ⟨k + 1, by go_num, by omega, ⟨x, HS.out, H4.out⟩, H42.out, HB4.out⟩
          case measure => simp [intOf]; omega
        | true =>
          have HS := Lib.hid (show wo x (one k) = shortP n rs b a (k + 1) by rw [shortP, ← HX.out, if_pos h])
          clear h
          go_wp2
          go_roundw
          case rel => exact ⟨k + 1, by go_num, by omega, ⟨_, HS.out, two_setCell H4.out⟩, two_other H42.out (by omega), (HB4.out.setCell (Nat.le_refl _) _).setCell (Nat.le_refl _) _⟩
          case measure => simp [intOf]; omega
    · obtain rfl : k = 6 := by omega
      have f0 : wr.frozen? ⟨w.heap.size + 1, 0, none⟩ = false := by simp [World.frozen?, HH2.out]
      have f1 : wr.frozen? ⟨w.heap.size + 1, 1, none⟩ = false := by simp [World.frozen?, HH2.out]
      have d0 : wr.cell? ⟨w.heap.size + 1, 0, none⟩ = some (.int .u32 0) := by simp [World.cell?, HH2.out]
      have d1 : wr.cell? ⟨w.heap.size + 1, 1, none⟩ = some (.int .u32 0) := by simp [World.cell?, HH2.out]
      have hh := two_setCell (u := .int .u32 (x : Int)) (v := .int .u32 (b : Int)) HH2.out
      have r0 : ((wr.setCell ⟨w.heap.size + 1, 0, none⟩ (.int .u32 (x : Int))).setCell ⟨w.heap.size + 1, 1, none⟩ (.int .u32 (b : Int))).cell? ⟨w.heap.size + 1, 0, none⟩ = some (.int .u32 (x : Int)) := by rw [World.cell?, hh]; rfl
      have r1 : ((wr.setCell ⟨w.heap.size + 1, 0, none⟩ (.int .u32 (x : Int))).setCell ⟨w.heap.size + 1, 1, none⟩ (.int .u32 (b : Int))).cell? ⟨w.heap.size + 1, 1, none⟩ = some (.int .u32 (b : Int)) := by rw [World.cell?, hh]; rfl
      have R0 := Lib.hid r0
      have R1 := Lib.hid r1
      clear r0 r1 hh
      go_wp2
      refine bodyPost_ret (v := .agg #[.int .u32 (x : Int), .int .u32 (b : Int)]) (by simp [results, Try.results30, go_sem, R0.out, R1.out]) rfl ?_
      exact ⟨by rw [HX.out]; rfl, (hbel.setCell (by simp) _).setCell (by simp) _⟩

end Go.Proofs.Ytdiofkkdhdhkaaa
