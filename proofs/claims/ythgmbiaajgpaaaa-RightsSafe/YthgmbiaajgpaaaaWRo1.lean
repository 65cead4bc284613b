/- rights.has, obtained, check, checkFor. -/
import Derived.Test.YthgmbiaajgpaaaaWRt3
import Derived.Test.YthgmbiaajgpaaaaRtSpec
import Derived.Shelf.Abstract
namespace Go.Proofs.Ythgmbiaajgpaaaa
open Go.RowKit

theorem sub_and_eq (r s : Nat) : (r &&& s == s) = sub s r := by
  unfold sub
  rw [Bool.eq_iff_iff, beq_iff_eq, beq_iff_eq]
  constructor
  · intro h
    refine Nat.eq_of_testBit_eq fun i => ?_
    have := congrArg (fun x => Nat.testBit x i) h
    simp only [Nat.testBit_and] at this
    rw [Nat.testBit_or, ← this]
    cases r.testBit i <;> simp
  · intro h
    refine Nat.eq_of_testBit_eq fun i => ?_
    have := congrArg (fun x => Nat.testBit x i) h
    simp only [Nat.testBit_or] at this
    rw [Nat.testBit_and, ← this]
    cases s.testBit i <;> simp
theorem rHas_any (r s : Nat) (hr : r < 4294967296) (hs : s < 4294967296) (w : World) :
    Calls Try.prog 21 #[.int .u32 (r : Int), .int .u32 (s : Int)] w fun e w' => e = .returned (.bool (sub s r)) ∧ w = w' := by
  go_enter Try.func21, Try.ntmps21
  go_wp2
  go_ret
  exact ⟨ret_bool (by rw [u32_and_nat r s hr hs, ← sub_and_eq, Bool.eq_iff_iff]; simp only [beq_iff_eq]; omega), rfl⟩

/-- What the rules give from a and b. -/
def obtL (a b : Nat) (l : List Chn) : Nat := orL (l.map fun h => if (sub h.a a && sub h.b b) = true then h.c else 0)
theorem obtL_take {a b t : Nat} {l : List Chn} {h : Chn} (ht : l[t]? = some h) : obtL a b (l.take (t + 1)) = obtL a b (l.take t) ||| (if (sub h.a a && sub h.b b) = true then h.c else 0) := by
  unfold obtL
  rw [List.take_add_one, ht, List.map_append, orL_app]
  simp [orL]
theorem obtL_u32 {a b : Nat} {l : List Chn} (hc : C32 l) : obtL a b l < 4294967296 := orL_u32 fun x hx => by
  rw [List.mem_map] at hx
  obtain ⟨h, hh, rfl⟩ := hx
  split
  · exact (hc h hh).2.2
  · decide
theorem addJ_obt (F : Nat → Nat → Nat) (i k j : Nat) (l : List Chn) : addJ F i k j l = obtL (F i j) (F j k) l := rfl

set_option maxHeartbeats 1000000 in
theorem rObt_any (a b : Nat) (ha : a < 4294967296) (hb : b < 4294967296) (l : List Chn) (A2 : Option Addr) (c2 : Nat) (hc32 : C32 l) (hl : l.length ≤ 10) (w : World) (hr : Row w A2 (chnsC l)) :
    Calls Try.prog 27 #[.slice A2 l.length c2, .int .u32 (a : Int), .int .u32 (b : Int)] w fun e w' => e = .returned (.int .u32 (obtL a b l : Int)) ∧ Below w.heap.size w w' := by
  have HC := Lib.hid hc32
  have HR := Lib.hid hr
  clear hc32 hr
  go_enter Try.func27, Try.ntmps27
  go_wp2
  go_loopw [7, 12] (fun rv tv wr => ∃ t : Nat, tv = .int .i64 t ∧ rv = .int .u32 (obtL a b (l.take t) : Int) ∧ t ≤ l.length ∧ Hid (Below w.heap.size w wr)) (fun _ tv _ => l.length - (intOf tv).toNat)
  case atStart => exact ⟨0, rfl, rfl, Nat.zero_le _, Lib.hid (Below.refl _ _)⟩
  case round =>
    obtain ⟨t, rfl, rfl, ht, HB⟩ := hrel
    have hu : obtL a b (l.take t) < 4294967296 := obtL_u32 fun c hc => HC.out c (List.mem_of_mem_take hc)
    by_cases hlt : t < l.length
    · obtain ⟨h, hh⟩ := get_some hlt
      obtain ⟨bc, oc, rfl, x0, x1, x2⟩ := RowCh.cells (HR.out.below HB.out) hh
      have HS := Lib.hid (obtL_take (a := a) (b := b) hh)
      obtain ⟨u0, u1, u2⟩ := HC.out h (List.mem_of_getElem? hh)
      have HB2 := Lib.hid (HB.out.trans ((Below.refl wr.heap.size wr).alloc (Nat.le_refl _) (.cells #[.int .u32 (h.a : Int), .int .u32 (h.b : Int), .int .u32 (h.c : Int)] 44) |>.mono HB.out.size))
      have z0 : (wr.alloc (.cells #[.int .u32 (h.a : Int), .int .u32 (h.b : Int), .int .u32 (h.c : Int)] 44)).cell? ⟨wr.heap.size, 0, none⟩ = some (.int .u32 (h.a : Int)) := cell_of_row _ _ 0 _ _ _ (heap_alloc_new wr _)
      have z1 : (wr.alloc (.cells #[.int .u32 (h.a : Int), .int .u32 (h.b : Int), .int .u32 (h.c : Int)] 44)).cell? ⟨wr.heap.size, 1, none⟩ = some (.int .u32 (h.b : Int)) := cell_of_row _ _ 1 _ _ _ (heap_alloc_new wr _)
      have z2 : (wr.alloc (.cells #[.int .u32 (h.a : Int), .int .u32 (h.b : Int), .int .u32 (h.c : Int)] 44)).cell? ⟨wr.heap.size, 2, none⟩ = some (.int .u32 (h.c : Int)) := cell_of_row _ _ 2 _ _ _ (heap_alloc_new wr _)
      have hor := u32_or_nat _ h.c hu u2
      obtain ⟨sA, hsA⟩ : ∃ sA, sub h.a a = sA := ⟨_, rfl⟩
      obtain ⟨sB, hsB⟩ : ∃ sB, sub h.b b = sB := ⟨_, rfl⟩
      have kA := rHas_any a h.a ha u0 (wr.alloc (.cells #[.int .u32 (h.a : Int), .int .u32 (h.b : Int), .int .u32 (h.c : Int)] 44))
      have kB := rHas_any b h.b hb u1 (wr.alloc (.cells #[.int .u32 (h.a : Int), .int .u32 (h.b : Int), .int .u32 (h.c : Int)] 44))
      rw [hsA] at kA HS
      rw [hsB] at kB HS
      have HlA := Lib.hid hlt
      clear hsA hsB hh
      cases sA with
      | false =>
        rw [if_neg (by simp), Nat.or_zero] at HS
        clear kB
        go_wp2_with fail
        refine kA.mono ?_
        rintro e w3 ⟨rfl, rfl⟩
        go_wp2
        go_roundw
        case rel => exact ⟨t + 1, by go_num, by rw [HS.out], by omega, HB2⟩
        case measure => simp [intOf]; omega
      | true =>
        cases sB with
        | false =>
          rw [if_neg (by simp), Nat.or_zero] at HS
          go_wp2_with fail
          refine kA.mono ?_
          rintro e w3 ⟨rfl, rfl⟩
          go_wp2_with fail
          refine kB.mono ?_
          rintro e w3 ⟨rfl, rfl⟩
          go_wp2
          go_roundw
          case rel => exact ⟨t + 1, by go_num, by rw [HS.out], by omega, HB2⟩
          case measure => simp [intOf]; omega
        | true =>
          rw [if_pos (by simp)] at HS
          go_wp2_with fail
          refine kA.mono ?_
          rintro e w3 ⟨rfl, rfl⟩
          go_wp2_with fail
          refine kB.mono ?_
          rintro e w3 ⟨rfl, rfl⟩
          go_wp2
          go_roundw
          case rel => exact ⟨t + 1, by go_num, by first | rw [HS.out] | (rw [HS.out]; exact congrArg _ hor), by omega, HB2⟩
          case measure => simp [intOf]; omega
    · obtain rfl : t = l.length := by omega
      go_wp2
      go_ret
      exact ⟨ret_int (by rw [List.take_length]), HB.out⟩

/-! ## The checks -/
def wideP (n : Int) (r : List Nat) : Bool := decide ((r.length : Int) ≠ n)
theorem rWide_any (n : Int) (r : List Nat) (A : Option Addr) (c b : Nat) (w : World) (hb : w.cell? ⟨b, 0, none⟩ = some (.int .i64 n)) :
    Calls Try.prog 24 (#[.slice A r.length c] ++ #[.pointer (some ⟨b, 0, none⟩)]) w fun e w' => e = .returned (.bool (wideP n r)) ∧ w = w' := by
  show Calls Try.prog 24 #[.slice A r.length c, .pointer (some ⟨b, 0, none⟩)] w _
  go_enter Try.func24, Try.ntmps24
  go_wp2
  go_ret
  exact ⟨ret_bool (by unfold wideP; rw [Bool.eq_iff_iff, decide_eq_true_iff, bne_iff_ne]), rfl⟩
theorem rWide_enters (args : Array Value) (w : World) : (callFunc 24 args).run Try.prog w = .ok (.enter 24 args) w := enters_of Try.func24 (by kernel_rfl) rfl args w
theorem anyM_take_succ {α : Type} {l : List α} {p : α → Bool} {k : Nat} {y : α} (hy : l[k]? = some y) (h : (l.take k).any p = false) (h2 : p y = false) : (l.take (k + 1)).any p = false := by
  rw [List.take_add_one, hy, List.any_append, h]
  simp [h2]

set_option maxHeartbeats 1000000 in
theorem rIndexFunc_any (m : Mat) (A : Option Addr) (c : Nat) (g : Nat) (lb : Array Value) (p : List Nat → Bool) (w : World) (h : Mats w A m) (hn : m.length ≤ 1000000)
    (eg : ∀ args w, (callFunc g args).run Try.prog w = .ok (.enter g args) w)
    (hf : ∀ x A c, x ∈ m → Calls Try.prog g (#[.slice A x.length c] ++ lb) w fun e w' => e = .returned (.bool (p x)) ∧ w = w') :
    Calls Try.prog 30 #[.slice A m.length c, .func (.func g) #[] lb] w fun e w' => (∃ r : Int, e = .returned (.int .i64 r) ∧ decide (0 ≤ r) = m.any p) ∧ w = w' := by
  have HF := Lib.hid hf
  clear hf
  go_enter Try.func30, Try.ntmps30
  go_wp2
  go_loopw [8] (fun i wr => ∃ k : Nat, i = .int .i64 k ∧ k ≤ m.length ∧ (m.take k).any p = false ∧ w = wr) (fun i _ => m.length - (intOf i).toNat)
  case atStart => exact ⟨0, rfl, Nat.zero_le _, by simp, rfl⟩
  case round =>
    obtain ⟨k, rfl, hk, hno, rfl⟩ := hrel
    have HN := Lib.hid hno
    clear hno
    by_cases hlt : k < m.length
    · obtain ⟨y, hy⟩ := get_some hlt
      obtain ⟨b, off, A', c', rfl, hck, _⟩ := h.row hy
      have HY := Lib.hid hy
      clear hy
      go_wp2_with fail
      refine (HF.out y A' c' (List.mem_of_getElem? HY.out)).mono ?_
      rintro e w' ⟨rfl, rfl⟩
      by_cases hp : p y = true
      · have HM := Lib.hid (show decide (0 ≤ (k : Int)) = m.any p by rw [decide_eq_true (show 0 ≤ (k : Int) by omega)]; exact (List.any_eq_true.2 ⟨y, List.mem_of_getElem? HY.out, hp⟩).symm)
        rw [hp]
        clear hp
        go_wp2
        go_ret
        exact ⟨⟨_, rfl, HM.out⟩, rfl⟩
      · rw [Bool.not_eq_true] at hp
        have HM := Lib.hid (anyM_take_succ HY.out HN.out hp)
        rw [hp]
        clear hp
        go_wp2
        go_roundw
        case rel => exact ⟨k + 1, by go_num, by omega, HM.out, trivial⟩
        case measure => simp [intOf]; omega
    · go_wp2
      go_ret
      have hno := HN.out
      rw [List.take_of_length_le (by omega)] at hno
      exact ⟨⟨_, rfl, by rw [hno]; decide⟩, rfl⟩

set_option maxHeartbeats 1000000 in
theorem rContainsFunc_any (m : Mat) (A : Option Addr) (c : Nat) (g : Nat) (lb : Array Value) (p : List Nat → Bool) (w : World) (h : Mats w A m) (hn : m.length ≤ 1000000)
    (eg : ∀ args w, (callFunc g args).run Try.prog w = .ok (.enter g args) w)
    (hf : ∀ x A c, x ∈ m → Calls Try.prog g (#[.slice A x.length c] ++ lb) w fun e w' => e = .returned (.bool (p x)) ∧ w = w') :
    Calls Try.prog 25 #[.slice A m.length c, .func (.func g) #[] lb] w fun e w' => e = .returned (.bool (m.any p)) ∧ w = w' := by
  have HF := Lib.hid hf
  clear hf
  go_enter Try.func25, Try.ntmps25
  go_wp2_with fail
  refine (rIndexFunc_any m A c g lb p w h hn eg HF.out).mono ?_
  rintro e w' ⟨⟨r, rfl, hr⟩, rfl⟩
  have HR := Lib.hid hr
  clear hr
  go_wp2
  go_ret
  exact ⟨ret_bool (by first | exact HR.out | (rw [← HR.out]; simp)), rfl⟩

set_option maxHeartbeats 1000000 in
theorem rCheck_any (n : Int) (m : Mat) (A : Option Addr) (c : Nat) (A2 : Option Addr) (nc c2 : Nat) (w : World) (hr : Mats w A m) :
    Calls Try.prog 17 #[.int .i64 n, .slice A m.length c, .slice A2 nc c2] w fun e w' => e = .returned (.int .i64 (codeX n m nc)) ∧ Below w.heap.size w w' := by
  have HB := Lib.hid ((Below.refl w.heap.size w).alloc (Nat.le_refl _) (.cells #[.int .i64 n] 3))
  have z0 : (w.alloc (.cells #[.int .i64 n] 3)).cell? ⟨w.heap.size, 0, none⟩ = some (.int .i64 n) := cell_of_row _ _ 0 _ _ _ (heap_alloc_new w _)
  by_cases hL : n < 1 ∨ 6 < n ∨ 10 < nc
  · have HC := Lib.hid (codeX_large (m := m) hL)
    rw [HC.out]
    by_cases h1 : n < 1
    · clear hL; go_enter Try.func17, Try.ntmps17; go_wp2; go_ret; exact ⟨rfl, HB.out⟩
    · by_cases h2 : 6 < n
      · clear hL; go_enter Try.func17, Try.ntmps17; go_wp2; go_ret; exact ⟨rfl, HB.out⟩
      · have h3 : 10 < nc := by omega
        clear hL; go_enter Try.func17, Try.ntmps17; go_wp2; go_ret; exact ⟨rfl, HB.out⟩
  · have HL := Lib.hid hL
    obtain ⟨g1, g2, g3⟩ : 1 ≤ n ∧ n ≤ 6 ∧ nc ≤ 10 := by omega
    clear hL
    by_cases hml : (m.length : Int) = n
    · have hm6 : m.length ≤ 1000000 := by omega
      have KC := Lib.hid (rContainsFunc_any m A c 24 #[.pointer (some ⟨w.heap.size, 0, none⟩)] (wideP n) _ (hr.below HB.out) hm6 rWide_enters (fun x A c _ => rWide_any n x A c w.heap.size _ z0))
      have hne : ((m.length : Int) != n) = false := by simpa using hml
      have HML := Lib.hid hml
      clear hr hml
      go_enter Try.func17, Try.ntmps17
      go_wp2_with fail
      refine KC.out.mono ?_
      rintro e w2 ⟨rfl, rfl⟩
      by_cases hal : m.any (wideP n) = true
      · have HC := Lib.hid (codeX_bad HL.out (m := m) (nc := nc) (fun h => by
          rw [List.any_eq_true] at hal
          obtain ⟨r, h1, h2⟩ := hal
          unfold wideP at h2
          rw [decide_eq_true_iff] at h2
          exact h2 (h.2 r h1)))
        rw [hal]
        clear hal
        go_wp2
        go_ret
        exact ⟨ret_int HC.out.symm, HB.out⟩
      · have HC := Lib.hid (codeX_ok HL.out (m := m) (nc := nc) ⟨HML.out, fun r h1 => by
          rw [Bool.not_eq_true, List.any_eq_false] at hal
          have h2 := hal r h1
          unfold wideP at h2
          rw [decide_eq_true_iff] at h2
          exact Decidable.not_not.1 h2⟩)
        rw [Bool.not_eq_true] at hal
        rw [hal]
        clear hal
        go_wp2
        go_ret
        exact ⟨ret_int HC.out.symm, HB.out⟩
    · have HC := Lib.hid (codeX_bad HL.out (m := m) (nc := nc) (fun h => hml h.1))
      have hne : ((m.length : Int) != n) = true := by simpa using hml
      clear hml
      go_enter Try.func17, Try.ntmps17
      go_wp2
      go_ret
      exact ⟨ret_int HC.out.symm, HB.out⟩

set_option maxHeartbeats 1000000 in
theorem rCheckFor_any (n : Int) (m : Mat) (A : Option Addr) (c : Nat) (A2 : Option Addr) (nc c2 : Nat) (x y : Int) (w : World) (hr : Mats w A m) :
    Calls Try.prog 20 #[.int .i64 n, .slice A m.length c, .slice A2 nc c2, .int .i64 x, .int .i64 y] w fun e w' => e = .returned (.int .i64 (codeXC n m nc x y)) ∧ Below w.heap.size w w' := by
  have KC := rCheck_any n m A c A2 nc c2 w hr
  have HX := Lib.hid (show codeXC n m nc x y = if codeX n m nc ≠ 0 then codeX n m nc else if x < 0 ∨ n ≤ x ∨ y < 0 ∨ n ≤ y then 2 else 0 from rfl)
  generalize codeX n m nc = q at *
  generalize codeXC n m nc x y = q2 at *
  clear hr
  by_cases h0 : q = 0
  · subst h0
    rw [if_neg (by simp)] at HX
    by_cases h1 : min x y < 0
    · rw [if_pos (by omega)] at HX
      go_enter Try.func20, Try.ntmps20
      go_wp2_with fail
      refine KC.mono ?_
      rintro e w2 ⟨rfl, hb⟩
      have HB := Lib.hid hb
      clear hb
      go_wp2
      all_goals (go_ret; exact ⟨ret_int HX.out.symm, HB.out⟩)
    · by_cases h2 : n ≤ max x y
      · rw [if_pos (by omega)] at HX
        go_enter Try.func20, Try.ntmps20
        go_wp2_with fail
        refine KC.mono ?_
        rintro e w2 ⟨rfl, hb⟩
        have HB := Lib.hid hb
        clear hb
        go_wp2
        all_goals (go_ret; exact ⟨ret_int HX.out.symm, HB.out⟩)
      · rw [if_neg (by omega)] at HX
        go_enter Try.func20, Try.ntmps20
        go_wp2_with fail
        refine KC.mono ?_
        rintro e w2 ⟨rfl, hb⟩
        have HB := Lib.hid hb
        clear hb
        go_wp2
        all_goals (go_ret; exact ⟨ret_int HX.out.symm, HB.out⟩)
  · rw [if_pos h0] at HX
    have hne : (q != 0) = true := by simpa using h0
    clear h0
    go_enter Try.func20, Try.ntmps20
    go_wp2_with fail
    refine KC.mono ?_
    rintro e w2 ⟨rfl, hb⟩
    have HB := Lib.hid hb
    clear hb
    go_wp2
    go_ret
    exact ⟨ret_int HX.out.symm, HB.out⟩

end Go.Proofs.Ythgmbiaajgpaaaa
