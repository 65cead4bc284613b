/- syllogistref.TableCheck, Up, Owners, Concepts, Behind. -/
import Derived.Test.YtlokldjookngkaaCn
import Derived.Test.YtlokldjookngkaaW1
import Derived.Test.YtlokldjookngkaaOwnU
namespace Go.Proofs.Ytlokldjookngkaa
open Go.RowKit

/-- Words of 32 bits. -/
def U32 (rows : List Nat) : Prop := ∀ r ∈ rows, r < 4294967296
theorem FitT.u32 {n : Nat} {rows : List Nat} (h : FitT n rows) (hn : n ≤ 6) : U32 rows := fun r hr => by have h1 := h r hr; have h2 := one_le_64 hn; omega
theorem rows_at {rows : List Nat} {k : Nat} (h : k < rows.length) : rows[k]? = some (rows.getD k 0) := by
  rw [List.getD_eq_getElem?_getD, List.getElem?_eq_getElem h]; rfl
theorem rows_mem {rows : List Nat} {k : Nat} (h : k < rows.length) : rows.getD k 0 ∈ rows := List.mem_of_getElem? (rows_at h)

set_option maxHeartbeats 1000000 in
theorem TableCheck_any (n : Int) (rows : List Nat) (A : Option Addr) (c o m : Nat) (w : World) (hr : Row w A (words rows)) :
    Calls Try.prog 12 #[.int .i64 n, .slice A rows.length c, .int .u32 o, .int .u32 m] w fun e w' => e = .returned (.int .i64 (codeT n rows o m)) ∧ w = w' := by
  by_cases hL : LargeT n rows
  · have HC := Lib.hid (codeT_large (o := o) (m := m) hL)
    rw [HC.out]
    unfold LargeT at hL
    by_cases h1 : n < 1
    · clear hL; go_enter Try.func12, Try.ntmps12; go_wp2; go_ret; exact ⟨rfl, rfl⟩
    · by_cases h2 : 6 < n
      · clear hL; go_enter Try.func12, Try.ntmps12; go_wp2; go_ret; exact ⟨rfl, rfl⟩
      · have h3 : (8 : Int) < (rows.length : Int) := by omega
        clear hL; go_enter Try.func12, Try.ntmps12; go_wp2; go_ret; exact ⟨rfl, rfl⟩
  · obtain ⟨n, rfl⟩ := Int.eq_ofNat_of_zero_le (show 0 ≤ n by unfold LargeT at hL; omega)
    obtain ⟨hn1, hn6, hl8⟩ : 1 ≤ n ∧ n ≤ 6 ∧ rows.length ≤ 8 := by unfold LargeT at hL; omega
    have HL := Lib.hid hL
    clear hL
    go_enter Try.func12, Try.ntmps12
    go_wp2
    go_loopw [24] (fun iv wr => ∃ k : Nat, iv = .int .i64 k ∧ k ≤ rows.length ∧ FitT n (rows.take k) ∧ w = wr) (fun iv _ => rows.length - (intOf iv).toNat)
    case atStart => exact ⟨0, rfl, Nat.zero_le _, by intro r hr; simp at hr, rfl⟩
    case round =>
      obtain ⟨k, rfl, hk, hft, rfl⟩ := hrel
      have HF := Lib.hid hft
      clear hft
      by_cases hlt : k < rows.length
      · obtain ⟨r, hrk⟩ := get_some hlt
        obtain ⟨b, off, rfl, hcell⟩ := hr.at (k := k) (by rw [words_length]; exact hlt)
        have c1 := hcell _ _ (words_at hrk)
        have HR := Lib.hid hrk
        clear hrk hcell
        by_cases h1 : r < one n
        · have HS := Lib.hid (show FitT n (rows.take (k + 1)) by
            intro x hx
            rw [List.take_add_one, HR.out] at hx
            simp only [Option.toList, List.mem_append, List.mem_singleton] at hx
            rcases hx with hx | rfl
            · exact HF.out x hx
            · exact h1)
          go_wp2_with fail
          refine (Fits_any n r (by omega) _).mono ?_
          rintro e w1 ⟨rfl, rfl⟩
          rw [decide_eq_true h1]
          clear h1
          go_wp2
          go_roundw
          case rel => exact ⟨k + 1, by go_num, by omega, HS.out, trivial⟩
          case measure => simp [intOf]; omega
        · have HC := Lib.hid (codeT_bad (o := o) (m := m) HL.out (fun h => h1 (h.1 _ (List.mem_of_getElem? HR.out))))
          go_wp2_with fail
          refine (Fits_any n r (by omega) _).mono ?_
          rintro e w1 ⟨rfl, rfl⟩
          rw [decide_eq_false h1]
          clear h1
          go_wp2
          go_ret
          exact ⟨ret_int HC.out.symm, rfl⟩
      · have HF2 := Lib.hid (show FitT n rows by have := HF.out; rw [List.take_of_length_le (by omega)] at this; exact this)
        clear HF
        by_cases h1 : m < one n
        · by_cases h2 : o < one rows.length
          · have HC := Lib.hid (codeT_ok HL.out HF2.out h1 h2)
            go_wp2_with fail
            refine (Fits_any n m (by omega) _).mono ?_
            rintro e w1 ⟨rfl, rfl⟩
            rw [decide_eq_true h1]
            go_wp2_with fail
            refine (Fits_any rows.length o (by omega) _).mono ?_
            rintro e w1 ⟨rfl, rfl⟩
            rw [decide_eq_true h2]
            clear h1 h2
            go_wp2
            go_ret
            exact ⟨ret_int HC.out.symm, rfl⟩
          · have HC := Lib.hid (codeT_bad (o := o) (m := m) HL.out (fun h => h2 h.2.2))
            go_wp2_with fail
            refine (Fits_any n m (by omega) _).mono ?_
            rintro e w1 ⟨rfl, rfl⟩
            rw [decide_eq_true h1]
            go_wp2_with fail
            refine (Fits_any rows.length o (by omega) _).mono ?_
            rintro e w1 ⟨rfl, rfl⟩
            rw [decide_eq_false h2]
            clear h1 h2
            go_wp2
            go_ret
            exact ⟨ret_int HC.out.symm, rfl⟩
        · have HC := Lib.hid (codeT_bad (o := o) (m := m) HL.out (fun h => h1 h.2.1))
          go_wp2_with fail
          refine (Fits_any n m (by omega) _).mono ?_
          rintro e w1 ⟨rfl, rfl⟩
          rw [decide_eq_false h1]
          clear h1
          go_wp2
          go_ret
          exact ⟨ret_int HC.out.symm, rfl⟩

theorem tabled_any (n : Int) (rows : List Nat) (A : Option Addr) (c o m : Nat) (w : World) (hr : Row w A (words rows)) :
    Calls Try.prog 22 #[.int .i64 n, .slice A rows.length c, .int .u32 o, .int .u32 m] w fun e w' => e = .returned (.bool (codeT n rows o m == 0)) ∧ w = w' := by
  go_enter Try.func22, Try.ntmps22
  go_wp2_with fail
  refine (TableCheck_any n rows A c o m _ hr).mono ?_
  rintro e w1 ⟨rfl, rfl⟩
  go_wp2
  go_ret
  exact ⟨rfl, rfl⟩

theorem wordOf_yes {k : Nat} {p : Nat → Bool} (h : p k = true) : wordOf (k + 1) p = wordOf k p + one k := by
  rw [wordOf, if_pos h]
  exact Nat.or_two_pow_eq_add_of_lt (wordOf_lt k p)
theorem wordOf_no {k : Nat} {p : Nat → Bool} (h : p k = false) : wordOf (k + 1) p = wordOf k p := by
  rw [wordOf, if_neg (by rw [h]; decide)]; simp

set_option maxHeartbeats 1000000 in
theorem Owners_any (rows : List Nat) (A : Option Addr) (c m : Nat) (w : World) (hr : Row w A (words rows)) (h32 : U32 rows) (hm : m < 4294967296) (hl : rows.length ≤ 8) :
    Calls Try.prog 15 #[.slice A rows.length c, .int .u32 m] w fun e w' => e = .returned (.int .u32 (ownW rows m)) ∧ w = w' := by
  go_enter Try.func15, Try.ntmps15
  go_wp2
  go_loopw [5, 6] (fun ov iv wr => ∃ k : Nat, iv = .int .i64 k ∧ k ≤ rows.length ∧ (∃ q : Nat, q = wordOf k (fun i => sub m (rows.getD i 0)) ∧ ov = .int .u32 q) ∧ w = wr) (fun _ iv _ => rows.length - (intOf iv).toNat)
  case atStart => exact ⟨0, rfl, Nat.zero_le _, ⟨_, rfl, rfl⟩, rfl⟩
  case round =>
    obtain ⟨k, rfl, hk, ⟨q, hq, rfl⟩, rfl⟩ := hrel
    by_cases hlt : k < rows.length
    · have hq32 : q < one k := by rw [hq]; exact wordOf_lt _ _
      have h1k := one_int k (by omega)
      have h1kk : one k ≤ 128 := by
        have : one k ≤ one 7 := Nat.pow_le_pow_right (by omega) (by omega)
        simpa [one] using this
      have HQ := Lib.hid hq
      obtain ⟨b, off, rfl, hcell⟩ := hr.at (k := k) (by rw [words_length]; exact hlt)
      obtain ⟨r, hrk⟩ : ∃ r, rows.getD k 0 = r := ⟨_, rfl⟩
      have c1 := hcell _ _ (words_at (rows_at hlt))
      have hr32 := h32 _ (rows_mem hlt)
      rw [hrk] at c1 hr32
      have HRk := Lib.hid hrk
      clear hq hcell hrk
      cases hs : sub m r with
      | true =>
        have HS := Lib.hid (wordOf_yes (k := k) (p := fun i => sub m (rows.getD i 0)) (show sub m (rows.getD k 0) = true by rw [HRk.out]; exact hs))
        go_wp2_with fail
        refine (In_any m r hm hr32 _).mono ?_
        rintro e w1 ⟨rfl, rfl⟩
        rw [show (m ||| r == r) = true from hs]
        clear hs
        go_wp2
        go_roundw
        case rel => exact ⟨k + 1, by go_num, by omega, ⟨q + one k, by rw [HS.out, HQ.out], by go_num⟩, trivial⟩
        case measure => simp [intOf]; omega
      | false =>
        have HS := Lib.hid (wordOf_no (k := k) (p := fun i => sub m (rows.getD i 0)) (show sub m (rows.getD k 0) = false by rw [HRk.out]; exact hs))
        go_wp2_with fail
        refine (In_any m r hm hr32 _).mono ?_
        rintro e w1 ⟨rfl, rfl⟩
        rw [show (m ||| r == r) = false from hs]
        clear hs
        go_wp2
        go_roundw
        case rel => exact ⟨k + 1, by go_num, by omega, ⟨q, by rw [HS.out, HQ.out], rfl⟩, trivial⟩
        case measure => simp [intOf]; omega
    · have hke : k = rows.length := by omega
      subst hke
      have HQ := Lib.hid hq
      clear hq
      go_wp2
      go_ret
      exact ⟨ret_int (by rw [HQ.out]; rfl), rfl⟩

/-- Has each of the first i objects that are in o the mark m? -/
def upP (rows : List Nat) (o m i : Nat) : Bool := (List.range i).all fun j => !(o.testBit j) || (rows.getD j 0).testBit m
theorem upP_succ (rows : List Nat) (o m i : Nat) : upP rows o m (i + 1) = (upP rows o m i && (!(o.testBit i) || (rows.getD i 0).testBit m)) := by simp [upP, List.range_succ]

set_option maxHeartbeats 1000000 in
theorem Up_any (n : Nat) (rows : List Nat) (A : Option Addr) (c o : Nat) (w : World) (hn6 : n ≤ 6) (hr : Row w A (words rows)) (h32 : U32 rows) (ho : o < 4294967296) (hl : rows.length ≤ 8) :
    Calls Try.prog 13 #[.int .i64 n, .slice A rows.length c, .int .u32 o] w fun e w' => e = .returned (.int .u32 (upW n rows o)) ∧ w = w' := by
  go_enter Try.func13, Try.ntmps13
  go_wp2
  go_loopw [7, 8] (fun ov mv wr => ∃ k : Nat, mv = .int .i64 k ∧ k ≤ n ∧ (∃ q : Nat, q = wordOf k (fun m => upP rows o m rows.length) ∧ ov = .int .u32 q) ∧ w = wr) (fun _ mv _ => n - (intOf mv).toNat)
  case atStart => exact ⟨0, rfl, Nat.zero_le _, ⟨_, rfl, rfl⟩, rfl⟩
  case round =>
    obtain ⟨k, rfl, hk, ⟨q, hq, rfl⟩, rfl⟩ := hrel
    by_cases hlt : k < n
    · have hq32 : q < one k := by rw [hq]; exact wordOf_lt _ _
      have HQ := Lib.hid hq
      clear hq
      go_wp2
      go_loopw [9, 10] (fun bv iv wr => ∃ i : Nat, iv = .int .i64 i ∧ i ≤ rows.length ∧ (∃ p : Bool, p = upP rows o k i ∧ bv = .bool p) ∧ w = wr) (fun _ iv _ => rows.length - (intOf iv).toNat)
      case atStart => exact ⟨0, rfl, Nat.zero_le _, ⟨_, rfl, rfl⟩, rfl⟩
      case round =>
        obtain ⟨i, rfl, hi, ⟨p, hp, rfl⟩, rfl⟩ := hrel
        have HP := Lib.hid hp
        clear hp
        by_cases hil : i < rows.length
        · obtain ⟨b, off, rfl, hcell⟩ := hr.at (k := i) (by rw [words_length]; exact hil)
          obtain ⟨r, hrk⟩ : ∃ r, rows.getD i 0 = r := ⟨_, rfl⟩
          have c1 := hcell _ _ (words_at (rows_at hil))
          have hr32 := h32 _ (rows_mem hil)
          rw [hrk] at c1 hr32
          have HU := Lib.hid (show upP rows o k (i + 1) = (p && (!(o.testBit i) || r.testBit k)) by rw [upP_succ, ← HP.out, hrk])
          clear hcell hrk
          cases p with
          | false =>
            go_wp2
            go_roundw
            case rel => exact ⟨i + 1, by go_num, by omega, ⟨false, by rw [HU.out]; rfl, rfl⟩, trivial⟩
            case measure => simp [intOf]; omega
          | true =>
            cases hb : o.testBit i with
            | false =>
              rw [hb] at HU
              go_wp2_with fail
              refine (Bit_any o i (by omega) ho _).mono ?_
              rintro e w1 ⟨rfl, rfl⟩
              rw [hb]
              clear hb
              go_wp2
              go_roundw
              case rel => exact ⟨i + 1, by go_num, by omega, ⟨true, by rw [HU.out]; rfl, rfl⟩, trivial⟩
              case measure => simp [intOf]; omega
            | true =>
              rw [hb] at HU
              go_wp2_with fail
              refine (Bit_any o i (by omega) ho _).mono ?_
              rintro e w1 ⟨rfl, rfl⟩
              rw [hb]
              clear hb
              go_wp2_with fail
              refine (Bit_any r k (by omega) hr32 _).mono ?_
              rintro e w1 ⟨rfl, rfl⟩
              go_wp2
              go_roundw
              case rel => exact ⟨i + 1, by go_num, by omega, ⟨r.testBit k, by rw [HU.out]; simp, by simp⟩, trivial⟩
              case measure => simp [intOf]; omega
        · have hie : i = rows.length := by omega
          subst hie
          have h1k := one_int k (by omega)
          have h1kk := one_le_64 (show k ≤ 6 by omega)
          cases p with
          | true =>
            have HS := Lib.hid (wordOf_yes (k := k) (p := fun m => upP rows o m rows.length) HP.out.symm)
            go_wp2
            go_roundw
            case rel => exact ⟨k + 1, by go_num, by omega, ⟨q + one k, by rw [HS.out, HQ.out], by go_num⟩, trivial⟩
            case measure => simp [intOf]; omega
          | false =>
            have HS := Lib.hid (wordOf_no (k := k) (p := fun m => upP rows o m rows.length) HP.out.symm)
            clear h1k
            go_wp2
            go_roundw
            case rel => exact ⟨k + 1, by go_num, by omega, ⟨q, by rw [HS.out, HQ.out], rfl⟩, trivial⟩
            case measure => simp [intOf]; omega
    · have hke : k = n := by omega
      subst hke
      have HQ := Lib.hid hq
      clear hq
      go_wp2
      go_ret
      exact ⟨ret_int (by rw [HQ.out]; rfl), rfl⟩

/-- The loop that lists the concepts' marks. -/
def ConRel (n : Nat) (rows : List Nat) (w : World) (v sv : Value) (wr : World) : Prop :=
  ∃ k : Nat, sv = .int .u32 k ∧ k ≤ one n ∧ (∃ l, l = conL n rows k ∧ OwnU wr w.heap.size v l) ∧ Below w.heap.size w wr

set_option maxHeartbeats 1000000 in
theorem Concepts_any (n : Nat) (rows : List Nat) (A : Option Addr) (c : Nat) (w : World) (hn6 : n ≤ 6) (hr : Row w A (words rows)) (h32 : U32 rows) (hl : rows.length ≤ 8) :
    Calls Try.prog 17 #[.int .i64 n, .slice A rows.length c] w fun e w' => ∃ (A2 : Option Addr) (c2 : Nat) (l : List Nat), e = .returned (.slice A2 l.length c2) ∧ l = conL n rows (one n) ∧ Row w' A2 (words l) ∧ Below w.heap.size w w' := by
  obtain ⟨i0, hi, hz0, hz1, hz2⟩ := info_parts info29
  have HI := Lib.hid (And.intro hi (And.intro hz0 (And.intro hz1 hz2)))
  have h64 := one_le_64 hn6
  have h1n := one_int n (by omega)
  have h256 : one rows.length ≤ 256 := by
    have : one rows.length ≤ one 8 := Nat.pow_le_pow_right (by omega) (by omega)
    simpa [one] using this
  clear hi hz0 hz1 hz2
  go_enter Try.func17, Try.ntmps17
  go_wp2
  go_loopw [5, 6] (fun v sv wr => ConRel n rows w v sv wr) (fun _ sv _ => one n - (intOf sv).toNat)
  case atStart => exact ⟨0, rfl, Nat.zero_le _, ⟨[], rfl, World.ownsRow_nil _ _ _ _⟩, Below.refl _ _⟩
  case round =>
    obtain ⟨k, rfl, hk, ⟨u, hu, hown⟩, hbel⟩ := hrel
    have hul : u.length ≤ 64 := by rw [hu]; have := filter_len (conB n rows) k; unfold conL; omega
    have HU := Lib.hid hu
    have HO := Lib.hid (show _root_.Go.World.ownsRow _ w.heap.size 23 1 _ u.length (words u) from hown)
    have hsz := hbel.size
    clear hu hown
    by_cases hlt : k < one n
    · have ho := ownW_lt rows k
      go_wp2_with fail
      refine (Owners_any rows A c k _ (hr.below hbel) h32 (by omega) hl).mono ?_
      rintro e w3 ⟨rfl, rfl⟩
      go_wp2_with fail
      refine (Up_any n rows A c (ownW rows k) _ hn6 (hr.below hbel) h32 (by omega) hl).mono ?_
      rintro e w3 ⟨rfl, rfl⟩
      cases hd : conB n rows k with
      | true =>
        have HS := Lib.hid (filter_yes hd)
        have hq : ((upW n rows (ownW rows k) : Int) == (k : Int)) = true := by rw [con_iff] at hd; unfold clM at hd; rw [hd]; simp
        clear hd
        obtain ⟨hi, hz0, hz1, hz2⟩ := HI.out
        go_wp2_with (first | (at_builtin; refine wpList_append_lies _ rfl _ _ 22 rfl w.heap.size 23 i0 (.int .u32 0) 1 4 Try.underlying22 hi hz0 hz1 hz2 rfl (by decide) _ _ _ rfl (HO.out.alloc _) ⟨_, 0, none⟩ 1 1 [.int .u32 k] rfl rfl (cell_one_new _ _ _) ?c1 (by decide) ?c2 ?c3 ?c4 _ rfl ?c6))
        case c1 => intro u hu; simp at hu; subst hu; rfl
        case c2 => unfold maxLen; omega
        case c3 => omega
        case c4 => simp; omega
        case c6 =>
          intro g3 cap3 w4 hown4 hgrow4 hat4 hlt4
          have HG4 := Lib.hid hgrow4
          have HO4 := Lib.hid hown4
          clear hown4 hgrow4 hat4 hi hz0 hz1 hz2 hq
          go_wp2
          go_roundw
          case rel =>
            have hlt := fun k hk => (World.ownsRow.lt HO.out k hk).1
            refine ⟨k + 1, by go_num, by omega, ⟨u ++ [k], by unfold conL; rw [HS.out, HU.out]; rfl, ?_⟩, ?_⟩
            · unfold OwnU
              rw [words_append, List.length_append]
              exact HO4.out
            · exact (hbel.alloc hsz _).grown HG4.out (by simp; omega) hlt
          case measure => simp [intOf]; omega
      | false =>
        have HS := Lib.hid (filter_no hd)
        have hq : ((upW n rows (ownW rows k) : Int) == (k : Int)) = false := by
          rw [beq_eq_false_iff_ne]
          intro e
          rw [con_iff.2 (by unfold clM; omega)] at hd
          cases hd
        clear hd
        go_wp2
        go_roundw
        case rel => exact ⟨k + 1, by go_num, by omega, ⟨u, by unfold conL; rw [HS.out, HU.out]; rfl, HO.out⟩, hbel⟩
        case measure => simp [intOf]; omega
    · have hke : k = one n := by omega
      have HKe := Lib.hid hke
      obtain ⟨A5, c5, rfl, hrow5, _⟩ := OwnU.row HO.out
      have HR5 := Lib.hid hrow5
      clear HO hrow5 hke
      go_wp2
      go_ret
      exact ⟨A5, c5, u, rfl, by rw [HU.out, HKe.out], HR5.out, hbel⟩

theorem beh_next {a b i : Nat} (h : ∀ j, j < i → a.testBit j = b.testBit j) (e : a.testBit i = b.testBit i) : ∀ j, j < i + 1 → a.testBit j = b.testBit j := fun j hj => by
  by_cases k : j = i
  · subst k; exact e
  · exact h j (by omega)

set_option maxHeartbeats 1000000 in
theorem Behind_any (a b : Nat) (w : World) (ha : a < 4294967296) (hb : b < 4294967296) :
    Calls Try.prog 19 #[.int .u32 a, .int .u32 b] w fun e w' => e = .returned (.bool (behB a b)) ∧ w = w' := by
  go_enter Try.func19, Try.ntmps19
  go_wp2
  go_loopw [5] (fun iv wr => ∃ i : Nat, iv = .int .i64 i ∧ i ≤ 32 ∧ (∀ j, j < i → a.testBit j = b.testBit j) ∧ w = wr) (fun iv _ => 32 - (intOf iv).toNat)
  case atStart => exact ⟨0, rfl, Nat.zero_le _, fun j hj => by omega, rfl⟩
  case round =>
    obtain ⟨i, rfl, hi, hs, rfl⟩ := hrel
    have HS := Lib.hid hs
    clear hs
    by_cases hlt : i < 32
    · cases hA : a.testBit i with
      | true =>
        cases hB : b.testBit i with
        | true =>
          have HN := Lib.hid (beh_next HS.out (hA.trans hB.symm))
          go_wp2_with fail
          refine (Bit_any a i hlt ha _).mono ?_
          rintro e w1 ⟨rfl, rfl⟩
          rw [hA]
          go_wp2_with fail
          refine (Bit_any b i hlt hb _).mono ?_
          rintro e w1 ⟨rfl, rfl⟩
          rw [hB]
          clear hA hB
          go_wp2
          go_roundw
          case rel => exact ⟨i + 1, by go_num, by omega, HN.out, trivial⟩
          case measure => simp [intOf]; omega
        | false =>
          have HV := Lib.hid (show behB a b = true from (beh_at hlt HS.out (by rw [hA, hB]; decide)).trans hA)
          go_wp2_with fail
          refine (Bit_any a i hlt ha _).mono ?_
          rintro e w1 ⟨rfl, rfl⟩
          rw [hA]
          go_wp2_with fail
          refine (Bit_any b i hlt hb _).mono ?_
          rintro e w1 ⟨rfl, rfl⟩
          rw [hB]
          go_wp2_with fail
          refine (Bit_any a i hlt ha _).mono ?_
          rintro e w1 ⟨rfl, rfl⟩
          rw [hA]
          clear hA hB
          go_wp2
          go_ret
          exact ⟨ret_bool HV.out.symm, rfl⟩
      | false =>
        cases hB : b.testBit i with
        | false =>
          have HN := Lib.hid (beh_next HS.out (hA.trans hB.symm))
          go_wp2_with fail
          refine (Bit_any a i hlt ha _).mono ?_
          rintro e w1 ⟨rfl, rfl⟩
          rw [hA]
          go_wp2_with fail
          refine (Bit_any b i hlt hb _).mono ?_
          rintro e w1 ⟨rfl, rfl⟩
          rw [hB]
          clear hA hB
          go_wp2
          go_roundw
          case rel => exact ⟨i + 1, by go_num, by omega, HN.out, trivial⟩
          case measure => simp [intOf]; omega
        | true =>
          have HV := Lib.hid (show behB a b = false from (beh_at hlt HS.out (by rw [hA, hB]; decide)).trans hA)
          go_wp2_with fail
          refine (Bit_any a i hlt ha _).mono ?_
          rintro e w1 ⟨rfl, rfl⟩
          rw [hA]
          go_wp2_with fail
          refine (Bit_any b i hlt hb _).mono ?_
          rintro e w1 ⟨rfl, rfl⟩
          rw [hB]
          go_wp2_with fail
          refine (Bit_any a i hlt ha _).mono ?_
          rintro e w1 ⟨rfl, rfl⟩
          rw [hA]
          clear hA hB
          go_wp2
          go_ret
          exact ⟨ret_bool HV.out.symm, rfl⟩
    · have hie : i = 32 := by omega
      subst hie
      have HV := Lib.hid (show behB a b = false from beh_same HS.out)
      go_wp2
      go_ret
      exact ⟨ret_bool HV.out.symm, rfl⟩
end Go.Proofs.Ytlokldjookngkaa
