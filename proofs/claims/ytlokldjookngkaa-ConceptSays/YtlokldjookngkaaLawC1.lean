/- The laws on Up, Down and Says, by the document's answers. -/
import Derived.Test.YtlokldjookngkaaCSpec
import Derived.Test.YtlokldjookngkaaWR1
namespace Go.Proofs.Ytlokldjookngkaa
open Go.RowKit

theorem one_le_256 {k : Nat} (h : k ≤ 8) : one k ≤ 256 := by
  have : one k ≤ one 8 := Nat.pow_le_pow_right (by omega) h
  simpa [one] using this

set_option maxHeartbeats 1000000 in
theorem ConceptUps_with (hF : CUpOk 11) (n : Int) (rows : List Nat) (A : Option Addr) (c o : Nat) (w : World) (ho : o < 4294967296) (h32 : U32 rows) (hm : rows.length ≤ maxLen) (hr : Row w A (words rows)) (hX : Laid w) :
    Calls Try.prog 3 #[.int .i64 n, .slice A rows.length c, .int .u32 o] w fun e w' => e = .returned (.bool true) ∧ Below w.heap.size w w' := by
  have key := hF n rows A c o w ho h32 hm hr hX
  by_cases hc : codeT n rows o 0 = 0
  · obtain ⟨n, rfl, hn1, hn6, hl, hf, _, hk⟩ := codeT_zero hc
    rw [hc, if_pos rfl, Int.toNat_natCast] at key
    have HC := Lib.hid hc
    clear hc
    go_enter Try.func3, Try.ntmps3
    go_wp2_with fail
    refine key.mono ?_
    rintro e w1 ⟨rfl, hb1⟩
    go_wp2_with fail
    refine (TableCheck_any n rows A c o 0 _ (hr.below hb1)).mono ?_
    rintro e w2 ⟨rfl, rfl⟩
    rw [HC.out]
    clear key
    go_wp2_with fail
    refine (Up_any n rows A c o _ hn6 (hr.below hb1) h32 ho hl).mono ?_
    rintro e w3 ⟨rfl, rfl⟩
    go_wp2
    go_ret
    exact ⟨rfl, hb1⟩
  · rw [if_neg hc] at key
    go_enter Try.func3, Try.ntmps3
    go_wp2_with fail
    refine key.mono ?_
    rintro e w1 ⟨rfl, hb1⟩
    go_wp2_with fail
    refine (TableCheck_any n rows A c o 0 _ (hr.below hb1)).mono ?_
    rintro e w2 ⟨rfl, rfl⟩
    clear key
    generalize codeT n rows o 0 = k at *
    have hk : (k == 0) = false := by simpa using hc
    have hk2 : (k != 0) = true := by simpa using hc
    clear hc
    go_wp2
    go_ret
    exact ⟨rfl, hb1⟩

set_option maxHeartbeats 1000000 in
theorem ConceptDowns_with (hF : CDownOk 14) (n : Int) (rows : List Nat) (A : Option Addr) (c m : Nat) (w : World) (ho : m < 4294967296) (h32 : U32 rows) (hm : rows.length ≤ maxLen) (hr : Row w A (words rows)) (hX : Laid w) :
    Calls Try.prog 4 #[.int .i64 n, .slice A rows.length c, .int .u32 m] w fun e w' => e = .returned (.bool true) ∧ Below w.heap.size w w' := by
  have key := hF n rows A c m w ho h32 hm hr hX
  by_cases hc : codeT n rows 0 m = 0
  · obtain ⟨n, rfl, hn1, hn6, hl, hf, hk, _⟩ := codeT_zero hc
    rw [hc, if_pos rfl] at key
    have HC := Lib.hid hc
    clear hc
    go_enter Try.func4, Try.ntmps4
    go_wp2_with fail
    refine key.mono ?_
    rintro e w1 ⟨rfl, hb1⟩
    go_wp2_with fail
    refine (TableCheck_any n rows A c 0 m _ (hr.below hb1)).mono ?_
    rintro e w2 ⟨rfl, rfl⟩
    rw [HC.out]
    clear key
    go_wp2_with fail
    refine (Owners_any rows A c m _ (hr.below hb1) h32 ho hl).mono ?_
    rintro e w3 ⟨rfl, rfl⟩
    go_wp2
    go_ret
    exact ⟨rfl, hb1⟩
  · rw [if_neg hc] at key
    go_enter Try.func4, Try.ntmps4
    go_wp2_with fail
    refine key.mono ?_
    rintro e w1 ⟨rfl, hb1⟩
    go_wp2_with fail
    refine (TableCheck_any n rows A c 0 m _ (hr.below hb1)).mono ?_
    rintro e w2 ⟨rfl, rfl⟩
    clear key
    generalize codeT n rows 0 m = k at *
    have hk : (k == 0) = false := by simpa using hc
    have hk2 : (k != 0) = true := by simpa using hc
    clear hc
    go_wp2
    go_ret
    exact ⟨rfl, hb1⟩

set_option maxHeartbeats 1000000 in
theorem ConceptGalois_with (hU : CUpOk 11) (hD : CDownOk 14) (n : Int) (rows : List Nat) (A : Option Addr) (c o m : Nat) (w : World) (ho : o < 4294967296) (hm : m < 4294967296) (h32 : U32 rows) (hmx : rows.length ≤ maxLen) (hr : Row w A (words rows)) (hX : Laid w) :
    Calls Try.prog 8 #[.int .i64 n, .slice A rows.length c, .int .u32 o, .int .u32 m] w fun e w' => e = .returned (.bool true) ∧ Below w.heap.size w w' := by
  have key := hU n rows A c o w ho h32 hmx hr hX
  have key2 := fun w' hr hX => hD n rows A c m w' hm h32 hmx hr hX
  by_cases hc : codeT n rows o m = 0
  · obtain ⟨n, rfl, hn1, hn6, hl, hf, hk, hk2⟩ := codeT_zero hc
    have key3 := fun w' hr hX => hU n rows A c 0 w' (by omega) h32 hmx hr hX
    rw [codeT_of hc (one_pos n) hk2, if_pos rfl, Int.toNat_natCast] at key
    rw [codeT_of hc hk (one_pos _), if_pos rfl] at key2
    rw [codeT_of hc (one_pos n) (one_pos _), if_pos rfl, Int.toNat_natCast, up_zero] at key3
    have HC := Lib.hid hc
    have KEY2 := Lib.hid key2
    have KEY3 := Lib.hid key3
    have HG := Lib.hid (galois (rows := rows) hk2 hk)
    have h1n := one_int n (by omega)
    have hfull : (one n : Int) - 1 = (full n : Nat) := by have := one_pos n; unfold full; omega
    have h64 := one_le_64 hn6
    have h256 := one_le_256 hl
    have hu := upW_lt n rows o
    have hd := ownW_lt rows m
    clear hc key2 key3
    go_enter Try.func8, Try.ntmps8
    go_wp2_with fail
    refine key.mono ?_
    rintro e w1 ⟨rfl, hb1⟩
    go_wp2_with fail
    refine (KEY2.out _ (hr.below hb1) (hX.below hb1)).mono ?_
    rintro e w2 ⟨rfl, hb2⟩
    have hb02 := hb1.trans (hb2.mono hb1.size)
    go_wp2_with fail
    refine (tabled_any n rows A c o m _ (hr.below hb02)).mono ?_
    rintro e w3 ⟨rfl, rfl⟩
    rw [HC.out]
    clear key KEY2 hb1 hb2
    go_wp2_with fail
    refine (KEY3.out _ (hr.below hb02) (hX.below hb02)).mono ?_
    rintro e w3 ⟨rfl, hb3⟩
    have hb03 := hb02.trans (hb3.mono hb02.size)
    clear KEY3 hb02 hb3
    go_wp2_with fail
    refine (In_any o (ownW rows m) ho (by omega) _).mono ?_
    rintro e w4 ⟨rfl, rfl⟩
    go_wp2_with fail
    refine (In_any m (upW n rows o) hm (by omega) _).mono ?_
    rintro e w4 ⟨rfl, rfl⟩
    rw [show (o ||| ownW rows m == ownW rows m) = (m ||| upW n rows o == upW n rows o) from HG.out]
    go_wp2
    go_ret
    exact ⟨ret_bool (by simp), hb03⟩
  · have hne : codeT n rows o 0 ≠ 0 ∨ codeT n rows 0 m ≠ 0 := by
      apply Classical.byContradiction
      intro hno
      have h1 : codeT n rows o 0 = 0 := by apply Classical.byContradiction; exact fun h => hno (.inl h)
      have h2 : codeT n rows 0 m = 0 := by apply Classical.byContradiction; exact fun h => hno (.inr h)
      obtain ⟨k, rfl, _, _, _, _, _, h3⟩ := codeT_zero h1
      obtain ⟨k', e, _, _, _, _, h4, _⟩ := codeT_zero h2
      obtain rfl : k = k' := by omega
      exact hc (codeT_of h1 h4 h3)
    have hcb : (codeT n rows o m == 0) = false := by simpa using hc
    generalize (if codeT n rows o 0 = 0 then upW n.toNat rows o else 0) = x1 at key
    generalize (if codeT n rows 0 m = 0 then ownW rows m else 0) = x2 at key2
    generalize codeT n rows o 0 = k1 at key hne
    generalize codeT n rows 0 m = k2 at key2 hne
    have HKey := Lib.hid key
    have HKey2 := Lib.hid key2
    clear key key2 hc
    go_enter Try.func8, Try.ntmps8
    go_wp2_with fail
    refine HKey.out.mono ?_
    rintro e w1 ⟨rfl, hb1⟩
    go_wp2_with fail
    refine (HKey2.out _ (hr.below hb1) (hX.below hb1)).mono ?_
    rintro e w2 ⟨rfl, hb2⟩
    have hb02 := hb1.trans (hb2.mono hb1.size)
    go_wp2_with fail
    refine (tabled_any n rows A c o m _ (hr.below hb02)).mono ?_
    rintro e w3 ⟨rfl, rfl⟩
    rw [hcb]
    clear HKey HKey2 hb1 hb2 hcb
    by_cases h1 : k1 = 0
    · have h2 : (k2 != 0) = true := by
        rcases hne with h | h
        · exact absurd h1 h
        · simpa using h
      have h3 : (k1 != 0) = false := by simp [h1]
      clear hne h1
      go_wp2
      go_ret
      exact ⟨rfl, hb02⟩
    · have h3 : (k1 != 0) = true := by simpa using h1
      clear hne h1
      go_wp2
      go_ret
      exact ⟨rfl, hb02⟩

/-- A rule in memory. -/
def RuleC (w : World) (g a b : Nat) : Prop := w.cell? ⟨g, 0, none⟩ = some (.int .u32 (a : Int)) ∧ w.cell? ⟨g, 1, none⟩ = some (.int .u32 (b : Int))
theorem RuleC.below {w w' : World} {g a b : Nat} (h : RuleC w g a b) (hb : Below w.heap.size w w') : RuleC w' g a b :=
  ⟨(hb.cell (p := ⟨g, 0, none⟩) (block_lt_of_cell h.1)).trans h.1, (hb.cell (p := ⟨g, 1, none⟩) (block_lt_of_cell h.2)).trans h.2⟩
theorem RuleC.made (w : World) (a b : Nat) (t : TypeId) : RuleC (w.alloc (.cells #[.int .u32 (a : Int), .int .u32 (b : Int)] t)) w.heap.size a b := by
  constructor <;> simp

set_option maxHeartbeats 1000000 in
theorem ConceptRules_with (hS : CSaysOk 20) (hD : CDownOk 14) (hU : CUpOk 11) (n : Int) (rows : List Nat) (A : Option Addr) (c a b : Nat) (w : World) (ha : a < 4294967296) (hb : b < 4294967296) (h32 : U32 rows) (hmx : rows.length ≤ maxLen) (hr : Row w A (words rows)) (hX : Laid w) :
    Calls Try.prog 10 #[.int .i64 n, .slice A rows.length c, .agg #[.int .u32 a, .int .u32 b]] w fun e w' => e = .returned (.bool true) ∧ Below w.heap.size w w' := by
  have hb0 : Below w.heap.size w (w.alloc (.cells #[.int .u32 (a : Int), .int .u32 (b : Int)] 40)) := (Below.refl _ _).alloc (Nat.le_refl _) _
  have key := hS n rows A c a b _ ha hb h32 hmx (hr.below hb0) (hX.below hb0)
  have key2 := fun w' hr hX => hD n rows A c a w' ha h32 hmx hr hX
  have hR0 := RuleC.made w a b 40
  have hor : bits .or .u32 (a : Int) (b : Int) = ((a ||| b : Nat) : Int) := u32_or_nat _ _ ha hb
  by_cases hc : codeT n rows 0 (a ||| b) = 0
  · obtain ⟨n, rfl, hn1, hn6, hl, hf, hk, _⟩ := codeT_zero hc
    have hab := or_lt_iff.1 hk
    have hd := ownW_lt rows a
    have h64 := one_le_64 hn6
    have h256 := one_le_256 hl
    have hu := upW_lt n rows (ownW rows a)
    have key3 := fun w' hr hX => hU n rows A c (ownW rows a) w' (by omega) h32 hmx hr hX
    rw [hc, show (((0 : Int) == 0) && saysB rows a b) = saysB rows a b from rfl, says_up hab.2] at key
    rw [codeT_of hc hab.1 (one_pos _), if_pos rfl] at key2
    rw [codeT_of hc (one_pos n) hd, if_pos rfl, Int.toNat_natCast] at key3
    have HC := Lib.hid hc
    have KEY := Lib.hid key
    have KEY2 := Lib.hid key2
    have KEY3 := Lib.hid key3
    have HR0 := Lib.hid hR0
    clear hc key key2 key3 hR0
    go_enter Try.func10, Try.ntmps10
    go_wp2_with fail
    refine KEY.out.mono ?_
    rintro e w1 ⟨rfl, hb1⟩
    obtain ⟨c0, c1⟩ := HR0.out.below hb1
    have hb01 := hb0.trans (hb1.mono hb0.size)
    clear hb1 hb0 HR0 KEY
    go_wp2_with fail
    refine (KEY2.out _ (hr.below hb01) (hX.below hb01)).mono ?_
    rintro e w2 ⟨rfl, hb2⟩
    have hR2 := RuleC.below ⟨c0, c1⟩ hb2
    have hb02 := hb01.trans (hb2.mono hb01.size)
    clear hb01 hb2 c0 c1 KEY2
    obtain ⟨c0, c1⟩ := hR2
    go_wp2_with fail
    refine (tabled_any n rows A c 0 (a ||| b) _ (hr.below hb02)).mono ?_
    rintro e w3 ⟨rfl, rfl⟩
    rw [HC.out]
    go_wp2_with fail
    refine (KEY3.out _ (hr.below hb02) (hX.below hb02)).mono ?_
    rintro e w3 ⟨rfl, hb3⟩
    have hR3 := RuleC.below ⟨c0, c1⟩ hb3
    have hb03 := hb02.trans (hb3.mono hb02.size)
    clear hb02 hb3 c0 c1 KEY3
    obtain ⟨c0, c1⟩ := hR3
    go_wp2_with fail
    refine (In_any b (upW n rows (ownW rows a)) hb (by omega) _).mono ?_
    rintro e w4 ⟨rfl, rfl⟩
    rw [show (b ||| upW n rows (ownW rows a) == upW n rows (ownW rows a)) = sub b (upW n rows (ownW rows a)) from rfl]
    go_wp2
    go_ret
    exact ⟨ret_bool (by simp), hb03⟩
  · have hcb : (codeT n rows 0 (a ||| b) == 0) = false := by simpa using hc
    have hcb2 : (codeT n rows 0 (a ||| b) != 0) = true := by simpa using hc
    rw [hcb, Bool.false_and] at key
    generalize (if codeT n rows 0 a = 0 then ownW rows a else 0) = x2 at key2
    generalize codeT n rows 0 a = k2 at key2
    have KEY := Lib.hid key
    have KEY2 := Lib.hid key2
    have HR0 := Lib.hid hR0
    clear hc key key2 hR0
    go_enter Try.func10, Try.ntmps10
    go_wp2_with fail
    refine KEY.out.mono ?_
    rintro e w1 ⟨rfl, hb1⟩
    obtain ⟨c0, c1⟩ := HR0.out.below hb1
    have hb01 := hb0.trans (hb1.mono hb0.size)
    clear hb1 hb0 HR0 KEY
    go_wp2_with fail
    refine (KEY2.out _ (hr.below hb01) (hX.below hb01)).mono ?_
    rintro e w2 ⟨rfl, hb2⟩
    have hR2 := RuleC.below ⟨c0, c1⟩ hb2
    have hb02 := hb01.trans (hb2.mono hb01.size)
    clear hb01 hb2 c0 c1 KEY2
    obtain ⟨c0, c1⟩ := hR2
    go_wp2_with fail
    refine (tabled_any n rows A c 0 (a ||| b) _ (hr.below hb02)).mono ?_
    rintro e w3 ⟨rfl, rfl⟩
    rw [hcb]
    generalize codeT n rows 0 (a ||| b) = k at *
    go_wp2
    go_ret
    exact ⟨rfl, hb02⟩

/-- A rule is so of the first k objects. -/
def saysP (rows : List Nat) (a b k : Nat) : Bool := (rows.take k).all fun m => closedB [(a, b)] m
theorem saysP_succ {rows : List Nat} {a b k r : Nat} (h : rows[k]? = some r) : saysP rows a b (k + 1) = (saysP rows a b k && closedB [(a, b)] r) := by
  unfold saysP
  rw [List.take_add_one, h]
  simp

set_option maxHeartbeats 1000000 in
theorem ConceptSays_with (hS : CSaysOk 20) (n : Int) (rows : List Nat) (A : Option Addr) (c a b : Nat) (w : World) (ha : a < 4294967296) (hb : b < 4294967296) (h32 : U32 rows) (hmx : rows.length ≤ maxLen) (hr : Row w A (words rows)) (hX : Laid w) :
    Calls Try.prog 7 #[.int .i64 n, .slice A rows.length c, .agg #[.int .u32 a, .int .u32 b]] w fun e w' => e = .returned (.bool true) ∧ Below w.heap.size w w' := by
  have hb0 : Below w.heap.size w (w.alloc (.cells #[.int .u32 (a : Int), .int .u32 (b : Int)] 40)) := (Below.refl _ _).alloc (Nat.le_refl _) _
  have key := hS n rows A c a b _ ha hb h32 hmx (hr.below hb0) (hX.below hb0)
  have hR0 := RuleC.made w a b 40
  have hor : bits .or .u32 (a : Int) (b : Int) = ((a ||| b : Nat) : Int) := u32_or_nat _ _ ha hb
  by_cases hc : codeT n rows 0 (a ||| b) = 0
  · obtain ⟨n, rfl, hn1, hn6, hl, hf, hk, _⟩ := codeT_zero hc
    rw [hc, show (((0 : Int) == 0) && saysB rows a b) = saysB rows a b from rfl] at key
    have HC := Lib.hid hc
    have KEY := Lib.hid key
    have HR0 := Lib.hid hR0
    have HW := Lib.hid (show W32 [(a, b)] by intro r hr; simp at hr; subst hr; exact ⟨ha, hb⟩)
    clear hc key hR0
    go_enter Try.func7, Try.ntmps7
    go_wp2_with fail
    refine KEY.out.mono ?_
    rintro e w1 ⟨rfl, hb1⟩
    obtain ⟨c0, c1⟩ := HR0.out.below hb1
    have hb01 := hb0.trans (hb1.mono hb0.size)
    clear hb1 hb0 HR0 KEY
    go_wp2_with fail
    refine (TableCheck_any n rows A c 0 (a ||| b) _ (hr.below hb01)).mono ?_
    rintro e w2 ⟨rfl, rfl⟩
    rw [HC.out]
    clear hor
    go_wp2
    have hRule := RuleC.below ⟨c0, c1⟩ (Below.refl _ w1)
    clear c0 c1
    go_loopw [10, 39] (fun sv iv wr => ∃ k : Nat, iv = .int .i64 k ∧ k ≤ rows.length ∧ (∃ q, q = saysP rows a b k ∧ sv = .bool q) ∧ RuleC wr w.heap.size a b ∧ Below w.heap.size w wr) (fun _ iv _ => rows.length - (intOf iv).toNat)
    case atStart => exact ⟨0, rfl, Nat.zero_le _, ⟨_, rfl, rfl⟩, hRule, hb01⟩
    case round =>
      clear hRule hb01
      obtain ⟨k, rfl, hk, ⟨q, hq, rfl⟩, hRule, hbel⟩ := hrel
      have HQ := Lib.hid hq
      clear hq
      by_cases hlt : k < rows.length
      · obtain ⟨r, hrk⟩ := get_some hlt
        obtain ⟨g, off, rfl, hcell⟩ := (hr.below hbel).at (k := k) (by rw [words_length]; exact hlt)
        have cr := hcell _ _ (words_at hrk)
        have hr32 := h32 _ (List.mem_of_getElem? hrk)
        have HU := Lib.hid (show saysP rows a b (k + 1) = (q && closedB [(a, b)] r) by rw [saysP_succ hrk, HQ.out])
        have hRule' := Lib.hid hRule
        obtain ⟨c0, c1⟩ := hRule
        have hsz := hbel.size
        clear hcell hrk
        cases q with
        | true =>
          have hb2 : Below wr.heap.size wr (wr.alloc (.cells #[.int .u32 (a : Int), .int .u32 (b : Int)] 40)) := (Below.refl _ _).alloc (Nat.le_refl _) _
          have hrow : Row (wr.alloc (.cells #[.int .u32 (a : Int), .int .u32 (b : Int)] 40)) (some ⟨wr.heap.size, 0, none⟩) (rulesC [(a, b)]) := by
            refine .inr ⟨wr.heap.size, 0, rfl, fun j v hv => ?_⟩
            have hv2 : [Value.int .u32 (a : Int), .int .u32 (b : Int)][j]? = some v := hv
            simpa using hv2
          go_wp2_with fail
          refine (Closed_any [(a, b)] _ 1 r _ hrow HW.out hr32 (by simp)).mono ?_
          rintro e w3 ⟨rfl, hb3⟩
          have hbel3 := (hbel.trans (hb2.mono hsz)).trans (hb3.mono (by simp; omega))
          have hR3 := Lib.hid ((hRule'.out.below hb2).below hb3)
          clear hbel c0 c1 cr hb3 hb2 hrow
          go_wp2
          go_roundw
          case rel => exact ⟨k + 1, by go_num, by omega, ⟨closedB [(a, b)] r, by rw [HU.out]; rfl, by simp⟩, hR3.out, hbel3⟩
          case measure => simp [intOf]; omega
        | false =>
          go_wp2
          go_roundw
          case rel => exact ⟨k + 1, by go_num, by omega, ⟨false, by rw [HU.out]; rfl, rfl⟩, hRule'.out, hbel⟩
          case measure => simp [intOf]; omega
      · have hke : k = rows.length := by omega
        have HV := Lib.hid (show saysB rows a b = q by rw [HQ.out, hke]; unfold saysP saysB; rw [List.take_of_length_le (Nat.le_refl _)])
        clear hRule hke
        go_wp2
        go_ret
        exact ⟨ret_bool (by rw [HV.out]; simp), hbel⟩
  · have hcb : (codeT n rows 0 (a ||| b) == 0) = false := by simpa using hc
    have hcb2 : (codeT n rows 0 (a ||| b) != 0) = true := by simpa using hc
    rw [hcb, Bool.false_and] at key
    have KEY := Lib.hid key
    have HR0 := Lib.hid hR0
    clear hc key hR0
    go_enter Try.func7, Try.ntmps7
    go_wp2_with fail
    refine KEY.out.mono ?_
    rintro e w1 ⟨rfl, hb1⟩
    obtain ⟨c0, c1⟩ := HR0.out.below hb1
    have hb01 := hb0.trans (hb1.mono hb0.size)
    clear hb1 hb0 HR0 KEY
    go_wp2_with fail
    refine (TableCheck_any n rows A c 0 (a ||| b) _ (hr.below hb01)).mono ?_
    rintro e w3 ⟨rfl, rfl⟩
    generalize codeT n rows 0 (a ||| b) = k at *
    go_wp2
    go_ret
    exact ⟨rfl, hb01⟩
end Go.Proofs.Ytlokldjookngkaa
