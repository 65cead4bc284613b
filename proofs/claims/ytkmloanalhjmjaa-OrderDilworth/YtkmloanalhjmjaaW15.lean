/- order.chainLengths, firstOfLength, Chain. -/
import Derived.Test.YtkmloanalhjmjaaChains
import Derived.Test.YtkmloanalhjmjaaW12
namespace Go.Proofs.Ytkmloanalhjmjaa
open Go.RowKit

/-- A table of numbers of the call's own, in block g. -/
def OwnT (w : World) (B g n : Nat) (f : Nat → Nat) : Prop := w.ownsRow B 3 1 (.slice (some ⟨g, 0, none⟩) n n) n (ints (nats (tab n f)))
theorem OwnT.cell {w : World} {B g n : Nat} {f : Nat → Nat} (h : OwnT w B g n f) {a : Nat} (ha : a < n) : w.cell? ⟨g, a, none⟩ = some (.int .i64 (f a : Nat)) :=
  (World.ownsRow.cellAt h a (by omega)).trans (ints_at (nats_at (tab_at f ha)))
theorem OwnT.free {w : World} {B g n : Nat} {f : Nat → Nat} (h : OwnT w B g n f) (a : Nat) : w.frozen? ⟨g, a, none⟩ = false := World.ownsRow.frozenAt h a
theorem itab_set (n : Nat) (f : Nat → Nat) (a v : Nat) : (ints (nats (tab n f))).set a (.int .i64 (v : Int)) = ints (nats (tab n (upd f a v))) := by
  apply List.ext_getElem?
  intro i
  rw [List.getElem?_set]
  simp only [ints, nats, tab, List.map_map, List.length_map, List.length_range, List.getElem?_map]
  by_cases hi : i < n
  · rw [List.getElem?_range hi]
    by_cases ha : a = i
    · subst ha; simp [hi, upd]
    · rw [if_neg ha]; simp [upd, show ¬ i = a from fun e => ha e.symm]
  · have h0 : (List.range n)[i]? = none := List.getElem?_eq_none (by simp; omega)
    rw [h0]
    by_cases ha : a = i <;> simp [ha, hi]
theorem OwnT.stored {w : World} {B g n : Nat} {f : Nat → Nat} (h : OwnT w B g n f) (a v : Nat) : OwnT (w.setCell ⟨g, a, none⟩ (.int .i64 (v : Nat))) B g n (upd f a v) := by
  have := (World.ownsRow.stored h a (.int .i64 (v : Int))).1
  unfold OwnT
  rw [← itab_set]
  exact this
theorem OwnT.congr {w : World} {B g n : Nat} {f f' : Nat → Nat} (h : OwnT w B g n f) (e : tab n f = tab n f') : OwnT w B g n f' := by unfold OwnT; rw [← e]; exact h
theorem OwnT.below {w w' : World} {B g n : Nat} {f : Nat → Nat} (h : OwnT w B g n f) (hb : Below w.heap.size w w') : OwnT w' B g n f := own_below h hb
theorem OwnT.rebase {w : World} {B B' g n : Nat} {f : Nat → Nat} (h : OwnT w B g n f) (hb : B' ≤ B) : OwnT w B' g n f := own_rebase h hb
theorem OwnT.lt {w : World} {B g n : Nat} {f : Nat → Nat} (h : OwnT w B g n f) : B ≤ g ∧ g < w.heap.size := World.ownsRow.lt h g rfl
theorem ownT_made {w : World} {B g n : Nat} (h : w.ownsRow B 3 1 (.slice (some ⟨g, 0, none⟩) n n) n (madeCells #[Value.int .i64 0] n).toList) : OwnT w B g n fun _ => 0 := by
  unfold OwnT
  have e : (madeCells #[Value.int .i64 0] n).toList = ints (nats (tab n fun _ => 0)) := by
    rw [toList_madeCells_one]
    apply List.ext_getElem?
    intro i
    by_cases hi : i < n <;> simp [ints, nats, tab, hi]
  rw [← e]
  exact h

theorem Tab.at0 {w : World} {g n : Nat} {f : Nat → Nat} (h : Tab w (some ⟨g, 0, none⟩) n f) {a : Nat} (ha : a < n) : w.cell? ⟨g, a, none⟩ = some (.int .u32 (f a : Nat)) := by
  obtain ⟨g', o', he, hc⟩ := h.cell (by omega)
  simp only [Option.some.injEq, Addr.mk.injEq, and_true] at he
  obtain ⟨rfl, rfl⟩ := he
  have := hc a ha
  rw [Nat.zero_add] at this
  exact this

/-- What is above a, as a word. -/
noncomputable def abW (n : Nat) (ps : List (Int × Int)) (a : Nat) : Nat := wordOf n (ab ps a)
theorem u32_abW {n a : Nat} {ps : List (Int × Int)} (hn : n ≤ 6) (ha : a < n) : bits .andNot .u32 (upT n ps a : Int) (one a : Int) = (abW n ps a : Nat) := by
  have h1 : one a < 4294967296 := one_lt (by omega)
  rw [u32_andNot_nat _ _ (upT_u32 hn ps a) h1]
  congr 1
  refine wordOf_of (and_lt_one (upT_lt _ _ _)) fun i hi => ?_
  rw [Nat.testBit_and, upT_testBit, testBit_not32 h1 (by omega), one_testBit]
  unfold ab
  cases under ps a i <;> simp [hi]
theorem abW_testBit {n a b : Nat} (ps : List (Int × Int)) (hb : b < n) : (abW n ps a).testBit b = ab ps a b := by unfold abW; rw [testBit_wordOf]; simp [hb]
theorem wordOf_u32 {n : Nat} (hn : n ≤ 6) (p : Nat → Bool) : wordOf n p < 4294967296 := by have h1 := wordOf_lt n p; have h2 := one_le_64 hn; omega

/-- The lengths of what stands from j on in the line. -/
noncomputable def lenFrom (n : Nat) (ps : List (Int × Int)) (j : Nat) : Nat → Nat := fun x => if x ∈ (lineL n ps n).drop j then hg n ps x else 0
theorem lenFrom_n (n : Nat) (ps : List (Int × Int)) : lenFrom n ps n = fun _ => 0 := by
  funext x
  unfold lenFrom
  rw [List.drop_of_length_le (by rw [lineL_length]; exact Nat.le_refl _)]
  simp
theorem lenFrom_step {n : Nat} {ps : List (Int × Int)} {j a : Nat} (h : (lineL n ps n)[j]? = some a) : upd (lenFrom n ps (j + 1)) a (hg n ps a) = lenFrom n ps j := by
  have hj := (List.getElem?_eq_some_iff.1 h).1
  have e : (lineL n ps n).drop j = a :: (lineL n ps n).drop (j + 1) := by
    rw [List.drop_eq_getElem_cons hj]
    congr 1
    rw [List.getElem?_eq_getElem hj] at h
    injection h
  funext x
  unfold lenFrom
  rw [e]
  by_cases ex : x = a
  · subst ex; rw [upd_same]; simp
  · rw [upd_other ex]; simp [ex]
theorem lenFrom_all {n : Nat} {ps : List (Int × Int)} (hc : ¬ Cyc n ps) : tab n (lenFrom n ps 0) = tab n (hg n ps) :=
  tab_congr fun x hx => by
    unfold lenFrom
    rw [List.drop_zero, if_pos (full_mem (lineL_nodup hc (Nat.le_refl n)) (lineL_length n ps n) (lineL_lt hc (Nat.le_refl n)) hx)]
theorem lenFrom_above {n : Nat} {ps : List (Int × Int)} (hc : ¬ Cyc n ps) {j a b : Nat} (h : (lineL n ps n)[j]? = some a) (hb : b < n) (hab : ab ps a b = true) : lenFrom n ps (j + 1) b = hg n ps b := by
  have hl := lineL_length n ps n
  have hj := (List.getElem?_eq_some_iff.1 h).1
  obtain ⟨t, ht⟩ := List.mem_iff_getElem?.1 (full_mem (lineL_nodup hc (Nat.le_refl n)) hl (lineL_lt hc (Nat.le_refl n)) hb)
  have htl := (List.getElem?_eq_some_iff.1 ht).1
  have ea : (lineL n ps n).getD j 0 = a := by have := getD_at hj; rw [h] at this; injection this with this; exact this.symm
  have eb : (lineL n ps n).getD t 0 = b := by have := getD_at htl; rw [ht] at this; injection this with this; exact this.symm
  obtain ⟨h1, h2⟩ := ab_iff.1 hab
  have hjt : j < t := line_before hc (by omega) (by omega) (by rw [ea, eb]; exact h1) (by rw [ea, eb]; exact h2)
  unfold lenFrom
  rw [if_pos]
  rw [List.mem_iff_getElem?]
  exact ⟨t - (j + 1), by rw [List.getElem?_drop, show j + 1 + (t - (j + 1)) = t from by omega]; exact ht⟩

theorem max_val (x y : Nat) : Value.int .i64 (if x < y then (y : Int) else (x : Int)) = .int .i64 ((max x y : Nat) : Int) := by
  congr 1
  split <;> omega

/-- The loops of chainLengths. -/
def LenI (n : Nat) (ps : List (Int × Int)) (w w2 : World) (g : Nat) (i : Value) (wr : World) : Prop :=
  ∃ j : Nat, i = .int .i64 ((j : Int) - 1) ∧ j ≤ n ∧ OwnT wr w.heap.size g n (lenFrom n ps j) ∧ w2.grownBy wr (some g) ∧ Below w.heap.size w wr
set_option maxHeartbeats 2000000 in
theorem chainLengths_any (n : Nat) (ps : List (Int × Int)) (A : Option Addr) (c : Nat) (w : World) (hr : Tab w A n (upT n ps)) (hn1 : 1 ≤ n) (hn6 : n ≤ 6) (hcy : ¬ Cyc n ps) :
    Calls Try.prog 41 #[.slice A n c] w fun e w' => ∃ g, e = .returned (.slice (some ⟨g, 0, none⟩) n n) ∧ OwnT w' w.heap.size g n (hg n ps) ∧ Below w.heap.size w w' := by
  obtain ⟨i0, hi, hz0, hz1, hz2⟩ := info_parts info3
  have HI := Lib.hid (And.intro hi (And.intro hz0 (And.intro hz1 hz2)))
  have HC := Lib.hid hcy
  clear hi hz0 hz1 hz2 hcy
  go_enter Try.func41, Try.ntmps41
  go_wp2_with (at_make; refine wpList_make_full _ rfl _ _ 36 rfl w.heap.size 3 i0 (.int .i64 0) 1 Try.underlying36 HI.out.1 HI.out.2.1 HI.out.2.2.1 .i64 .i64 n n n rfl rfl rfl rfl ?b2 ?b3 (Nat.le_refl _) ?c5)
  case b2 => rw [HI.out.2.2.2]; omega
  case b3 => unfold maxLen; omega
  case c5 =>
    intro w1 hown hgrow
    have HO := Lib.hid (ownT_made hown)
    have hb1 : Below w.heap.size w w1 := (Below.refl w.heap.size w).grown hgrow (Nat.le_refl _) (by intro k hk; cases hk)
    clear hown hgrow
    go_wp2_with fail
    refine (lineUp_any n ps A c _ (hr.below hb1) hn1 hn6 HC.out).mono ?_
    rintro e w2 ⟨v, rfl, hown, hb2⟩
    have hlen : (nats (lineL n ps n)).length = n := by rw [nats_length, lineL_length]
    obtain ⟨gl, capl, rfl, hgl, hltl⟩ := World.ownsRow.form hown (by omega)
    have HR := Lib.hid (OwnI.rowAt hown)
    have HO2 := Lib.hid (HO.out.below hb2)
    have hb02 := hb1.trans (hb2.mono hb1.size)
    rw [hlen]
    have hg1 := HO.out.lt.2
    have hne : gl ≠ w.heap.size := by omega
    clear hown HO hlen hltl hgl
    go_wp2
    go_loopw [5] (fun i wr => LenI n ps w w2 w.heap.size i wr) (fun i _ => (intOf i + 1).toNat)
    case atStart => exact ⟨n, by go_num, Nat.le_refl _, by rw [lenFrom_n]; exact HO2.out, World.grownBy.refl _ _, hb02⟩
    case round =>
      obtain ⟨j, rfl, hj, hown, hgr, hbel⟩ := hrel
      have HOw := Lib.hid hown
      have HGr := Lib.hid hgr
      clear hown hgr
      cases j with
      | zero =>
        go_wp2
        go_ret
        exact ⟨_, rfl, HOw.out.congr (lenFrom_all HC.out), hbel⟩
      | succ p =>
        have e1 : ((p + 1 : Nat) : Int) - 1 = (p : Int) := by omega
        rw [e1]
        have hpn : p < n := by omega
        obtain ⟨a, ha⟩ := get_some (xs := lineL n ps n) (k := p) (by rw [lineL_length]; exact hpn)
        have han : a < n := lineL_lt HC.out (Nat.le_refl n) a (List.mem_of_getElem? ha)
        have hcl : wr.cell? ⟨gl, p, none⟩ = some (.int .i64 (a : Nat)) := by
          obtain ⟨b', off', he, hc⟩ := HR.out.at (k := p) (by rw [ints_length, nats_length, lineL_length]; exact hpn)
          simp only [Option.some.injEq, Addr.mk.injEq, and_true] at he
          obtain ⟨rfl, rfl⟩ := he
          have h1 := hc p _ (ints_at (nats_at ha))
          rw [Nat.zero_add] at h1
          exact HGr.out.cell h1 (by simp; exact hne)
        obtain ⟨gu, ou, rfl, hcu⟩ := (hr.below hbel).cell (by omega)
        have hca := hcu a han
        have HA := Lib.hid ha
        have HW := Lib.hid (u32_abW (ps := ps) hn6 han)
        clear ha hcu e1
        go_wp2
        go_quiet ((go_at_call 39; exact only_quiet a (by omega) _ _))
        rw [HW.out]
        have HOd : Hid (OwnT (wr.drewN nq) w.heap.size w.heap.size n (lenFrom n ps (p + 1))) := HOw
        have HGd := Lib.hid (show w2.grownBy (wr.drewN nq) (some w.heap.size) from ⟨HGr.out.os, HGr.out.tape, HGr.out.output, HGr.out.size, HGr.out.block⟩)
        have hbd := below_drewN hbel nq
        clear HOw HGr hbel hcl hca
        generalize wr.drewN nq = wo at *
        go_wp2
        go_loop [8, 35] (fun v i => ∃ b : Nat, i = .int .i64 b ∧ b ≤ n ∧ v = .int .i64 (maxTo (hc n ps (ab ps a)) b)) (fun _ i => n - (intOf i).toNat)
        case atStart => exact ⟨0, rfl, Nat.zero_le _, rfl⟩
        case round =>
          obtain ⟨b, rfl, hb, rfl⟩ := hrel
          have hmx : maxTo (hc n ps (ab ps a)) b ≤ n := hc_bound HC.out _ hb
          by_cases hbn : b < n
          · have HS := Lib.hid (show maxTo (hc n ps (ab ps a)) (b + 1) = max (maxTo (hc n ps (ab ps a)) b) (hc n ps (ab ps a) b) from rfl)
            cases hab : ab ps a b with
            | false =>
              have HH := Lib.hid (show hc n ps (ab ps a) b = 0 by simp [hc, hab])
              have HBt := Lib.hid ((abW_testBit (a := a) ps hbn).trans hab)
              clear hab
              go_wp2_with (go_at_call 48; refine (has_still (abW n ps a) b HBt.out (by omega) (wordOf_u32 hn6 _) _).mono ?_; rintro e w' ⟨rfl, rfl⟩)
              go_round
              case rel => exact ⟨b + 1, by go_num, by omega, by rw [HS.out, HH.out, Nat.max_zero]⟩
              case measure => simp [intOf]; omega
            | true =>
              have HH := Lib.hid (show hc n ps (ab ps a) b = hg n ps b by simp [hc, hab])
              have hcb := HOd.out.cell hbn
              rw [lenFrom_above HC.out HA.out hbn hab] at hcb
              have hhg := hg_n HC.out hbn
              have HBt := Lib.hid ((abW_testBit (a := a) ps hbn).trans hab)
              clear hab
              go_wp2_with (go_at_call 48; refine (has_still (abW n ps a) b HBt.out (by omega) (wordOf_u32 hn6 _) _).mono ?_; rintro e w' ⟨rfl, rfl⟩)
              go_round
              case rel => exact ⟨b + 1, by go_num, by omega, by rw [HS.out, HH.out]; exact max_val _ _⟩
              case measure => simp [intOf]; omega
          · obtain rfl : b = n := by omega
            have hca := HOd.out.cell han
            have hfa := HOd.out.free a
            have HHg := Lib.hid (hg_eq HC.out han)
            go_wp2
            go_roundw
            case rel =>
              refine ⟨p, by go_num, by omega, ?_, ?_, hbd.setCell (Nat.le_refl _) _⟩
              · rw [← lenFrom_step HA.out]
                have := HOd.out.stored a (hg b ps a)
                rw [show ((hg b ps a : Nat) : Int) = (maxTo (hc b ps (ab ps a)) b : Nat) + 1 from by rw [HHg.out]; omega] at this
                exact this
              · exact ⟨HGd.out.os, HGd.out.tape, HGd.out.output, by simpa [World.setCell] using HGd.out.size, fun i hi hne => (Below.heap_setCell _ _ _ i (by rintro rfl; exact hne rfl)).trans (HGd.out.block i hi hne)⟩
            case measure => simp [intOf]

set_option maxHeartbeats 1000000 in
theorem firstOfLength_any (n : Nat) (h : Nat → Nat) (p : Nat → Bool) (len b : Nat) (A : Option Addr) (c : Nat) (w : World) (hr : Row w A (ints (nats (tab n h)))) (hn6 : n ≤ 6) (hf : IsFirst (fun k => p k && decide (h k = len)) n b) :
    Calls Try.prog 42 #[.slice A n c, .int .u32 (wordOf n p), .int .i64 len] w fun e w' => e = .returned (.int .i64 b) ∧ w = w' := by
  have HF := Lib.hid hf
  clear hf
  go_enter Try.func42, Try.ntmps42
  go_wp2
  go_loop [10] (fun v => ∃ a : Nat, v = .int .i64 a ∧ a ≤ b) (fun v => n - (intOf v).toNat)
  case atStart => exact ⟨0, rfl, Nat.zero_le _⟩
  case round =>
    obtain ⟨a, rfl, ha⟩ := hrel
    have hbn := HF.out.1
    have hlt : a < n := by omega
    obtain ⟨g, off, rfl, hcell⟩ := hr.at (k := a) (by rw [ints_length, nats_length, tab_length]; exact hlt)
    have hca := hcell a _ (ints_at (nats_at (tab_at h hlt)))
    have HT := Lib.hid (show (wordOf n p).testBit a = p a by rw [testBit_wordOf]; simp [hlt])
    clear hcell
    cases hp : p a with
    | false =>
      have hne : a < b := by
        rcases Nat.lt_or_ge a b with h1 | h1
        · exact h1
        · obtain rfl : a = b := by omega
          have := HF.out.2.1
          simp [hp] at this
      have HB := Lib.hid (HT.out.trans hp)
      clear hp
      go_wp2_with (go_at_call 48; refine (has_still (wordOf n p) a HB.out (by omega) (wordOf_u32 hn6 _) _).mono ?_; rintro e w' ⟨rfl, rfl⟩)
      go_round
      case rel => exact ⟨a + 1, by go_num, by omega⟩
      case measure => simp [intOf]; omega
    | true =>
      have HB := Lib.hid (HT.out.trans hp)
      by_cases hab : a = b
      · have hd : ((h a : Int) == (len : Int)) = true := by
          have := HF.out.2.1
          rw [← hab] at this
          simp [hp] at this
          simp [this]
        have HAB := Lib.hid hab
        clear hp hab
        go_wp2_with (go_at_call 48; refine (has_still (wordOf n p) a HB.out (by omega) (wordOf_u32 hn6 _) _).mono ?_; rintro e w' ⟨rfl, rfl⟩)
        go_ret
        exact ⟨ret_int (by rw [HAB.out]), rfl⟩
      · have hd : ((h a : Int) == (len : Int)) = false := by
          have := HF.out.2.2 a (by omega)
          simp [hp] at this
          simp
          omega
        have hne : a < b := by omega
        clear hp hab
        go_wp2_with (go_at_call 48; refine (has_still (wordOf n p) a HB.out (by omega) (wordOf_u32 hn6 _) _).mono ?_; rintro e w' ⟨rfl, rfl⟩)
        go_round
        case rel => exact ⟨a + 1, by go_num, by omega⟩
        case measure => simp [intOf]; omega

theorem Chain_err (n : Int) (ps : List (Int × Int)) (A : Option Addr) (c : Nat) (w : World) (hm : ps.length ≤ maxLen) (hr : Row w A (pairsC ps)) (hc : code n ps ≠ 0) :
    Calls Try.prog 24 #[.int .i64 n, .slice A ps.length c] w fun e w' => e = .returned (.tuple #[.slice none 0 0, .int .i64 (code n ps)]) ∧ Below w.heap.size w w' := by
  go_enter Try.func24, Try.ntmps24
  go_wp2_with fail
  refine (Table_err n ps A c _ hm hr hc).mono ?_
  rintro e w1 ⟨rfl, hb1⟩
  have hk : (code n ps != 0) = true := by simpa using hc
  clear hc
  go_wp2
  go_ret2
  exact ⟨rfl, hb1⟩

theorem all_word (n : Nat) : one n - 1 = wordOf n fun _ => true := by
  refine wordOf_of (by have := one_pos n; omega) fun i hi => ?_
  unfold one
  rw [Nat.testBit_two_pow_sub_one]
  simpa using hi

/-- The loop of Chain. -/
def ChRel (n : Nat) (ps : List (Int × Int)) (w w2 : World) (v al left : Value) (wr : World) : Prop :=
  ∃ (q : List Nat) (p : Nat → Bool), OwnI wr w2.heap.size v (nats q) ∧ al = .int .u32 (wordOf n p) ∧ left = .int .i64 (bt (tl n ps) p n).length ∧ q ++ bt (tl n ps) p n = chainW n ps ∧ Below w2.heap.size w2 wr ∧ Below w.heap.size w wr

set_option maxHeartbeats 2000000 in
theorem Chain_ok (n : Nat) (ps : List (Int × Int)) (A : Option Addr) (c : Nat) (w : World) (hm : ps.length ≤ maxLen) (hr : Row w A (pairsC ps)) (hc : code n ps = 0) :
    Calls Try.prog 24 #[.int .i64 n, .slice A ps.length c] w fun e w' => ∃ v, e = .returned (.tuple #[v, .int .i64 0]) ∧ OwnI w' w.heap.size v (nats (chainW n ps)) ∧ Below w.heap.size w w' := by
  obtain ⟨h2, h3, h4⟩ := code_zero hc
  obtain ⟨hn1, hn6, hl⟩ : 1 ≤ n ∧ n ≤ 6 ∧ ps.length ≤ 20 := by unfold Large at h2; omega
  obtain ⟨i0, hi, hz0, hz1, hz2⟩ := info_parts info3
  have HI := Lib.hid (And.intro hi (And.intro hz0 (And.intro hz1 hz2)))
  have h64 := one_le_64 hn6
  have HC := Lib.hid hc
  have HY := Lib.hid h4
  clear h2 h3 h4 hc hi hz0 hz1 hz2
  go_enter Try.func24, Try.ntmps24
  go_wp2_with fail
  refine (Table_ok n ps A c _ hm hr HC.out).mono ?_
  rintro e w1 ⟨g, rfl, hown, hb1⟩
  have HT := Lib.hid hown.tab
  clear hown
  go_wp2_with fail
  refine (chainLengths_any n ps _ n _ HT.out hn1 hn6 HY.out).mono ?_
  rintro e w2 ⟨g2, rfl, hown, hb2⟩
  have HL := Lib.hid (Row.of_own hown)
  have HL2 := Lib.hid hown
  have hb02 := hb1.trans (hb2.mono hb1.size)
  have HT2 := Lib.hid (HT.out.below hb2)
  clear hown HT
  go_wp2
  go_loop [9, 29] (fun v i => ∃ k : Nat, i = .int .i64 k ∧ k ≤ n ∧ v = .int .i64 (maxTo (hg n ps) k)) (fun _ i => n - (intOf i).toNat)
  case atStart => exact ⟨0, rfl, Nat.zero_le _, rfl⟩
  case round =>
    obtain ⟨k, rfl, hk, rfl⟩ := hrel
    have hmx : maxTo (hg n ps) k ≤ n := maxTo_bound fun j hj => hg_n HY.out (by omega)
    by_cases hkn : k < n
    · have hck := HL2.out.cell hkn
      have hhg := hg_n HY.out hkn
      have HS := Lib.hid (show maxTo (hg n ps) (k + 1) = max (maxTo (hg n ps) k) (hg n ps k) from rfl)
      go_wp2
      go_round
      case rel => exact ⟨k + 1, by go_num, by omega, by rw [HS.out]; exact max_val _ _⟩
      case measure => simp [intOf]; omega
    · obtain rfl : k = n := by omega
      have HLen := Lib.hid (show (chainW k ps).length = maxTo (hg k ps) k by
        unfold chainW
        rw [bt_length]
        congr 1)
      have hsz2 := hb02.size
      go_wp2_with (first | (at_make; refine wpList_make_own _ rfl _ _ 36 rfl w2.heap.size 3 i0 (.int .i64 0) 1 Try.underlying36 HI.out.1 HI.out.2.1 HI.out.2.2.1 .i64 .i64 (maxTo (hg k ps) k : Nat) (maxTo (hg k ps) k) rfl rfl rfl ?b2 ?b3 (Nat.le_refl _) ?c5) | (go_at_call 39; refine (only_any k (by omega) _).mono ?_; rintro e w' ⟨rfl, rfl⟩))
      case b2 => rw [HI.out.2.2.2]; omega
      case b3 => unfold maxLen; omega
      case c5 =>
        intro w3 hown hgrow
        have HO := Lib.hid (show OwnI w3 w2.heap.size _ (nats []) from hown)
        have hb3 : Below w2.heap.size w2 w3 := (Below.refl w2.heap.size w2).grown hgrow (Nat.le_refl _) (by intro k hk; cases hk)
        have hb03 := hb02.trans (hb3.mono hsz2)
        clear hown hgrow
        go_wp2_with (go_at_call 39; refine (only_any k (by omega) _).mono ?_; rintro e w' ⟨rfl, rfl⟩)
        go_loopw [12, 13, 14] (fun v al lf wr => ChRel k ps w w2 v al lf wr) (fun _ _ lf _ => (intOf lf).toNat)
        case atStart =>
          refine ⟨[], fun _ => true, HO.out, ?_, ?_, rfl, hb3, hb03⟩
          · rw [← all_word]
            have := one_pos k
            congr 1
            omega
          · rw [← HLen.out]; rfl
        case round =>
          clear HO hb3 hb03 HLen
          obtain ⟨q, p, hown, rfl, rfl, heq, hb3, hb03⟩ := hrel
          have HO := Lib.hid hown
          have HE := Lib.hid heq
          have hbl : (bt (tl k ps) p k).length ≤ k := by rw [bt_length]; exact hc_bound HY.out _ (Nat.le_refl _)
          have hql : q.length ≤ 6 := by
            have h1 := congrArg List.length heq
            have h2 : (chainW k ps).length ≤ k := by unfold chainW; rw [bt_length]; exact hc_bound HY.out _ (Nat.le_refl _)
            rw [List.length_append] at h1
            omega
          have hpw := wordOf_u32 hn6 p
          clear hown heq
          by_cases h0 : 0 < (bt (tl k ps) p k).length
          · obtain ⟨b, hb, hbe⟩ := bt_first (n := k) (ps := ps) (c := p) (m := k) (by rw [← bt_length]; exact h0)
            rw [← bt_length] at hb
            have hbn := hb.1
            have HF := Lib.hid hb
            have HBe := Lib.hid (show bt (tl k ps) p k = b :: bt (tl k ps) (ab ps b) k by rw [hbe, ← tl_eq HY.out hbn])
            have HW := Lib.hid (u32_abW (ps := ps) hn6 hbn)
            have hln : (bt (tl k ps) (ab ps b) k).length + 1 = (bt (tl k ps) p k).length := by rw [HBe.out]; rfl
            have HLn := Lib.hid hln
            have hsz3 := hb3.size
            clear hb hbe hln
            obtain ⟨hi, hz0, hz1, hz2⟩ := HI.out
            go_wp2_with fail
            refine (firstOfLength_any k (hg k ps) p _ b _ k _ (HL.out.below hb3) hn6 HF.out).mono ?_
            rintro e w' ⟨rfl, rfl⟩
            go_wp2_with (first | (at_builtin; refine wpList_append_lies _ rfl _ _ 36 rfl w2.heap.size 3 i0 (.int .i64 0) 1 8 Try.underlying36 hi hz0 hz1 hz2 rfl (by decide) _ _ _ rfl (HO.out.alloc _) ⟨wr.heap.size, 0, none⟩ 1 1 [.int .i64 b] rfl rfl (cell_one_new _ _ _) ?c1 (by decide) ?c2 ?c3 ?c4 _ rfl ?c6))
            case c1 => intro u hu; simp at hu; subst hu; rfl
            case c2 => simp; unfold maxLen; omega
            case c3 => simp; omega
            case c4 => simp; omega
            case c6 =>
              intro g3 cap3 w4 hown4 hgrow4 hat4 hlt4
              have hlt := fun k hk => (World.ownsRow.lt HO.out k hk).1
              have hb4 : Below w2.heap.size w2 w4 := (hb3.alloc hsz3 _).grown hgrow4 (by simp; omega) hlt
              have hb04 : Below w.heap.size w w4 := (hb03.alloc (by omega) _).grown hgrow4 (by simp; omega) (fun k hk => by have := hlt k hk; omega)
              have hcb := (HT2.out.below hb4).at0 hbn
              have HO4 := Lib.hid hown4
              clear hown4 hgrow4 hat4 hi hz0 hz1 hz2 hlt
              go_wp2
              go_quiet ((go_at_call 39; exact only_quiet b (by omega) _ _))
              rw [HW.out]
              go_wp2
              go_roundw
              case rel =>
                refine ⟨q ++ [b], ab ps b, ?_, rfl, ?_, ?_, below_drewN hb4 _, below_drewN hb04 _⟩
                · unfold OwnI
                  rw [nats_append, ints_append, List.length_append, nats_length]
                  exact HO4.out
                · congr 1
                  have := HLn.out
                  omega
                · rw [List.append_assoc, ← HE.out, HBe.out]; rfl
              case measure => simp [intOf]; omega
          · have hbt0 : bt (tl k ps) p k = [] := List.eq_nil_of_length_eq_zero (by omega)
            have HQ := Lib.hid (show q = chainW k ps by rw [← HE.out, hbt0, List.append_nil])
            clear hbt0
            go_wp2
            go_ret2
            exact ⟨_, rfl, by rw [← HQ.out]; exact HO.out.rebase hsz2, hb03⟩

end Go.Proofs.Ytkmloanalhjmjaa
