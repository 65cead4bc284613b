/- order.firstReady, lineUp, Line. -/
import Derived.Test.YtkmloanalhjmjaaLines
import Derived.Test.YtkmloanalhjmjaaW2
namespace Go.Proofs.Ytkmloanalhjmjaa
open Go.RowKit

theorem u32_ready {n a : Nat} {ps : List (Int × Int)} {l : List Nat} (hn : n ≤ 6) (ha : a < n) :
    (bits .andNot .u32 (rev n (upT n ps) a : Int) (setOf n l : Int) == (one a : Int)) = rdyTo ps l a n := by
  have h64 := one_le_64 hn
  have hs : setOf n l < 4294967296 := by have := setOf_lt n l; omega
  rw [u32_andNot_nat _ _ (rev_u32 hn _ a) hs, ← ready_words hn ha, Bool.eq_iff_iff]
  simp only [beq_iff_eq]
  omega

set_option maxHeartbeats 1000000 in
theorem firstReady_any (n : Nat) (ps : List (Int × Int)) (l : List Nat) (i : Nat) (A : Option Addr) (c : Nat) (w : World) (hr : Tab w A n (rev n (upT n ps))) (hn1 : 1 ≤ n) (hn6 : n ≤ 6) (hf : IsFirst (fun i => rdyTo ps l i n) n i) :
    Calls Try.prog 49 #[.slice A n c, .int .u32 (setOf n l)] w fun e w' => e = .returned (.int .i64 i) ∧ ∃ d, w' = w.drewN d := by
  have HF := Lib.hid hf
  clear hf
  go_enter Try.func49, Try.ntmps49
  go_wp2
  go_loopw [8] (fun v wr => ∃ a : Nat, v = .int .i64 a ∧ a ≤ i ∧ ∃ d, wr = w.drewN d) (fun v _ => n - (intOf v).toNat)
  case atStart => exact ⟨0, rfl, Nat.zero_le _, 0, rfl⟩
  case round =>
    obtain ⟨a, rfl, ha, d, rfl⟩ := hrel
    have hin := HF.out.1
    have hlt : a < n := by omega
    obtain ⟨g, off, rfl, hcell⟩ := hr.cell (by omega)
    have hca : (w.drewN d).cell? ⟨g, off + a, none⟩ = some (.int .u32 (rev n (upT n ps) a : Nat)) := hcell a hlt
    have HD := Lib.hid (u32_ready (ps := ps) (l := l) hn6 hlt)
    generalize hw3 : w.drewN d = w3 at *
    have HW := Lib.hid hw3
    clear hcell hw3
    by_cases hai : a = i
    · subst hai
      have hd := HD.out.trans HF.out.2.1
      go_wp2
      go_quiet ((go_at_call 39; exact only_quiet a (by omega) _ _))
      go_wp2
      go_ret
      exact ⟨rfl, d + nq, by rw [← HW.out, World.drewN_drewN]⟩
    · have hd := HD.out.trans (HF.out.2.2 a (by omega))
      go_wp2
      go_quiet ((go_at_call 39; exact only_quiet a (by omega) _ _))
      go_wp2
      go_roundw
      case rel => exact ⟨a + 1, by go_num, by omega, d + nq, by rw [← HW.out, World.drewN_drewN]⟩
      case measure => simp [intOf]; omega

/-- Numbers of the call's own. -/
def OwnI (w : World) (B : Nat) (v : Value) (xs : List Int) : Prop := w.ownsRow B 3 1 v xs.length (ints xs)
theorem ints_append (xs ys : List Int) : ints (xs ++ ys) = ints xs ++ ints ys := by simp [ints]
theorem OwnI.rowAt {w : World} {B g c : Nat} {xs : List Int} (h : OwnI w B (.slice (some ⟨g, 0, none⟩) xs.length c) xs) : Row w (some ⟨g, 0, none⟩) (ints xs) := Row.of_own h
theorem OwnI.below {w w' : World} {B : Nat} {v : Value} {cs : List Int} (h : OwnI w B v cs) (hb : Below w.heap.size w w') : OwnI w' B v cs :=
  World.ownsRow.kept h (row := none) ⟨hb.os, hb.tape, hb.output, hb.size, fun k hk _ => hb.block k hk⟩ (by cases hv : v.ownBlock <;> simp)
theorem OwnI.rebase {w : World} {B B' : Nat} {v : Value} {cs : List Int} (h : OwnI w B v cs) (hb : B' ≤ B) : OwnI w B' v cs := by
  obtain ⟨h1, h2⟩ := h
  refine ⟨h1, ?_⟩
  rcases h2 with h2 | ⟨g', cap', cur, hv, hg, r⟩
  · exact .inl h2
  · exact .inr ⟨g', cap', cur, hv, Nat.le_trans hb hg, r⟩
theorem OwnI.row {w : World} {B : Nat} {v : Value} {cs : List Int} (h : OwnI w B v cs) : ∃ A c, v = .slice A cs.length c ∧ Row w A (ints cs) ∧ cs.length ≤ maxLen := by
  rcases h.2 with ⟨hv, hn⟩ | ⟨g, cap, cur, hv, hg, hh, h1, h2, h3, h4⟩
  · have : cs = [] := List.eq_nil_of_length_eq_zero hn
    subst this
    exact ⟨none, 0, hv, .inl rfl, by simp [maxLen]⟩
  · subst hv
    exact ⟨some ⟨g, 0, none⟩, cap, rfl, Row.of_own h, by omega⟩

/-- The loop of lineUp. -/
def LineRel (n : Nat) (ps : List (Int × Int)) (w w1 : World) (v p i : Value) (wr : World) : Prop :=
  ∃ k : Nat, i = .int .i64 k ∧ k ≤ n ∧ p = .int .u32 (setOf n (lineL n ps k)) ∧ OwnI wr w1.heap.size v (nats (lineL n ps k)) ∧ Below w1.heap.size w1 wr ∧ Below w.heap.size w wr

set_option maxHeartbeats 1000000 in
theorem lineUp_any (n : Nat) (ps : List (Int × Int)) (A : Option Addr) (c : Nat) (w : World) (hr : Tab w A n (upT n ps)) (hn1 : 1 ≤ n) (hn6 : n ≤ 6) (hc : ¬ Cyc n ps) :
    Calls Try.prog 40 #[.slice A n c] w fun e w' => ∃ v, e = .returned v ∧ OwnI w' w.heap.size v (nats (lineL n ps n)) ∧ Below w.heap.size w w' := by
  obtain ⟨i0, hi, hz0, hz1, hz2⟩ := info_parts info3
  have HI := Lib.hid (And.intro hi (And.intro hz0 (And.intro hz1 hz2)))
  have HC := Lib.hid hc
  clear hi hz0 hz1 hz2 hc
  go_enter Try.func40, Try.ntmps40
  go_wp2_with fail
  refine (reverse_any n (upT n ps) A c _ hr hn1 hn6 (fun a _ => upT_u32 hn6 ps a)).mono ?_
  rintro e w1 ⟨rfl, hown, hb1⟩
  have HT := Lib.hid hown.tab
  have hsz := hb1.size
  clear hown
  go_wp2_with (at_make; refine wpList_make_own _ rfl _ _ 36 rfl w1.heap.size 3 i0 (.int .i64 0) 1 Try.underlying36 HI.out.1 HI.out.2.1 HI.out.2.2.1 .i64 .i64 n n rfl rfl rfl ?b2 ?b3 (Nat.le_refl _) ?c5)
  case b2 => rw [HI.out.2.2.2]; omega
  case b3 => unfold maxLen; omega
  case c5 =>
    intro w2 hown hgrow
    have HO := Lib.hid (show OwnI w2 w1.heap.size _ (nats (lineL n ps 0)) from hown)
    have hb12 : Below w1.heap.size w1 w2 := (Below.refl w1.heap.size w1).grown hgrow (Nat.le_refl _) (by intro k hk; cases hk)
    have hb02 := hb1.trans (hb12.mono hsz)
    clear hown hgrow
    go_wp2
    go_loopw [4, 5, 14] (fun v p i wr => LineRel n ps w w1 v p i wr) (fun _ _ i _ => n - (intOf i).toNat)
    case atStart => exact ⟨0, rfl, Nat.zero_le _, by rw [lineL, setOf_nil]; rfl, HO.out, hb12, hb02⟩
    case round =>
      clear HO hb12 hb02
      obtain ⟨k, rfl, hk, rfl, hown, hb12, hb02⟩ := hrel
      have HO := Lib.hid hown
      clear hown
      by_cases hkn : k < n
      · have HF := Lib.hid (lineL_first HC.out hkn)
        have HL := Lib.hid (show lineL n ps (k + 1) = lineL n ps k ++ [nxt n ps (lineL n ps k)] from rfl)
        have hlen := lineL_length n ps k
        have HLen := Lib.hid hlen
        clear hlen
        go_wp2_with fail
        refine (firstReady_any n ps (lineL n ps k) _ _ n _ (HT.out.below hb12) hn1 hn6 HF.out).mono ?_
        rintro e w3 ⟨rfl, d, rfl⟩
        have hxn := HF.out.1
        have HO3 : Hid (OwnI (wr.drewN d) w1.heap.size _ (nats (lineL n ps k))) := HO
        have HB3 := Lib.hid (And.intro (below_drewN hb12 d) (below_drewN hb02 d))
        have hsz3 : w1.heap.size ≤ (wr.drewN d).heap.size := HB3.out.1.size
        have hln : (nats (lineL n ps k)).length ≤ 6 := by rw [nats_length, HLen.out]; omega
        clear HO hb12 hb02
        generalize wr.drewN d = w3 at *
        generalize hx : nxt n ps (lineL n ps k) = x at *
        have HX := Lib.hid hx
        clear hx
        obtain ⟨hi, hz0, hz1, hz2⟩ := HI.out
        go_wp2_with (first | (at_builtin; refine wpList_append_lies _ rfl _ _ 36 rfl w1.heap.size 3 i0 (.int .i64 0) 1 8 Try.underlying36 hi hz0 hz1 hz2 rfl (by decide) _ _ _ rfl (HO3.out.alloc _) ⟨w3.heap.size, 0, none⟩ 1 1 [.int .i64 x] rfl rfl (cell_one_new _ _ _) ?c1 (by decide) ?c2 ?c3 ?c4 _ rfl ?c6) | (go_at_call 39; refine (only_any x (by omega) _).mono ?_; rintro e w' ⟨rfl, rfl⟩))
        case c1 => intro u hu; simp at hu; subst hu; rfl
        case c2 => unfold maxLen; omega
        case c3 => omega
        case c4 => simp; omega
        case c6 =>
          intro g3 cap3 w4 hown4 hgrow4 hat4 hlt4
          have HG4 := Lib.hid hgrow4
          have HO4 := Lib.hid hown4
          clear hown4 hgrow4 hat4 hi hz0 hz1 hz2
          have hset : setOf n (lineL n ps k) < 4294967296 := by have h1 := setOf_lt n (lineL n ps k); have h2 := one_le_64 hn6; omega
          have h1x : one x < 4294967296 := one_lt (by omega)
          have HS := Lib.hid (show bits .or .u32 (setOf n (lineL n ps k) : Int) (one x : Int) = (setOf n (lineL n ps (k + 1)) : Nat) by
            rw [u32_or_nat _ _ hset h1x, setOf_add hxn, HL.out])
          go_wp2_with (go_at_call 39; refine (only_any x (by omega) _).mono ?_; rintro e w' ⟨rfl, rfl⟩)
          go_roundw
          case rel =>
            have hlt := fun k hk => (World.ownsRow.lt HO3.out k hk).1
            refine ⟨k + 1, by go_num, by omega, by rw [HS.out], ?_, ?_, ?_⟩
            · rw [HL.out, nats_append]
              unfold OwnI
              rw [ints_append, List.length_append, nats_length]
              exact HO4.out
            · exact (HB3.out.1.alloc hsz3 _).grown HG4.out (by simp; omega) hlt
            · exact (HB3.out.2.alloc (by omega) _).grown HG4.out (by simp; omega) (fun k hk => by have := hlt k hk; omega)
          case measure => simp [intOf]; omega
      · obtain rfl : k = n := by omega
        go_wp2
        go_ret
        exact ⟨_, rfl, HO.out.rebase hsz, hb02⟩

theorem Line_err (n : Int) (ps : List (Int × Int)) (A : Option Addr) (c : Nat) (w : World) (hm : ps.length ≤ maxLen) (hr : Row w A (pairsC ps)) (hc : code n ps ≠ 0) :
    Calls Try.prog 21 #[.int .i64 n, .slice A ps.length c] w fun e w' => e = .returned (.tuple #[.slice none 0 0, .int .i64 (code n ps)]) ∧ Below w.heap.size w w' := by
  go_enter Try.func21, Try.ntmps21
  go_wp2_with fail
  refine (Table_err n ps A c _ hm hr hc).mono ?_
  rintro e w1 ⟨rfl, hb1⟩
  have hk : (code n ps != 0) = true := by simpa using hc
  clear hc
  go_wp2
  go_ret2
  exact ⟨rfl, hb1⟩

set_option maxHeartbeats 1000000 in
theorem Line_ok (n : Nat) (ps : List (Int × Int)) (A : Option Addr) (c : Nat) (w : World) (hm : ps.length ≤ maxLen) (hr : Row w A (pairsC ps)) (hc : code n ps = 0) :
    Calls Try.prog 21 #[.int .i64 n, .slice A ps.length c] w fun e w' => ∃ v, e = .returned (.tuple #[v, .int .i64 0]) ∧ OwnI w' w.heap.size v (nats (lineL n ps n)) ∧ Below w.heap.size w w' := by
  obtain ⟨h2, h3, h4⟩ := code_zero hc
  obtain ⟨hn1, hn6, hl⟩ : 1 ≤ n ∧ n ≤ 6 ∧ ps.length ≤ 20 := by unfold Large at h2; omega
  have HC := Lib.hid hc
  have HY := Lib.hid h4
  clear h2 h3 h4 hc
  go_enter Try.func21, Try.ntmps21
  go_wp2_with fail
  refine (Table_ok n ps A c _ hm hr HC.out).mono ?_
  rintro e w1 ⟨g, rfl, hown, hb1⟩
  have HT := Lib.hid hown.tab
  clear hown
  go_wp2_with fail
  refine (lineUp_any n ps _ n _ HT.out hn1 hn6 HY.out).mono ?_
  rintro e w2 ⟨v, rfl, hown, hb2⟩
  have HO := Lib.hid hown
  have hb02 := hb1.trans (hb2.mono hb1.size)
  have hsz := hb1.size
  clear hown
  go_wp2
  go_ret2
  exact ⟨_, rfl, HO.out.rebase hsz, hb02⟩

end Go.Proofs.Ytkmloanalhjmjaa
