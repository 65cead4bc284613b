/- syllogistref.Longest: the longest chain by the document's own road. -/
import Derived.Test.YtkmloanalhjmjaaChains
import Derived.Test.YtkmloanalhjmjaaW12
import Derived.Test.YtkmloanalhjmjaaW9
namespace Go.Proofs.Ytkmloanalhjmjaa
open Go.RowKit

/-- What Longest answers, behind a chain l whose last is x. -/
def LongPost (n : Nat) (ps : List (Int × Int)) (l : List Nat) (x : Nat) (w : World) (e : Ending) (w' : World) : Prop :=
  ∃ A c, e = .returned (.slice A (l.length + (tl n ps x).length) c) ∧ Row w' A (ints (nats (l ++ tl n ps x))) ∧ Below w.heap.size w w'
/-- The loop. -/
def LongRel (n : Nat) (ps : List (Int × Int)) (l : List Nat) (x : Nat) (w : World) (v i : Value) (wr : World) : Prop :=
  ∃ (k : Nat) (A : Option Addr) (c : Nat), i = .int .i64 k ∧ k ≤ n ∧ v = .slice A (l.length + (bt (tl n ps) (ab ps x) k).length) c ∧ Row wr A (ints (nats (l ++ bt (tl n ps) (ab ps x) k))) ∧ Below w.heap.size w wr
/-- The loop, from nothing. -/
def LongRel0 (n : Nat) (ps : List (Int × Int)) (w : World) (v i : Value) (wr : World) : Prop :=
  ∃ (k : Nat) (A : Option Addr) (c : Nat), i = .int .i64 k ∧ k ≤ n ∧ v = .slice A (bt (tl n ps) (fun _ => true) k).length c ∧ Row wr A (ints (nats (bt (tl n ps) (fun _ => true) k))) ∧ Below w.heap.size w wr

theorem ret_sl {A : Option Addr} {a b c : Nat} (h : a = b) : Ending.returned (.slice A a c) = .returned (.slice A b c) := by rw [h]
theorem slice_len {A : Option Addr} {a b c : Nat} (h : a = b) : Value.slice A a c = .slice A b c := by rw [h]
theorem bt_yes {t : Nat → List Nat} {c : Nat → Bool} {k : Nat} (h : c k = true) (h2 : (bt t c k).length < (t k).length + 1) : bt t c (k + 1) = k :: t k := by
  rw [bt, h]; simp [h2]
theorem bt_no {t : Nat → List Nat} {c : Nat → Bool} {k : Nat} (h : c k = false) : bt t c (k + 1) = bt t c k := by
  rw [bt, h]; simp
theorem bt_less {t : Nat → List Nat} {c : Nat → Bool} {k : Nat} (h : ¬ (bt t c k).length < (t k).length + 1) : bt t c (k + 1) = bt t c k := by
  rw [bt]; simp [h]

set_option maxHeartbeats 2000000 in
theorem Longest_go (n : Nat) (ps : List (Int × Int)) (Ap : Option Addr) (cp : Nat) (hn6 : n ≤ 6) (hl20 : ps.length ≤ 20) (hcy : ¬ Cyc n ps) : ∀ (m : Nat) (l : List Nat) (x : Nat), sAb n ps x = m → x < n → l[l.length - 1]? = some x → l.length + m ≤ n → ∀ (A : Option Addr) (c : Nat) (w : World),
    Row w Ap (pairsC ps) → Row w A (ints (nats l)) →
    Calls Try.prog 25 #[.int .i64 n, .slice Ap ps.length cp, .slice A l.length c] w (LongPost n ps l x w) := by
  intro m
  induction m using Nat.strongRecOn with
  | _ m ih =>
    intro l x hm hxn hlx hfew A c w hr hrow
    have hpos : 0 < l.length := by have := (List.getElem?_eq_some_iff.1 hlx).1; omega
    have hd0 : ((l.length : Int) == 0) = false := by rw [beq_eq_false_iff_ne]; omega
    have IH := Lib.hid ih
    have HC := Lib.hid hcy
    have HR := Lib.hid hrow
    have HM := Lib.hid hm
    have HX := Lib.hid hlx
    clear ih hcy hrow hm hlx
    obtain ⟨i0, hi, hz0, hz1, hz2⟩ := info_parts info3
    have HI := Lib.hid (And.intro hi (And.intro hz0 (And.intro hz1 hz2)))
    clear hi hz0 hz1 hz2
    go_enter Try.func25, Try.ntmps25
    go_wp2
    go_loopw [7, 8] (fun v i wr => LongRel n ps l x w v i wr) (fun _ i _ => n - (intOf i).toNat)
    case atStart => exact ⟨0, A, c, rfl, Nat.zero_le _, rfl, by rw [bt, List.append_nil]; exact HR.out, Below.refl _ _⟩
    case round =>
      obtain ⟨k, A2, c2, rfl, hk, rfl, hrow2, hbel⟩ := hrel
      have HR2 := Lib.hid hrow2
      clear hrow2
      by_cases hkn : k < n
      · have hbt : (bt (tl n ps) (ab ps x) k).length ≤ n := by rw [bt_length]; exact hc_bound HC.out _ hk
        have htl : (tl n ps k).length + 1 ≤ n := hg_n HC.out hkn
        have hsz := hbel.size
        have HRr := Lib.hid (HR.out.below hbel)
        obtain ⟨b, off, rfl, hcell⟩ := HRr.out.at (k := 0) (by rw [ints_length, nats_length]; exact hpos)
        have hcl := hcell _ _ (ints_at (nats_at HX.out))
        clear hcell
        by_cases hxk : x = k
        · have hd : ((x : Int) != (k : Int)) = false := by simp; omega
          have HB := Lib.hid (bt_no (t := tl n ps) (show ab ps x k = false by simp [ab, hxk]))
          clear hxk
          go_wp2
          go_roundw
          case rel => exact ⟨k + 1, A2, c2, by go_num, by omega, by rw [HB.out], by rw [HB.out]; exact HR2.out, hbel⟩
          case measure => simp [intOf]; omega
        · have hd : ((x : Int) != (k : Int)) = true := by simp; omega
          have HXK := Lib.hid hxk
          clear hxk
          go_wp2_with fail
          refine (Under_any n ps Ap cp x k _ (hr.below hbel) hl20).mono ?_
          rintro e w2 ⟨rfl, hb2⟩
          have hbel2 := hbel.trans (hb2.mono hbel.size)
          have HR22 := Lib.hid (HR2.out.below hb2)
          cases hu : under ps x k with
          | false =>
            have HB := Lib.hid (bt_no (t := tl n ps) (show ab ps x k = false by simp [ab, hu]))
            clear hu
            go_wp2
            go_roundw
            case rel => exact ⟨k + 1, A2, c2, by go_num, by omega, by rw [HB.out], by rw [HB.out]; exact HR22.out, hbel2⟩
            case measure => simp [intOf]; omega
          | true =>
            have HAb := Lib.hid (show ab ps x k = true from ab_iff.2 ⟨HXK.out, hu⟩)
            have hs := sAb_lt HC.out hxn hkn HAb.out
            rw [HM.out] at hs
            clear hu
            have hsz2 := hbel2.size
            have HE := Lib.hid (World.ownsRow_lit (base := w.heap.size) (e := 3) (size := 1) w2 #[] 0 hsz2 (by unfold maxLen; omega) rfl)
            have HB1 := Lib.hid (hbel2.alloc hsz2 (.cells #[] 3))
            have HRa := Lib.hid ((HRr.out.below hb2).below ((Below.refl w2.heap.size w2).alloc (Nat.le_refl _) (.cells #[] 3)))
            obtain ⟨hi, hz0, hz1, hz2⟩ := HI.out
            have tok1 : True := trivial
            go_wp2_with (first | (at_builtin; have _t := tok1; refine wpList_append_lies _ rfl (.tmp 43) (.tmp 44) 36 rfl w.heap.size 3 i0 (.int .i64 0) 1 8 Try.underlying36 hi hz0 hz1 hz2 rfl (by decide) _ _ _ rfl HE.out ⟨b, off, none⟩ l.length c (ints (nats l)) rfl ?d0 (row_news HRa.out) (ints_oneCell _) hpos ?d2 ?d3 ?d4 _ rfl ?d5))
            case d0 => rw [ints_length, nats_length, Nat.mul_one]
            case d2 => unfold maxLen; omega
            case d3 => omega
            case d4 => first | omega | (simp; omega)
            case d5 =>
              intro g2 cap2 w3 hown3 hgrow3 hat3 hlt3
              have hb3 : Below w.heap.size w w3 := below_own HB1.out HE.out hgrow3
              have hb23 : Below w2.heap.size w2 w3 := ((Below.refl w2.heap.size w2).alloc (Nat.le_refl _) (.cells #[] 3)).grown hgrow3 (by simp) (fun k hk => by simp [Value.ownBlock] at hk; omega)
              have hsz3 := hb3.size
              have hgb : ∀ y, (Value.slice (some ⟨g2, 0, none⟩) l.length cap2).ownBlock = some y → w2.heap.size ≤ y := by
                intro y hy
                simp [Value.ownBlock] at hy
                subst hy
                rcases hat3 with h | h
                · simp [Value.ownBlock] at h; omega
                · omega
              have HGb := Lib.hid hgb
              have HO3 := Lib.hid hown3
              clear hown3 hgrow3 hat3 HE HB1 HRa hgb
              have hsz23 := hb23.size
              go_wp2_with (first | (at_builtin; refine wpList_append_lies _ rfl (.tmp 45) (.tmp 47) 36 rfl w.heap.size 3 i0 (.int .i64 0) 1 8 Try.underlying36 hi hz0 hz1 hz2 rfl (by decide) _ _ _ rfl (HO3.out.alloc _) ⟨w3.heap.size, 0, none⟩ 1 1 [.int .i64 k] rfl rfl (cell_one_new _ _ _) ?c1 (by decide) ?c2 ?c3 ?c4 _ rfl ?c5))
              case c1 => intro u hu; simp at hu; subst hu; rfl
              case c2 => unfold maxLen; omega
              case c3 => omega
              case c4 => first | omega | (simp; omega)
              case c5 =>
                intro g3 cap3 w4 hown4 hgrow4 hat4 hlt4
                have hb4 : Below w.heap.size w w4 := below_own (hb3.alloc hsz3 _) (HO3.out.alloc _) hgrow4
                have hb24 : Below w2.heap.size w2 w4 := (hb23.alloc hsz23 _).grown hgrow4 (by simp; omega) HGb.out
                have HO4 := Lib.hid (show OwnI w4 w.heap.size (.slice (some ⟨g3, 0, none⟩) (nats (l ++ [k])).length cap3) (nats (l ++ [k])) by
                  unfold OwnI
                  rw [nats_append, ints_append, List.length_append, nats_length]
                  exact hown4)
                have HR4 := Lib.hid (OwnI.rowAt HO4.out)
                clear hown4 hgrow4 hat4 hi hz0 hz1 hz2
                have key := IH.out _ hs (l ++ [k]) k rfl hkn (by simp) (by simp; omega) (some ⟨g3, 0, none⟩) cap3 w4 (hr.below hb4) HR4.out
                rw [List.length_append] at key
                have HKey := Lib.hid key
                clear key
                go_wp2_with fail
                refine HKey.out.mono ?_
                rintro e w5 ⟨A5, c5, rfl, hrow5, hb5⟩
                clear HKey
                rw [List.append_assoc] at hrow5
                have HR5 := Lib.hid hrow5
                have hb05 := hb4.trans (hb5.mono hb4.size)
                have HR25 := Lib.hid (HR22.out.below (hb24.trans (hb5.mono hb24.size)))
                clear hrow5 HR2
                by_cases hlt : (bt (tl n ps) (ab ps x) k).length < (tl n ps k).length + 1
                · have HV := Lib.hid (bt_yes HAb.out hlt)
                  go_wp2
                  go_roundw
                  case rel => exact ⟨k + 1, A5, c5, by go_num, by omega, slice_len (by rw [HV.out]; simp; omega), by rw [HV.out]; exact HR5.out, hb05⟩
                  case measure => simp [intOf]; omega
                · have HV := Lib.hid (bt_less (c := ab ps x) hlt)
                  go_wp2
                  go_roundw
                  case rel => exact ⟨k + 1, A2, c2, by go_num, by omega, by rw [HV.out], by rw [HV.out]; exact HR25.out, hb05⟩
                  case measure => simp [intOf]; omega
      · obtain rfl : k = n := by omega
        have HT := Lib.hid (tl_eq HC.out hxn)
        go_wp2
        go_ret
        exact ⟨A2, c2, ret_sl (by rw [HT.out]), by rw [HT.out]; exact HR2.out, hbel⟩

set_option maxHeartbeats 2000000 in
theorem Longest_nil (n : Nat) (ps : List (Int × Int)) (Ap : Option Addr) (cp : Nat) (hn6 : n ≤ 6) (hl20 : ps.length ≤ 20) (hcy : ¬ Cyc n ps) (w : World) (hr : Row w Ap (pairsC ps)) :
    Calls Try.prog 25 #[.int .i64 n, .slice Ap ps.length cp, .slice none 0 0] w fun e w' => ∃ A c, e = .returned (.slice A (chainW n ps).length c) ∧ Row w' A (ints (nats (chainW n ps))) ∧ Below w.heap.size w w' := by
  have HC := Lib.hid hcy
  clear hcy
  obtain ⟨i0, hi, hz0, hz1, hz2⟩ := info_parts info3
  have HI := Lib.hid (And.intro hi (And.intro hz0 (And.intro hz1 hz2)))
  clear hi hz0 hz1 hz2
  go_enter Try.func25, Try.ntmps25
  go_wp2
  go_loopw [7, 8] (fun v i wr => LongRel0 n ps w v i wr) (fun _ i _ => n - (intOf i).toNat)
  case atStart => exact ⟨0, none, 0, rfl, Nat.zero_le _, rfl, .inl rfl, Below.refl _ _⟩
  case round =>
    obtain ⟨k, A2, c2, rfl, hk, rfl, hrow2, hbel⟩ := hrel
    have HR2 := Lib.hid hrow2
    clear hrow2
    by_cases hkn : k < n
    · have hbt : (bt (tl n ps) (fun _ => true) k).length ≤ n := by rw [bt_length]; exact hc_bound HC.out _ hk
      have htl : (tl n ps k).length + 1 ≤ n := hg_n HC.out hkn
      have hsz := hbel.size
      have HE := Lib.hid (World.ownsRow_lit (base := w.heap.size) (e := 3) (size := 1) wr #[] 0 hsz (by unfold maxLen; omega) rfl)
      have HB1 := Lib.hid (hbel.alloc hsz (.cells #[] 3))
      obtain ⟨hi, hz0, hz1, hz2⟩ := HI.out
      generalize hX : (bt (tl n ps) (fun _ => true) k) = X at *
      have HX := Lib.hid hX
      clear hX
      go_wp2_with (first | (at_builtin; refine wpList_append_lies _ rfl (.tmp 45) (.tmp 47) 36 rfl w.heap.size 3 i0 (.int .i64 0) 1 8 Try.underlying36 hi hz0 hz1 hz2 rfl (by decide) _ _ _ rfl (HE.out.alloc _) ⟨wr.heap.size + 1, 0, none⟩ 1 1 [.int .i64 k] rfl rfl ?c0 ?c1 (by decide) ?c2 ?c3 ?c4 _ rfl ?c5))
      case c1 => rfl
      case c2 => unfold maxLen; omega
      case c4 => first | omega | (simp; omega)
      case c5 =>
        intro g3 cap3 w4 hown4 hgrow4 hat4 hlt4
        have hb4 : Below w.heap.size w w4 := below_own (HB1.out.alloc (by simp; omega) _) (HE.out.alloc _) hgrow4
        have hbr4 : Below wr.heap.size wr w4 := by
          have h1 := (Below.refl wr.heap.size wr).alloc (Nat.le_refl _) (.cells #[] 3)
          have h2 := h1.alloc (by simp) (.cells #[.int .i64 k] 3)
          exact h2.grown hgrow4 (by simp; omega) (fun k hk => by simp [Value.ownBlock] at hk; omega)
        have HO4 := Lib.hid (show OwnI w4 w.heap.size (.slice (some ⟨g3, 0, none⟩) (nats [k]).length cap3) (nats [k]) from hown4)
        have HR4 := Lib.hid (OwnI.rowAt HO4.out)
        clear hown4 hgrow4 hat4 hi hz0 hz1 hz2 HE HB1
        have hs := sAb_n ps hkn
        go_wp2_with fail
        refine (Longest_go n ps Ap cp hn6 hl20 HC.out _ [k] k rfl hkn (by simp) (by simp; omega) (some ⟨g3, 0, none⟩) cap3 w4 (hr.below hb4) HR4.out).mono ?_
        rintro e w5 ⟨A5, c5, rfl, hrow5, hb5⟩
        have HR5 := Lib.hid hrow5
        have hb05 := hb4.trans (hb5.mono hb4.size)
        have HR25 := Lib.hid (HR2.out.below (hbr4.trans (hb5.mono hbr4.size)))
        clear hrow5 HR2
        by_cases hlt : X.length < (tl n ps k).length + 1
        · have HV := Lib.hid (bt_yes (t := tl n ps) (c := fun _ => true) (k := k) rfl (by rw [HX.out]; exact hlt))
          go_wp2
          go_roundw
          case rel => exact ⟨k + 1, A5, c5, by go_num, by omega, slice_len (by rw [HV.out]; simp; omega), by rw [HV.out]; exact HR5.out, hb05⟩
          case measure => simp [intOf]; omega
        · have HV := Lib.hid (bt_less (t := tl n ps) (c := fun _ => true) (k := k) (by rw [HX.out]; exact hlt))
          go_wp2
          go_roundw
          case rel => exact ⟨k + 1, A2, c2, by go_num, by omega, by rw [HV.out, HX.out], by rw [HV.out, HX.out]; exact HR25.out, hb05⟩
          case measure => simp [intOf]; omega
    · obtain rfl : k = n := by omega
      go_wp2
      go_ret
      exact ⟨A2, c2, rfl, HR2.out, hbel⟩

end Go.Proofs.Ytkmloanalhjmjaa
