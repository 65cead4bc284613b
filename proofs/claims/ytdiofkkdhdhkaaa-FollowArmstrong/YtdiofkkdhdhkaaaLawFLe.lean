/- The law on Least, by what the document asks. -/
import Derived.Test.YtdiofkkdhdhkaaaLawFCl
import Derived.Test.YtdiofkkdhdhkaaaAppAny
namespace Go.Proofs.Ytdiofkkdhdhkaaa
open Go.RowKit

/-- Rules of the call's own, in a list that grows. -/
def OwnR (w : World) (B : Nat) (v : Value) (rs : List (Nat × Nat)) : Prop := w.ownsRow B 31 2 v rs.length (rulesC rs)
theorem infoR : (Try.prog.info? 31).map (fun i => (i.zero, i.size, i.bytes)) = some (some (.agg #[.int .u32 0, .int .u32 0]), 2, 8) := by kernel_rfl
theorem OwnR.row {w : World} {B : Nat} {v : Value} {rs : List (Nat × Nat)} (h : OwnR w B v rs) : ∃ A c, v = .slice A rs.length c ∧ Row w A (rulesC rs) ∧ rs.length ≤ maxLen := by
  rcases h.2 with ⟨hv, hn⟩ | ⟨g, cap, cur, hv, hg, hh, h1, h2, h3, h4⟩
  · have : rs = [] := List.eq_nil_of_length_eq_zero hn
    subst this
    exact ⟨none, 0, hv, .inl rfl, by simp [maxLen]⟩
  · subst hv
    refine ⟨some ⟨g, 0, none⟩, cap, rfl, .inr ⟨g, 0, rfl, fun j u hu => ?_⟩, by omega⟩
    have hj : j < (rulesC rs).length := (List.getElem?_eq_some_iff.1 hu).1
    rw [rulesC_length] at hj
    rw [Nat.zero_add, World.ownsRow.cellAt h j (by omega)]
    exact hu

theorem rulesC_take {l : List (Nat × Nat)} {k i : Nat} {u : Value} (h : (rulesC (l.take k))[i]? = some u) : (rulesC l)[i]? = some u := by
  have hi := (List.getElem?_eq_some_iff.1 h).1
  rw [← List.take_append_drop k l, rulesC_append, List.getElem?_append_left hi]
  exact h
theorem rulesC_drop {l : List (Nat × Nat)} {k i : Nat} {u : Value} (hk : k ≤ l.length) (h : (rulesC (l.drop k))[i]? = some u) : (rulesC l)[k * 2 + i]? = some u := by
  have hl : (rulesC (l.take k)).length = k * 2 := by rw [rulesC_length, List.length_take]; omega
  rw [← List.take_append_drop k l, rulesC_append, List.getElem?_append_right (by omega), hl]
  rw [show k * 2 + i - k * 2 = i by omega]
  exact h
theorem rulesC_oneCell (l : List (Nat × Nat)) : ∀ u ∈ rulesC l, u.oneCell' = true := by
  intro u hu
  simp only [rulesC, List.mem_flatMap] at hu
  obtain ⟨r, _, hu⟩ := hu
  simp at hu
  rcases hu with rfl | rfl <;> rfl
theorem news_take {w : World} {g off k : Nat} {l : List (Nat × Nat)} (h : Row w (some ⟨g, off, none⟩) (rulesC l)) : ∀ i u, (rulesC (l.take k))[i]? = some u → w.cell? ((⟨g, off, none⟩ : Addr).add i) = some u :=
  fun i u hu => row_news h i u (rulesC_take hu)
theorem news_drop {w : World} {g off k : Nat} {l : List (Nat × Nat)} {ad : Addr} {c : Nat} (h : Row w (some ⟨g, off, none⟩) (rulesC l)) (hk : k ≤ l.length) (hc : l.length ≤ c) (hif : (if c = k then some (⟨g, off, none⟩ : Addr) else some ⟨g, off + k * 2, none⟩) = some ad) : ∀ i u, (rulesC (l.drop k))[i]? = some u → w.cell? (ad.add i) = some u := by
  intro i u hu
  by_cases e : c = k
  · have : l.drop k = [] := List.drop_of_length_le (by omega)
    rw [this] at hu
    simp [rulesC] at hu
  · rw [if_neg e] at hif
    simp only [Option.some.injEq] at hif
    subst hif
    have h1 := row_news h (k * 2 + i) u (rulesC_drop hk hu)
    have e1 : (⟨g, off, none⟩ : Addr).add (k * 2 + i) = ⟨g, off + k * 2 + i, none⟩ := by unfold Addr.add; split <;> simp_all [Nat.add_assoc]
    have e2 : (⟨g, off + k * 2, none⟩ : Addr).add i = ⟨g, off + k * 2 + i, none⟩ := by unfold Addr.add; split <;> simp_all
    rw [e2, ← e1]
    exact h1

/-- How the walk writes 'a - 1<<i'. -/
theorem u32_minus {a i : Nat} (hi : i < 32) (ha : a < 4294967296) (h : one i ≤ a) : IntKind.u32.wrap ((a : Int) - IntKind.u32.wrap (2 ^ min (IntKind.u64.wrap (i : Int)).toNat 32)) = ((a - one i : Nat) : Int) := by
  have e1 : IntKind.u64.wrap (i : Int) = (i : Int) := IntWalk.u64_in _ (by omega)
  have e2 : IntKind.u32.wrap ((2 : Int) ^ i) = (one i : Int) := by
    rw [IntKind.wrap_u32]
    exact one_int i hi
  rw [e1, Int.toNat_natCast, Nat.min_eq_left (by omega), e2]
  have e3 : (a : Int) - (one i : Int) = ((a - one i : Nat) : Int) := by omega
  rw [e3]
  exact IntWalk.u32_in _ (by omega)
theorem one_le_of_bit' {s i : Nat} (h : s.testBit i = true) : one i ≤ s := by
  rcases Nat.lt_or_ge s (one i) with h1 | h1
  · rw [lt_one_testBit h1 (Nat.le_refl i)] at h; cases h
  · exact h1

set_option maxRecDepth 4000 in
set_option maxHeartbeats 12000000 in
theorem FollowLeasts_with (hJ : LeastOk 22) (n : Int) (rs : List (Nat × Nat)) (A : Option Addr) (c : Nat) (w : World) (h32 : W32 rs) (hm : rs.length ≤ maxLen) (hr : Row w A (rulesC rs)) (hX : Laid w) :
    Calls Try.prog 7 #[.int .i64 n, .slice A rs.length c] w fun e w' => e = .returned (.bool true) ∧ Below w.heap.size w w' := by
  have key := hJ n rs A c w h32 hm hr hX
  by_cases hc : codeR n rs 0 = 0
  · obtain ⟨n, rfl, hn1, hn6, hl, hf, h1⟩ := codeR_zero hc
    have HC := Lib.hid hc
    have h64 := one_le_64 hn6
    have h1n := one_int n (by omega)
    clear hc
    go_enter Try.func7, Try.ntmps7
    go_wp2_with fail
    refine key.mono ?_
    rintro e w1 ⟨A2, c2, l, rfl, hle, hno, hcap, hrow, hb1⟩
    clear hno
    replace hle := hle HC.out
    rw [Int.toNat_natCast] at hle
    rw [HC.out]
    have HLe := Lib.hid hle.1
    have hll := hle.2
    have HR := Lib.hid hrow
    have HL32 := Lib.hid (show W32 l by
      intro r hr
      have h := (HLe.out.one r hr).2.2
      omega)
    clear hle hrow
    go_wp2_with fail
    refine (RulesCheck_any n rs A c 0 _ (hr.below hb1)).mono ?_
    rintro e w2 ⟨rfl, hb2⟩
    rw [HC.out]
    have hb02 := hb1.trans (hb2.mono hb1.size)
    have HR2 := Lib.hid (HR.out.below hb2)
    have hsz2 := hb02.size
    clear hb1 hb2 key HR
    go_wp2
    go_loopw [8] (fun sv wr => ∃ k : Nat, sv = .int .u32 k ∧ k ≤ one n ∧ Below w2.heap.size w2 wr ∧ Below w.heap.size w wr) (fun sv _ => one n - (intOf sv).toNat)
    case atStart => exact ⟨0, rfl, Nat.zero_le _, Below.refl _ _, hb02⟩
    case round =>
      clear hb02
      obtain ⟨k, rfl, hk, hb2, hbel⟩ := hrel
      by_cases hlt : k < one n
      · have HS := Lib.hid (HLe.out.same k hlt)
        go_wp2_with fail
        refine (Closed_any rs A c k _ (hr.below hbel) h32 (by omega) (by omega)).mono ?_
        rintro e w3 ⟨rfl, hb3⟩
        have hbel3 := hbel.trans (hb3.mono hbel.size)
        have hb23 := hb2.trans (hb3.mono hb2.size)
        clear hb3 hb2 hbel
        go_wp2_with fail
        refine (Closed_any l A2 c2 k _ (HR2.out.below hb23) HL32.out (by omega) (by omega)).mono ?_
        rintro e w4 ⟨rfl, hb4⟩
        have hbel4 := hbel3.trans (hb4.mono hbel3.size)
        have hb24 := hb23.trans (hb4.mono hb23.size)
        clear hb4 hb23 hbel3
        rw [← HS.out]
        go_wp2
        go_roundw
        case rel => exact ⟨k + 1, by go_num, by omega, hb24, hbel4⟩
        case measure => simp [intOf]; omega
      · have HR3 := Lib.hid (HR2.out.below hb2)
        clear HR2 hb2
        go_wp2
        rw [h1n]
        clear h1n
        obtain ⟨w3, hw3⟩ : ∃ w3 : World, w3 = wr := ⟨_, rfl⟩
        subst hw3
        go_loopw [48] (fun iv wr => ∃ k : Nat, iv = .int .i64 k ∧ k ≤ l.length ∧ Below w3.heap.size w3 wr ∧ Below w.heap.size w wr) (fun iv _ => l.length - (intOf iv).toNat)
        case atStart => exact ⟨0, rfl, Nat.zero_le _, Below.refl _ _, hbel⟩
        case round =>
          clear hbel
          obtain ⟨j, rfl, hj, hb3, hbel⟩ := hrel
          by_cases hjl : j < l.length
          · obtain ⟨r, hrj⟩ := get_some hjl
            obtain ⟨a, b⟩ := r
            obtain ⟨g, off, rfl, c0, c1⟩ := RowR.at (HR3.out.below hb3) hrj
            obtain ⟨hpop, hand, ha, hb⟩ := HLe.out.one _ (List.mem_of_getElem? hrj)
            have HN := Lib.hid (HLe.out.need j _ hrj)
            have HT := Lib.hid (HLe.out.tight _ (List.mem_of_getElem? hrj))
            have HRj := Lib.hid hrj
            clear hrj
            simp only at hpop hand ha hb HN HT
            have ha32 : a < 4294967296 := by omega
            have hb32 : b < 4294967296 := by omega
            have hand2 : bits .and .u32 (a : Int) (b : Int) = ((0 : Nat) : Int) := by rw [u32_and_nat _ _ ha32 hb32, hand]
            have hor2 : bits .or .u32 (a : Int) (b : Int) = ((a ||| b : Nat) : Int) := u32_or_nat _ _ ha32 hb32
            have hfit := decide_eq_true (or_lt_one ha hb)
            have hR := RuleAt.made wr a b 31
            have hb4 := hb3.alloc hb3.size (.cells #[.int .u32 (a : Int), .int .u32 (b : Int)] 31)
            have hbel4 := hbel.alloc hbel.size (.cells #[.int .u32 (a : Int), .int .u32 (b : Int)] 31)
            go_wp2_with fail
            refine (Size_any b hb32 _).mono ?_
            rintro e w5 ⟨rfl, rfl⟩
            rw [hpop]
            generalize wr.alloc (.cells #[.int .u32 (a : Int), .int .u32 (b : Int)] 31) = w4 at *
            obtain ⟨d0, d1⟩ := hR
            go_wp2_with fail
            refine (Fits_any n (a ||| b) (by omega) _).mono ?_
            rintro e w5 ⟨rfl, rfl⟩
            rw [hfit]
            go_wp2
            have hjc : j ≤ c2 := by omega
            have hj1 : j + 1 ≤ l.length := by omega
            have hj1c : j + 1 ≤ c2 := by omega
            have hwj : IntKind.i64.wrap ((j : Int) + 1) = (j : Int) + 1 := IntWalk.i64_in _ (by omega)
            have hz0 : (0 : Int) ≤ (j : Int) + 1 := by omega
            have hz1 : (j : Int) + 1 ≤ (l.length : Int) := by omega
            have hz2 : ((j : Int) + 1).toNat = j + 1 := by omega
            obtain ⟨ad2, hif⟩ : ∃ ad2 : Addr, (if c2 = j + 1 then some (⟨g, off, none⟩ : Addr) else some ⟨g, off + (j + 1) * 2, none⟩) = some ad2 := by split <;> exact ⟨_, rfl⟩
            obtain ⟨i0, hi, hy0, hy1, hy2⟩ := info_parts infoR
            have hb46 : Below w4.heap.size w4 (w4.alloc (.cells #[] 31)).drew := ((Below.refl _ _).alloc (Nat.le_refl _) _).drew
            have HRow4 := Lib.hid (HR3.out.below hb4)
            have HB46 := Lib.hid hb46
            have HOwn0 := Lib.hid (show ((w4.alloc (.cells #[] 31)).drew).ownsRow w4.heap.size 31 2 (.slice (some ⟨w4.heap.size, 0, none⟩) 0 0) 0 [] from World.ownsRow_lit w4 #[] 0 (Nat.le_refl _) (by simp [maxLen]) rfl)
            have HN0 := Lib.hid (news_take (k := j) (HRow4.out.below hb46))
            have HL0 := Lib.hid (show (rulesC (l.take j)).length = j * 2 by rw [rulesC_length, List.length_take]; omega)
            have HM0 := Lib.hid (show 0 + j ≤ maxLen by unfold maxLen; omega)
            have HY0 := Lib.hid (show (0 + j) * 8 ≤ 140737488355328 by omega)
            have HS0 := Lib.hid (show w4.heap.size ≤ ((w4.alloc (.cells #[] 31)).drew).heap.size from hb46.size)
            clear hb46
            have HL1 := Lib.hid (show (rulesC (l.drop (j + 1))).length = (l.length - (j + 1)) * 2 by rw [rulesC_length, List.length_drop]; omega)
            have HM1 := Lib.hid (show 0 + j + (l.length - (j + 1)) ≤ maxLen by unfold maxLen; omega)
            have HY1 := Lib.hid (show (0 + j + (l.length - (j + 1))) * 8 ≤ 140737488355328 by omega)
            go_region_law (first
              | (refine step_append_any rfl (.tmp 75) (.tmp 78) 22 rfl w4.heap.size 31 i0 (.agg #[.int .u32 0, .int .u32 0]) 2 8 Try.underlying22 hi hy0 hy1 hy2 rfl (by decide) (.slice (some ⟨w4.heap.size, 0, none⟩) 0 0) 0 [] (by simp [Act.eval]) HOwn0.out ⟨g, off, none⟩ j c2 (rulesC (l.take j)) (by simp [Act.eval]) HL0.out HN0.out (rulesC_oneCell _) HM0.out HY0.out HS0.out ?_
                 intro v7 w7 hown7 hgrow7 _
                 have HB7 := Lib.hid (HB46.out.grown hgrow7 HS0.out (by intro k hk; simp [Value.ownBlock] at hk; omega))
                 have HOwn7 := Lib.hid hown7
                 have HN7 := Lib.hid (news_drop (HRow4.out.below HB7.out) hj1 hcap hif)
                 clear hown7 hgrow7)
              | (refine step_append_any rfl (.tmp 79) (.tmp 83) 22 rfl w4.heap.size 31 i0 (.agg #[.int .u32 0, .int .u32 0]) 2 8 Try.underlying22 hi hy0 hy1 hy2 rfl (by decide) v7 (0 + j) ([] ++ rulesC (l.take j)) (by simp [Act.eval]) HOwn7.out ad2 (l.length - (j + 1)) (c2 - (j + 1)) (rulesC (l.drop (j + 1))) (by simp [Act.eval]) HL1.out HN7.out (rulesC_oneCell _) HM1.out HY1.out HB7.out.size ?_
                 intro v8 w8 hown8 hgrow8 _
                 have HB8 := Lib.hid (HB7.out.grown hgrow8 HB7.out.size (fun k hk => (World.ownsRow.lt HOwn7.out k hk).1))
                 have HOwn8 := Lib.hid hown8
                 clear hown8 hgrow8))
            obtain ⟨rest, hrest⟩ : ∃ rest, rest = l.take j ++ l.drop (j + 1) := ⟨_, rfl⟩
            rw [← hrest] at HN
            have hrl : rest.length = 0 + j + (l.length - (j + 1)) := by rw [hrest, List.length_append, List.length_take, List.length_drop]; omega
            have HR8 := Lib.hid (show OwnR w8 w4.heap.size v8 rest by
              have h := HOwn8.out
              unfold OwnR
              rw [hrl, hrest, rulesC_append]
              exact h)
            have HRest := Lib.hid (show W32 rest by
              intro r hr
              rw [hrest, List.mem_append] at hr
              rcases hr with hr | hr
              · exact HL32.out r (List.mem_of_mem_take hr)
              · exact HL32.out r (List.mem_of_mem_drop hr))
            have hrle : rest.length ≤ 1000 := by omega
            obtain ⟨A8, c8, rfl, hrow8, _⟩ := OwnR.row HR8.out
            have HRow8 := Lib.hid hrow8
            have HRule8 := Lib.hid (RuleAt.below ⟨d0, d1⟩ HB8.out)
            have hbel8 := hbel4.trans (HB8.out.mono hbel4.size)
            have hb38 := hb4.trans (HB8.out.mono hb4.size)
            clear HB8 HOwn8 HR8 hrow8 HRow4 HB46 HOwn0 HN0 HL0 HM0 HY0 HS0 HL1 HM1 HY1 HB7 HOwn7 HN7 hif hi hy0 hy1 hy2 hwj hz0 hz1 hz2 hjc hj1c hrest hrl c0 c1 d0 d1 hb3 hbel hand2 hor2 hpop hand hfit
            go_simp
            go_wp2
            have hrd : Row w8.drew A8 (rulesC rest) := HRow8.out.drewN 1
            have HRd := Lib.hid (show RuleAt w8.drew wr.heap.size a b from HRule8.out)
            have HBd := Lib.hid (And.intro hbel8.drew hb38.drew)
            have hclt := closeW_lt n rest a
            clear HRule8 HRow8 hbel8 hb38
            go_region_held3 (fun w' => w'.cell? ⟨wr.heap.size, 0, none⟩ = some (.int .u32 (a : Int)) ∧ w'.cell? ⟨wr.heap.size, 1, none⟩ = some (.int .u32 (b : Int))) (first | exact HRd.out | exact HR9.out)
              (first
              | (go_at_call 14
                 refine (Close_any n rest A8 c8 a _ hn6 hrd HRest.out ha32 (by omega)).mono ?_
                 rintro e w9 ⟨rfl, hb9⟩
                 have HR9 := Lib.hid (HRd.out.below hb9)
                 have HB9 := Lib.hid (And.intro (HBd.out.1.trans (hb9.mono HBd.out.1.size)) (HBd.out.2.trans (hb9.mono HBd.out.2.size)))
                 clear hb9)
              | (go_at_call 16
                 refine (In_any b (closeW n rest a) hb32 (by omega) _).mono ?_
                 rintro e w10 ⟨rfl, rfl⟩
                 rw [show (b ||| closeW n rest a == closeW n rest a) = false from HN.out]))
            clear HRd HBd hrd hclt
            go_wp2
            obtain ⟨w11, hw11⟩ : ∃ w11 : World, w11 = w9 := ⟨_, rfl⟩
            subst hw11
            go_loopw [12] (fun iv wi => ∃ i : Nat, iv = .int .i64 i ∧ i ≤ n ∧ RuleAt wi wr.heap.size a b ∧ Below w3.heap.size w3 wi ∧ Below w.heap.size w wi) (fun iv _ => n - (intOf iv).toNat)
            case atStart => exact ⟨0, rfl, Nat.zero_le _, HR9.out, HB9.out.2, HB9.out.1⟩
            case round =>
              clear HR9 HB9
              rename World => wi
              obtain ⟨i, rfl, hi, hRi, hb3, hbel⟩ := hrel
              by_cases hin : i < n
              · have h1i := one_int i (by omega)
                obtain ⟨d0, d1⟩ := hRi
                cases hbit : a.testBit i with
                | true =>
                  have hge := one_le_of_bit' hbit
                  have HSub := Lib.hid (u32_minus (by omega) ha32 hge)
                  have HS := Lib.hid (HT.out i hin hbit)
                  have hrd : Row wi.drew (some ⟨g, off, none⟩) (rulesC l) := (HR3.out.below hb3).drewN 1
                  have HRd := Lib.hid (show RuleAt wi.drew wr.heap.size a b from ⟨d0, d1⟩)
                  have HBd := Lib.hid (And.intro hbel.drew hb3.drew)
                  have hclt := closeW_lt n l (a - one i)
                  clear hbel hb3
                  go_wp2
                  go_region_held3 (fun w' => w'.cell? ⟨wr.heap.size, 0, none⟩ = some (.int .u32 (a : Int)) ∧ w'.cell? ⟨wr.heap.size, 1, none⟩ = some (.int .u32 (b : Int))) (first | exact HRd.out | exact HR12.out)
                    (first
                    | (go_at_call 21
                       refine (Bit_any a i (by omega) ha32 _).mono ?_
                       rintro e w12 ⟨rfl, rfl⟩
                       rw [hbit])
                    | (go_at_call 14
                       rw [HSub.out]
                       refine (Close_any n l (some ⟨g, off, none⟩) c2 (a - one i) _ hn6 hrd HL32.out (by omega) (by omega)).mono ?_
                       rintro e w12 ⟨rfl, hb12⟩
                       have HR12 := Lib.hid (HRd.out.below hb12)
                       have HB12 := Lib.hid (And.intro (HBd.out.1.trans (hb12.mono HBd.out.1.size)) (HBd.out.2.trans (hb12.mono HBd.out.2.size)))
                       clear hb12)
                    | (go_at_call 16
                       refine (In_any b (closeW n l (a - one i)) hb32 (by omega) _).mono ?_
                       rintro e w13 ⟨rfl, rfl⟩
                       rw [show (b ||| closeW n l (a - one i) == closeW n l (a - one i)) = false from HS.out]))
                  clear d0 d1 h1i
                  go_wp2
                  go_roundw
                  case rel => exact ⟨i + 1, by go_num, by omega, HR12.out, HB12.out.2, HB12.out.1⟩
                  case measure => simp [intOf]; omega
                | false =>
                  go_wp2
                  go_quiet ((go_at_call 21; exact Calls.quiet_of_same (Bit_still a i hbit (by omega) ha32 _)))
                  go_wp2
                  go_roundw
                  case rel => exact ⟨i + 1, by go_num, by omega, ⟨d0, d1⟩, below_drewN hb3 _, below_drewN hbel _⟩
                  case measure => simp [intOf]; omega
              · clear HT HN hRi
                go_wp2
                go_roundw
                case rel => exact ⟨j + 1, by go_num, by omega, hb3, hbel⟩
                case measure => simp [intOf]; omega
          · go_wp2
            go_ret
            exact ⟨rfl, hbel⟩
  · go_enter Try.func7, Try.ntmps7
    go_wp2_with fail
    refine key.mono ?_
    rintro e w1 ⟨A2, c2, l, rfl, _, hl0, _, hrow, hb1⟩
    have hl0 := hl0 hc
    subst hl0
    go_wp2_with fail
    refine (RulesCheck_any n rs A c 0 _ (hr.below hb1)).mono ?_
    rintro e w2 ⟨rfl, hb2⟩
    have HB := Lib.hid (hb1.trans (hb2.mono hb1.size))
    clear key hrow hb1 hb2
    generalize codeR n rs 0 = k at *
    have hk : (k == 0) = false := by simpa using hc
    have hk2 : (k != 0) = true := by simpa using hc
    clear hc
    go_wp2
    go_ret
    exact ⟨rfl, HB.out⟩
end Go.Proofs.Ytdiofkkdhdhkaaa
