/- syllogistref.Primes. -/
import Derived.Test.YtcokpjffgeihbaaTr3
namespace Go.Proofs.Ytcokpjffgeihbaa
open Go.RowKit

/-- How far the list has come. -/
def PrY (n : Nat) (F : Nat → Bool) (w : World) (v yv : Value) (wr : World) : Prop :=
  ∃ y : Nat, yv = .int .u32 y ∧ y ≤ one n ∧ (∃ l, l = primL n F y ∧ OwnK wr w.heap.size v l) ∧ Below w.heap.size w wr
def PrN (n : Nat) (F : Nat → Bool) (w : World) (y : Nat) (v nv : Value) (wr : World) : Prop :=
  ∃ no : Nat, nv = .int .u32 no ∧ no ≤ one n ∧ (∃ l, l = primL n F y ++ rowL n F y no ∧ OwnK wr w.heap.size v l) ∧ Below w.heap.size w wr

set_option maxRecDepth 100000 in
set_option maxHeartbeats 4000000 in
theorem refPrimes_any (n : Nat) (hn : n ≤ 4) (f : List Bool) (A : Option Addr) (c : Nat) (w : World) (hf : f.length = one n) (hr : Row w A (boolsC f)) :
    Calls Try.prog 23 #[.int .i64 n, .slice A f.length c] w fun e w' => ∃ v, e = .returned v ∧ OwnK w' w.heap.size v (primL n (atB f) (one n)) ∧ Below w.heap.size w w' := by
  obtain ⟨i0, hi, hz0, hz1, hz2⟩ := info_parts infoK
  have HI := Lib.hid (And.intro hi (And.intro hz0 (And.intro hz1 hz2)))
  have h16 := one_le_16 hn
  have HN1 := Lib.hid (one_int n (by omega))
  have HF := Lib.hid hf
  have hprod := fun (w' : World) (hb : Below w.heap.size w w') (y no : Nat) (hy : y < 4294967296) (hno : no < 4294967296) => Product_any f A c y no w' (by omega) (hr.below hb) hy hno
  rw [hf] at hprod ⊢
  clear hi hz0 hz1 hz2 hf
  go_enter Try.func23, Try.ntmps23
  go_wp2
  go_loopw [5, 6] (fun v yv wr => PrY n (atB f) w v yv wr) (fun _ yv _ => one n - (intOf yv).toNat)
  case atStart => exact ⟨0, rfl, Nat.zero_le _, ⟨[], rfl, World.ownsRow_nil _ _ _ _⟩, Below.refl _ _⟩
  case round =>
    obtain ⟨y, rfl, hy, ⟨l, hl, hown⟩, hbel⟩ := hrel
    have HL := Lib.hid hl
    have HO := Lib.hid hown
    clear hl hown
    by_cases hlt : y < one n
    · have hyb : (y : Int) < 2 ^ n % 4294967296 := by rw [HN1.out]; omega
      go_wp2
      clear hyb
      go_loopw [5, 7] (fun v nv wr => PrN n (atB f) w y v nv wr) (fun _ nv _ => one n - (intOf nv).toNat)
      case atStart => exact ⟨0, rfl, Nat.zero_le _, ⟨l, by rw [HL.out]; simp [rowL], HO.out⟩, hbel⟩
      case round =>
        clear HL HO hbel
        rename World => wi
        obtain ⟨no, rfl, hno, ⟨l2, hl2, hown2⟩, hbel⟩ := hrel
        have hlen2 : l2.length ≤ 272 := by
          rw [hl2, List.length_append]
          have h1 := primL_len n (atB f) y
          have h2 := rowL_len n (atB f) y no
          have h3 : y * one n ≤ 16 * 16 := Nat.mul_le_mul (by omega) h16
          omega
        have HL := Lib.hid hl2
        have HO := Lib.hid hown2
        have hsz := hbel.size
        clear hl2 hown2
        by_cases hltn : no < one n
        · have hnb : (no : Int) < 2 ^ n % 4294967296 := by rw [HN1.out]; omega
          have hz := u32_and_zero (show y < 4294967296 by omega) (show no < 4294967296 by omega)
          have hb1 := hbel.alloc hsz (.cells #[.int .u32 (y : Int), .int .u32 (no : Int)] 49)
          have hT1 := TwoC.made wi y no 49
          have HO1 := Lib.hid (show OwnK _ w.heap.size _ l2 from HO.out.below ((Below.refl wi.heap.size wi).alloc (Nat.le_refl _) (.cells #[.int .u32 (y : Int), .int .u32 (no : Int)] 49)))
          cases hyn : (y &&& no == 0) with
          | false =>
            rw [hyn, beq_eq_false_iff_ne] at hz
            have HS := Lib.hid (rowL_no (show primeB n (atB f) y no = false by unfold primeB; rw [hyn]; rfl))
            clear hyn
            go_wp2
            go_roundw
            case rel => exact ⟨no + 1, by go_num, by omega, ⟨l2, by rw [HS.out]; exact HL.out, HO1.out⟩, hb1⟩
            case measure => simp [intOf]; omega
          | true =>
            rw [hyn, beq_iff_eq] at hz
            have hp1 := hprod _ hb1 y no (by omega) (by omega)
            have HYN := Lib.hid hyn
            clear hyn
            cases hpp : prodB (atB f) y no (one n) with
            | false =>
              rw [hpp] at hp1
              have HS := Lib.hid (rowL_no (show primeB n (atB f) y no = false by unfold primeB; rw [hpp]; simp))
              clear hpp
              go_wp2_with fail
              refine hp1.mono ?_
              rintro e w2 ⟨rfl, hb2⟩
              have hb12 := hb1.trans (hb2.mono hb1.size)
              have HO2 := Lib.hid (HO1.out.below hb2)
              clear hb2
              go_wp2
              go_roundw
              case rel => exact ⟨no + 1, by go_num, by omega, ⟨l2, by rw [HS.out]; exact HL.out, HO2.out⟩, hb12⟩
              case measure => simp [intOf]; omega
            | true =>
              rw [hpp] at hp1
              have HPP := Lib.hid hpp
              clear hpp
              go_wp2_with fail
              refine hp1.mono ?_
              rintro e w2 ⟨rfl, hb2⟩
              have hb12 := hb1.trans (hb2.mono hb1.size)
              have HO2 := Lib.hid (HO1.out.below hb2)
              have hT2 := hT1.below hb2
              have hg2 : wi.heap.size < w2.heap.size := by have := hb2.size; simp at this; omega
              clear hb2 hb1 HO1 hT1 hp1
              go_wp2
              go_loopw [9, 10] (fun pv vv wj => ∃ v : Nat, vv = .int .i64 v ∧ v ≤ n ∧ (∃ p : Bool, p = primV n (atB f) y no v ∧ pv = .bool p) ∧ Below w2.heap.size w2 wj) (fun _ vv _ => n - (intOf vv).toNat)
              case atStart => exact ⟨0, rfl, Nat.zero_le _, ⟨true, rfl, rfl⟩, Below.refl _ _⟩
              case round =>
                rename World => wj
                obtain ⟨v, rfl, hv, ⟨p, hp, rfl⟩, hbj⟩ := hrel
                have hb2j := hb12.trans (hbj.mono hb12.size)
                have HP := Lib.hid hp
                clear hp
                by_cases hvn : v < n
                · have h1v := one_int v (by omega)
                  have h1v16 := one_le_16 (show v ≤ 4 by omega)
                  have ho := u32_or_nat y no (by omega) (by omega)
                  have hol : y ||| no < one n := or_lt_one hlt hltn
                  have w1 := u32_wo (show y < 4294967296 by omega) (show one v < 4294967296 by omega)
                  have w2' := u32_wo (show no < 4294967296 by omega) (show one v < 4294967296 by omega)
                  have l1 := wo_le y (one v)
                  have l2' := wo_le no (one v)
                  have HN := Lib.hid (primV_succ n (atB f) y no v)
                  rw [← HP.out] at HN
                  go_wp2_with fail
                  refine (Bit_any (y ||| no) v (by omega) (by omega) _).mono ?_
                  rintro e w3 ⟨rfl, rfl⟩
                  cases hbit : (y ||| no).testBit v with
                  | false =>
                    rw [hbit] at HN
                    clear hbit
                    go_wp2
                    go_roundw
                    case rel => exact ⟨v + 1, by go_num, by omega, ⟨p, by rw [HN.out]; simp, rfl⟩, hbj⟩
                    case measure => simp [intOf]; omega
                  | true =>
                    rw [hbit] at HN
                    clear hbit
                    have hp2 := hprod wj hb2j (wo y (one v)) (wo no (one v)) (by omega) (by omega)
                    generalize prodB (atB f) (wo y (one v)) (wo no (one v)) (one n) = x at hp2 HN
                    go_wp2_with fail
                    refine hp2.mono ?_
                    rintro e w3 ⟨rfl, hb3⟩
                    have hbj3 := hbj.trans (hb3.mono hbj.size)
                    cases x
                    all_goals
                      go_wp2
                      go_roundw
                      case rel => exact ⟨v + 1, by go_num, by omega, ⟨_, by rw [HN.out]; simp, rfl⟩, hbj3⟩
                      case measure => simp [intOf]; omega
                · obtain rfl : v = n := by omega
                  have HPr := Lib.hid (show primeB v (atB f) y no = p by unfold primeB; rw [HYN.out, HPP.out, HP.out]; rfl)
                  have HO3 := Lib.hid (HO2.out.below hbj)
                  have hT3 := hT2.below hbj
                  have hszj := hb2j.size
                  cases p with
                  | false =>
                    have HS := Lib.hid (rowL_no HPr.out)
                    go_wp2
                    go_roundw
                    case rel => exact ⟨no + 1, by go_num, by omega, ⟨l2, by rw [HS.out]; exact HL.out, HO3.out⟩, hb2j⟩
                    case measure => simp [intOf]; omega
                  | true =>
                    have HS := Lib.hid (rowL_yes HPr.out)
                    have HO4 := Lib.hid (show _root_.Go.World.ownsRow _ w.heap.size 49 2 _ l2.length (rulesC l2) from HO3.out)
                    obtain ⟨t0, t1⟩ := hT3
                    obtain ⟨hi, hz0, hz1, hz2⟩ := HI.out
                    go_wp2_with (first | (at_builtin; refine wpList_append_lies _ rfl _ _ 39 rfl w.heap.size 49 i0 (.agg #[.int .u32 0, .int .u32 0]) 2 8 Try.underlying39 hi hz0 hz1 hz2 rfl (by decide) _ _ _ rfl (HO4.out.alloc _) ⟨_, 0, none⟩ 1 1 [.int .u32 (y : Int), .int .u32 (no : Int)] rfl rfl (news_two _ _ _ _) ?c1 (by decide) ?c2 ?c3 ?c4 _ rfl ?c6))
                    case c1 => intro u hu; simp at hu; rcases hu with rfl | rfl <;> rfl
                    case c2 => unfold maxLen; omega
                    case c3 => omega
                    case c4 => simp; omega
                    case c6 =>
                      intro g3 cap3 w4 hown4 hgrow4 hat4 hlt4
                      have hb4 : Below w.heap.size w w4 := (hb2j.alloc hszj _).grown hgrow4 (by simp; omega) (fun k hk => (World.ownsRow.lt HO4.out k hk).1)
                      have HO5 := Lib.hid hown4
                      clear hown4 hgrow4 hat4 hi hz0 hz1 hz2
                      go_wp2
                      go_roundw
                      case rel =>
                        refine ⟨no + 1, by go_num, by omega, ⟨l2 ++ [(y, no)], by rw [HS.out, HL.out, List.append_assoc], ?_⟩, hb4⟩
                        unfold OwnK
                        rw [rulesC_append, List.length_append]
                        exact HO5.out
                      case measure => simp [intOf]; omega
        · obtain rfl : no = one n := by omega
          have hnb : ¬ ((one n : Nat) : Int) < 2 ^ n % 4294967296 := by rw [HN1.out]; omega
          go_wp2
          clear hnb
          go_roundw
          case rel => exact ⟨y + 1, by go_num, by omega, ⟨l2, by rw [primL_succ]; exact HL.out, HO.out⟩, hbel⟩
          case measure => simp [intOf]; omega
    · obtain rfl : y = one n := by omega
      have hyb : ¬ ((one n : Nat) : Int) < 2 ^ n % 4294967296 := by rw [HN1.out]; omega
      go_wp2
      go_ret
      exact ⟨_, rfl, by rw [← HL.out]; exact HO.out, hbel⟩

end Go.Proofs.Ytcokpjffgeihbaa
