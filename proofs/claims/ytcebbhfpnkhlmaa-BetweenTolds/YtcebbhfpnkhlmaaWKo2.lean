/- between.spread. -/
import Derived.Test.YtcebbhfpnkhlmaaWTo1
import Derived.Test.YtcebbhfpnkhlmaaKSpec
namespace Go.Proofs.Ytcebbhfpnkhlmaa
open Go.RowKit

/-- What a table has when what the first k sets that have v have is spread. -/
def sprP (F : Nat → Bool) (keep : Nat) (v : Bool) (k s : Nat) : Bool := if ((List.range k).any fun t => agB keep s t && (F t == v)) = true then v else F s
theorem spr_zero (F : Nat → Bool) (keep : Nat) (v : Bool) (s : Nat) : sprP F keep v 0 s = F s := by simp [sprP]
theorem spr_yes {F : Nat → Bool} {keep : Nat} {v : Bool} {k s : Nat} (h : agB keep s k = true) (h2 : (F k == v) = true) : sprP F keep v (k + 1) s = v := by
  unfold sprP
  rw [List.range_succ, List.any_append]
  simp [h, h2]
theorem spr_no {F : Nat → Bool} {keep : Nat} {v : Bool} {k s : Nat} (h : (agB keep s k && (F k == v)) = false) : sprP F keep v (k + 1) s = sprP F keep v k s := by
  unfold sprP
  rw [List.range_succ, List.any_append]
  simp only [List.any_cons, List.any_nil, Bool.or_false, h]
theorem spr_some {F : Nat → Bool} {keep m s : Nat} (hs : s < m) : sprP F keep true m s = someP F keep s m := by
  unfold sprP
  have e : ((List.range m).any fun t => agB keep s t && (F t == true)) = someP F keep s m := by
    unfold someP
    congr 1
    funext t
    cases F t <;> rfl
  rw [e]
  cases h : someP F keep s m with
  | true => rfl
  | false =>
    rw [if_neg (by simp)]
    cases hf : F s with
    | false => rfl
    | true => rw [some_own hs hf] at h; cases h
theorem spr_all {F : Nat → Bool} {keep m s : Nat} (hs : s < m) : sprP F keep false m s = allP F keep s m := by
  unfold sprP
  have e : ((List.range m).any fun t => agB keep s t && (F t == false)) = !allP F keep s m := by
    rw [← some_not]
    unfold someP
    congr 1
    funext t
    show (agB keep s t && (F t == false)) = (agB keep s t && !F t)
    cases F t <;> rfl
  rw [e]
  cases h : allP F keep s m with
  | false => rfl
  | true =>
    rw [if_neg (by simp)]
    exact all_own hs h
/-- The first t are as A has them, the others as B. -/
def mixF (t : Nat) (A B : Nat → Bool) (i : Nat) : Bool := if i < t then A i else B i
theorem mix_zero (A B : Nat → Bool) (i : Nat) : mixF 0 A B i = B i := by simp [mixF]
theorem mix_all {A B : Nat → Bool} {n i : Nat} (h : i < n) : mixF n A B i = A i := by simp [mixF, h]
theorem mix_set {A B : Nat → Bool} {t : Nat} {b : Bool} (h : A t = b) (i : Nat) : updB (mixF t A B) t b i = mixF (t + 1) A B i := by
  unfold updB mixF
  by_cases e : i = t
  · subst e; rw [if_pos rfl, if_pos (by omega), h]
  · rw [if_neg e]
    by_cases h2 : i < t
    · rw [if_pos h2, if_pos (by omega)]
    · rw [if_neg h2, if_neg (by omega)]
theorem mix_leave {A B : Nat → Bool} {t : Nat} (h : A t = B t) (i : Nat) : mixF t A B i = mixF (t + 1) A B i := by
  unfold mixF
  by_cases e : i = t
  · subst e; rw [if_neg (by omega), if_pos (by omega), h]
  · by_cases h2 : i < t
    · rw [if_pos h2, if_pos (by omega)]
    · rw [if_neg h2, if_neg (by omega)]
theorem i64_xorK {a b : Nat} (ha : a < 16) (hb : b < 16) : bits .xor .i64 (a : Int) (b : Int) = ((a ^^^ b : Nat) : Int) := by
  have key : ∀ (s : Fin 16) (v : Fin 16), bits .xor .i64 (s.val : Int) (v.val : Int) = ((s.val ^^^ v.val : Nat) : Int) := by decide +kernel
  exact key ⟨a, ha⟩ ⟨b, hb⟩
theorem xor_ag {a b keep : Nat} : ((((a ^^^ b) &&& keep : Nat) : Int) == 0) = agB keep b a := by
  rw [Bool.eq_iff_iff, beq_iff_eq, ag_iff]
  constructor
  · intro h i hi
    have h0 : (a ^^^ b) &&& keep = 0 := by omega
    have := congrArg (fun x => x.testBit i) h0
    simp only [Nat.testBit_and, Nat.testBit_xor, hi, Bool.and_true, Nat.zero_testBit] at this
    simpa using this
  · intro h
    have : (a ^^^ b) &&& keep = 0 := by
      apply Nat.eq_of_testBit_eq
      intro i
      rw [Nat.testBit_and, Nat.testBit_xor, Nat.zero_testBit]
      cases e : keep.testBit i with
      | false => simp
      | true => simp [h i e]
    omega

set_option maxHeartbeats 2000000 in
theorem kSpread_any (n : Nat) (hn : n ≤ 4) (f : List Bool) (A : Option Addr) (c keep : Nat) (v : Bool) (w : World) (hf : f.length = one n) (hk : keep < 4294967296) (hr : Row w A (boolsC f)) :
    Calls Try.prog 27 #[.slice A f.length c, .int .u32 keep, .bool v] w fun e w' => ∃ g cap, e = .returned (.slice (some ⟨g, 0, none⟩) (one n) cap) ∧ OwnD w' w.heap.size g (one n) cap (sprP (atB f) keep v (one n)) ∧ Below w.heap.size w w' := by
  have h16 := one_le_16 hn
  have hcl := tClone_any n hn f A c w hf hr
  have HF := Lib.hid hf
  rw [hf] at hcl ⊢
  clear hf
  go_enter Try.func27, Try.ntmps27
  go_wp2_with fail
  refine hcl.mono ?_
  rintro e w1 ⟨g, cap, rfl, hown, hb⟩
  have HO := Lib.hid (hown.congr (fun i _ => (spr_zero (atB f) keep v i).symm))
  have HB := Lib.hid hb
  have HG := Lib.hid hown.base
  clear hcl hown hb
  go_wp2
  go_loopw [14] (fun fv wr => ∃ k : Nat, fv = .int .i64 k ∧ k ≤ one n ∧ OwnD wr w.heap.size g (one n) cap (sprP (atB f) keep v k) ∧ Below w.heap.size w wr) (fun fv _ => one n - (intOf fv).toNat)
  case atStart => exact ⟨0, rfl, Nat.zero_le _, HO.out, HB.out⟩
  case round =>
    clear HO HB
    obtain ⟨k, rfl, hk1, hown, hb⟩ := hrel
    have HO := Lib.hid hown
    have HB := Lib.hid hb
    clear hown hb
    by_cases hlt : k < one n
    · go_wp2
      go_loopw [19] (fun tv wr => ∃ t : Nat, tv = .int .i64 t ∧ t ≤ one n ∧ OwnD wr w.heap.size g (one n) cap (mixF t (sprP (atB f) keep v (k + 1)) (sprP (atB f) keep v k)) ∧ Below w.heap.size w wr) (fun tv _ => one n - (intOf tv).toNat)
      case atStart => exact ⟨0, rfl, Nat.zero_le _, HO.out.congr (fun i _ => (mix_zero _ _ i).symm), HB.out⟩
      case round =>
        clear HO HB
        obtain ⟨t, rfl, ht, hown, hb⟩ := hrel
        by_cases hlt2 : t < one n
        · have HO := Lib.hid hown
          have HB := Lib.hid hb
          obtain ⟨b, off, rfl, hc⟩ := (hr.below hb).at (k := k) (by simp; rw [HF.out]; exact hlt)
          have c1 := hc k _ (boolsC_at (atB_get (show k < f.length by rw [HF.out]; exact hlt)))
          have c2 := HO.out.cell hlt2
          have f2 := HO.out.free t
          have hx := i64_xorK (a := k) (b := t) (by omega) (by omega)
          have hxl : k ^^^ t < 4294967296 := Nat.lt_of_lt_of_le (Nat.xor_lt_two_pow (n := 4) (by omega) (by omega)) (by decide)
          have hxi : IntKind.u32.wrap ((k ^^^ t : Nat) : Int) = ((k ^^^ t : Nat) : Int) := IntWalk.u32_in _ ⟨by omega, by omega⟩
          have ha := u32_and_nat (k ^^^ t) keep hxl hk
          have hq := xor_ag (a := k) (b := t) (keep := keep)
          have HY := Lib.hid (fun h1 h2 => spr_yes (F := atB f) (keep := keep) (v := v) (k := k) (s := t) h1 h2)
          have HN := Lib.hid (fun h1 => spr_no (F := atB f) (keep := keep) (v := v) (k := k) (s := t) h1)
          have HS := Lib.hid (HB.out.setCell (p := ⟨g, t, none⟩) HG.out (.bool v))
          have HOS := Lib.hid (HO.out.stored t v)
          clear hc hown hb
          generalize k ^^^ t = z at *
          generalize agB keep t k = a at *
          generalize hfk : atB f k = x at *
          have HK := Lib.hid hfk
          clear hfk
          by_cases hyes : (a && (x == v)) = true
          · have h1 : a = true := by revert hyes; cases a <;> simp
            subst h1
            have h2 : (x == v) = true := by simpa using hyes
            have HM := Lib.hid (HOS.out.congr (fun i _ => mix_set (HY.out rfl h2) i))
            clear hyes HY HN HOS
            go_wp2
            go_roundw
            case rel => exact ⟨t + 1, by go_num, by omega, HM.out, HS.out⟩
            case measure => simp [intOf]; omega
          · have hno : (a && (x == v)) = false := by simpa using hyes
            have HM := Lib.hid (HO.out.congr (fun i _ => mix_leave (HN.out hno) i))
            clear hyes HY HN HOS
            cases h2 : (x == v) with
            | false =>
              clear hno
              go_wp2
              go_roundw
              case rel => exact ⟨t + 1, by go_num, by omega, HM.out, HB.out⟩
              case measure => simp [intOf]; omega
            | true =>
              rw [h2, Bool.and_true] at hno
              subst hno
              go_wp2
              go_roundw
              case rel => exact ⟨t + 1, by go_num, by omega, HM.out, HB.out⟩
              case measure => simp [intOf]; omega
        · obtain rfl : t = one n := by omega
          have HO := Lib.hid (hown.congr (fun i hi => mix_all hi))
          have HB := Lib.hid hb
          clear hown hb
          go_wp2
          go_roundw
          case rel => exact ⟨k + 1, by go_num, by omega, HO.out, HB.out⟩
          case measure => simp [intOf]; omega
    · obtain rfl : k = one n := by omega
      go_wp2
      go_ret
      exact ⟨_, _, rfl, HO.out, HB.out⟩

end Go.Proofs.Ytcebbhfpnkhlmaa
