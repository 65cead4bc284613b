/- The law on the lattice of fixed sets, by the document's answer. -/
import Derived.Test.YtihhplkcpdepgaaLawX2
namespace Go.Proofs.Ytihhplkcpdepgaa
open Go.RowKit

/-- What all of the first k have that have b. -/
def lsW (n : Nat) (l : List Nat) (b k : Nat) : Nat := wordOf n fun i => (l.take k).all fun c => !(sub b c) || c.testBit i
theorem mem_ls {n : Nat} {l : List Nat} {b k i : Nat} : (lsW n l b k).testBit i = true ↔ i < n ∧ ∀ c ∈ l.take k, sub b c = true → c.testBit i = true := by
  unfold lsW
  rw [testBit_wordOf, Bool.and_eq_true, decide_eq_true_iff, List.all_eq_true]
  constructor
  · rintro ⟨h1, h2⟩
    refine ⟨h1, fun c hc hb => ?_⟩
    have := h2 c hc
    rw [hb] at this
    simpa using this
  · rintro ⟨h1, h2⟩
    refine ⟨h1, fun c hc => ?_⟩
    cases hb : sub b c with
    | false => rfl
    | true => rw [h2 c hc hb]; rfl
theorem ls_lt (n : Nat) (l : List Nat) (b k : Nat) : lsW n l b k < one n := wordOf_lt _ _
theorem ls_zero (n : Nat) (l : List Nat) (b : Nat) : lsW n l b 0 = full n :=
  word_ext (ls_lt _ _ _ _) (full_lt n) fun i hi => by rw [Bool.eq_iff_iff, mem_ls, full_bit]; simp [hi]
theorem take_mem' {l : List Nat} {k x c : Nat} (hx : l[k]? = some x) : c ∈ l.take (k + 1) ↔ c ∈ l.take k ∨ c = x := by
  rw [List.take_add_one, hx]; simp
theorem ls_yes {n : Nat} {l : List Nat} {b k x : Nat} (hx : l[k]? = some x) (h : sub b x = true) : lsW n l b (k + 1) = lsW n l b k &&& x :=
  word_ext (ls_lt _ _ _ _) (Nat.lt_of_le_of_lt Nat.and_le_left (ls_lt _ _ _ _)) fun i _ => by
    rw [Bool.eq_iff_iff, Nat.testBit_and, Bool.and_eq_true, mem_ls, mem_ls]
    constructor
    · rintro ⟨h1, h2⟩
      exact ⟨⟨h1, fun c hc => h2 c ((take_mem' hx).2 (.inl hc))⟩, h2 x ((take_mem' hx).2 (.inr rfl)) h⟩
    · rintro ⟨⟨h1, h2⟩, h3⟩
      refine ⟨h1, fun c hc hb => ?_⟩
      rcases (take_mem' hx).1 hc with hc | rfl
      · exact h2 c hc hb
      · exact h3
theorem ls_no {n : Nat} {l : List Nat} {b k x : Nat} (hx : l[k]? = some x) (h : sub b x = false) : lsW n l b (k + 1) = lsW n l b k :=
  word_ext (ls_lt _ _ _ _) (ls_lt _ _ _ _) fun i _ => by
    rw [Bool.eq_iff_iff, mem_ls, mem_ls]
    constructor
    · rintro ⟨h1, h2⟩
      exact ⟨h1, fun c hc => h2 c ((take_mem' hx).2 (.inl hc))⟩
    · rintro ⟨h1, h2⟩
      refine ⟨h1, fun c hc hb => ?_⟩
      rcases (take_mem' hx).1 hc with hc | rfl
      · exact h2 c hc hb
      · rw [h] at hb; cases hb
/-- Of two fixed sets there is a least one with both. -/
theorem ls_mu {n : Nat} {f : List Nat} (hf : FitT n f) (hl : f.length = one n) (hr : Rise f) {x y : Nat} (hx : x ∈ fixL f f.length) (hy : y ∈ fixL f f.length) :
    lsW n (fixL f f.length) (x ||| y) (fixL f f.length).length ∈ fixL f f.length ∧ sub (x ||| y) (lsW n (fixL f f.length) (x ||| y) (fixL f f.length).length) = true := by
  obtain ⟨x1, x2⟩ := mem_fixL.1 hx
  obtain ⟨y1, y2⟩ := mem_fixL.1 hy
  have hbn : x ||| y < one n := or_lt_one (by omega) (by omega)
  have hb : ∀ s, s < one n → sub (x ||| y) s = true → sub (x ||| y) (im f s) = true := fun s hs h => by
    obtain ⟨h1, h2⟩ := or_sub.1 h
    have k1 := hr x s x1 (by omega) h1
    have k2 := hr y s y1 (by omega) h2
    rw [x2] at k1
    rw [y2] at k2
    exact or_sub.2 ⟨k1, k2⟩
  have hm := mu_lt n f (x ||| y)
  have hfx := mu_fix hf hl hr hbn hb
  have e : lsW n (fixL f f.length) (x ||| y) (fixL f f.length).length = mu n f (x ||| y) := by
    apply sub_anti
    · refine sub_iff.2 fun i hi => ?_
      have h2 := (mem_ls.1 hi).2
      rw [List.take_of_length_le (Nat.le_refl _)] at h2
      exact h2 _ (mem_fixL.2 ⟨by omega, hfx⟩) (mu_has hbn)
    · refine sub_iff.2 fun i hi => mem_ls.2 ⟨bit_lt hm hi, fun c hc hbc => ?_⟩
      rw [List.take_of_length_le (Nat.le_refl _)] at hc
      obtain ⟨c1, c2⟩ := mem_fixL.1 hc
      exact sub_iff.1 (mu_least (by omega) hbc (by rw [c2]; exact sub_refl c)) i hi
  rw [e]
  exact ⟨mem_fixL.2 ⟨by omega, hfx⟩, mu_has hbn⟩
theorem fixL_pos {n : Nat} {f : List Nat} (hf : FitT n f) (hl : f.length = one n) (hr : Rise f) : 0 < (fixL f f.length).length :=
  List.length_pos_of_mem (mem_fixL.2 ⟨by have := mu_lt n f 0; omega, mu_fix hf hl hr (one_pos n) (fun _ _ _ => sub_iff.2 fun i hi => by simp at hi)⟩)

set_option maxHeartbeats 2000000 in
theorem FixAll_with (hJ : XAllOk 12) (n : Int) (f : List Nat) (A : Option Addr) (c i j : Nat) (w : World) (hi : i < 256) (hj : j < 256) (h32 : U32 f) (hm : f.length ≤ maxLen) (hr : Row w A (words f)) (hX : Laid w) :
    Calls Try.prog 8 #[.int .i64 n, .slice A f.length c, .int .u8 i, .int .u8 j] w fun e w' => e = .returned (.bool true) ∧ Below w.heap.size w w' := by
  have key := hJ n f A c w h32 hm hr hX
  by_cases hc : codeM n f = 0
  · obtain ⟨n, rfl, hn1, hn5, hl, hf⟩ := codeM_zero hc
    have h32n := one_le_32 hn5
    have hl32 : f.length ≤ 32 := by omega
    rw [hc, if_pos rfl] at key
    have HC := Lib.hid hc
    have HL := Lib.hid hl
    have h1n := one_int n (by omega)
    have hfull : (one n : Int) - 1 = (full n : Nat) := by have := one_pos n; unfold full; omega
    clear hc hl
    go_enter Try.func8, Try.ntmps8
    go_wp2_with fail
    refine key.mono ?_
    rintro e w1 ⟨A2, c2, l, rfl, hle, hrow, hb1⟩
    have HLe := Lib.hid hle
    have HR := Lib.hid hrow
    have hll : l.length ≤ 32 := by rw [hle]; have := filter_len (fixB f) f.length; unfold fixL; omega
    clear hle hrow key
    go_wp2_with fail
    refine (MapCheck_any n f A c _ (hr.below hb1)).mono ?_
    rintro e w2 ⟨rfl, rfl⟩
    rw [HC.out]
    go_wp2_with fail
    refine (Rises_any f A c _ (hr.below hb1) h32 hl32).mono ?_
    rintro e w3 ⟨rfl, d, rfl⟩
    have hb3 := below_drewN hb1 d
    have HR3 := Lib.hid (HR.out.drewN d)
    generalize w1.drewN d = w3 at *
    clear hb1 HR
    cases hri : riseB f with
    | false =>
      go_wp2
      go_ret
      exact ⟨rfl, hb3⟩
    | true =>
      have hrr := rise_iff.1 hri
      have hpos : 0 < l.length := by rw [HLe.out]; exact fixL_pos hf HL.out hrr
      have hmi : i % l.length < l.length := Nat.mod_lt _ hpos
      have hmj : j % l.length < l.length := Nat.mod_lt _ hpos
      obtain ⟨x, hx⟩ := get_some hmi
      obtain ⟨y, hy⟩ := get_some hmj
      obtain ⟨g, off, rfl, hcell⟩ := HR3.out.at (k := 0) (by rw [words_length]; omega)
      have cx := hcell _ _ (words_at hx)
      have cy := hcell _ _ (words_at hy)
      have hxm : x ∈ fixL f f.length := by rw [← HLe.out]; exact List.mem_of_getElem? hx
      have hym : y ∈ fixL f f.length := by rw [← HLe.out]; exact List.mem_of_getElem? hy
      have hx32 : x < 32 := by have := (mem_fixL.1 hxm).1; omega
      have hy32 : y < 32 := by have := (mem_fixL.1 hym).1; omega
      have HM := Lib.hid (ls_mu hf HL.out hrr hxm hym)
      have HCell := Lib.hid (fun (j v : Nat) (h : l[j]? = some v) => hcell j _ (words_at h))
      have hor : bits .or .u32 (x : Int) (y : Int) = ((x ||| y : Nat) : Int) := u32_or_nat _ _ (by omega) (by omega)
      have hb32 : x ||| y < 32 := Nat.or_lt_two_pow (n := 5) hx32 hy32
      have hlz : ((l.length : Int) == 0) = false := by rw [beq_eq_false_iff_ne]; omega
      have HLt := Lib.hid (fun (j v : Nat) (h : l[j]? = some v) => show v < 32 by
        have := (mem_fixL.1 (HLe.out ▸ List.mem_of_getElem? h)).1
        omega)
      rw [← HLe.out] at HM
      clear hcell hx hy hxm hym hrr hri
      go_wp2
      go_quiet (fail)
      have hbq := below_drewN hb3 nq
      have HCq := Lib.hid (fun (j v : Nat) (h : l[j]? = some v) => show (w3.drewN nq).cell? ⟨g, off + j, none⟩ = some (.int .u32 (v : Int)) from HCell.out j v h)
      go_wp2
      try rw [h1n]
      clear h1n hfull hor hlz cx cy hmi hmj HCell
      generalize w3.drewN nq = w4 at *
      generalize hbo : x ||| y = bo at *
      have HLtB := Lib.hid hbo
      clear hbo
      go_loopw [12, 64] (fun lv iv wr => ∃ k : Nat, iv = .int .i64 k ∧ k ≤ l.length ∧ (∃ q : Nat, q = lsW n l bo k ∧ lv = .int .u32 q) ∧ w4 = wr) (fun _ iv _ => l.length - (intOf iv).toNat)
      case atStart => exact ⟨0, rfl, Nat.zero_le _, ⟨full n, (ls_zero n l bo).symm, rfl⟩, rfl⟩
      case round =>
        obtain ⟨k, rfl, hk, ⟨q, hq, rfl⟩, rfl⟩ := hrel
        have hq32 : q < 32 := by rw [hq]; have := ls_lt n l bo k; omega
        have HQ := Lib.hid hq
        clear hq
        by_cases hlt : k < l.length
        · obtain ⟨v, hv⟩ := get_some hlt
          have cv := HCq.out k v hv
          have hv32 := HLt.out k v hv
          cases h1 : sub bo v with
          | true =>
            have HS := Lib.hid (ls_yes (n := n) hv h1)
            clear hv
            go_wp2_with fail
            refine (In_any bo v (by omega) (by omega) _).mono ?_
            rintro e w5 ⟨rfl, rfl⟩
            rw [show (bo ||| v == v) = true from h1]
            clear h1
            go_wp2
            go_roundw
            case rel => exact ⟨k + 1, by go_num, by omega, ⟨q &&& v, by rw [HS.out, HQ.out], by rw [u32_and_nat _ _ (by omega) (by omega)]⟩, trivial⟩
            case measure => simp [intOf]; omega
          | false =>
            have HS := Lib.hid (ls_no (n := n) hv h1)
            clear hv
            go_wp2_with fail
            refine (In_any bo v (by omega) (by omega) _).mono ?_
            rintro e w5 ⟨rfl, rfl⟩
            rw [show (bo ||| v == v) = false from h1]
            clear h1
            go_wp2
            go_roundw
            case rel => exact ⟨k + 1, by go_num, by omega, ⟨q, by rw [HS.out, HQ.out], rfl⟩, trivial⟩
            case measure => simp [intOf]; omega
        · have hke : k = l.length := by omega
          have HM2 := Lib.hid (show q ∈ l ∧ sub bo q = true by rw [HQ.out, hke]; exact HM.out)
          clear hke HQ HM
          go_wp2
          go_loopw [77] (fun iv wr => ∃ k : Nat, iv = .int .i64 k ∧ k ≤ l.length ∧ ¬ q ∈ l.take k ∧ w4 = wr) (fun iv _ => l.length - (intOf iv).toNat)
          case atStart => exact ⟨0, rfl, Nat.zero_le _, by simp, rfl⟩
          case round =>
            obtain ⟨r, rfl, hr2, hno, rfl⟩ := hrel
            have HN := Lib.hid hno
            clear hno
            by_cases hrl : r < l.length
            · obtain ⟨v, hv⟩ := get_some hrl
              have cv := HCq.out r v hv
              by_cases hvq : v = q
              · subst hvq
                clear hv
                go_wp2_with fail
                refine (In_any bo v (by omega) (by omega) _).mono ?_
                rintro e w5 ⟨rfl, rfl⟩
                rw [show (bo ||| v == v) = true from HM2.out.2]
                go_wp2
                go_ret
                exact ⟨rfl, hbq⟩
              · have hd : ((v : Int) == (q : Int)) = false := by rw [beq_eq_false_iff_ne]; omega
                have HS := Lib.hid (mem_take_succ hv HN.out (fun e => hvq e.symm))
                clear hvq hv
                go_wp2
                go_roundw
                case rel => exact ⟨r + 1, by go_num, by omega, HS.out, trivial⟩
                case measure => simp [intOf]; omega
            · exfalso
              have h1 := HN.out
              rw [List.take_of_length_le (by omega)] at h1
              exact h1 HM2.out.1
  · rw [if_neg hc] at key
    go_enter Try.func8, Try.ntmps8
    go_wp2_with fail
    refine key.mono ?_
    rintro e w1 ⟨A2, c2, l, rfl, rfl, hrow, hb1⟩
    go_wp2_with fail
    refine (MapCheck_any n f A c _ (hr.below hb1)).mono ?_
    rintro e w2 ⟨rfl, rfl⟩
    clear key hrow
    generalize codeM n f = k at *
    have hk : (k == 0) = false := by simpa using hc
    have hk2 : (k != 0) = true := by simpa using hc
    clear hc
    go_wp2
    go_ret
    exact ⟨rfl, hb1⟩
end Go.Proofs.Ytihhplkcpdepgaa
