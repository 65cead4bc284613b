/- truth.Primes. -/
import Derived.Test.YtcokpjffgeihbaaWTo7
import Derived.Test.YtcokpjffgeihbaaWTo8
import Derived.Lib.AppendZeros
import Derived.Deep.Upon
namespace Go.Proofs.Ytcokpjffgeihbaa
open Go.RowKit

/-- What is appended lies as a row. -/
theorem ownK_news {w : World} {B : Nat} {v : Value} {pl : List (Nat × Nat)} (h : OwnK w B v pl) : (v = .slice none 0 0 ∧ pl = []) ∨ ∃ g cap, v = .slice (some ⟨g, 0, none⟩) pl.length cap ∧ (∀ j u, (rulesC pl)[j]? = some u → w.cell? ((⟨g, 0, none⟩ : Addr).add j) = some u) := by
  rcases h.2 with ⟨hv, hn⟩ | ⟨g, cap, cur, hv, hg, hh, h1, h2, h3, h4⟩
  · exact .inl ⟨hv, List.eq_nil_of_length_eq_zero hn⟩
  · subst hv
    obtain ⟨A, c, e, hrow, _⟩ := h.row
    simp only [Value.slice.injEq] at e
    obtain ⟨rfl, _, rfl⟩ := e
    exact .inr ⟨g, cap, rfl, row_news hrow⟩

theorem rulesC_one (l : List (Nat × Nat)) : ∀ u ∈ rulesC l, u.oneCell' = true := by
  intro u hu
  unfold rulesC at hu
  rw [List.mem_flatMap] at hu
  obtain ⟨r, _, hr⟩ := hu
  simp at hr
  rcases hr with rfl | rfl <;> rfl
theorem append_none (w : World) (ty : TypeId) (A : Option Addr) (m c : Nat) (h : m ≤ c) : (Builtin.append_ #[39, 39] ty #[.slice A m c, .slice none 0 0]).run Try.prog w = .ok (.slice A m c) w := by
  cases A <;> simp [Builtin.append_, run_underlying Try.underlying39, Try.sizeOf49, Builtin.lenOf, Builtin.firstCells, storeCells, h]
theorem wpList_append_any2 {P : Program} {w : World} {ops : Array Oper} {rest : List Oper} {o : Oper} {a : Act} {Q : Exit → Act → World → Prop} (hgd : o.guard = none) (s x : Operand) (t : TypeId)
    (ho : o.op = .call { callee := .builtin .append, args := #[s, x], argTypes := #[t, t] })
    (base : Nat) (e : TypeId) (i : TypeInfo) (z : Value) (size bytes : Nat) (ht : P.underlying t = some (.slice e)) (hi : P.info? e = some i) (hz : i.zero = some z)
    (hsize : i.size = size) (hby : i.bytes = bytes) (hzs : z.cells.size = size) (hsz : 0 < size)
    (v : Value) (n : Nat) (xs : List Value) (hs : a.eval s = v) (hown : w.ownsRow base e size v n xs)
    (ad : Addr) (m c : Nat) (news : List Value) (hx : a.eval x = .slice (some ad) m c) (hl : news.length = m * size) (hnews : ∀ j u, news[j]? = some u → w.cell? (ad.add j) = some u) (h1 : ∀ u ∈ news, u.oneCell' = true)
    (h63 : n + m ≤ maxLen) (hbytes : (n + m) * bytes ≤ 140737488355328) (hbase : base ≤ w.heap.size)
    (h : ∀ v' w', w'.ownsRow base e size v' (n + m) (xs ++ news) → w.grownBy w' v.ownBlock → wpList P ops Q rest (a.put o.dst v') w') : wpList P ops Q (o :: rest) a w :=
  wpList_plain hgd fun _ hK => wp_append_any s x t ho base e i z size bytes ht hi hz hsize hby hzs hsz v n xs hs hown ad m c news hx hl hnews h1 h63 hbytes hbase (fun v' w' h1 h2 _ => hK _ _ (h v' w' h1 h2))

set_option maxHeartbeats 2000000 in
theorem TPrimes_ok : TPrimesOk 21 := by
  intro n f A c w hl hr hX
  have hck := tCheck_any n [f] (some ⟨w.heap.size, 0, none⟩) 1 (w.alloc (.cells #[.slice A f.length c] 22)) (by simp [maxLen]) (tabs_one hl hr)
  rw [codeF_one] at hck
  simp only [List.length_cons, List.length_nil, Nat.zero_add] at hck
  have hb0 : Below w.heap.size w (w.alloc (.cells #[.slice A f.length c] 22)) := (Below.refl _ _).alloc (Nat.le_refl _) _
  by_cases hc : codeT n f.length = 0
  · obtain ⟨n, rfl, hn, hlen⟩ := codeT_zero hc
    rw [hc] at hck ⊢
    have hd := tFull_any n hn f A c _ hlen (hr.below hb0)
    rw [hlen] at hd hck hb0 ⊢
    have h16 := one_le_16 hn
    clear hc hlen
    go_enter Try.func21, Try.ntmps21
    go_wp2_with fail
    refine hck.mono ?_
    rintro e w1 ⟨rfl, hw1⟩
    rw [hw1] at hd hb0
    clear hck hw1
    go_wp2_with fail
    refine hd.mono ?_
    rintro e w2 ⟨rfl, ⟨l0, hm0, hl0⟩, hb2⟩
    have HM := Lib.hid hm0
    have HL := Lib.hid hl0
    have HB := Lib.hid (hb0.trans (hb2.mono hb0.size))
    clear hm0 hl0 hb2 hb0 hd
    go_wp2
    go_loopg [7, 8] (n + 2) (fun gk v m wr => ∃ (d b : Nat) (l prs : List (Nat × Nat)), gk + d = n + 2 ∧ m = .map (some b) ∧ MapIs wr b l ∧ LevL n (atB f) d l ∧ OwnK wr w.heap.size v prs ∧ PrsL n (atB f) d prs ∧ Below w.heap.size w wr)
    case atStart => exact ⟨0, _, l0, [], rfl, rfl, HM.out, HL.out, World.ownsRow_nil _ _ _ _, prs_zero hn, HB.out⟩
    case round =>
      clear HM HL HB
      obtain ⟨d, b, l, prs, hgk, rfl, hm, hlv, hown, hprs, hb⟩ := hrel
      have HM := Lib.hid hm
      have HO := Lib.hid hown
      have HP := Lib.hid hprs
      have HB := Lib.hid hb
      have hlenm := fun ty => hm.len ty
      have hpl : prs.length ≤ 256 := by
        have h1 := nodup_sub_length prs (primL n (atB f) (one n)) hprs.1 (fun p hp => ((hprs.2 p).1 hp).1)
        have h2 := primL_len n (atB f) (one n)
        have h3 : one n * one n ≤ 16 * 16 := Nat.mul_le_mul h16 h16
        omega
      have HPL := Lib.hid hpl
      clear hm hown hprs hb hpl
      cases l with
      | nil =>
        have HA := Lib.hid (prs_all hn hlv HP.out)
        have HX2 := Lib.hid (primL_lex n (atB f) (one n))
        have HLE := Lib.hid ((List.perm_ext_iff_of_nodup HP.out.1 (lex_nodup HX2.out)).2 HA.out).length_eq
        clear hlv hgk
        simp only [List.length_nil] at hlenm
        rcases ownK_news HO.out with ⟨rfl, rfl⟩ | ⟨g, cap, rfl, hnews⟩
        · go_wp2_with fail
          refine (sortK_nil none 0 _ _).mono ?_
          rintro e w3 ⟨rfl, rfl⟩
          go_wp2
          go_ret2
          have e0 : primL n (atB f) (one n) = [] := List.eq_nil_of_length_eq_zero HLE.out.symm
          exact ⟨_, 0, [], rfl, by rw [e0], Nat.le_refl _, .inl rfl, HB.out⟩
        · have HC := Lib.hid (World.ownsRow.lt HO.out g rfl)
          obtain ⟨A3, c3, e3, hrow3, _, hcap⟩ := HO.out.row
          simp only [Value.slice.injEq] at e3
          obtain ⟨rfl, _, rfl⟩ := e3
          have hso := sortK_any prs (primL n (atB f) (one n)) w.heap.size g cap wr HC.out.1 HC.out.2 hrow3 (fun j => World.ownsRow.frozenAt HO.out j) (by have := HPL.out; omega) HP.out.1 HX2.out HA.out
          clear hrow3 hnews
          go_wp2_with fail
          refine hso.mono ?_
          rintro e w3 ⟨rfl, hrow4, hb4⟩
          have HR4 := Lib.hid hrow4
          have HB4 := Lib.hid (HB.out.trans hb4)
          have HCA := Lib.hid hcap
          clear hrow4 hb4 hso hcap
          go_wp2
          go_ret2
          exact ⟨_, cap, primL n (atB f) (one n), by rw [← HLE.out]; rfl, by simp, by rw [← HLE.out]; exact HCA.out, HR4.out, HB4.out⟩
      | cons p0 l =>
        have hdn : d ≤ n := by have := ((hlv p0).1 (by simp)).2; omega
        have hlp : 0 < (p0 :: l).length := by simp
        have hom := tOmit_any n hn (atB f) d b (p0 :: l) wr HM.out hlv
        have HL := Lib.hid hlv
        have hll : (p0 :: l).length ≤ 1000000 := by
          have : (p0 :: l).length ≤ ((List.range 16).flatMap fun y => (List.range 16).map fun no => (y, no)).length := nodup_sub_length _ _ HM.out.nodup (fun p hp => by
            have h1 := lev16 hn ((hlv p).1 hp).1
            simp only [List.mem_flatMap, List.mem_map, List.mem_range]
            exact ⟨p.1, h1.1, p.2, h1.2, rfl⟩)
          have h2 : ((List.range 16).flatMap fun y => (List.range 16).map fun no => (y, no)).length = 256 := by decide +kernel
          omega
        clear hlv HM
        generalize (p0 :: l) = lv at *
        generalize hlm : lv.length = lm at *
        clear hlm
        go_wp2_with fail
        refine hom.mono ?_
        rintro e w3 ⟨v3, bs, pl, sl, rfl, hown3, hmap3, hbs, hnd, hpr, hlv3, hb3⟩
        have HB3 := Lib.hid (HB.out.trans (hb3.mono HB.out.size))
        have HO3 := Lib.hid (HO.out.below hb3)
        have HPN := Lib.hid (prs_more HL.out HP.out hnd hpr)
        have HL3 := Lib.hid hlv3
        clear hom hlv3 hnd hpr
        have hsz := hb3.size
        have HSZ := Lib.hid HB.out.size
        have HN3 := Lib.hid hown3
        have HM3 := Lib.hid hmap3
        clear hown3 hmap3 hb3
        have hpl3 : pl.length ≤ 256 := by
          have h1 := nodup_sub_length (prs ++ pl) (primL n (atB f) (one n)) HPN.out.1 (fun p hp => ((HPN.out.2 p).1 hp).1)
          have h2 := primL_len n (atB f) (one n)
          have h3 : one n * one n ≤ 16 * 16 := Nat.mul_le_mul h16 h16
          rw [List.length_append] at h1
          omega
        have hpl := HPL.out
        obtain ⟨A7, c7, rfl, hrow7, _, hcap7⟩ := HO3.out.row
        clear hrow7
        rcases ownK_news HN3.out with ⟨rfl, rfl⟩ | ⟨g, cap, rfl, hnews⟩
        · have happ : ∀ ty, (Builtin.append_ #[39, 39] ty #[.slice A7 prs.length c7, .slice none 0 0]).run Try.prog w3 = .ok (.slice A7 prs.length c7) w3 := fun ty => append_none w3 ty A7 prs.length c7 hcap7
          have HPN2 := Lib.hid (show PrsL n (atB f) (d + 1) prs by have := HPN.out; rwa [List.append_nil] at this)
          clear hcap7
          go_wp2_with (at_builtin; refine Lib.wpList_append_run _ rfl _ _ _ _ rfl _ _ rfl rfl _ _ (happ _) ?_)
          clear happ
          go_wp2
          go_roundg (gk - 1)
          case measure => omega
          case rel => exact ⟨d + 1, bs, sl, prs, by omega, rfl, HM3.out, HL3.out, HO3.out, HPN2.out, HB3.out⟩
        · have HO4 := Lib.hid (show _root_.Go.World.ownsRow _ w.heap.size 49 2 _ prs.length (rulesC prs) from HO3.out)
          have HNW := Lib.hid hnews
          have HLN := Lib.hid (show (rulesC pl).length = pl.length * 2 by rw [rulesC_length]; omega)
          obtain ⟨i0, hi, hz0, hz1, hz2⟩ := info_parts infoK
          clear hnews hcap7
          go_wp2_with (first | (at_builtin; refine wpList_append_any2 rfl _ _ 39 rfl w.heap.size 49 i0 (.agg #[.int .u32 0, .int .u32 0]) 2 8 Try.underlying39 hi hz0 hz1 hz2 rfl (by decide) _ prs.length (rulesC prs) rfl HO4.out ⟨g, 0, none⟩ pl.length cap (rulesC pl) rfl HLN.out HNW.out (rulesC_one pl) ?q1 ?q2 ?q4 ?q3))
          case q1 => unfold maxLen; omega
          case q2 => omega
          case q4 => have := HSZ.out; omega
          case q3 =>
            intro v4 w4 hown4 hgrow4
            have hne : (Value.slice A7 prs.length c7).ownBlock ≠ some bs := by
              obtain ⟨es, ck, h6, _⟩ := HM3.out
              exact ownK_ne HO3.out h6 (by simp)
            have HO5 := Lib.hid (show OwnK w4 w.heap.size v4 (prs ++ pl) by
              unfold OwnK
              rw [rulesC_append, List.length_append]
              exact hown4)
            have HM5 := Lib.hid (HM3.out.same (hgrow4.block bs HM3.out.lt (fun e => hne e.symm)))
            have HB5 := Lib.hid (HB3.out.grown hgrow4 HB3.out.size (fun k hk => (World.ownsRow.lt HO4.out k hk).1))
            clear hown4 hgrow4 hne hi hz0 hz1 hz2
            go_wp2
            go_roundg (gk - 1)
            case measure => omega
            case rel => exact ⟨d + 1, bs, sl, prs ++ pl, by omega, rfl, HM5.out, HL3.out, HO5.out, HPN.out, HB5.out⟩
  · have HC := Lib.hid hc
    have hne : (codeT n f.length != 0) = true := by simpa using hc
    clear hc
    generalize codeT n f.length = q at *
    go_enter Try.func21, Try.ntmps21
    go_wp2_with fail
    refine hck.mono ?_
    rintro e w1 ⟨rfl, hw1⟩
    rw [hw1] at hb0
    have HB := Lib.hid hb0
    clear hck hw1 hb0
    go_wp2
    go_ret2
    exact ⟨_, 0, [], rfl, by first | rfl | rw [if_neg HC.out], Nat.le_refl _, .inl rfl, HB.out⟩

end Go.Proofs.Ytcokpjffgeihbaa
