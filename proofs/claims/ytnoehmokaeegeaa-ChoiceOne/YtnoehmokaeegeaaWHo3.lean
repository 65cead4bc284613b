/- choice.build, choice.Build, choice.And. -/
import Derived.Test.YtnoehmokaeegeaaWHo2
import Derived.Test.YtnoehmokaeegeaaWTd
import Derived.Test.YtnoehmokaeegeaaLawH2
namespace Go.Proofs.Ytnoehmokaeegeaa
open Go.RowKit
open Go.ChangeMaps (setBlock)

theorem growT_node (n : Nat) (F : Nat → Bool) (d s : Nat) (l : List Nd) :
    growT n F (d + 1) s l = nodeR (growT n F d (s ||| one (n - (d + 1))) (growT n F d s l).1).1 (((n - (d + 1) : Nat) : Int), (growT n F d s l).2, (growT n F d (s ||| one (n - (d + 1))) (growT n F d s l).1).2) := by
  rw [growT]
  unfold nodeR
  split <;> rfl

set_option maxHeartbeats 1000000 in
theorem cBuild_any {w0 : World} {g m n : Nat} {A : Option Addr} {c : Nat} (f : List Bool) (hn : n ≤ 4) (hf : f.length = one n) (hr : Row w0 A (boolsC f)) :
    ∀ (d : Nat), d ≤ n → ∀ (s : Nat) (l : List Nd) (v : Value) (w : World), s < one n → l.length + one d ≤ 100 → Bld w0 g m n A f.length c l l v w →
    Calls Try.prog 19 #[.pointer (some ⟨g, 0, none⟩), .int .i64 ((n - d : Nat) : Int), .int .i64 (s : Int)] w fun e w' => e = .returned (.int .i64 (growT n (atB f) d s l).2) ∧ ∃ v', Bld w0 g m n A f.length c (growT n (atB f) d s l).1 (growT n (atB f) d s l).1 v' w' := by
  intro d
  induction d with
  | zero =>
    intro _ s l v w hs hl hB
    obtain ⟨b, off, rfl, cf⟩ := atB_cell (hr.below hB.below) (k := s) (by rw [hf]; exact hs)
    obtain ⟨_, _, c2, c3⟩ := hB.cell
    have HB := Lib.hid hB
    have HG := Lib.hid (show growT n (atB f) 0 s l = (l, if atB f s then 1 else 0) from rfl)
    have hsf : s < f.length := by rw [hf]; exact hs
    clear hB
    rw [Nat.sub_zero]
    have HF := Lib.hid hf
    clear hf
    cases hx : atB f s with
    | true =>
      rw [hx] at cf HG
      clear hx
      go_enter Try.func19, Try.ntmps19
      go_wp2
      go_ret
      exact ⟨ret_int (by rw [HG.out]; rfl), v, by rw [HG.out]; exact HB.out⟩
    | false =>
      rw [hx] at cf HG
      clear hx
      go_enter Try.func19, Try.ntmps19
      go_wp2
      go_ret
      exact ⟨ret_int (by rw [HG.out]; rfl), v, by rw [HG.out]; exact HB.out⟩
  | succ d ih =>
    intro hd s l v w hs hl hB
    obtain ⟨vr, hvr⟩ : ∃ vr, vr = n - (d + 1) := ⟨_, rfl⟩
    have hvd : ((n - d : Nat) : Int) = (vr : Int) + 1 := by omega
    have hvn : ((vr : Int) == (n : Int)) = false := by simp; omega
    have h1s := one_succ d
    have h1p := one_pos d
    have hG := growT_node n (atB f) d s l
    have hor : s ||| one vr < one n := or_lt_one hs (one_lt_one (by omega))
    have h16 := one_le_16 hn
    have hv16 : one vr < 16 := Nat.lt_of_lt_of_le (one_lt_one (by omega : vr < n)) h16
    have hob := i64_or_nat s (one vr) (by omega) (by omega)
    have h1v := one_i64 vr
    have hl1 := growT_len n (atB f) d s l
    have hl2 := growT_len n (atB f) d (s ||| one vr) (growT n (atB f) d s l).1
    have h2le : (growT n (atB f) d (s ||| one vr) (growT n (atB f) d s l).1).1.length ≤ 1000 := by omega
    have ih1 := ih (by omega) s l v w hs (by omega) hB
    have ih2 := fun v1 w1 => ih (by omega) (s ||| one vr) (growT n (atB f) d s l).1 v1 w1 hor (by omega)
    rw [← hvr] at hG ⊢
    rw [hvd] at ih1 ih2
    obtain ⟨_, _, c2, c3⟩ := hB.cell
    generalize growT n (atB f) (d + 1) s l = r3 at *
    generalize growT n (atB f) d s l = r1 at *
    generalize growT n (atB f) d (s ||| one vr) r1.1 = r2 at *
    have HG := Lib.hid hG
    have HV := Lib.hid hvr
    have HF := Lib.hid hf
    clear hG hvr hf ih h1s
    obtain ⟨r1l, r1k⟩ := r1
    obtain ⟨r2l, r2k⟩ := r2
    simp only at *
    go_enter Try.func19, Try.ntmps19
    go_wp2_with fail
    refine ih1.mono ?_
    rintro e w1 ⟨rfl, v1, hB1⟩
    have ih2' := ih2 v1 w1 hB1
    clear ih2 ih1
    go_wp2_with fail
    refine ih2'.mono ?_
    rintro e w2 ⟨rfl, v2, hB2⟩
    have hnode := cNode_any (vr : Int) r1k r2k w2 hB2 (by omega)
    obtain ⟨_, _, e2, e3⟩ := hB2.cell
    clear ih2' hB1 hB2
    go_wp2_with fail
    refine hnode.mono ?_
    rintro e w3 ⟨rfl, v3, hB3⟩
    go_wp2
    go_ret
    exact ⟨ret_int (by rw [HG.out]), v3, by rw [HG.out]; exact hB3⟩

theorem own_row_cap {w : World} {B e : Nat} {v : Value} {l : List Nd} (h : w.ownsRow B e 3 v l.length (nodesC l)) : ∃ Av cv, v = .slice Av l.length cv ∧ Row w Av (nodesC l) ∧ l.length ≤ cv := by
  rcases h.2 with ⟨hv, hn⟩ | ⟨g, cap, cur, hv, hg, hh, h1, h2, h3, h4⟩
  · have : l = [] := List.eq_nil_of_length_eq_zero hn
    subst this
    exact ⟨none, 0, hv, .inl rfl, Nat.le_refl _⟩
  · subst hv
    refine ⟨some ⟨g, 0, none⟩, cap, rfl, .inr ⟨g, 0, rfl, fun j u hu => ?_⟩, h1⟩
    have := World.ownsRow.cells h (g := g) rfl j u hu
    by_cases h0 : j = 0
    · subst h0; simpa [Addr.add] using this
    · simpa [Addr.add, h0] using this

set_option maxHeartbeats 1000000 in
theorem HBuild_ok : HBuildOk 8 := by
  intro n f A c w hl hr hX
  have hd := TDual_ok n f A c w hl hr hX
  by_cases hc : codeT n f.length = 0
  · obtain ⟨k, rfl, hk, hlen⟩ := codeT_zero hc
    rw [hc, if_pos rfl] at hd
    rw [hc]
    have HL := Lib.hid hlen
    have h16 := one_le_16 hk
    have hmm := @run_makeMap Try.prog
    clear hc hlen
    go_enter Try.func8, Try.ntmps8
    go_wp2_with fail
    refine hd.mono ?_
    rintro e w1 ⟨A2, c2, l2, rfl, hl2, hr2, hb1⟩
    have HR := Lib.hid (hr.below hb1)
    have HB1 := Lib.hid hb1
    clear hd hl2 hr2 hb1
    have hB0 : Bld w1 (w1.heap.size + 1) w1.heap.size k A f.length c [] [] (.slice none 0 0) ((w1.alloc (.map #[] 0)).alloc (.cells #[.slice none 0 0, .map (some w1.heap.size), .int .i64 (k : Int), .slice A f.length c] 46)) := by
      have hs : (w1.alloc (.map #[] 0)).heap.size = w1.heap.size + 1 := by simp
      refine ⟨?_, World.ownsRow_nil _ _ _ _, (numIs_new w1).below ((Below.refl _ _).alloc (Nat.le_refl _) _), ?_, by omega, Nat.le_refl _⟩
      · rw [← hs]; exact heap_alloc_new _ _
      · exact ((Below.refl _ _).alloc (Nat.le_refl _) _).alloc (by simp) _
    have hbu := cBuild_any f hk HL.out HR.out k (Nat.le_refl _) 0 [] _ _ (one_pos k) (by simp; omega) hB0
    rw [Nat.sub_self] at hbu
    clear hB0
    go_wp2_with fail
    refine hbu.mono ?_
    rintro e w2 ⟨rfl, v2, hB2⟩
    obtain ⟨c0, _, _, _⟩ := hB2.cell
    obtain ⟨Av, cv, rfl, hrow, hcap⟩ := own_row_cap hB2.own
    have hb2 := HB1.out.trans (hB2.below.mono HB1.out.size)
    clear hbu hmm hB2
    have HSm := Lib.hid (show small k (atB f) = growT k (atB f) k 0 [] from rfl)
    generalize growT k (atB f) k 0 [] = r at *
    obtain ⟨rl, rk⟩ := r
    simp only at *
    go_wp2
    go_ret3
    exact ⟨Av, cv, rl, rk, rfl, by first | exact HSm.out.symm | (simp; exact HSm.out.symm) | (rw [if_pos rfl, Int.toNat_natCast, HSm.out]), hrow, hb2, hcap⟩
  · rw [if_neg hc] at hd
    have HC := Lib.hid hc
    have hne : (codeT n f.length != 0) = true := by simpa using hc
    clear hc
    generalize codeT n f.length = q at *
    go_enter Try.func8, Try.ntmps8
    go_wp2_with fail
    refine hd.mono ?_
    rintro e w1 ⟨A2, c2, l2, rfl, hl2, hr2, hb1⟩
    clear hd hl2 hr2
    go_wp2
    go_ret3
    exact ⟨none, 0, [], 0, rfl, by first | exact ⟨rfl, rfl⟩ | rw [if_neg HC.out], .inl rfl, hb1, Nat.le_refl _⟩

set_option maxHeartbeats 2000000 in
theorem HAnd_ok : HAndOk 16 := by
  intro n a A c x b B d y w hma hca hra hmb hcb hrb hX
  have hmb' : b.length < 9223372036854775808 := by unfold maxLen at hmb; omega
  by_cases hL : 20 < b.length
  · have HC := Lib.hid (show codeA n a x b y = 1 by unfold codeA; rw [if_pos (.inr hL)])
    rw [HC.out]
    go_enter Try.func16, Try.ntmps16
    go_wp2
    go_ret3
    exact ⟨none, 0, [], 0, rfl, by first | rfl | exact ⟨rfl, rfl⟩, .inl rfl, Below.refl _ _, Nat.le_refl _⟩
  · by_cases hc1 : codeD n a x = 0
    · obtain ⟨k, rfl, hk, _⟩ := codeD_zero hc1
      have h16 := one_le_16 hk
      have h1p := one_pos k
      have hread := HRead_own k hk a A c x w hma hca hra hc1
      have hnl : ¬ LargeD (k : Int) a.length := by intro h; unfold codeD at hc1; rw [if_pos h] at hc1; omega
      have hnb : ¬ LargeD (k : Int) b.length := by unfold LargeD; omega
      have HA0 := Lib.hid (show codeA k a x b y = codeD k b y by
        have h1 : codeB k a x = 0 := by unfold codeD at hc1; rw [if_neg hnl] at hc1; exact hc1
        unfold codeA codeD
        rw [if_neg (fun h => h.elim hnl hL), if_neg (by simpa using h1), if_neg hnb])
      rw [HA0.out]
      clear hc1 hnl hnb
      by_cases hc2 : codeD k b y = 0
      · have HD := Lib.hid hc2
        rw [hc2]
        clear hc2
        go_enter Try.func16, Try.ntmps16
        go_wp2_with fail
        refine hread.mono ?_
        rintro e w1 ⟨gf, rfl, hof, hb1⟩
        have hread2 := HRead_own k hk b B d y w1 hmb hcb (hrb.below hb1) HD.out
        have HOf := Lib.hid hof
        clear hof hread
        go_wp2_with fail
        refine hread2.mono ?_
        rintro e w2 ⟨gg, rfl, hog, hb2⟩
        have HOf2 := Lib.hid (HOf.out.below hb2)
        have HOg := Lib.hid hog
        have hne : gf ≠ gg := by have h1 := HOf.out.lt; have h2 := hog.base; omega
        have HB2 := Lib.hid (hb1.trans (hb2.mono hb1.size))
        have hgf := HOf.out.base
        have HG := Lib.hid (show ∀ i, i < one k → w2.cell? ⟨gg, i, none⟩ = some (.bool (tell b y i)) from fun i hi => HOg.out.cell hi)
        clear hog hread2 hb1 hb2 HOf HOg
        go_wp2
        go_loopw [42] (fun sv wr => ∃ s : Nat, sv = .int .i64 s ∧ s ≤ one k ∧ OwnB wr w.heap.size gf (one k) (halfA (tell a x) (tell b y) s) ∧ (∀ i, i < one k → wr.cell? ⟨gg, i, none⟩ = some (.bool (tell b y i))) ∧ Below w.heap.size w wr) (fun sv _ => one k - (intOf sv).toNat)
        case atStart => exact ⟨0, rfl, Nat.zero_le _, by rw [halfA_zero]; exact HOf2.out, HG.out, HB2.out⟩
        case round =>
          clear HOf2 HG HB2
          obtain ⟨s, rfl, hs, hown, hg, hbel⟩ := hrel
          have HO := Lib.hid hown
          have HG := Lib.hid hg
          clear hown hg
          by_cases hlt : s < one k
          · have c1 := HO.out.cell hlt
            have c2 := HG.out s hlt
            have f1 := HO.out.free s
            rw [halfA_at] at c1
            have HO2 := Lib.hid (show OwnB _ _ _ _ (halfA (tell a x) (tell b y) (s + 1)) from (HO.out.stored s (tell a x s && tell b y s)).congr (fun i _ => halfA_succ _ _ _ _))
            have HG2 := Lib.hid (show ∀ u, ∀ i, i < one k → (wr.setCell ⟨gf, s, none⟩ u).cell? ⟨gg, i, none⟩ = some (.bool (tell b y i)) from fun u i hi => by
              rw [World.cell?_setCell_far _ _ _ _ hne]
              exact HG.out i hi)
            generalize tell a x s = p at *
            generalize tell b y s = q at *
            cases p with
            | false =>
              go_wp2
              go_roundw
              case rel => exact ⟨s + 1, by go_num, by omega, HO2.out, HG2.out _, hbel.setCell hgf _⟩
              case measure => simp [intOf]; omega
            | true =>
              go_wp2
              go_roundw
              case rel => exact ⟨s + 1, by go_num, by omega, HO2.out, HG2.out _, hbel.setCell hgf _⟩
              case measure => simp [intOf]; omega
          · obtain rfl : s = one k := by omega
            have hrow := HO.out.row
            have hbd := HBuild_ok k (tabB (one k) (halfA (tell a x) (tell b y) (one k))) (some ⟨gf, 0, none⟩) (one k) wr (by simp [maxLen]; omega) hrow trivial
            rw [tabB_length] at hbd
            have hct : codeT (k : Int) (one k) = 0 := codeT_ok hk
            rw [hct, if_pos rfl, Int.toNat_natCast] at hbd
            have HSm := Lib.hid (show small k (atB (tabB (one k) (halfA (tell a x) (tell b y) (one k)))) = small k (fun s => tell a x s && tell b y s) from small_congr fun i hi => by
              rw [atB_tabB _ hi]
              simp [halfA, hi])
            rw [HSm.out] at hbd
            clear hct
            go_wp2_with fail
            refine hbd.mono ?_
            rintro e w3 ⟨A3, c3, l3, k3, rfl, hlk, hr3, hb3, hk3⟩
            have hb4 := hbel.trans (hb3.mono hbel.size)
            clear hbd hb3
            go_wp2
            go_ret3
            exact ⟨A3, c3, l3, k3, rfl, by first | exact hlk | (rw [hlk, if_pos rfl, Int.toNat_natCast]), hr3, hb4, hk3⟩
      · have HC := Lib.hid hc2
        have hread2 := fun w1 hb => HRead_ok k b B d y w1 hmb hcb (hrb.below hb) trivial
        have hne : (codeD k b y != 0) = true := by simpa using hc2
        rw [if_neg hc2] at hread2 ⊢
        clear hc2
        generalize codeD k b y = q at *
        go_enter Try.func16, Try.ntmps16
        go_wp2_with fail
        refine hread.mono ?_
        rintro e w1 ⟨gf, rfl, hof, hb1⟩
        clear hof hread
        go_wp2_with fail
        refine (hread2 w1 hb1).mono ?_
        rintro e w2 ⟨A2, c2, f2, rfl, rfl, hr2, hb2⟩
        have hb3 := hb1.trans (hb2.mono hb1.size)
        clear hread2 hb1 hb2
        go_wp2
        go_ret3
        exact ⟨none, 0, [], 0, rfl, by first | rfl | exact ⟨rfl, rfl⟩, .inl rfl, hb3, Nat.le_refl _⟩
    · have hread := HRead_ok n a A c x w hma hca hra trivial
      have HA0 := Lib.hid (show codeA n a x b y = codeD n a x by
        unfold codeA codeD at *
        by_cases hla : LargeD n a.length
        · rw [if_pos (.inl hla), if_pos hla]
        · rw [if_neg (fun h => h.elim hla hL), if_neg hla]
          rw [if_neg hla] at hc1
          rw [if_pos hc1])
      have hne : (codeD n a x != 0) = true := by simpa using hc1
      rw [HA0.out]
      rw [if_neg hc1] at hread ⊢
      clear hc1
      generalize codeD n a x = q at *
      go_enter Try.func16, Try.ntmps16
      go_wp2_with fail
      refine hread.mono ?_
      rintro e w1 ⟨A2, c2, f2, rfl, rfl, hr2, hb1⟩
      clear hread
      go_wp2
      go_ret3
      exact ⟨none, 0, [], 0, rfl, by first | rfl | exact ⟨rfl, rfl⟩, .inl rfl, hb1, Nat.le_refl _⟩

end Go.Proofs.Ytnoehmokaeegeaa
