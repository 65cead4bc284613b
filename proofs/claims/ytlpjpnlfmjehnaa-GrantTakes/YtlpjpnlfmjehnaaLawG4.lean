/- The law GrantTakes, walked from the contracts of Play and Can. -/
import Derived.Test.YtlpjpnlfmjehnaaLawG1
import Derived.Test.YtlpjpnlfmjehnaaGr3
import Derived.Test.YtlpjpnlfmjehnaaMkM
import Derived.Test.YtlpjpnlfmjehnaaRm
namespace Go.Proofs.Ytlpjpnlfmjehnaa
open Go.RowKit

theorem infoDg : (Try.prog.info? 46).map (fun i => (i.zero, i.size, i.bytes)) = some (some (.agg #[.int .i64 0, .int .i64 0, .int .i64 0, .int .i64 0, .int .u32 0, .int .i64 0]), 6, 48) := by kernel_rfl
theorem pop_oneB {i : Nat} (h : i < 8) : pop (one i) = 1 := by
  have : i = 0 ∨ i = 1 ∨ i = 2 ∨ i = 3 ∨ i = 4 ∨ i = 5 ∨ i = 6 ∨ i = 7 := by omega
  rcases this with rfl | rfl | rfl | rfl | rfl | rfl | rfl | rfl <;> decide +kernel
/-- The deeds that drop nothing. -/
def noDrop (l : List Dd) : List Dd := l.filter fun d => decide (d.kind ≠ 4)
theorem noDrop_succ {l : List Dd} {j : Nat} {d : Dd} (h : l[j]? = some d) : noDrop (l.take (j + 1)) = if d.kind = 4 then noDrop (l.take j) else noDrop (l.take j) ++ [d] := by
  unfold noDrop
  rw [List.take_add_one, h, List.filter_append]
  by_cases hk : d.kind = 4
  · rw [if_pos hk]; simp [hk]
  · rw [if_neg hk]; simp [hk]
theorem noDrop_len (l : List Dd) (j : Nat) : (noDrop (l.take j)).length ≤ j := by
  unfold noDrop
  have := List.length_filter_le (fun d : Dd => decide (d.kind ≠ 4)) (l.take j)
  rw [List.length_take] at this
  omega

set_option maxRecDepth 100000 in
set_option maxHeartbeats 4000000 in
theorem GrantTakes_with {fn fn2 : Nat} (hfn : fn = 8) (hfn2 : fn2 = 13) (hP : GPlayOk fn) (hC : GCanOk fn2) (n : Int) (es : List Ed) (A : Option Addr) (c : Nat) (ds : List Dd) (A3 : Option Addr) (c3 : Nat) (a y : Int) (bit : Nat) (w : World) (hbit : bit < 256) (hm : es.length ≤ maxLen) (hcap : es.length ≤ c) (h32 : E32 es) (hr : Row w A (edgesC es)) (hsz : ds.length * 48 ≤ 140737488355328) (hm3 : ds.length ≤ maxLen) (_hcap3 : ds.length ≤ c3) (hp32 : ∀ d ∈ ds, d.parts < 4294967296) (hr3 : Row w A3 (deedsC ds)) (hX : Laid w) :
    Calls Try.prog 6 #[.int .i64 n, .slice A es.length c, .slice A3 ds.length c3, .int .i64 a, .int .i64 y, .int .u8 (bit : Int)] w fun e w' => e = .returned (.bool true) ∧ Below w.heap.size w w' := by
  subst hfn hfn2
  obtain ⟨i0, hi0, hz0, hz1, hz2⟩ := info_parts infoDg
  have HI := Lib.hid (And.intro hi0 (And.intro hz0 (And.intro hz1 hz2)))
  clear hi0 hz0 hz1 hz2
  have HP32 := Lib.hid hp32
  clear hp32
  have hml : (ds.length : Int) < 9223372036854775807 := by unfold maxLen at hm3; omega
  go_enter Try.func6, Try.ntmps6
  go_wp2
  go_loopw [13, 23] (fun lv v wr => ∃ j : Nat, v = .int .i64 j ∧ j ≤ ds.length ∧ RowsM w [⟨46, 6, lv, (noDrop (ds.take j)).length, deedsC (noDrop (ds.take j))⟩] wr) (fun _ v _ => ds.length - (intOf v).toNat)
  case atStart => exact ⟨0, rfl, Nat.zero_le _, (RowsM.nil w).newNil 46 6⟩
  case round =>
    obtain ⟨j, rfl, hj, hm1⟩ := hrel
    obtain ⟨Al, cl, hlv, hcl, _⟩ := hm1.form (k := 0) rfl
    simp only at hlv hcl
    subst hlv
    have HM := Lib.hid hm1
    clear hm1
    by_cases hlt : j < ds.length
    · obtain ⟨d, hd⟩ := get_some hlt
      obtain ⟨b3, o3, rfl, q0, q1, q2, q3, q4, q5⟩ := RowD.cells (hr3.below HM.out.below) hd
      have HS := Lib.hid (noDrop_succ hd)
      have HLn := Lib.hid (noDrop_len ds j)
      have HMd := Lib.hid (show RowsM w [⟨46, 6, .slice Al (noDrop (ds.take j)).length cl, (noDrop (ds.take j)).length, deedsC (noDrop (ds.take j))⟩, ⟨46, 6, .slice (some ⟨wr.heap.size, 0, none⟩) 1 1, 1, ddC d⟩] _ from HM.out.newAlloc (cs := #[.int .i64 d.kind, .int .i64 d.who, .int .i64 d.tgt, .int .i64 d.lev, .int .u32 (d.parts : Int), .int .i64 d.val]) (t := 46) 6 1 (by decide) rfl)
      clear hd
      generalize hl : noDrop (ds.take j) = l at *
      clear hl
      obtain ⟨kind, who, tgt, lev, parts, val⟩ := d
      simp only [ddC] at q0 q1 q2 q3 q4 q5 HS HMd
      have z0 := HMd.out.cell (k := 1) rfl (j := 0) rfl
      have z1 := HMd.out.cell (k := 1) rfl (j := 1) rfl
      have z2 := HMd.out.cell (k := 1) rfl (j := 2) rfl
      have z3 := HMd.out.cell (k := 1) rfl (j := 3) rfl
      have z4 := HMd.out.cell (k := 1) rfl (j := 4) rfl
      have z5 := HMd.out.cell (k := 1) rfl (j := 5) rfl
      by_cases hk : kind = 4
      · rw [if_pos hk] at HS
        have hkb : (kind != 4) = false := by simp [hk]
        clear hk
        go_wp2
        go_roundw
        case rel => exact ⟨j + 1, by go_num, by omega, by rw [HS.out]; exact HMd.out.take 1⟩
        case measure => simp [intOf]; omega
      · rw [if_neg hk] at HS
        have hkb : (kind != 4) = true := by simpa using hk
        clear hk
        go_upto_region 6 with fail
        generalize wr.alloc _ = w1 at *
        generalize wr.heap.size = sz at *
        clear q0 q1 q2 q3 q4 q5
        have HMA := Lib.hid (HMd.out.grow ((Below.refl w1.heap.size w1).alloc (Nat.le_refl _) (.cells #[.int .i64 kind, .int .i64 who, .int .i64 tgt, .int .i64 lev, .int .u32 (parts : Int), .int .i64 val] 46)))
        have hll := HLn.out
        go_wp2_with (at_builtin; refine wpList_append_rm rfl _ _ 23 rfl 0 46 6 l.length _ (deedsC l) HMA.out rfl i0 _ 48 Try.underlying23 HI.out.1 HI.out.2.1 HI.out.2.2.1 HI.out.2.2.2 rfl (by decide) rfl ⟨w1.heap.size, 0, none⟩ 1 1 [.int .i64 kind, .int .i64 who, .int .i64 tgt, .int .i64 lev, .int .u32 (parts : Int), .int .i64 val] rfl rfl ?qnews ?qone ?q63 ?qby ?qnext)
        try (case qnews => exact row_news (row_new w1 w1.heap.size rfl [.int .i64 kind, .int .i64 who, .int .i64 tgt, .int .i64 lev, .int .u32 (parts : Int), .int .i64 val] 46))
        case qone => first | rfl | exact ⟨rfl, rfl, rfl, rfl, rfl, rfl⟩ | (intro u hu; simp only [List.mem_cons, List.not_mem_nil, or_false] at hu; rcases hu with rfl | rfl | rfl | rfl | rfl | rfl <;> rfl)
        case q63 => unfold maxLen at hm3 ⊢; omega
        case qby => omega
        case qnext =>
          intro A9 c9 w9 hn9
          have HN := Lib.hid (show RowsM w [⟨46, 6, .slice A9 (l.length + 1) c9, (l ++ [(⟨kind, who, tgt, lev, parts, val⟩ : Dd)]).length, deedsC (l ++ [(⟨kind, who, tgt, lev, parts, val⟩ : Dd)])⟩] w9 by
            have h := hn9.take 1
            rw [show (l ++ [(⟨kind, who, tgt, lev, parts, val⟩ : Dd)]).length = l.length + 1 by simp, show deedsC (l ++ [(⟨kind, who, tgt, lev, parts, val⟩ : Dd)]) = deedsC l ++ [.int .i64 kind, .int .i64 who, .int .i64 tgt, .int .i64 lev, .int .u32 (parts : Int), .int .i64 val] by simp [deedsC, ddC]]
            exact h)
          clear hn9
          go_wp2
          go_roundw
          case rel => exact ⟨j + 1, by go_num, by omega, by rw [HS.out]; exact HN.out⟩
          case measure => simp [intOf]; omega
    · obtain rfl : j = ds.length := by omega
      rw [List.take_length] at HM hcl
      have HLn := Lib.hid (show (noDrop ds).length ≤ ds.length by have := noDrop_len ds ds.length; rwa [List.take_length] at this)
      have HND := Lib.hid (show ∀ d ∈ noDrop ds, d.kind ≠ 4 ∧ d.parts < 4294967296 from fun d hd => by
        unfold noDrop at hd
        rw [List.mem_filter] at hd
        exact ⟨of_decide_eq_true hd.2, HP32.out d hd.1⟩)
      rw [List.take_length]
      generalize noDrop ds = l at *
      obtain ⟨i, hi, hi8⟩ : ∃ i : Nat, (bit : Int) % 8 = i ∧ i < 8 := ⟨bit % 8, by omega, by omega⟩
      have hmod : Int.tmod (bit : Int) 8 = i := by rw [Int.tmod_eq_emod_of_nonneg (by omega)]; exact hi
      have hone := one_int i (by omega)
      have h1u : one i < 4294967296 := by
        have h1 : one i ≤ one 7 := Nat.pow_le_pow_right (by decide) (by omega)
        have h2 : one 7 = 128 := by decide
        omega
      have hpop := pop_oneB hi8
      have hll : l.length ≤ maxLen := by have := HLn.out; omega
      have kP := fun W (hb : Below w.heap.size w W) (hrow : Row W Al (deedsC l)) => hP n es A c l Al cl W hm hcap h32 (hr.below hb) hll hcl (fun d hd => (HND.out d hd).2) hrow (hX.below hb)
      have kC := fun W (hb : Below w.heap.size w W) => hC n es A c a y (one i) W hm hcap h32 (hr.below hb) h1u (hX.below hb)
      have kE := fun W (hb : Below w.heap.size w W) => EdgesCheck_any n es A c W (hr.below hb)
      have HKP := Lib.hid kP
      have HKC := Lib.hid kC
      have HKE := Lib.hid kE
      have hrow := HM.out.row (k := 0) rfl
      have HRow := Lib.hid hrow
      clear kP kC kE hrow hi hlt hj hr3 hsz
      go_wp2_with fail
      refine (HKP.out _ HM.out.below HRow.out).mono ?_
      rintro e w1 ⟨B1, k1, codes, N, B2, k2, ge, rfl, hres, r1, r2, hb1⟩
      have HRes := Lib.hid hres
      have hb2 := HM.out.below.trans (hb1.mono HM.out.below.size)
      have HM1 := Lib.hid (((RowsM.nil w).grow hb2).newAlloc (cs := #[.slice B1 codes.length k1, .int .i64 N, .slice B2 ge.length k2]) (t := 26) 3 1 (by decide) rfl)
      have HRg := Lib.hid (r2.below ((Below.refl w1.heap.size w1).alloc (Nat.le_refl _) (.cells #[.slice B1 codes.length k1, .int .i64 N, .slice B2 ge.length k2] 26)))
      clear hres r1 r2 hb1 hb2
      go_wp2_with fail
      refine (HKC.out _ HM1.out.below).mono ?_
      rintro e w2 ⟨b, rfl, hb, hb3⟩
      have HBc := Lib.hid hb
      have HM2 := Lib.hid (HM1.out.grow hb3)
      have HRg2 := Lib.hid (HRg.out.below hb3)
      clear hb hb3
      go_wp2_with fail
      refine (HKE.out _ HM2.out.below).mono ?_
      rintro e w3 ⟨rfl, hb4⟩
      have HM3 := Lib.hid (HM2.out.grow hb4)
      have HRg3 := Lib.hid (HRg2.out.below hb4)
      clear hb4
      have a0 := HM3.out.cell (k := 0) rfl (j := 0) rfl
      have a2 := HM3.out.cell (k := 0) rfl (j := 2) rfl
      by_cases hcp : codeGP n es l.length = 0
      · obtain ⟨g1, g2⟩ := codeGP_zero hcp
        obtain ⟨o1, o2, o3, o4⟩ := codeE_zero g2
        have hnn : ((n.toNat : Nat) : Int) = n := by omega
        have g2' : codeE ((n.toNat : Nat) : Int) es = 0 := by rw [hnn]; exact g2
        have hr' := HRes.out
        unfold GRes at hr'
        rw [if_pos hcp] at hr'
        generalize n.toNat = nn at *
        obtain ⟨hq1, hq2, hq3⟩ := hr'
        have hF := fineG_run (l := l) g2' h32 (fun d hd => (HND.out d hd).2)
        have hlc : codes.length = l.length := by rw [hq1]; exact runG_length nn es l
        rw [hlc] at a0
        clear hlc
        rw [hcp]
        rw [g2]
        by_cases hbad : a < 0 ∨ y < 0 ∨ n ≤ a ∨ n ≤ y ∨ a = y
        · have hk2 : codeGC n es a y (one i) = 2 := codeGC_arg g2 (by omega)
          rw [hk2]
          have h30 : decide (30 < (l.length : Int)) = false := by rw [decide_eq_false_iff_not]; omega
          clear hF hq1 hq2 hq3 g2 g2' o4 h32 hr hpop hP hC HND hnn hk2 hcp g1 hll hm3 hm hml hone hmod hcl
          by_cases b1 : a < 0
          · clear hbad; go_wp2; go_ret; exact ⟨rfl, HM3.out.below⟩
          · by_cases b2 : y < 0
            · clear hbad; go_wp2; go_ret; exact ⟨rfl, HM3.out.below⟩
            · by_cases b3 : n ≤ a
              · clear hbad; go_wp2; go_ret; exact ⟨rfl, HM3.out.below⟩
              · by_cases b4 : n ≤ y
                · clear hbad; go_wp2; go_ret; exact ⟨rfl, HM3.out.below⟩
                · have b5 : (a == y) = true := by rw [beq_iff_eq]; omega
                  clear hbad
                  go_wp2; go_ret; exact ⟨rfl, HM3.out.below⟩
        · have hk0 : codeGC n es a y (one i) = 0 := codeGC_ok g2 (by omega) hpop
          have haa : ((a.toNat : Nat) : Int) = a := by omega
          have hyy : ((y.toNat : Nat) : Int) = y := by omega
          have hb' : b = true ↔ CanE es a y (one i) := by rw [HBc.out]; simp [hk0]
          have hsound : sub (one i) ((runG nn es l).2.ov a.toNat y.toNat) = true → b = true := fun h => hb'.2 (by have := run_can (a := a.toNat) (b := y.toNat) g2' h32 HND.out (by omega) (by omega) h; rwa [haa, hyy] at this)
          have kO := fun W (hb : Below w3.heap.size w3 W) => Over_any (edgesG (runG nn es l).2) B2 k2 a y W (E32_edgesG hF) (by have := edgesG_len hF.2.1; omega) ((hq3 ▸ HRg3.out : Row w3 B2 (edgesC (edgesG (runG nn es l).2))).below hb)
          have ho : overL (edgesG (runG nn es l).2) a y = (runG nn es l).2.ov a.toNat y.toNat := by have := over_edgesG hF a.toNat y.toNat; rwa [haa, hyy] at this
          simp only [ho] at kO
          have u2 := hF.2.2.1 a.toNat y.toNat
          obtain ⟨sB, hsB⟩ : ∃ sB, sub (one i) ((runG nn es l).2.ov a.toNat y.toNat) = sB := ⟨_, rfl⟩
          have hin := fun W => In_any (one i) ((runG nn es l).2.ov a.toNat y.toNat) h1u u2 W
          simp only [show (one i ||| (runG nn es l).2.ov a.toNat y.toNat == (runG nn es l).2.ov a.toNat y.toNat) = sB from hsB] at hin
          rw [hsB] at hsound
          have HSo := Lib.hid hsound
          rw [← hq3] at kO
          rw [hk0]
          have b5 : (a == y) = false := by rw [beq_eq_false_iff_ne]; omega
          have h30 : decide (30 < (l.length : Int)) = false := by rw [decide_eq_false_iff_not]; omega
          have c1 : a < n := by omega
          have c3 : 0 ≤ a := by omega
          have c4 : 0 ≤ y := by omega
          have c2 : y < n := by omega
          clear hF hq1 hq2 hq3 g2 g2' o4 h32 hr hpop hP hC HND hb' hsound hsB ho hbad hk0 hcp haa hyy hnn g1 hll hm3 hm hml hone hmod hcl
          generalize (runG nn es l).2.ov a.toNat y.toNat = ovx at *
          go_wp2_with fail
          refine (kO _ (Below.refl _ _)).mono ?_
          rintro e w5 ⟨rfl, hb5⟩
          have HM5 := Lib.hid (HM3.out.grow hb5)
          clear hb5
          go_wp2_with fail
          refine (hin _).mono ?_
          rintro e w6 ⟨rfl, rfl⟩
          cases sB with
          | true =>
            obtain rfl := HSo.out rfl
            go_wp2
            go_ret
            exact ⟨rfl, HM5.out.below⟩
          | false =>
            go_wp2
            go_ret
            exact ⟨rfl, HM5.out.below⟩
      · have HC2 := Lib.hid hcp
        by_cases hE : codeE n es = 0
        · have h30 : 30 < l.length := by
            refine Classical.byContradiction fun h => hcp ?_
            unfold codeGP
            rw [if_neg h, hE]
          rw [show codeGP n es l.length = 1 from if_pos h30, hE]
          have h30i : 30 < (l.length : Int) := by omega
          clear hcp h32 hr hpop hP hC
          go_wp2
          go_ret
          exact ⟨rfl, HM3.out.below⟩
        · have hEq : (codeE n es != 0) = true := by simpa using hE
          have hPq : (codeGP n es l.length != 0) = true := by simpa using hcp
          generalize codeGP n es l.length = qp at *
          generalize codeE n es = qe at *
          clear hcp hE h32 hr hpop hP hC
          go_wp2
          go_ret
          exact ⟨rfl, HM3.out.below⟩

end Go.Proofs.Ytlpjpnlfmjehnaa
