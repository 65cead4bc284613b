/- The law GrantWays, walked from the contract of Way. -/
import Derived.Test.YtlpjpnlfmjehnaaLawG1
import Derived.Test.YtlpjpnlfmjehnaaLawG2
import Derived.Test.YtlpjpnlfmjehnaaGr3
namespace Go.Proofs.Ytlpjpnlfmjehnaa
open Go.RowKit

set_option maxRecDepth 100000 in
set_option maxHeartbeats 4000000 in
theorem GrantWays_with {fn : Nat} (hfn : fn = 16) (hW : GWayOk fn) (n : Int) (es : List Ed) (A : Option Addr) (c : Nat) (x y : Int) (r : Nat) (w : World) (hr32 : r < 4294967296) (hm : es.length ≤ maxLen) (hcap : es.length ≤ c) (h32 : E32 es) (hr : Row w A (edgesC es)) (hX : Laid w) :
    Calls Try.prog 5 #[.int .i64 n, .slice A es.length c, .int .i64 x, .int .i64 y, .int .u32 (r : Int)] w fun e w' => e = .returned (.bool true) ∧ Below w.heap.size w w' := by
  subst hfn
  have HK := Lib.hid (hW n es A c x y r w hm hcap h32 hr hr32 hX)
  have HKG := Lib.hid (fun W (hb : Below w.heap.size w W) => grantCode_any n es A c x y r W hr32 (hr.below hb))
  clear hX hcap
  by_cases hc : codeGC n es x y r = 0
  · obtain ⟨g1, g2, g3, g4, g5, g6, _⟩ := codeGC_zero hc
    obtain ⟨e1, e2, e3, e4⟩ := codeE_zero g1
    have kR := fun W (hb : Below w.heap.size w W) => refCan_any n e2 es A c x y r W h32 hr32 e3 e4 ⟨g2, g3⟩ (hr.below hb)
    have HKR := Lib.hid kR
    rw [hc] at HKG
    have HC := Lib.hid hc
    clear kR
    by_cases hcan : CanE es x y r
    · obtain ⟨n, rfl⟩ := Int.eq_ofNat_of_zero_le (show 0 ≤ n by omega)
      obtain ⟨x, rfl⟩ := Int.eq_ofNat_of_zero_le g2
      obtain ⟨y, rfl⟩ := Int.eq_ofNat_of_zero_le g4
      have HRes := Lib.hid (fun l q (h : WayR n es x y r l q) => show q = 0 ∧ (∀ d ∈ l, d.kind ≠ 4 ∧ d.parts < 4294967296) ∧ l.length ≤ 1000000 ∧ (sub r (overL es x y) = true → l = []) ∧ sub r ((runG n es l).2.ov x y) = true by
        have := h.2.2 hc hcan
        simpa only [Int.toNat_natCast] using this)
      have HKO := Lib.hid (fun W (hb : Below w.heap.size w W) => Over_any es A c x y W h32 (by omega) (hr.below hb))
      have HKGr := Lib.hid (fun (l : List Dd) (A3 : Option Addr) (c3 : Nat) W (hb : Below w.heap.size w W) (hp : ∀ d ∈ l, d.parts < 4294967296) (hl : l.length ≤ 1000000) (hr3 : Row W A3 (deedsC l)) => refGrant_any n es l A A3 c c3 W g1 h32 hp hl (hr.below hb) hr3)
      have HFi := Lib.hid (fun (l : List Dd) (hp : ∀ d ∈ l, d.parts < 4294967296) => fineG_run (l := l) g1 h32 hp)
      have u1 := overL_u32 h32 x y
      have HCan := Lib.hid hcan
      clear hc g1 e1 e3 e4 hm g6
      go_enter Try.func5, Try.ntmps5
      go_wp2_with fail
      refine HK.out.mono ?_
      rintro e w1 ⟨B, k, l, q, rfl, hres, hrow, hb1⟩
      obtain ⟨rfl, hno, hll, hem, hsub⟩ := HRes.out _ _ hres
      have HL := Lib.hid (And.intro hno (And.intro hem hsub))
      clear hres hno hem hsub
      go_wp2_with fail
      refine (HKG.out _ hb1).mono ?_
      rintro e w2 ⟨rfl, hb2⟩
      have hrow2 := hrow.below hb2
      have hb3 := hb1.trans (hb2.mono hb1.size)
      clear hb1 hb2 hrow
      go_wp2_with fail
      refine (HKR.out _ hb3).mono ?_
      rintro e w3 ⟨b, rfl, hb, hb4⟩
      obtain rfl : b = true := hb.2 HCan.out
      have hrow3 := hrow2.below hb4
      have hb5 := hb3.trans (hb4.mono hb3.size)
      clear hb hb3 hb4 hrow2
      go_wp2_with fail
      go_loopw [54] (fun v wr => ∃ j : Nat, v = .int .i64 j ∧ j ≤ l.length ∧ Below w3.heap.size w3 wr) (fun v _ => l.length - (intOf v).toNat)
      case atStart => exact ⟨0, rfl, Nat.zero_le _, Below.refl _ _⟩
      case round =>
        obtain ⟨j, rfl, hj, hbr⟩ := hrel
        by_cases hlt : j < l.length
        · obtain ⟨d, hd⟩ := get_some hlt
          obtain ⟨b3, o3, rfl, q0, q1, q2, q3, q4, q5⟩ := RowD.cells (hrow3.below hbr) hd
          have hk4 := (HL.out.1 d (List.mem_of_getElem? hd)).1
          have HB := Lib.hid (hbr.alloc hbr.size (.cells #[.int .i64 d.kind, .int .i64 d.who, .int .i64 d.tgt, .int .i64 d.lev, .int .u32 (d.parts : Int), .int .i64 d.val] 46))
          have hz := heap_alloc_new wr (.cells #[.int .i64 d.kind, .int .i64 d.who, .int .i64 d.tgt, .int .i64 d.lev, .int .u32 (d.parts : Int), .int .i64 d.val] 46)
          have z0 := cell_of_row _ _ 0 _ _ _ hz
          clear hd hbr hz
          obtain ⟨kind, who, tgt, lev, parts, val⟩ := d
          simp only at q0 q1 q2 q3 q4 q5 hk4 z0 HB
          have hkb : (kind == 4) = false := by rw [beq_eq_false_iff_ne]; exact hk4
          have z0' : (wr.alloc (.cells #[.int .i64 kind, .int .i64 who, .int .i64 tgt, .int .i64 lev, .int .u32 (parts : Int), .int .i64 val] 46)).cell? ⟨wr.heap.size, 0, none⟩ = some (.int .i64 kind) := z0
          clear z0 hk4
          go_wp2
          go_roundw
          case rel => exact ⟨j + 1, by go_num, by omega, HB.out⟩
          case measure => simp [intOf]; omega
        · obtain rfl : j = l.length := by omega
          have HB6 := Lib.hid (hb5.trans (hbr.mono hb5.size))
          have HRow := Lib.hid (hrow3.below hbr)
          obtain ⟨s0, hs0⟩ : ∃ s0, sub r (overL es x y) = s0 := ⟨_, rfl⟩
          have HS0 := Lib.hid hs0
          have hin := fun W => In_any r (overL es x y) hr32 u1 W
          simp only [show (r ||| overL es x y == overL es x y) = s0 from hs0] at hin
          have kO := fun W hb => HKO.out W hb
          generalize overL es x y = ov0 at hin kO u1
          clear hbr hrow3 hb5 hs0
          go_wp2_with fail
          refine (kO _ HB6.out).mono ?_
          rintro e w7 ⟨rfl, hb7⟩
          have HB7 := Lib.hid (HB6.out.trans (hb7.mono HB6.out.size))
          have HRow7 := Lib.hid (HRow.out.below hb7)
          clear hb7
          go_wp2_with fail
          refine (hin _).mono ?_
          rintro e w8 ⟨rfl, rfl⟩
          cases s0 with
          | true =>
            have hl0 := HL.out.2.1 HS0.out
            have hlen : ((l.length : Nat) : Int) = 0 := by rw [hl0]; rfl
            have HLn := Lib.hid hlen
            go_wp2_with fail
            go_ret
            exact ⟨by first | rfl | simp [HLn.out], HB7.out⟩
          | false =>
            have hF := HFi.out l (fun d hd => (HL.out.1 d hd).2)
            go_wp2_with fail
            refine (HKGr.out l B k _ HB7.out (fun d hd => (HL.out.1 d hd).2) hll HRow7.out).mono ?_
            rintro e w9 ⟨Bc, cc, Be, ce, rfl, q1, q2, hb9⟩
            have HB9 := Lib.hid (HB7.out.trans (hb9.mono HB7.out.size))
            have HM9 := Lib.hid (((RowsM.nil w).grow HB9.out).newAlloc (cs := #[.slice Bc (runG n es l).1.length cc, .int .i64 ((runG n es l).2.n : Int), .slice Be (edgesG (runG n es l).2).length ce]) (t := 26) 3 1 (by decide) rfl)
            have z2 := HM9.out.cell (k := 0) rfl (j := 2) rfl
            obtain ⟨_, _, e2', _, p2⟩ := own_row q2
            simp only [Value.slice.injEq, true_and] at e2'
            obtain ⟨rfl, rfl⟩ := e2'
            have kO2 := fun W (hb : Below w9.heap.size w9 W) => Over_any (edgesG (runG n es l).2) Be ce x y W (E32_edgesG hF) (by have := edgesG_len hF.2.1; omega) (p2.below hb)
            have ho := over_edgesG hF x y
            simp only [ho] at kO2
            have u2 := hF.2.2.1 x y
            have hs := HL.out.2.2
            have hin2 := fun W => In_any r ((runG n es l).2.ov x y) hr32 u2 W
            simp only [show (r ||| (runG n es l).2.ov x y == (runG n es l).2.ov x y) = true from hs] at hin2
            have HBz := Lib.hid ((Below.refl w9.heap.size w9).alloc (Nat.le_refl _) (.cells #[.slice Bc (runG n es l).1.length cc, .int .i64 ((runG n es l).2.n : Int), .slice Be (edgesG (runG n es l).2).length ce] 26))
            clear q1 q2 hb9 hF ho hs p2
            generalize (runG n es l).2.ov x y = ovx at *
            generalize (runG n es l).1.length = lc at *
            generalize (edgesG (runG n es l).2).length = le at *
            generalize ((runG n es l).2.n : Int) = nn at *
            go_wp2_with fail
            refine (kO2 _ HBz.out).mono ?_
            rintro e w10 ⟨rfl, hb10⟩
            have HM10 := Lib.hid (HM9.out.grow hb10)
            clear hb10
            go_wp2_with fail
            refine (hin2 _).mono ?_
            rintro e w11 ⟨rfl, rfl⟩
            go_wp2
            go_ret
            exact ⟨rfl, HM10.out.below⟩
    · have HRes := Lib.hid (fun l q (h : WayR n es x y r l q) => show q = 5 ∧ l = [] from h.2.1 hc hcan)
      have HCan := Lib.hid hcan
      clear hc g1 e1 e3 e4 hm hcan g6
      go_enter Try.func5, Try.ntmps5
      go_wp2_with fail
      refine HK.out.mono ?_
      rintro e w1 ⟨B, k, l, q, rfl, hres, hrow, hb1⟩
      obtain ⟨rfl, rfl⟩ := HRes.out _ _ hres
      clear hres hrow
      simp only [List.length_nil]
      go_wp2_with fail
      refine (HKG.out _ hb1).mono ?_
      rintro e w2 ⟨rfl, hb2⟩
      have hb3 := hb1.trans (hb2.mono hb1.size)
      clear hb1 hb2
      go_wp2_with fail
      refine (HKR.out _ hb3).mono ?_
      rintro e w3 ⟨b, rfl, hb, hb4⟩
      obtain rfl : b = false := by cases b with | false => rfl | true => exact absurd (hb.1 rfl) HCan.out
      have hb5 := hb3.trans (hb4.mono hb3.size)
      clear hb hb3 hb4
      go_wp2
      go_ret
      exact ⟨rfl, hb5⟩
  · have HRes := Lib.hid (fun l q (h : WayR n es x y r l q) => show q = codeGC n es x y r ∧ l = [] from h.1 hc)
    generalize codeGC n es x y r = qc at *
    have hq1 : (qc == 0) = false := by rw [beq_eq_false_iff_ne]; exact hc
    have hq2 : (qc != 0) = true := by simpa using hc
    clear hc hm
    go_enter Try.func5, Try.ntmps5
    go_wp2_with fail
    refine HK.out.mono ?_
    rintro e w1 ⟨B, k, l, q, rfl, hres, hrow, hb1⟩
    obtain ⟨rfl, rfl⟩ := HRes.out _ _ hres
    clear hres hrow
    simp only [List.length_nil]
    go_wp2_with fail
    refine (HKG.out _ hb1).mono ?_
    rintro e w2 ⟨rfl, hb2⟩
    have hb3 := hb1.trans (hb2.mono hb1.size)
    clear hb1 hb2
    go_wp2
    go_ret
    exact ⟨rfl, hb3⟩

end Go.Proofs.Ytlpjpnlfmjehnaa
