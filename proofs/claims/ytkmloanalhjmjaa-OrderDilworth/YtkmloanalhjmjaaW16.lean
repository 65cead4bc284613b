/- order.findNext and order.matchNeighbours. -/
import Derived.Test.YtkmloanalhjmjaaDil
import Derived.Test.YtkmloanalhjmjaaW15
namespace Go.Proofs.Ytkmloanalhjmjaa
open Go.RowKit

/-- A table of ints of the call's own, in block g. -/
def itz (n : Nat) (f : Nat → Int) : List Int := (List.range n).map f
theorem itz_length (n : Nat) (f : Nat → Int) : (itz n f).length = n := by simp [itz]
theorem itz_at {n k : Nat} (f : Nat → Int) (h : k < n) : (itz n f)[k]? = some (f k) := by simp [itz, h]
def updZ (f : Nat → Int) (a : Nat) (v : Int) : Nat → Int := fun x => if x = a then v else f x
def OwnZ (w : World) (B g n : Nat) (f : Nat → Int) : Prop := w.ownsRow B 3 1 (.slice (some ⟨g, 0, none⟩) n n) n (ints (itz n f))
theorem OwnZ.cell {w : World} {B g n : Nat} {f : Nat → Int} (h : OwnZ w B g n f) {a : Nat} (ha : a < n) : w.cell? ⟨g, a, none⟩ = some (.int .i64 (f a)) :=
  (World.ownsRow.cellAt h a (by omega)).trans (ints_at (itz_at f ha))
theorem OwnZ.free {w : World} {B g n : Nat} {f : Nat → Int} (h : OwnZ w B g n f) (a : Nat) : w.frozen? ⟨g, a, none⟩ = false := World.ownsRow.frozenAt h a
theorem itz_set (n : Nat) (f : Nat → Int) (a : Nat) (v : Int) : (ints (itz n f)).set a (.int .i64 v) = ints (itz n (updZ f a v)) := by
  apply List.ext_getElem?
  intro i
  rw [List.getElem?_set]
  simp only [ints, itz, List.map_map, List.length_map, List.length_range, List.getElem?_map]
  by_cases hi : i < n
  · rw [List.getElem?_range hi]
    by_cases ha : a = i
    · subst ha; simp [hi, updZ]
    · rw [if_neg ha]; simp [updZ, show ¬ i = a from fun e => ha e.symm]
  · have h0 : (List.range n)[i]? = none := List.getElem?_eq_none (by simp; omega)
    rw [h0]
    by_cases ha : a = i <;> simp [ha, hi]
theorem OwnZ.stored {w : World} {B g n : Nat} {f : Nat → Int} (h : OwnZ w B g n f) (a : Nat) (v : Int) : OwnZ (w.setCell ⟨g, a, none⟩ (.int .i64 v)) B g n (updZ f a v) := by
  have := (World.ownsRow.stored h a (.int .i64 v)).1
  unfold OwnZ
  rw [← itz_set]
  exact this
theorem OwnZ.congr {w : World} {B g n : Nat} {f f' : Nat → Int} (h : OwnZ w B g n f) (e : ∀ i, i < n → f i = f' i) : OwnZ w B g n f' := by
  unfold OwnZ
  have : itz n f = itz n f' := List.map_congr_left fun i hi => e i (by simpa using hi)
  rw [← this]
  exact h
theorem OwnZ.below {w w' : World} {B g n : Nat} {f : Nat → Int} (h : OwnZ w B g n f) (hb : Below w.heap.size w w') : OwnZ w' B g n f := own_below h hb
theorem OwnZ.rebase {w : World} {B B' g n : Nat} {f : Nat → Int} (h : OwnZ w B g n f) (hb : B' ≤ B) : OwnZ w B' g n f := own_rebase h hb
theorem OwnZ.lt {w : World} {B g n : Nat} {f : Nat → Int} (h : OwnZ w B g n f) : B ≤ g ∧ g < w.heap.size := World.ownsRow.lt h g rfl
theorem OwnZ.other {w : World} {B g n : Nat} {f : Nat → Int} (h : OwnZ w B g n f) {p : Addr} (hp : g ≠ p.block) (u : Value) : OwnZ (w.setCell p u) B g n f := by
  refine World.ownsRow.kept (row := some p.block) h ⟨rfl, rfl, rfl, by simp [World.setCell], fun k _ hk => Below.heap_setCell w p u k (fun e => hk (by rw [e]))⟩ (.inr ?_)
  simp [Value.ownBlock]
  exact hp

/-- Who stands before, as numbers: -1 for nobody. -/
def bv (m : Bef) : Nat → Int := fun b => match m b with
  | none => -1
  | some a => (a : Int)
theorem bv_none {m : Bef} {b : Nat} (h : m b = none) : bv m b = -1 := by simp [bv, h]
theorem bv_some {m : Bef} {b a : Nat} (h : m b = some a) : bv m b = (a : Int) := by simp [bv, h]
theorem bv_set (m : Bef) (b a : Nat) : updZ (bv m) b (a : Int) = bv (setB m b a) := by
  funext x
  by_cases e : x = b
  · subst e; simp [updZ, bv, setB]
  · simp [updZ, bv, setB, e]

/-- Only two blocks have been written. -/
structure Two (w w' : World) (g1 g2 : Nat) : Prop where
  os : w'.os = w.os
  tape : w'.tape = w.tape
  output : w'.output = w.output
  size : w'.heap.size = w.heap.size
  block : ∀ k, k ≠ g1 → k ≠ g2 → w'.heap[k]? = w.heap[k]?
theorem Two.refl (w : World) (g1 g2 : Nat) : Two w w g1 g2 := ⟨rfl, rfl, rfl, rfl, fun _ _ _ => rfl⟩
theorem Two.trans {a b c : World} {g1 g2 : Nat} (h : Two a b g1 g2) (k : Two b c g1 g2) : Two a c g1 g2 :=
  ⟨k.os.trans h.os, k.tape.trans h.tape, k.output.trans h.output, k.size.trans h.size, fun i h1 h2 => (k.block i h1 h2).trans (h.block i h1 h2)⟩
theorem Two.drewN {a w : World} {g1 g2 : Nat} (h : Two a w g1 g2) (n : Nat) : Two a (w.drewN n) g1 g2 := ⟨h.os, h.tape, h.output, h.size, h.block⟩
theorem Two.drew {a w : World} {g1 g2 : Nat} (h : Two a w g1 g2) : Two a w.drew g1 g2 := ⟨h.os, h.tape, h.output, h.size, h.block⟩
theorem Two.set1 {a w : World} {g1 g2 : Nat} (h : Two a w g1 g2) (o : Nat) (u : Value) : Two a (w.setCell ⟨g1, o, none⟩ u) g1 g2 :=
  ⟨h.os, h.tape, h.output, by simpa [World.setCell] using h.size, fun i h1 h2 => (Below.heap_setCell w ⟨g1, o, none⟩ u i h1).trans (h.block i h1 h2)⟩
theorem Two.set2 {a w : World} {g1 g2 : Nat} (h : Two a w g1 g2) (o : Nat) (u : Value) : Two a (w.setCell ⟨g2, o, none⟩ u) g1 g2 :=
  ⟨h.os, h.tape, h.output, by simpa [World.setCell] using h.size, fun i h1 h2 => (Below.heap_setCell w ⟨g2, o, none⟩ u i h2).trans (h.block i h1 h2)⟩
theorem Two.tab {w w' : World} {g1 g2 g off n : Nat} {f : Nat → Nat} (h : Two w w' g1 g2) (hg1 : g ≠ g1) (hg2 : g ≠ g2) (ht : Tab w (some ⟨g, off, none⟩) n f) : Tab w' (some ⟨g, off, none⟩) n f := by
  rcases ht with h0 | ⟨b, o, he, hc⟩
  · exact .inl h0
  · simp only [Option.some.injEq, Addr.mk.injEq, and_true] at he
    obtain ⟨rfl, rfl⟩ := he
    exact .inr ⟨g, off, rfl, fun j v hv => (World.cell?_of_block (a := ⟨g, off + j, none⟩) (h.block g hg1 hg2)).trans (hc j v hv)⟩
theorem Two.below {w w' : World} {g1 g2 B : Nat} (h : Two w w' g1 g2) (h1 : B ≤ g1) (h2 : B ≤ g2) : Below B w w' :=
  ⟨h.os, h.tape, h.output, by rw [h.size]; exact Nat.le_refl _, fun k hk => h.block k (by omega) (by omega)⟩

/-- A cell of its own: the word of what has been tried. -/
def Cel (w : World) (g v : Nat) : Prop := w.heap[g]? = some (.cells #[.int .u32 (v : Int)] 29 (0, 0))
theorem Cel.cell {w : World} {g v : Nat} (h : Cel w g v) : w.cell? ⟨g, 0, none⟩ = some (.int .u32 (v : Int)) := by
  rw [cell_of_row w g 0 _ _ (0, 0) h]; rfl
theorem Cel.free {w : World} {g v : Nat} (h : Cel w g v) : w.frozen? ⟨g, 0, none⟩ = false := by
  unfold Cel at h; simp [World.frozen?, h]
theorem Cel.set {w : World} {g v : Nat} (h : Cel w g v) (u : Nat) : Cel (w.setCell ⟨g, 0, none⟩ (.int .u32 (u : Int))) g u := by
  unfold Cel at *
  simp [World.setCell, Array.getElem?_modify, h]
theorem Cel.other {w : World} {g v : Nat} (h : Cel w g v) {p : Addr} (hp : g ≠ p.block) (u : Value) : Cel (w.setCell p u) g v := (Below.heap_setCell w p u g hp).trans h

/-- What a search leaves. -/
def NextPost (n : Nat) (ps : List (Int × Int)) (a : Nat) (T : Nat → Bool) (m : Bef) (B gb gt : Nat) (w : World) (e : Ending) (w' : World) : Prop :=
  ∃ (ok : Bool) (m' : Bef) (T' : Nat → Bool), e = .returned (.bool ok) ∧ (ok = true → Found n (ab ps) a T m m') ∧ (ok = false → m' = m ∧ Lost n (ab ps) a T T' m n) ∧ OwnZ w' B gb n (bv m') ∧ Cel w' gt (wordOf n T') ∧ Two w w' gb gt
/-- The loop of the search. -/
def NextRel (n : Nat) (ps : List (Int × Int)) (a : Nat) (T : Nat → Bool) (m : Bef) (B gb gt : Nat) (w : World) (i : Value) (wr : World) : Prop :=
  ∃ (b : Nat) (T' : Nat → Bool), i = .int .i64 b ∧ b ≤ n ∧ Lost n (ab ps) a T T' m b ∧ OwnZ wr B gb n (bv m) ∧ Cel wr gt (wordOf n T') ∧ Two w wr gb gt

/-- The word of what is above a and not tried. -/
theorem u32_open {n a : Nat} {ps : List (Int × Int)} (hn : n ≤ 6) (T : Nat → Bool) : ∃ W : Nat, W < 4294967296 ∧ bits .andNot .u32 (upT n ps a : Int) (wordOf n T : Int) = (W : Int) ∧ ∀ b, b < n → W.testBit b = (under ps a b && !T b) := by
  refine ⟨upT n ps a &&& (4294967295 - wordOf n T), Nat.lt_of_le_of_lt Nat.and_le_left (upT_u32 hn ps a), u32_andNot_nat _ _ (upT_u32 hn ps a) (wordOf_u32 hn T), fun b hb => ?_⟩
  rw [Nat.testBit_and, upT_testBit, testBit_not32 (wordOf_u32 hn T) (by omega), testBit_wordOf]
  simp [hb]
theorem wordOf_add {n b : Nat} (hb : b < n) (T : Nat → Bool) : wordOf n T ||| one b = wordOf n (addT T b) :=
  wordOf_of (or_lt_one (wordOf_lt _ _) (one_lt_one hb)) fun i hi => by
    rw [Nat.testBit_or, testBit_wordOf, one_testBit]
    simp only [hi, decide_true, Bool.true_and, addT]
    rw [Bool.or_comm]
    congr 1
    rw [decide_eq_decide]
    exact eq_comm

set_option maxHeartbeats 2000000 in
theorem findNext_any (n : Nat) (ps : List (Int × Int)) (B gb gt ga oa : Nat) (c : Nat) (hn1 : 1 ≤ n) (hn6 : n ≤ 6) (hbt : gb ≠ gt) (hab1 : ga ≠ gb) (hab2 : ga ≠ gt) : ∀ (d : Nat) (a : Nat) (T : Nat → Bool) (m : Bef) (w : World),
    leftT n T = d → a < n → Mat n (ab ps) m → (∀ b, b < n → m b = some a → T b = true) → Tab w (some ⟨ga, oa, none⟩) n (upT n ps) → OwnZ w B gb n (bv m) → Cel w gt (wordOf n T) →
    Calls Try.prog 51 #[.slice (some ⟨ga, oa, none⟩) n c, .slice (some ⟨gb, 0, none⟩) n n, .int .i64 a, .pointer (some ⟨gt, 0, none⟩)] w (NextPost n ps a T m B gb gt w) := by
  intro d
  induction d using Nat.strongRecOn with
  | _ d ih =>
    intro a T m w hd han hmat hva ht hz hc
    have IH := Lib.hid ih
    have HD := Lib.hid hd
    have HM := Lib.hid hmat
    have HV := Lib.hid hva
    have HT := Lib.hid ht
    have HZ := Lib.hid hz
    have HC := Lib.hid hc
    clear ih hd hmat hva ht hz hc
    go_enter Try.func51, Try.ntmps51
    go_wp2
    go_loopw [12] (fun i wr => NextRel n ps a T m B gb gt w i wr) (fun i _ => n - (intOf i).toNat)
    case atStart => exact ⟨0, T, rfl, Nat.zero_le _, Lost.init _ _ _ _ _, HZ.out, HC.out, Two.refl _ _ _⟩
    case round =>
      clear HZ HC
      obtain ⟨b, T1, rfl, hb, hl, hz, hc, htwo⟩ := hrel
      have HL := Lib.hid hl
      have HZ := Lib.hid hz
      have HC := Lib.hid hc
      clear hl hz hc
      by_cases hbn : b < n
      · obtain ⟨W, hW32, hW, hWt⟩ := u32_open (a := a) (ps := ps) hn6 T1
        have HW := Lib.hid hWt
        have hca := (htwo.tab hab1 hab2 HT.out).cell (by omega)
        obtain ⟨g', o', he', hcu⟩ := hca
        simp only [Option.some.injEq, Addr.mk.injEq, and_true] at he'
        obtain ⟨rfl, rfl⟩ := he'
        have hca := hcu a han
        have hct := HC.out.cell
        clear hWt hcu
        by_cases hab : a = b
        · have hd1 : ((a : Int) == (b : Int)) = true := by simp; omega
          have HE := Lib.hid (show ab ps a b = false by simp [ab, hab])
          clear hab
          go_wp2
          go_quiet (fail)
          go_wp2
          go_roundw
          case rel => exact ⟨b + 1, T1, by go_num, by omega, HL.out.skip (.inl HE.out), HZ.out, HC.out, htwo.drewN _⟩
          case measure => simp [intOf]; omega
        · have hd1 : ((a : Int) == (b : Int)) = false := by simp; omega
          have HAB := Lib.hid hab
          clear hab
          cases hbit : W.testBit b with
          | false =>
            have HB := Lib.hid hbit
            have HE := Lib.hid (show ab ps a b = false ∨ T1 b = true by
              have h1 := HW.out b hbn
              rw [hbit] at h1
              cases hu : under ps a b with
              | false => left; simp [ab, hu]
              | true => right; rw [hu] at h1; simpa using h1.symm)
            clear hbit
            go_wp2
            go_quiet ((go_at_call 48; exact Calls.quiet_of_same (has_still W b HB.out (by omega) hW32 _)))
            go_wp2
            go_roundw
            case rel => exact ⟨b + 1, T1, by go_num, by omega, HL.out.skip HE.out, HZ.out, HC.out, htwo.drewN _⟩
            case measure => simp [intOf]; omega
          | true =>
            have HB := Lib.hid hbit
            obtain ⟨hu, hT1⟩ : under ps a b = true ∧ T1 b = false := by
              have h1 := HW.out b hbn
              rw [hbit] at h1
              have h2 := h1.symm
              rw [Bool.and_eq_true] at h2
              exact ⟨h2.1, by simpa using h2.2⟩
            have HE := Lib.hid (show ab ps a b = true from ab_iff.2 ⟨HAB.out, hu⟩)
            have HT1 := Lib.hid hT1
            have hw1 := wordOf_u32 hn6 T1
            have h1b : one b < 4294967296 := one_lt (by omega)
            have HOr := Lib.hid (show bits .or .u32 (wordOf n T1 : Int) (one b : Int) = (wordOf n (addT T1 b) : Nat) by rw [u32_or_nat _ _ hw1 h1b, wordOf_add hbn])
            clear hbit hu hT1
            go_wp2
            go_quiet ((go_at_call 48; exact Calls.quiet_of_same (has_still W b HB.out (by omega) hW32 _)))
            have HZ3 : Hid (OwnZ (wr.drewN nq) B gb n (bv m)) := HZ
            have HC3 : Hid (Cel (wr.drewN nq) gt (wordOf n T1)) := HC
            have HT3 := Lib.hid (htwo.drewN nq)
            have hct3 := HC3.out.cell
            have hft3 := HC3.out.free
            clear HZ HC htwo hca hct hW
            generalize wr.drewN nq = w3 at *
            go_wp2
            refine wp_region_still_tail 7 (by kernel_rfl) (by kernel_rfl) ?_
            simp only [List.take_succ_cons, List.take_zero, List.drop_succ_cons, List.drop_zero]
            iterate 4 still_step
            still_call (only_still b (by omega) _)
            iterate 2 still_step
            refine wpStill_nil ?_
            rw [HOr.out]
            have HZ4 := Lib.hid (show OwnZ ((w3.setCell ⟨gt, 0, none⟩ (.int .u32 (wordOf n (addT T1 b) : Nat))).drew) B gb n (bv m) from HZ3.out.other (p := ⟨gt, 0, none⟩) hbt _)
            have HC4 := Lib.hid (show Cel ((w3.setCell ⟨gt, 0, none⟩ (.int .u32 (wordOf n (addT T1 b) : Nat))).drew) gt (wordOf n (addT T1 b)) from HC3.out.set _)
            have HT4 := Lib.hid ((HT3.out.set2 0 (.int .u32 (wordOf n (addT T1 b) : Nat))).drew)
            clear HZ3 HC3 HT3
            cases hmb : m b with
            | none =>
              have hcb : ((w3.setCell ⟨gt, 0, none⟩ (.int .u32 (wordOf n (addT T1 b) : Nat))).drew).cell? ⟨gb, b, none⟩ = some (.int .i64 (-1)) := by have := HZ4.out.cell hbn; rw [bv_none hmb] at this; exact this
              have hfb := HZ4.out.free b
              have HMb := Lib.hid hmb
              clear hmb
              go_wp2
              go_ret
              have hTb : T b = false := by
                cases e : T b with
                | false => rfl
                | true => have := HL.out.more b e; rw [HT1.out] at this; cases this
              refine ⟨true, setB m b a, addT T1 b, rfl, fun _ => Found.take HM.out HV.out han hbn HE.out hTb HMb.out, (fun h => by cases h), ?_, ?_, ?_⟩
              · have := HZ4.out.stored b (a : Int)
                rw [bv_set] at this
                exact this
              · exact HC4.out.other (p := ⟨gb, b, none⟩) (fun e => hbt e.symm) (.int .i64 (a : Int))
              · exact HT4.out.set1 b (.int .i64 (a : Int))
            | some x =>
              have hcb : ((w3.setCell ⟨gt, 0, none⟩ (.int .u32 (wordOf n (addT T1 b) : Nat))).drew).cell? ⟨gb, b, none⟩ = some (.int .i64 (x : Nat)) := by have := HZ4.out.cell hbn; rw [bv_some hmb] at this; exact this
              have hd2 : ((x : Int) == -1) = false := by rw [beq_eq_false_iff_ne]; omega
              have hxn := (HM.out.edge b x hbn hmb).1
              have HMb := Lib.hid hmb
              have HLt := Lib.hid (show leftT n (addT T1 b) < d by
                have h1 := leftT_add hbn HT1.out
                have h2 := leftT_more (n := n) HL.out.more
                have h3 := HD.out
                omega)
              have HX := Lib.hid (show ∀ b', b' < n → m b' = some x → addT T1 b b' = true from fun b' hb' h => by rw [HM.out.inj b' b x hb' hbn h hmb]; simp [addT])
              have HTab := Lib.hid (HT4.out.tab hab1 hab2 HT.out)
              clear hmb
              go_wp2_with fail
              refine (IH.out _ HLt.out x (addT T1 b) m _ rfl hxn HM.out HX.out HTab.out HZ4.out HC4.out).mono ?_
              rintro e w5 ⟨ok, m5, T5, rfl, hok1, hok2, hz5, hc5, ht5⟩
              have HZ5 := Lib.hid hz5
              have HC5 := Lib.hid hc5
              have HT5 := Lib.hid (HT4.out.trans ht5)
              cases ok with
              | true =>
                have HFd := Lib.hid (hok1 rfl)
                have hcb5 := hz5.cell hbn
                have hfb5 := hz5.free b
                clear hok1 hok2 hz5 hc5 ht5
                go_wp2
                go_ret
                refine ⟨true, setB m5 b a, T5, rfl, fun _ => (Found.move HM.out (fun y hy h => HL.out.more y (HV.out y hy h)) han hbn HE.out HT1.out HMb.out HFd.out).weaken HL.out.more HV.out, (fun h => by cases h), ?_, ?_, ?_⟩
                · have := HZ5.out.stored b (a : Int)
                  rw [bv_set] at this
                  exact this
                · exact HC5.out.other (p := ⟨gb, b, none⟩) (fun e => hbt e.symm) (.int .i64 (a : Int))
                · exact HT5.out.set1 b (.int .i64 (a : Int))
              | false =>
                obtain ⟨rfl, hl5⟩ := hok2 rfl
                have HL5 := Lib.hid hl5
                clear hok1 hok2 hz5 hc5 ht5 hl5
                go_wp2
                go_roundw
                case rel => exact ⟨b + 1, T5, by go_num, by omega, HL.out.tried HMb.out HL5.out, HZ5.out, HC5.out, HT5.out⟩
                case measure => simp [intOf]; omega
      · obtain rfl : b = n := by omega
        go_wp2
        go_ret
        exact ⟨false, m, T1, rfl, (fun h => by cases h), fun _ => ⟨rfl, HL.out⟩, HZ.out, HC.out, htwo⟩

theorem ownZ_made {w : World} {B g n : Nat} (h : w.ownsRow B 3 1 (.slice (some ⟨g, 0, none⟩) n n) n (madeCells #[Value.int .i64 0] n).toList) : OwnZ w B g n fun _ => 0 := by
  unfold OwnZ
  have e : (madeCells #[Value.int .i64 0] n).toList = ints (itz n fun _ => 0) := by
    rw [toList_madeCells_one]
    apply List.ext_getElem?
    intro i
    by_cases hi : i < n <;> simp [ints, itz, hi]
  rw [← e]
  exact h
/-- The first a are -1. -/
def minus (a : Nat) : Nat → Int := fun x => if x < a then -1 else 0
theorem minus_step (a : Nat) : updZ (minus a) a (-1) = minus (a + 1) := by
  funext x
  unfold updZ minus
  by_cases e : x = a
  · subst e; simp
  · have : (x < a) = (x < a + 1) := by apply propext; omega
    simp only [e, if_false, this]
theorem minus_all {n i : Nat} (hi : i < n) : minus n i = bv (fun _ => none) i := by simp [minus, bv, hi]
theorem cel_new (w : World) (n : Nat) : Cel (w.alloc (.cells #[.int .u32 0] 29)) w.heap.size (wordOf n fun _ => false) := by
  have e : wordOf n (fun _ => false) = 0 := (wordOf_of (one_pos n) fun i _ => by simp).symm
  rw [e]
  exact heap_alloc_new w _

def MatRel (n : Nat) (ps : List (Int × Int)) (w : World) (i : Value) (wr : World) : Prop :=
  ∃ (k : Nat) (m : Bef) (F D : Nat → Bool), i = .int .i64 k ∧ k ≤ n ∧ Run n (ab ps) m F D k ∧ OwnZ wr w.heap.size w.heap.size n (bv m) ∧ Below w.heap.size w wr

set_option maxHeartbeats 2000000 in
theorem matchNeighbours_any (n : Nat) (ps : List (Int × Int)) (A : Option Addr) (c : Nat) (w : World) (hr : Tab w A n (upT n ps)) (hn1 : 1 ≤ n) (hn6 : n ≤ 6) :
    Calls Try.prog 47 #[.slice A n c] w fun e w' => ∃ (m : Bef) (F D : Nat → Bool), e = .returned (.slice (some ⟨w.heap.size, 0, none⟩) n n) ∧ Run n (ab ps) m F D n ∧ OwnZ w' w.heap.size w.heap.size n (bv m) ∧ Below w.heap.size w w' := by
  obtain ⟨i0, hi, hz0, hz1, hz2⟩ := info_parts info3
  have HI := Lib.hid (And.intro hi (And.intro hz0 (And.intro hz1 hz2)))
  clear hi hz0 hz1 hz2
  obtain ⟨ga, oa, rfl, hcu⟩ := hr.cell (by omega)
  have hga : ga < w.heap.size := block_lt_of_cell (hcu 0 (by omega))
  clear hcu
  go_enter Try.func47, Try.ntmps47
  go_wp2_with (at_make; refine wpList_make_full _ rfl _ _ 36 rfl w.heap.size 3 i0 (.int .i64 0) 1 Try.underlying36 HI.out.1 HI.out.2.1 HI.out.2.2.1 .i64 .i64 n n n rfl rfl rfl rfl ?b2 ?b3 (Nat.le_refl _) ?c5)
  case b2 => rw [HI.out.2.2.2]; omega
  case b3 => unfold maxLen; omega
  case c5 =>
    intro w1 hown hgrow
    have HO := Lib.hid (ownZ_made hown)
    have hb1 : Below w.heap.size w w1 := (Below.refl w.heap.size w).grown hgrow (Nat.le_refl _) (by intro k hk; cases hk)
    clear hown hgrow
    go_wp2
    go_loopw [12] (fun v wr => ∃ a : Nat, v = .int .i64 a ∧ a ≤ n ∧ OwnZ wr w.heap.size w.heap.size n (minus a) ∧ Below w.heap.size w wr) (fun v _ => n - (intOf v).toNat)
    case atStart => exact ⟨0, rfl, Nat.zero_le _, HO.out.congr (fun i _ => by simp [minus]), hb1⟩
    case round =>
      clear HO hb1
      obtain ⟨a, rfl, ha, hown, hbel⟩ := hrel
      have HO := Lib.hid hown
      by_cases hlt : a < n
      · have hc := hown.cell hlt
        have hf := hown.free a
        clear hown
        go_wp2
        go_roundw
        case rel => exact ⟨a + 1, by go_num, by omega, by rw [← minus_step]; exact HO.out.stored a (-1), hbel.setCell (Nat.le_refl _) _⟩
        case measure => simp [intOf]; omega
      · obtain rfl : a = n := by omega
        clear hown
        go_wp2
        go_loopw [21] (fun v wr => MatRel a ps w v wr) (fun v _ => a - (intOf v).toNat)
        case atStart => exact ⟨0, _, _, _, rfl, Nat.zero_le _, Run.init a (ab ps), HO.out.congr (fun i hi => minus_all hi), hbel⟩
        case round =>
          clear HO hbel
          obtain ⟨k, m, F, D, rfl, hk, hrun, hown, hbel⟩ := hrel
          have HR := Lib.hid hrun
          have HO := Lib.hid hown
          have hsz := hown.lt.2
          clear hrun hown
          by_cases hkn : k < a
          · have HO2 := Lib.hid (show OwnZ (wr.alloc (.cells #[.int .u32 0] 29)) w.heap.size w.heap.size a (bv m) from HO.out.below ((Below.refl wr.heap.size wr).alloc (Nat.le_refl _) _))
            have HC2 := Lib.hid (cel_new wr a)
            have hb2 := hbel.alloc hbel.size (.cells #[.int .u32 0] 29)
            have HT2 := Lib.hid (hr.below hb2)
            have HV := Lib.hid (show ∀ b, b < a → m b = some k → (fun _ => false : Nat → Bool) b = true from fun b hb h => by have := (HR.out.mine b k hb h).1; omega)
            go_wp2_with fail
            refine (findNext_any a ps w.heap.size w.heap.size wr.heap.size ga oa c hn1 hn6 (by omega) (by omega) (by omega) _ k (fun _ => false) m _ rfl hkn HR.out.mat HV.out HT2.out HO2.out HC2.out).mono ?_
            rintro e w3 ⟨ok, m3, T3, rfl, hok1, hok2, hz3, hc3, ht3⟩
            have HO3 := Lib.hid hz3
            have hb3 : Below w.heap.size w w3 := hb2.trans (ht3.below (Nat.le_refl _) (by omega))
            cases ok with
            | true =>
              have HW := Lib.hid (HR.out.won hkn (hok1 rfl))
              clear hok1 hok2 hz3 hc3 ht3 HO HO2 HC2
              go_wp2
              go_roundw
              case rel => exact ⟨k + 1, m3, F, D, by go_num, by omega, HW.out, HO3.out, hb3⟩
              case measure => simp [intOf]; omega
            | false =>
              obtain ⟨rfl, hl3⟩ := hok2 rfl
              have HW := Lib.hid (HR.out.failed hkn hl3)
              clear hok1 hok2 hz3 hc3 ht3 HO HO2 HC2 hl3
              go_wp2
              go_roundw
              case rel => exact ⟨k + 1, m3, _, _, by go_num, by omega, HW.out, HO3.out, hb3⟩
              case measure => simp [intOf]; omega
          · obtain rfl : k = a := by omega
            go_wp2
            go_ret
            exact ⟨m, F, D, rfl, HR.out, HO.out, hbel⟩

end Go.Proofs.Ytkmloanalhjmjaa
