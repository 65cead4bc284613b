/- truth.check, truth.dual, slices.Clone and slices.Equal of tables, truth.sums. -/
import Derived.Test.YtcebbhfpnkhlmaaTSpec
import Derived.Test.YtcebbhfpnkhlmaaAppAny
import Derived.Lib.SliceRun
namespace Go.Proofs.Ytcebbhfpnkhlmaa
open Go.RowKit

/-! ## The check -/
open Classical in
/-- The code of a number of variables and of tables. -/
noncomputable def codeF (n : Int) (fs : List (List Bool)) : Int := if LargeT n then 1 else if ∀ f ∈ fs, f.length = one n.toNat then 0 else 3
theorem codeF_large {n : Int} {fs : List (List Bool)} (h : LargeT n) : codeF n fs = 1 := by simp [codeF, h]
theorem codeF_ok {n : Int} {fs : List (List Bool)} (h : ¬ LargeT n) (h2 : ∀ f ∈ fs, f.length = one n.toNat) : codeF n fs = 0 := by rw [codeF, if_neg h, if_pos h2]
theorem codeF_bad {n : Int} {fs : List (List Bool)} (h : ¬ LargeT n) (h2 : ¬ ∀ f ∈ fs, f.length = one n.toNat) : codeF n fs = 3 := by rw [codeF, if_neg h, if_neg h2]
theorem codeF_one (n : Int) (f : List Bool) : codeF n [f] = codeT n f.length := by simp [codeF, codeT]
theorem codeF_whole {n : Int} {fs : List (List Bool)} (h : fs.length ≤ 10) : codeW n fs = codeF n fs := by
  have : LargeW n fs.length ↔ LargeT n := by unfold LargeW LargeT; omega
  unfold codeW codeF
  by_cases h : LargeT n
  · rw [if_pos (this.2 h), if_pos h]
  · rw [if_neg (fun x => h (this.1 x)), if_neg h]

set_option maxHeartbeats 1000000 in
theorem tCheck_any (n : Int) (fs : List (List Bool)) (A : Option Addr) (c : Nat) (w : World) (hl : fs.length ≤ maxLen) (ht : Tabs w A fs) :
    Calls Try.prog 30 #[.int .i64 n, .slice A fs.length c] w fun e w' => e = .returned (.int .i64 (codeF n fs)) ∧ w = w' := by
  have hll : fs.length < 9223372036854775808 := by unfold maxLen at hl; omega
  by_cases hL : LargeT n
  · have HL := Lib.hid (codeF_large (fs := fs) hL)
    have HX := Lib.hid hL
    rw [HL.out]
    by_cases h1 : n < 0
    · clear hL; go_enter Try.func30, Try.ntmps30; go_wp2; go_ret; exact ⟨rfl, rfl⟩
    · have h2 : 4 < n := by unfold LargeT at hL; omega
      clear hL; go_enter Try.func30, Try.ntmps30; go_wp2; go_ret; exact ⟨rfl, rfl⟩
  · have HL := Lib.hid hL
    obtain ⟨n, rfl⟩ := Int.eq_ofNat_of_zero_le (show 0 ≤ n by unfold LargeT at hL; omega)
    have hn : n ≤ 4 := by unfold LargeT at hL; omega
    clear hL
    have h1 := one_i64 n
    have h16 := one_le_16 hn
    go_enter Try.func30, Try.ntmps30
    go_wp2
    go_loopw [15] (fun v wr => ∃ k : Nat, v = .int .i64 k ∧ k ≤ fs.length ∧ (∀ f ∈ fs.take k, f.length = one n) ∧ w = wr) (fun v _ => fs.length - (intOf v).toNat)
    case atStart => exact ⟨0, rfl, Nat.zero_le _, by simp, rfl⟩
    case round =>
      obtain ⟨k, rfl, hk, hal, rfl⟩ := hrel
      have HA := Lib.hid hal
      clear hal
      by_cases hlt : k < fs.length
      · obtain ⟨f, hf⟩ := get_some hlt
        obtain ⟨hfl, b, off, B, d, rfl, hc, hrow⟩ := ht.at hf
        have HF := Lib.hid hf
        clear hf hrow
        have hfl' : f.length < 9223372036854775808 := by unfold maxLen at hfl; omega
        by_cases h2 : f.length = one n
        · have hd : ((f.length : Int) != (one n : Int)) = false := by simp [h2]
          have HN := Lib.hid (show ∀ g ∈ fs.take (k + 1), g.length = one n by
            intro g hg
            rw [List.take_add_one, HF.out, List.mem_append] at hg
            rcases hg with hg | hg
            · exact HA.out g hg
            · simp at hg; rw [hg]; exact h2)
          clear h2
          go_wp2
          go_roundw
          case rel => exact ⟨k + 1, by go_num, by omega, HN.out, by first | exact trivial | rfl⟩
          case measure => simp [intOf]; omega
        · have hd : ((f.length : Int) != (one n : Int)) = true := by simp; omega
          have HC := Lib.hid (codeF_bad HL.out (fs := fs) (fun h => h2 (h f (List.mem_of_getElem? HF.out))))
          clear h2
          go_wp2
          go_ret
          exact ⟨ret_int HC.out.symm, rfl⟩
      · obtain rfl : k = fs.length := by omega
        have HC := Lib.hid (codeF_ok HL.out (fs := fs) (fun f hf => HA.out f (by rw [List.take_length]; exact hf)))
        go_wp2
        go_ret
        exact ⟨ret_int HC.out.symm, rfl⟩

/-! ## The dual -/
/-- The last s elements of a table of L are made. -/
def backF (L : Nat) (D : Nat → Bool) (s : Nat) : Nat → Bool := fun i => if L ≤ i + s then D i else false
theorem backF_zero {L : Nat} (D : Nat → Bool) {i : Nat} (h : i < L) : false = backF L D 0 i := by unfold backF; rw [if_neg (by omega)]
theorem backF_succ {L : Nat} (D : Nat → Bool) {s i : Nat} (hs : s < L) : updB (backF L D s) (L - 1 - s) (D (L - 1 - s)) i = backF L D (s + 1) i := by
  unfold updB backF
  by_cases h : i = L - 1 - s
  · rw [if_pos h, if_pos (by omega), h]
  · rw [if_neg h]
    by_cases h2 : L ≤ i + s
    · rw [if_pos h2, if_pos (by omega)]
    · rw [if_neg h2, if_neg (by omega)]
theorem backF_all {L : Nat} {D : Nat → Bool} {i : Nat} : backF L D L i = D i := by unfold backF; rw [if_pos (by omega)]

set_option maxHeartbeats 2000000 in
theorem tDual_any (n : Nat) (hn : n ≤ 4) (f : List Bool) (A : Option Addr) (c : Nat) (w : World) (hf : f.length = one n) (hr : Row w A (boolsC f)) :
    Calls Try.prog 31 #[.slice A f.length c] w fun e w' => e = .returned (.slice (some ⟨w.heap.size, 0, none⟩) (one n) (one n)) ∧ OwnB w' w.heap.size w.heap.size (one n) (dualF n (atB f)) ∧ Below w.heap.size w w' := by
  obtain ⟨i0, hi, hz0, hz1, hz2⟩ := info_parts infoB
  have h16 := one_le_16 hn
  have h1p := one_pos n
  have HF := Lib.hid hf
  rw [hf]
  have HI := Lib.hid (And.intro hi (And.intro hz0 (And.intro hz1 hz2)))
  clear hi hz0 hz1 hz2 hf
  go_enter Try.func31, Try.ntmps31
  go_wp2_with (at_make; refine wpList_make_full _ rfl _ _ 22 rfl w.heap.size 4 i0 (.bool false) 1 Try.underlying22 HI.out.1 HI.out.2.1 HI.out.2.2.1 .i64 .i64 (one n) (one n) (one n) rfl rfl rfl rfl ?b2 ?b3 (Nat.le_refl _) ?c5)
  case b2 => rw [HI.out.2.2.2]; omega
  case b3 => unfold maxLen; omega
  case c5 =>
    intro w1 hown hgrow
    have HO := Lib.hid (ownB_made hown)
    have HB := Lib.hid ((Below.refl w.heap.size w).grown hgrow (Nat.le_refl _) (by intro k hk; cases hk))
    clear hown hgrow
    go_wp2
    go_loopw [11] (fun v wr => ∃ s : Nat, v = .int .i64 s ∧ s ≤ one n ∧ OwnB wr w.heap.size w.heap.size (one n) (backF (one n) (dualF n (atB f)) s) ∧ Below w.heap.size w wr) (fun v _ => one n - (intOf v).toNat)
    case atStart => exact ⟨0, rfl, Nat.zero_le _, HO.out.congr (fun k hk => backF_zero _ hk), HB.out⟩
    case round =>
      clear HO HB
      obtain ⟨s, rfl, hs, hown, hbel⟩ := hrel
      have HO := Lib.hid hown
      clear hown
      by_cases hlt : s < one n
      · obtain ⟨o, ho⟩ : ∃ o, o = one n - 1 - s := ⟨_, rfl⟩
        have hole : o < one n := by omega
        have hoi : (one n : Int) - 1 - (s : Int) = (o : Int) := by omega
        have HD := Lib.hid (show (!atB f s) = dualF n (atB f) o by
          unfold dualF full
          rw [ho, show one n - 1 - (one n - 1 - s) = s by omega])
        obtain ⟨b, off, rfl, hc⟩ := (hr.below hbel).at (k := s) (by simp; rw [HF.out]; exact hlt)
        have c1 := hc s _ (boolsC_at (atB_get (show s < f.length by rw [HF.out]; exact hlt)))
        have c2 := HO.out.cell hole
        have f2 := HO.out.free o
        have HO2 := Lib.hid (show OwnB _ _ _ _ (backF (one n) (dualF n (atB f)) (s + 1)) from (HO.out.stored o (!atB f s)).congr (fun i _ => by rw [HD.out, ho]; exact backF_succ _ hlt))
        clear hc ho
        go_wp2
        go_roundw
        case rel => exact ⟨s + 1, by go_num, by omega, HO2.out, hbel.setCell (Nat.le_refl _) _⟩
        case measure => simp [intOf]; omega
      · obtain rfl : s = one n := by omega
        go_wp2
        go_ret
        exact ⟨rfl, HO.out.congr (fun i _ => backF_all), hbel⟩

/-! ## A copy -/
/-- A table of the call's own, in block g, of whatever capacity. -/
def OwnD (w : World) (B g n cap : Nat) (h : Nat → Bool) : Prop := w.ownsRow B 4 1 (.slice (some ⟨g, 0, none⟩) n cap) n (boolsC (tabB n h))
theorem OwnD.cell {w : World} {B g n c : Nat} {h : Nat → Bool} (o : OwnD w B g n c h) {a : Nat} (ha : a < n) : w.cell? ⟨g, a, none⟩ = some (.bool (h a)) :=
  (World.ownsRow.cellAt o a (by omega)).trans (boolsC_at (tabB_get h ha))
theorem OwnD.free {w : World} {B g n c : Nat} {h : Nat → Bool} (o : OwnD w B g n c h) (a : Nat) : w.frozen? ⟨g, a, none⟩ = false := World.ownsRow.frozenAt o a
theorem OwnD.stored {w : World} {B g n c : Nat} {h : Nat → Bool} (o : OwnD w B g n c h) (a : Nat) (b : Bool) : OwnD (w.setCell ⟨g, a, none⟩ (.bool b)) B g n c (updB h a b) := by
  have := (World.ownsRow.stored o a (.bool b)).1
  unfold OwnD
  rw [← tabB_set]
  exact this
theorem OwnD.base {w : World} {B g n c : Nat} {h : Nat → Bool} (o : OwnD w B g n c h) : B ≤ g := (World.ownsRow.lt o g rfl).1
theorem OwnD.congr {w : World} {B g n c : Nat} {h h' : Nat → Bool} (o : OwnD w B g n c h) (e : ∀ k, k < n → h k = h' k) : OwnD w B g n c h' := by unfold OwnD; rw [← tabB_congr e]; exact o
theorem OwnD.row {w : World} {B g n c : Nat} {h : Nat → Bool} (o : OwnD w B g n c h) : Row w (some ⟨g, 0, none⟩) (boolsC (tabB n h)) := Row.of_own o

set_option maxHeartbeats 1000000 in
theorem tClone_any (n : Nat) (hn : n ≤ 4) (f : List Bool) (A : Option Addr) (c : Nat) (w : World) (hf : f.length = one n) (hr : Row w A (boolsC f)) :
    Calls Try.prog 29 #[.slice A f.length c] w fun e w' => ∃ g cap, e = .returned (.slice (some ⟨g, 0, none⟩) (one n) cap) ∧ OwnD w' w.heap.size g (one n) cap (atB f) ∧ Below w.heap.size w w' := by
  obtain ⟨i0, hi, hz0, hz1, hz2⟩ := info_parts infoB
  have h16 := one_le_16 hn
  have h1p := one_pos n
  obtain ⟨b, off, rfl, _⟩ := hr.at (k := 0) (by simp; omega)
  have HN := Lib.hid (row_news hr)
  have HF := Lib.hid hf
  have HL := Lib.hid (show (boolsC f).length = one n * 1 by simp [hf])
  have HT := Lib.hid (show boolsC f = boolsC (tabB (one n) (atB f)) by rw [← hf, tabB_self])
  rw [hf]
  clear hf
  have hnil : ∀ W, (binOp .eql 22 (.slice (some ⟨b, off, none⟩) (one n) c) (.slice none 0 0)).run Try.prog W = .ok (.bool false) W := fun W => Lib.run_eql_slice_nil W _ _ _ _ _ _ _ Try.underlying22
  go_enter Try.func29, Try.ntmps29
  go_wp2_with (first | (at_builtin; refine wpList_append_lies _ rfl _ _ 22 rfl w.heap.size 4 i0 (.bool false) 1 1 Try.underlying22 hi hz0 hz1 hz2 rfl (by decide) _ 0 [] rfl ?b0 ⟨b, off, none⟩ (one n) c (boolsC f) rfl HL.out ?b5 (boolsC_oneCell f) h1p ?b1 ?b2 ?b3 _ rfl ?b4))
  case b0 => exact ⟨rfl, .inr ⟨w.heap.size, 0, #[], rfl, Nat.le_refl _, heap_alloc_new w _, Nat.le_refl _, by simp [maxLen], rfl, rfl⟩⟩
  case b5 => exact row_news (hr.below ((Below.refl _ _).alloc (Nat.le_refl _) _))
  case b1 => unfold maxLen; omega
  case b2 => omega
  case b3 => exact ((Below.refl w.heap.size w).alloc (Nat.le_refl _) _).size
  case b4 =>
    intro g cap w2 hown hgrow hat hlt
    have HB := Lib.hid (((Below.refl w.heap.size w).alloc (Nat.le_refl _) (.cells #[] 4)).grown hgrow (Below.size ((Below.refl w.heap.size w).alloc (Nat.le_refl _) (.cells #[] 4))) (fun k hk => by
      have : k = w.heap.size := by simpa [Value.ownBlock] using hk.symm
      omega))
    have HO := Lib.hid (show OwnD w2 w.heap.size g (one n) cap (atB f) by unfold OwnD; rw [← HT.out]; exact hown)
    clear hown hgrow hat hlt
    go_wp2
    go_ret
    exact ⟨_, _, rfl, HO.out, HB.out⟩

/-! ## Equality -/
end Go.Proofs.Ytcebbhfpnkhlmaa
