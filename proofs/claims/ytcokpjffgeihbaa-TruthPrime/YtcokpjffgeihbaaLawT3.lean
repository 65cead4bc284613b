/- The law on Whole by what the document asks, and Quine's on Primes; from contracts. -/
import Derived.Test.YtcokpjffgeihbaaLawT2
namespace Go.Proofs.Ytcokpjffgeihbaa
open Go.RowKit

/-- Do the first i tables fit? -/
def fitsP (k : Nat) (fs : List (List Bool)) (i : Nat) : Prop := ∀ f ∈ fs.take i, f.length = one k
theorem fitsP_succ {k : Nat} {fs : List (List Bool)} {i : Nat} {f : List Bool} (h : fs[i]? = some f) : fitsP k fs (i + 1) ↔ fitsP k fs i ∧ f.length = one k := by
  unfold fitsP
  rw [List.take_add_one, h]
  simp only [Option.toList, List.mem_append, List.mem_singleton]
  constructor
  · intro h; exact ⟨fun g hg => h g (.inl hg), h f (.inr rfl)⟩
  · rintro ⟨h1, h2⟩ g (hg | rfl)
    · exact h1 g hg
    · exact h2

set_option maxHeartbeats 4000000 in
theorem TruthWholes_with (hF : TWholeOk 20) (n : Int) (fs : List (List Bool)) (A : Option Addr) (c : Nat) (w : World) (hm : fs.length ≤ maxLen) (hr : Tabs w A fs) (hX : Laid w) :
    Calls Try.prog 6 #[.int .i64 n, .slice A fs.length c] w fun e w' => e = .returned (.bool true) ∧ Below w.heap.size w w' := by
  have key := hF n fs A c w hm hr hX
  have hmm : fs.length < 9223372036854775808 := by unfold maxLen at hm; omega
  by_cases hL : LargeW n fs.length
  · rw [codeW_large hL, show (((1 : Int) == 0) && (allC n.toNat fs fs.length == 0)) = false from rfl] at key
    by_cases h1 : n < 0
    · clear hL
      go_enter Try.func6, Try.ntmps6
      go_wp2_with fail
      refine key.mono ?_
      rintro e w1 ⟨rfl, hb1⟩
      go_wp2
      go_loopw [7, 30] (fun xv iv wr => ∃ i : Nat, iv = .int .i64 i ∧ xv = .int .i64 1 ∧ i ≤ fs.length ∧ w1 = wr) (fun _ iv _ => fs.length - (intOf iv).toNat)
      case atStart => exact ⟨0, rfl, rfl, Nat.zero_le _, rfl⟩
      case round =>
        obtain ⟨i, rfl, rfl, hi, rfl⟩ := hrel
        by_cases hlt : i < fs.length
        · obtain ⟨f, hf⟩ := get_some hlt
          obtain ⟨_, b, off, B, d, rfl, hcell, _⟩ := (hr.below hb1).at hf
          clear hf
          go_wp2
          go_roundw
          case rel => exact ⟨i + 1, by go_num, rfl, by omega, trivial⟩
          case measure => simp [intOf]; omega
        · go_wp2
          go_ret
          exact ⟨rfl, hb1⟩
    · by_cases h2 : 4 < n
      · clear hL
        go_enter Try.func6, Try.ntmps6
        go_wp2_with fail
        refine key.mono ?_
        rintro e w1 ⟨rfl, hb1⟩
        go_wp2
        go_loopw [7, 30] (fun xv iv wr => ∃ i : Nat, iv = .int .i64 i ∧ xv = .int .i64 1 ∧ i ≤ fs.length ∧ w1 = wr) (fun _ iv _ => fs.length - (intOf iv).toNat)
        case atStart => exact ⟨0, rfl, rfl, Nat.zero_le _, rfl⟩
        case round =>
          obtain ⟨i, rfl, rfl, hi, rfl⟩ := hrel
          by_cases hlt : i < fs.length
          · obtain ⟨f, hf⟩ := get_some hlt
            obtain ⟨_, b, off, B, d, rfl, hcell, _⟩ := (hr.below hb1).at hf
            clear hf
            go_wp2
            go_roundw
            case rel => exact ⟨i + 1, by go_num, rfl, by omega, trivial⟩
            case measure => simp [intOf]; omega
          · go_wp2
            go_ret
            exact ⟨rfl, hb1⟩
      · have h3 : 10 < fs.length := by unfold LargeW at hL; omega
        clear hL
        go_enter Try.func6, Try.ntmps6
        go_wp2_with fail
        refine key.mono ?_
        rintro e w1 ⟨rfl, hb1⟩
        go_wp2
        go_loopw [7, 30] (fun xv iv wr => ∃ i : Nat, iv = .int .i64 i ∧ xv = .int .i64 1 ∧ i ≤ fs.length ∧ w1 = wr) (fun _ iv _ => fs.length - (intOf iv).toNat)
        case atStart => exact ⟨0, rfl, rfl, Nat.zero_le _, rfl⟩
        case round =>
          obtain ⟨i, rfl, rfl, hi, rfl⟩ := hrel
          by_cases hlt : i < fs.length
          · obtain ⟨f, hf⟩ := get_some hlt
            obtain ⟨_, b, off, B, d, rfl, hcell, _⟩ := (hr.below hb1).at hf
            clear hf
            go_wp2
            go_roundw
            case rel => exact ⟨i + 1, by go_num, rfl, by omega, trivial⟩
            case measure => simp [intOf]; omega
          · go_wp2
            go_ret
            exact ⟨rfl, hb1⟩
  · obtain ⟨k, rfl⟩ := Int.eq_ofNat_of_zero_le (show 0 ≤ n by unfold LargeW at hL; omega)
    have hk : k ≤ 4 := by unfold LargeW at hL; omega
    have hl10 : fs.length ≤ 10 := by unfold LargeW at hL; omega
    have HL := Lib.hid hL
    clear hL
    generalize hcw : codeW k fs = cw at key
    have HCW := Lib.hid hcw
    clear hcw
    rw [Int.toNat_natCast] at key
    go_enter Try.func6, Try.ntmps6
    go_wp2_with fail
    refine key.mono ?_
    rintro e w1 ⟨rfl, hb1⟩
    go_wp2
    go_loopw [7, 8, 30] (fun xv qv iv wr => ∃ (i q : Nat) (x : Int), iv = .int .i64 i ∧ xv = .int .i64 x ∧ qv = .int .u32 q ∧ i ≤ fs.length ∧ q < 32 ∧ ((x = 0 ∧ fitsP k fs i ∧ q = allC k fs i) ∨ (x = 3 ∧ ¬ fitsP k fs i)) ∧ Below w.heap.size w wr) (fun _ _ iv _ => fs.length - (intOf iv).toNat)
    case atStart => exact ⟨0, 31, 0, rfl, rfl, rfl, Nat.zero_le _, by decide, .inl ⟨rfl, fun f hf => by simp at hf, rfl⟩, hb1⟩
    case round =>
      clear hb1
      obtain ⟨i, q, x, rfl, rfl, rfl, hi, hq, hx, hbel⟩ := hrel
      by_cases hlt : i < fs.length
      · obtain ⟨f, hf⟩ := get_some hlt
        obtain ⟨hfm, b, off, B, d, rfl, hcell, hrow⟩ := (hr.below hbel).at hf
        have HS := Lib.hid (fitsP_succ (k := k) hf)
        have HA := Lib.hid (allC_succ (n := k) hf)
        have HFf := Lib.hid hf
        clear hf
        rcases hx with ⟨rfl, h1, h2⟩ | ⟨rfl, h1⟩
        · have H1 := Lib.hid h1
          have H2 := Lib.hid h2
          clear h1 h2
          by_cases hfl : f.length = one k
          · have hcls := refClass_any k hk f B d _ hfl hrow
            have htc := TruthCheck_any k f B d wr hfm
            rw [show codeT k f.length = 0 by rw [hfl]; exact codeT_ok hk] at htc
            have HN := Lib.hid ((HS.out).2 ⟨H1.out, hfl⟩)
            have hand := u32_and_nat q (classF k (atB f)) (by omega) (by have := class_lt k (atB f); omega)
            clear hfl
            go_wp2_with fail
            refine htc.mono ?_
            rintro e w2 ⟨rfl, rfl⟩
            go_wp2_with fail
            refine hcls.mono ?_
            rintro e w2 ⟨rfl, hb2⟩
            have hbb := hbel.trans (hb2.mono hbel.size)
            clear hb2
            go_wp2
            go_roundw
            case rel => exact ⟨i + 1, q &&& classF k (atB f), 0, by go_num, rfl, by first | rfl | rw [hand], by omega, Nat.lt_of_le_of_lt Nat.and_le_left hq, .inl ⟨rfl, HN.out, by rw [HA.out, H2.out]⟩, hbb⟩
            case measure => simp [intOf]; omega
          · have htc := TruthCheck_any k f B d wr hfm
            rw [codeT_bad hk hfl] at htc
            have HN := Lib.hid (show ¬ fitsP k fs (i + 1) from fun h => hfl ((HS.out).1 h).2)
            clear hfl
            go_wp2_with fail
            refine htc.mono ?_
            rintro e w2 ⟨rfl, rfl⟩
            go_wp2
            go_roundw
            case rel => exact ⟨i + 1, q, 3, by go_num, rfl, rfl, by omega, hq, .inr ⟨rfl, HN.out⟩, hbel⟩
            case measure => simp [intOf]; omega
        · have HN := Lib.hid (show ¬ fitsP k fs (i + 1) from fun h => h1 ((HS.out).1 h).1)
          clear h1
          go_wp2
          go_roundw
          case rel => exact ⟨i + 1, q, 3, by go_num, rfl, rfl, by omega, hq, .inr ⟨rfl, HN.out⟩, hbel⟩
          case measure => simp [intOf]; omega
      · obtain rfl : i = fs.length := by omega
        rcases hx with ⟨rfl, h1, h2⟩ | ⟨rfl, h1⟩
        · have hcw : cw = 0 := by rw [← HCW.out]; exact codeW_ok HL.out (by unfold fitsP at h1; rwa [List.take_length] at h1)
          subst hcw
          have HE := Lib.hid (show ((allC k fs fs.length == 0) == ((q : Int) == 0)) = true by rw [← h2]; cases q <;> simp <;> omega)
          clear h1 h2
          go_wp2
          go_ret
          exact ⟨ret_bool (by simpa using HE.out), hbel⟩
        · have hcw : cw = 3 := by rw [← HCW.out]; exact codeW_bad HL.out (by unfold fitsP at h1; rwa [List.take_length] at h1)
          subst hcw
          clear h1
          go_wp2
          go_ret
          exact ⟨rfl, hbel⟩

end Go.Proofs.Ytcokpjffgeihbaa
