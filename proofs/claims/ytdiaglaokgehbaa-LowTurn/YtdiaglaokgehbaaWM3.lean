/- syllogistkeep.turned. -/
import Derived.Test.YtdiaglaokgehbaaWM2
import Derived.Test.YtdiaglaokgehbaaMk2
namespace Go.Proofs.Ytdiaglaokgehbaa
open Go.RowKit

set_option maxHeartbeats 2000000 in
theorem turned_any (ts : List Lab) (A : Option Addr) (c : Nat) (w : World) (hr : Row w A (labsC ts)) (h8 : ts.length ≤ 8) (hok : ∀ b, b < ts.length → LabOk (atL ts b)) :
    Calls Try.prog 25 #[.slice A ts.length c] w fun e w' => ∃ (B : Option Addr) (k : Nat), e = .returned (.slice B ts.length k) ∧ ts.length ≤ k ∧ Row w' B (labsC (tabA ts.length fun b => turnL (atL ts b))) ∧ Below w.heap.size w w' := by
  obtain ⟨i0, hi0, hz0, hz1, hz2⟩ := info_parts infoLb
  have HI := Lib.hid (And.intro hi0 (And.intro hz0 (And.intro hz1 hz2)))
  have HOk := Lib.hid hok
  clear hi0 hz0 hz1 hz2 hok
  go_enter Try.func25, Try.ntmps25
  go_wp2
  go_loopw [3, 8] (fun ov v wr => ∃ k : Nat, v = .int .i64 k ∧ k ≤ ts.length ∧ wr.ownsRow w.heap.size 40 2 ov k (labsC (tabA k fun b => turnL (atL ts b))) ∧ Below w.heap.size w wr) (fun _ v _ => ts.length - (intOf v).toNat)
  case atStart => exact ⟨0, rfl, Nat.zero_le _, World.ownsRow_nil _ _ _ _, Below.refl _ _⟩
  case round =>
    obtain ⟨k, rfl, hk, hown, hb⟩ := hrel
    have HO := Lib.hid hown
    have HB := Lib.hid hb
    rename_i ov _ _
    by_cases hlt : k < ts.length
    · obtain ⟨b, off, rfl, d1, d2⟩ := RowL.cells (hr.below hb) (atL_get hlt)
      have hO := HOk.out k hlt
      have HN := Lib.hid (tabA_succ k fun b => turnL (atL ts b))
      generalize atL ts k = a at *
      obtain ⟨l, p⟩ := a
      obtain ⟨hl0, hl3, hp⟩ := hO
      simp only at d1 d2 hl0 hl3 hp HN
      have hw : bits .andNot .u32 31 (p : Int) = ((wo 31 p : Nat) : Int) := u32_wo (a := 31) (b := p) (by decide) (by omega)
      have HT := Lib.hid (show turnL (l, p) = (3 - l, wo 31 p) from rfl)
      generalize wo 31 p = x at *
      have hbx := hb.alloc hb.size (.cells #[.int .i64 l, .int .u32 (p : Int)] 40)
      have hbx2 := hbx.alloc hbx.size (.cells #[.int .i64 (3 - l), .int .u32 (x : Int)] 40)
      obtain ⟨q1, q2⟩ := ltwo_cells (heap_alloc_new wr (.cells #[.int .i64 l, .int .u32 (p : Int)] 40))
      have HO2 := Lib.hid ((hown.alloc (.cells #[.int .i64 l, .int .u32 (p : Int)] 40)).alloc (.cells #[.int .i64 (3 - l), .int .u32 (x : Int)] 40))
      have HB2 := Lib.hid hbx2
      clear hown hb hbx hbx2
      go_wp2_with (at_builtin; refine wpList_append_grow rfl (.tmp 12) (.tmp 20) 22 rfl w.heap.size 40 i0 (.agg #[.int .i64 0, .int .u32 0]) 2 16 Try.underlying22 HI.out.1 HI.out.2.1 HI.out.2.2.1 HI.out.2.2.2 rfl (by decide) _ k (labsC (tabA k fun b => turnL (atL ts b))) rfl ?qown ⟨wr.heap.size + 1, 0, none⟩ 1 1 [.int .i64 (3 - l), .int .u32 (x : Int)] rfl rfl ?qnews ?qone ?q63 ?qby ?qbase ?qnext)
      case qown => exact HO2.out
      case qnews => have := row_news (row_new (wr.alloc (.cells #[.int .i64 l, .int .u32 (p : Int)] 40)) (wr.heap.size + 1) (by simp) [.int .i64 (3 - l), .int .u32 (x : Int)] 40); exact this
      case qone => intro u hu; simp only [List.mem_cons, List.not_mem_nil, or_false] at hu; rcases hu with rfl | rfl <;> rfl
      case q63 => unfold maxLen; omega
      case qby => omega
      case qbase => exact HB2.out.size
      case qnext =>
        intro v' w3 hown hgr
        have HB3 := Lib.hid (HB2.out.grown hgr HB2.out.size (fun k hk => (World.ownsRow.lt HO2.out k hk).1))
        have HO3 := Lib.hid (show w3.ownsRow w.heap.size 40 2 v' (k + 1) (labsC (tabA (k + 1) fun b => turnL (atL ts b))) by rw [HN.out, labsC_append, HT.out]; exact hown)
        clear hown hgr
        go_wp2
        go_roundw
        case rel => exact ⟨k + 1, by go_num, by omega, HO3.out, HB3.out⟩
        case measure => simp [intOf]; omega
    · obtain rfl : k = ts.length := by omega
      obtain ⟨B, kc, rfl, hc1, hrow⟩ := own_row hown
      have HR := Lib.hid hrow
      clear hown HO hb hrow
      go_wp2
      go_ret
      exact ⟨_, _, rfl, hc1, HR.out, HB.out⟩

end Go.Proofs.Ytdiaglaokgehbaa
