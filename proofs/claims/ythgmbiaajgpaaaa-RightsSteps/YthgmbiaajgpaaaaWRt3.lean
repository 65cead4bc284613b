/- syllogistref.Rounds. -/
import Derived.Test.YthgmbiaajgpaaaaWRt2
namespace Go.Proofs.Ythgmbiaajgpaaaa
open Go.RowKit

/-- What Rounds answers. -/
def RoundsPost (n : Nat) (l : List Chn) (F : Nat → Nat → Nat) (w : World) (e : Ending) (w' : World) : Prop :=
  ∃ B k, e = .returned (.tuple #[.int .i64 (lastX n l F : Int), .slice B n k]) ∧ Mats w' B (tab2 n (closeX n l F)) ∧ n ≤ k ∧ Below w.heap.size w w'

theorem tab2_len {n : Nat} {F : Nat → Nat → Nat} : (tab2 n F).length = n := tabA_length _ _
theorem tab2_rows {n : Nat} {F : Nat → Nat → Nat} : ∀ r ∈ tab2 n F, r.length = n := fun r hr => by
  unfold tab2 tabA at hr
  rw [List.mem_map] at hr
  obtain ⟨x, _, rfl⟩ := hr
  simp

set_option maxRecDepth 100000 in
set_option maxHeartbeats 4000000 in
theorem Rounds_any (n : Nat) (hn1 : 1 ≤ n) (hn : n ≤ 6) (F : Nat → Nat → Nat) (l : List Chn) (A A2 : Option Addr) (c c2 : Nat) (w : World) (hF : U2 F) (hc32 : C32 l) (hl : l.length ≤ 10) (hnc : n ≤ c) (hr : Mats w A (tab2 n F)) (hr2 : Row w A2 (chnsC l)) :
    Calls Try.prog 10 #[.int .i64 (n : Int), .slice A n c, .slice A2 l.length c2] w (RoundsPost n l F w) := by
  obtain ⟨hla, hlb, hlc⟩ := last_spec hn hF hc32
  have HLB := Lib.hid hlb
  have HLC := Lib.hid hlc
  have HF := Lib.hid hF
  have HC := Lib.hid hc32
  have HR := Lib.hid hr
  have HR2 := Lib.hid hr2
  have HCl := Lib.hid (show closeX n l F = iterX n l F (lastX n l F) from rfl)
  generalize hq : lastX n l F = q at *
  have HQ := Lib.hid hq
  clear hq hlb hlc hF hc32 hr hr2
  go_enter Try.func10, Try.ntmps10
  go_wp2
  go_loopw [1, 8] (fun mv kv wr => ∃ (k : Nat) (B : Option Addr) (cb : Nat), kv = .int .i64 k ∧ k ≤ q ∧ mv = .slice B n cb ∧ n ≤ cb ∧ Hid (Mats wr B (tab2 n (iterX n l F k))) ∧ Hid (Below w.heap.size w wr)) (fun _ kv _ => q - (intOf kv).toNat)
  case atStart => exact ⟨0, A, c, rfl, Nat.zero_le _, rfl, hnc, HR, Lib.hid (Below.refl _ _)⟩
  case round =>
    obtain ⟨k, B, cb, rfl, hk, rfl, hcb, HM, HB⟩ := hrel
    have key := Round_any n hn1 hn (iterX n l F k) l B A2 cb c2 wr (iterX_u32 HF.out HC.out k) HC.out hl HM.out (HR2.out.below HB.out)
    go_wp2_with fail
    refine key.mono ?_
    rintro e w2 ⟨B2, c3, rfl, hm2, hc3, hb2⟩
    have HM2 := Lib.hid hm2
    have HB2 := Lib.hid hb2
    have km := Matrices_any (tab2 n (roundX n l (iterX n l F k))) (tab2 n (iterX n l F k)) B2 B c3 cb w2 hm2 (HM.out.below hb2) (fun r hr => by rw [tab2_rows r hr]; omega) (fun r hr => by rw [tab2_rows r hr]; omega) (by rw [tab2_len]; omega) (by rw [tab2_len]; omega)
    rw [tab2_len, tab2_len] at km
    clear hm2 hb2 key
    by_cases hcl : ClosedX n l (iterX n l F k)
    · obtain rfl : k = q := by
        by_cases h : k < q
        · exact absurd hcl (HLC.out k h)
        · omega
      rw [decide_eq_true (tab2_same.2 hcl)] at km
      clear hcl
      go_wp2_with fail
      refine km.mono ?_
      rintro e w3 ⟨rfl, d, rfl⟩
      go_wp2
      refine bodyPost_ret (v := .tuple #[.int .i64 (k : Int), .slice B n cb]) (by simp [results, Try.results10, go_sem]) rfl ?_
      refine ⟨B, cb, by rw [HQ.out], ?_, hcb, ?_⟩
      · rw [HCl.out]; exact (HM.out.below HB2.out : Mats w2 B _)
      · exact below_drewN (HB.out.trans (HB2.out.mono HB.out.size)) d
    · have hlt : k < q := by
        rcases Nat.lt_or_ge k q with h | h
        · exact h
        · obtain rfl : k = q := by omega
          exact absurd HLB.out hcl
      rw [decide_eq_false (fun e => hcl (tab2_same.1 e))] at km
      clear hcl
      go_wp2_with fail
      refine km.mono ?_
      rintro e w3 ⟨rfl, d, rfl⟩
      go_wp2
      go_roundw
      case rel => exact ⟨k + 1, B2, c3, by go_num, by omega, rfl, hc3, Lib.hid (show Mats (w2.drewN d) B2 _ from HM2.out), Lib.hid (below_drewN (HB.out.trans (HB2.out.mono HB.out.size)) d)⟩
      case measure => simp [intOf]; omega

end Go.Proofs.Ythgmbiaajgpaaaa
