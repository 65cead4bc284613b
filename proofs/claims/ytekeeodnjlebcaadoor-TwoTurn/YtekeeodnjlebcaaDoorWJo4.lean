/- two.join. -/
import Derived.Test.YtekeeodnjlebcaaDoorWJo2
namespace Go.Proofs.YtekeeodnjlebcaaDoor
open Go.RowKit

def JoinMid (m : Nat) (ps : List (Int × Int)) (B g : Nat) (w : World) (v : Value) (wr : World) : Prop :=
  ∃ (k : Nat) (f : Nat → Nat), v = .int .i64 k ∧ k ≤ m ∧ Mids m ps f k ∧ Own wr B g m f ∧ Below B w wr
def JoinPart (m k : Nat) (f : Nat → Nat) (B g : Nat) (w : World) (v : Value) (wr : World) : Prop :=
  ∃ a : Nat, v = .int .i64 a ∧ a ≤ m ∧ Own wr B g m (Go.Proofs.YtekeeodnjlebcaaDoor.part k f a) ∧ Below B w wr

set_option maxHeartbeats 1000000 in
theorem join_any (m : Nat) (ps : List (Int × Int)) (B g : Nat) (f0 : Nat → Nat) (w : World) (hm12 : m ≤ 12) (hmid : Mids m ps f0 0) (hgood : Good m ps) (hown : Own w B g m f0) :
    Calls Tryd.prog 16 #[.slice (some ⟨g, 0, none⟩) m m] w fun e w' => e = .returned (.tuple #[]) ∧ Own w' B g m (upT m ps) ∧ Below B w w' := by
  have HG := Lib.hid hgood
  have HO := Lib.hid hown
  have HM := Lib.hid hmid
  have HBg := Lib.hid hown.base
  have h12 : one m ≤ 4096 := by unfold one; exact Nat.le_trans (Nat.pow_le_pow_right (by omega) hm12) (by decide)
  clear hgood hown hmid
  go_enter Tryd.func16, Tryd.ntmps16
  go_wp2
  go_loopw [6] (fun v wr => JoinMid m ps B g w v wr) (fun v _ => m - (intOf v).toNat)
  case atStart => exact ⟨0, f0, rfl, Nat.zero_le _, HM.out, HO.out, Below.refl _ _⟩
  case round =>
    clear HO HM
    obtain ⟨k, f, rfl, hk, hmid, hown, hbel⟩ := hrel
    have HO := Lib.hid hown
    have HM := Lib.hid hmid
    clear hown hmid
    by_cases hkl : k < m
    · go_wp2
      go_loopw [11] (fun v wr => JoinPart m k f B g w v wr) (fun v _ => m - (intOf v).toNat)
      case atStart => exact ⟨0, rfl, Nat.zero_le _, by rw [part_zero]; exact HO.out, hbel⟩
      case round =>
        clear HO hbel
        obtain ⟨b, rfl, hb, hown, hbel⟩ := hrel
        have HO := Lib.hid hown
        by_cases hbl : b < m
        · have hfb : f b < 4294967296 := by have h1 := HM.out.grows.lt b hbl; omega
          have hfm : f k < 4294967296 := by have h1 := HM.out.grows.lt k hkl; omega
          have hcb := hown.cell hbl
          have hcm := hown.cell hkl
          have hff := hown.free b
          rw [part_at] at hcb
          rw [part_mid] at hcm
          clear hown
          cases hbit : (f b).testBit k with
          | true =>
            have HT := Lib.hid hbit
            have hcall := jHas_any (f b) k (by omega) hfb
            rw [hbit] at hcall
            clear hbit
            go_wp2_with fail
            refine (hcall _).mono ?_
            rintro e w' ⟨rfl, rfl⟩
            go_wp2
            go_still_tail 10, (by kernel_rfl)
            go_wp2
            go_roundw
            case rel => exact ⟨b + 1, by go_num, by omega, by rw [← part_yes HT.out]; exact HO.out.orAt hfb hfm, (hbel.setCell HBg.out _).drew⟩
            case measure => simp [intOf]; omega
          | false =>
            have HT := Lib.hid hbit
            have hcall := jHas_any (f b) k (by omega) hfb
            rw [hbit] at hcall
            clear hbit
            go_wp2_with fail
            refine (hcall _).mono ?_
            rintro e w' ⟨rfl, rfl⟩
            go_wp2
            go_roundw
            case rel => exact ⟨b + 1, by go_num, by omega, by rw [← part_no HT.out]; exact HO.out, hbel⟩
            case measure => simp [intOf]; omega
        · obtain rfl : b = m := by omega
          clear hown
          go_wp2
          go_roundw
          case rel => exact ⟨k + 1, stp k f, by go_num, by omega, HM.out.step hkl, HO.out.congr part_all, hbel⟩
          case measure => simp [intOf]; omega
    · obtain rfl : k = m := by omega
      go_wp2
      go_end0
      exact ⟨rfl, HO.out.congr (HM.out.all HG.out), hbel⟩

end Go.Proofs.YtekeeodnjlebcaaDoor
