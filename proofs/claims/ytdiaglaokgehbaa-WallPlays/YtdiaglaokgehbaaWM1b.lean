/- syllogistref.MarkCheck; syllogistkeep.marked. -/
import Derived.Test.YtdiaglaokgehbaaWM1
namespace Go.Proofs.Ytdiaglaokgehbaa
open Go.RowKit

/-! ## The check -/
def LargeM (nc nt nd : Nat) : Prop := nc < 1 ∨ 5 < nc ∨ 8 < nt ∨ 30 < nd
instance (nc nt nd : Nat) : Decidable (LargeM nc nt nd) := by unfold LargeM; infer_instance
/-- The code of labels, and so many deeds. -/
def codeM (cs ts : List Lab) (nd : Nat) : Int := if LargeM cs.length ts.length nd then 1 else if (∀ a ∈ cs, LabOk a) ∧ ∀ a ∈ ts, LabOk a then 0 else 4
theorem codeM_large {cs ts : List Lab} {nd : Nat} (h : LargeM cs.length ts.length nd) : codeM cs ts nd = 1 := if_pos h
theorem codeM_ok {cs ts : List Lab} {nd : Nat} (h : ¬ LargeM cs.length ts.length nd) (h1 : ∀ a ∈ cs, LabOk a) (h2 : ∀ a ∈ ts, LabOk a) : codeM cs ts nd = 0 := by rw [codeM, if_neg h, if_pos ⟨h1, h2⟩]
theorem codeM_bad {cs ts : List Lab} {nd : Nat} (h : ¬ LargeM cs.length ts.length nd) (h1 : ¬ ((∀ a ∈ cs, LabOk a) ∧ ∀ a ∈ ts, LabOk a)) : codeM cs ts nd = 4 := by rw [codeM, if_neg h, if_neg h1]
theorem codeM_zero {cs ts : List Lab} {nd : Nat} (h : codeM cs ts nd = 0) : 1 ≤ cs.length ∧ cs.length ≤ 5 ∧ ts.length ≤ 8 ∧ nd ≤ 30 ∧ (∀ a ∈ cs, LabOk a) ∧ ∀ a ∈ ts, LabOk a := by
  unfold codeM at h
  split at h
  · omega
  · rename_i h1
    split at h
    · rename_i h2
      unfold LargeM at h1
      exact ⟨by omega, by omega, by omega, by omega, h2.1, h2.2⟩
    · omega

set_option maxHeartbeats 1000000 in
theorem MarkCheck_any (cs ts : List Lab) (A A2 : Option Addr) (c c2 nd : Nat) (w : World) (hr : Row w A (labsC cs)) (hr2 : Row w A2 (labsC ts)) :
    Calls Try.prog 14 #[.slice A cs.length c, .slice A2 ts.length c2, .int .i64 (nd : Int)] w fun e w' => e = .returned (.int .i64 (codeM cs ts nd)) ∧ Below w.heap.size w w' := by
  by_cases hL : LargeM cs.length ts.length nd
  · have HC := Lib.hid (codeM_large hL)
    rw [HC.out]
    unfold LargeM at hL
    by_cases h1 : cs.length < 1
    · clear hL; go_enter Try.func14, Try.ntmps14; go_wp2; go_ret; exact ⟨rfl, Below.refl _ _⟩
    · by_cases h2 : 5 < cs.length
      · clear hL; go_enter Try.func14, Try.ntmps14; go_wp2; go_ret; exact ⟨rfl, Below.refl _ _⟩
      · by_cases h3 : 8 < ts.length
        · clear hL; go_enter Try.func14, Try.ntmps14; go_wp2; go_ret; exact ⟨rfl, Below.refl _ _⟩
        · have h4 : 30 < nd := by omega
          clear hL; go_enter Try.func14, Try.ntmps14; go_wp2; go_ret; exact ⟨rfl, Below.refl _ _⟩
  · have HL := Lib.hid hL
    obtain ⟨g1, g2, g3, g4⟩ : 1 ≤ cs.length ∧ cs.length ≤ 5 ∧ ts.length ≤ 8 ∧ nd ≤ 30 := by unfold LargeM at hL; omega
    have HB := Lib.hid ((Below.refl w.heap.size w).alloc (Nat.le_refl _) (.cells #[.slice A cs.length c, .slice A2 ts.length c2] 22))
    have HRow := Lib.hid (row_new w w.heap.size rfl [.slice A cs.length c, .slice A2 ts.length c2] 22)
    have HK := Lib.hid (fun k (hk : k < 2) => show ∃ (L : List Lab) (AL : Option Addr) (cL : Nat), ([.slice A cs.length c, .slice A2 ts.length c2] : List Value)[k]? = some (.slice AL L.length cL) ∧ L.length ≤ 8 ∧ Row w AL (labsC L) ∧ L = (if k = 0 then cs else ts) by
      match k with
      | 0 => exact ⟨cs, A, c, rfl, by omega, hr, rfl⟩
      | 1 => exact ⟨ts, A2, c2, rfl, by omega, hr2, rfl⟩
      | k + 2 => omega)
    clear hL
    go_enter Try.func14, Try.ntmps14
    go_wp2
    go_loopw [32] (fun v wr => ∃ k : Nat, v = .int .i64 k ∧ k ≤ 2 ∧ (∀ j, j < k → ∀ a ∈ (if j = 0 then cs else ts), LabOk a) ∧ Row wr (some ⟨w.heap.size, 0, none⟩) [.slice A cs.length c, .slice A2 ts.length c2] ∧ Below w.heap.size w wr) (fun v _ => 2 - (intOf v).toNat)
    case atStart => exact ⟨0, rfl, by omega, fun j hj => by omega, HRow.out, HB.out⟩
    case round =>
      clear HB HRow
      obtain ⟨k, rfl, hk, hal, hrow, hb⟩ := hrel
      have HA := Lib.hid hal
      have HB := Lib.hid hb
      have HR := Lib.hid hrow
      clear hal
      by_cases hlt : k < 2
      · obtain ⟨L, AL, cL, e1, e2, e3, e4⟩ := HK.out k hlt
        obtain ⟨b, off, eb, hcell⟩ := hrow.at (k := k) (by simpa using hlt)
        simp only [Option.some.injEq, Addr.mk.injEq, and_true] at eb
        obtain ⟨rfl, rfl⟩ := eb
        have c1 := hcell _ _ e1
        simp only [Nat.zero_add] at c1
        have HE := Lib.hid e4
        have H3 := Lib.hid e3
        clear hcell hrow e1 e3 e4 hb
        have hk2 : decide ((k : Int) < 2) = true := by rw [decide_eq_true_iff]; omega
        go_wp2
        clear hk2
        go_loopw [38] (fun v wr => ∃ j : Nat, v = .int .i64 j ∧ j ≤ L.length ∧ (∀ a ∈ L.take j, LabOk a) ∧ Row wr (some ⟨w.heap.size, 0, none⟩) [.slice A cs.length c, .slice A2 ts.length c2] ∧ Below w.heap.size w wr) (fun v _ => L.length - (intOf v).toNat)
        case atStart => exact ⟨0, rfl, Nat.zero_le _, by simp, HR.out, HB.out⟩
        case round =>
          clear HB HR c1
          obtain ⟨j, rfl, hj, hal, hrow, hb⟩ := hrel
          have HA2 := Lib.hid hal
          have HB := Lib.hid hb
          have HR := Lib.hid hrow
          clear hal hrow
          by_cases hlt2 : j < L.length
          · obtain ⟨a, ha⟩ := get_some hlt2
            obtain ⟨b, off, rfl, d1, d2⟩ := RowL.cells (H3.out.below hb) ha
            have HX := Lib.hid ha
            have hba := hb.alloc hb.size (.cells #[.int .i64 a.1, .int .u32 (a.2 : Int)] 40)
            have HBA := Lib.hid hba
            have HRA := Lib.hid (HR.out.below ((Below.refl wr.heap.size wr).alloc (Nat.le_refl _) (.cells #[.int .i64 a.1, .int .u32 (a.2 : Int)] 40)))
            obtain ⟨q1, q2⟩ := LabAt.new wr a 40
            have kc := fun W => LabelCheck_any a.1 a.2 W
            clear ha hb hba
            obtain ⟨a1, a2⟩ := a
            simp only at d1 d2 q1 q2 kc HBA HRA
            by_cases hok : LabOk (a1, a2)
            · have HN := Lib.hid (show ∀ x ∈ L.take (j + 1), LabOk x by
                intro x hx
                rw [List.take_add_one, HX.out, List.mem_append] at hx
                rcases hx with hx | hx
                · exact HA2.out x hx
                · simp at hx; rw [hx]; exact hok)
              rw [codeL_ok hok] at kc
              clear hok
              go_wp2_with fail
              refine (kc _).mono ?_
              rintro e w3 ⟨rfl, hb3⟩
              have HB3 := Lib.hid (HBA.out.trans (hb3.mono HBA.out.size))
              have HR3 := Lib.hid (HRA.out.below hb3)
              clear hb3 q1 q2 kc
              go_wp2
              go_roundw
              case rel => exact ⟨j + 1, by go_num, by omega, HN.out, HR3.out, HB3.out⟩
              case measure => simp [intOf]; omega
            · have HC := Lib.hid (codeM_bad HL.out (cs := cs) (ts := ts) (nd := nd) (fun h => hok (by
                have hm := List.mem_of_getElem? HX.out
                rw [HE.out] at hm
                split at hm
                · exact h.1 _ hm
                · exact h.2 _ hm)))
              rw [codeL_bad hok] at kc
              clear hok
              go_wp2_with fail
              refine (kc _).mono ?_
              rintro e w3 ⟨rfl, hb3⟩
              have HB3 := Lib.hid (HBA.out.trans (hb3.mono HBA.out.size))
              clear hb3 q1 q2 kc
              go_wp2
              go_ret
              exact ⟨ret_int HC.out.symm, HB3.out⟩
          · obtain rfl : j = L.length := by omega
            have HN := Lib.hid (show ∀ j, j < k + 1 → ∀ a ∈ (if j = 0 then cs else ts), LabOk a by
              intro j hj a ha
              by_cases e : j = k
              · subst e
                rw [← HE.out] at ha
                exact HA2.out a (by rw [List.take_length]; exact ha)
              · exact HA.out j (by omega) a ha)
            clear hb
            go_wp2
            go_roundw
            case rel => exact ⟨k + 1, by go_num, by omega, HN.out, HR.out, HB.out⟩
            case measure => simp [intOf]; omega
      · obtain rfl : k = 2 := by omega
        have HC := Lib.hid (codeM_ok HL.out (fun a ha => HA.out 0 (by omega) a ha) (fun a ha => HA.out 1 (by omega) a ha))
        clear hb hrow
        go_wp2
        go_ret
        exact ⟨ret_int HC.out.symm, HB.out⟩

set_option maxHeartbeats 1000000 in
theorem marked_any (cs ts : List Lab) (A A2 : Option Addr) (c c2 nd : Nat) (w : World) (hr : Row w A (labsC cs)) (hr2 : Row w A2 (labsC ts)) :
    Calls Try.prog 19 #[.slice A cs.length c, .slice A2 ts.length c2, .int .i64 (nd : Int)] w fun e w' => e = .returned (.bool (codeM cs ts nd == 0)) ∧ Below w.heap.size w w' := by
  go_enter Try.func19, Try.ntmps19
  go_wp2_with fail
  refine (MarkCheck_any cs ts A A2 c c2 nd w hr hr2).mono ?_
  rintro e w' ⟨rfl, hb⟩
  go_wp2
  go_ret
  exact ⟨rfl, hb⟩

end Go.Proofs.Ytdiaglaokgehbaa
