/- between.Follows, Least, Most, Between. -/
import Derived.Test.YtcebbhfpnkhlmaaWKo1
import Derived.Test.YtcebbhfpnkhlmaaWKo2
namespace Go.Proofs.Ytcebbhfpnkhlmaa
open Go.RowKit

/-- Two tables in a list of its own. -/
theorem tabs_two {w : World} {A A2 : Option Addr} {f g : List Bool} {c c2 : Nat} {t : TypeId} (hl : f.length ≤ maxLen) (hr : Row w A (boolsC f)) (hl2 : g.length ≤ maxLen) (hr2 : Row w A2 (boolsC g)) :
    Tabs (w.alloc (.cells #[.slice A f.length c, .slice A2 g.length c2] t)) (some ⟨w.heap.size, 0, none⟩) [f, g] := by
  refine ⟨[.slice A f.length c, .slice A2 g.length c2], rfl, row_new w w.heap.size rfl [.slice A f.length c, .slice A2 g.length c2] t, fun i x hx => ?_⟩
  match i with
  | 0 =>
    simp only [List.getElem?_cons_zero, Option.some.injEq] at hx
    subst hx
    exact ⟨hl, A, c, rfl, hr.below ((Below.refl _ _).alloc (Nat.le_refl _) _)⟩
  | 1 =>
    simp only [List.getElem?_cons_succ, List.getElem?_cons_zero, Option.some.injEq] at hx
    subst hx
    exact ⟨hl2, A2, c2, rfl, hr2.below ((Below.refl _ _).alloc (Nat.le_refl _) _)⟩
  | i + 2 => simp at hx

set_option maxHeartbeats 1000000 in
theorem KFollows_ok : KFollowsOk 11 := by
  intro n f A c g A2 c2 w hl hr hl2 hr2 hX
  have hb0 : Below w.heap.size w (w.alloc (.cells #[.slice A f.length c, .slice A2 g.length c2] 22)) := (Below.refl _ _).alloc (Nat.le_refl _) _
  have hck := checkTables_any n [f, g] (some ⟨w.heap.size, 0, none⟩) 2 (w.alloc (.cells #[.slice A f.length c, .slice A2 g.length c2] 22)) (by simp [maxLen]) (tabs_two hl hr hl2 hr2) (hX.below hb0)
  rw [firstC_two] at hck
  simp only [List.length_cons, List.length_nil, Nat.zero_add] at hck
  by_cases hc : codeK n f.length g.length 0 = 0
  · obtain ⟨k, rfl, hk, hlen, hlen2, _⟩ := codeK_zero hc
    rw [hc] at hck ⊢
    have hle : f.length ≤ g.length := by omega
    have h16 := one_le_16 hk
    have hm : g.length ≤ 1000000 := by omega
    clear hc hlen hlen2
    go_enter Try.func11, Try.ntmps11
    go_wp2_with fail
    refine hck.mono ?_
    rintro e w1 ⟨rfl, hb1⟩
    have hb := hb0.trans (hb1.mono hb0.size)
    have HB := Lib.hid hb
    have hf := kFollows_any f g A A2 c c2 w1 (hr.below hb) (hr2.below hb) hle hm
    clear hck hb1 hb0 hb
    go_wp2_with fail
    refine hf.mono ?_
    rintro e w2 ⟨rfl, rfl⟩
    go_wp2
    go_ret2
    exact ⟨by simp, HB.out⟩
  · have HC := Lib.hid hc
    have hne : (codeK n f.length g.length 0 != 0) = true := by simpa using hc
    have heq : (codeK n f.length g.length 0 == 0) = false := by simpa using hc
    rw [heq]
    clear hc
    generalize codeK n f.length g.length 0 = q at *
    go_enter Try.func11, Try.ntmps11
    go_wp2_with fail
    refine hck.mono ?_
    rintro e w1 ⟨rfl, hb1⟩
    have HB := Lib.hid (hb0.trans (hb1.mono hb0.size))
    clear hck hb1 hb0
    go_wp2
    go_ret2
    exact ⟨by simp, HB.out⟩

set_option maxHeartbeats 1000000 in
theorem KLeast_ok : KLeastOk 14 := by
  intro n f A c keep w hkp hl hr hX
  have hb0 : Below w.heap.size w (w.alloc (.cells #[.slice A f.length c] 22)) := (Below.refl _ _).alloc (Nat.le_refl _) _
  have hck := checkKept_any n keep f [] (some ⟨w.heap.size, 0, none⟩) 1 (w.alloc (.cells #[.slice A f.length c] 22)) (by simp [maxLen]) (tabs_one hl hr) (hX.below hb0)
  rw [keptC_one] at hck
  simp only [List.length_cons, List.length_nil, Nat.zero_add] at hck
  by_cases hc : codeK n f.length f.length keep = 0
  · obtain ⟨k, rfl, hk, hlen, hlen2, hlen3⟩ := codeK_zero hc
    rw [hc] at hck ⊢
    have HL := Lib.hid hlen
    clear hc hlen hlen2 hlen3
    go_enter Try.func14, Try.ntmps14
    go_wp2_with fail
    refine hck.mono ?_
    rintro e w1 ⟨rfl, hb1⟩
    have hb := hb0.trans (hb1.mono hb0.size)
    have hs := kSpread_any k hk f A c keep true w1 HL.out hkp (hr.below hb)
    have HB := Lib.hid hb
    clear hck hb1 hb0 hb
    go_wp2_with fail
    refine hs.mono ?_
    rintro e w2 ⟨g, cap, rfl, hown, hb2⟩
    have HO := Lib.hid (hown.congr (fun i hi => spr_some hi)).row
    have HB2 := Lib.hid (HB.out.trans (hb2.mono HB.out.size))
    clear hown hb2 hs
    go_wp2
    go_ret2
    refine ⟨_, cap, tabB (one k) fun s => someP (atB f) keep s (one k), by rw [tabB_length]; rfl, ?_, HO.out, HB2.out⟩
    first | rw [if_pos rfl] | skip
    unfold leastL
    rw [HL.out]
  · have HC := Lib.hid hc
    have hne : (codeK n f.length f.length keep != 0) = true := by simpa using hc
    clear hc
    generalize codeK n f.length f.length keep = q at *
    go_enter Try.func14, Try.ntmps14
    go_wp2_with fail
    refine hck.mono ?_
    rintro e w1 ⟨rfl, hb1⟩
    have HB := Lib.hid (hb0.trans (hb1.mono hb0.size))
    clear hck hb1 hb0
    go_wp2
    go_ret2
    exact ⟨_, 0, [], rfl, by first | rfl | rw [if_neg HC.out], .inl rfl, HB.out⟩

set_option maxHeartbeats 1000000 in
theorem KMost_ok : KMostOk 16 := by
  intro n f A c keep w hkp hl hr hX
  have hb0 : Below w.heap.size w (w.alloc (.cells #[.slice A f.length c] 22)) := (Below.refl _ _).alloc (Nat.le_refl _) _
  have hck := checkKept_any n keep f [] (some ⟨w.heap.size, 0, none⟩) 1 (w.alloc (.cells #[.slice A f.length c] 22)) (by simp [maxLen]) (tabs_one hl hr) (hX.below hb0)
  rw [keptC_one] at hck
  simp only [List.length_cons, List.length_nil, Nat.zero_add] at hck
  by_cases hc : codeK n f.length f.length keep = 0
  · obtain ⟨k, rfl, hk, hlen, hlen2, hlen3⟩ := codeK_zero hc
    rw [hc] at hck ⊢
    have HL := Lib.hid hlen
    clear hc hlen hlen2 hlen3
    go_enter Try.func16, Try.ntmps16
    go_wp2_with fail
    refine hck.mono ?_
    rintro e w1 ⟨rfl, hb1⟩
    have hb := hb0.trans (hb1.mono hb0.size)
    have hs := kSpread_any k hk f A c keep false w1 HL.out hkp (hr.below hb)
    have HB := Lib.hid hb
    clear hck hb1 hb0 hb
    go_wp2_with fail
    refine hs.mono ?_
    rintro e w2 ⟨g, cap, rfl, hown, hb2⟩
    have HO := Lib.hid (hown.congr (fun i hi => spr_all hi)).row
    have HB2 := Lib.hid (HB.out.trans (hb2.mono HB.out.size))
    clear hown hb2 hs
    go_wp2
    go_ret2
    refine ⟨_, cap, tabB (one k) fun s => allP (atB f) keep s (one k), by rw [tabB_length]; rfl, ?_, HO.out, HB2.out⟩
    first | rw [if_pos rfl] | skip
    unfold mostL
    rw [HL.out]
  · have HC := Lib.hid hc
    have hne : (codeK n f.length f.length keep != 0) = true := by simpa using hc
    clear hc
    generalize codeK n f.length f.length keep = q at *
    go_enter Try.func16, Try.ntmps16
    go_wp2_with fail
    refine hck.mono ?_
    rintro e w1 ⟨rfl, hb1⟩
    have HB := Lib.hid (hb0.trans (hb1.mono hb0.size))
    clear hck hb1 hb0
    go_wp2
    go_ret2
    exact ⟨_, 0, [], rfl, by first | rfl | rw [if_neg HC.out], .inl rfl, HB.out⟩

set_option maxHeartbeats 1000000 in
theorem KBetween_ok : KBetweenOk 17 := by
  intro n f A c g A2 c2 sh w hsh hl hr hl2 hr2 hX
  have hb0 : Below w.heap.size w (w.alloc (.cells #[.slice A f.length c, .slice A2 g.length c2] 22)) := (Below.refl _ _).alloc (Nat.le_refl _) _
  have hck := checkKept_any n sh f [g] (some ⟨w.heap.size, 0, none⟩) 2 (w.alloc (.cells #[.slice A f.length c, .slice A2 g.length c2] 22)) (by simp [maxLen]) (tabs_two hl hr hl2 hr2) (hX.below hb0)
  rw [keptC_two] at hck
  simp only [List.length_cons, List.length_nil, Nat.zero_add] at hck
  by_cases hc : codeK n f.length g.length sh = 0
  · obtain ⟨k, rfl, hk, hlen, hlen2, _⟩ := codeK_zero hc
    have HD := Lib.hid (show codeB k f g sh = if folB (fun s => someP (atB f) sh s f.length) (atB g) f.length = true then 0 else 5 by unfold codeB; rw [if_pos hc])
    rw [hc] at hck
    rw [HD.out]
    have HL := Lib.hid hlen
    have h16 := one_le_16 hk
    have HLE := Lib.hid (show f.length ≤ g.length by omega)
    have HM2 := Lib.hid (show g.length ≤ 1000000 by omega)
    have HE := Lib.hid (show folB (atB (tabB (one k) fun s => someP (atB f) sh s (one k))) (atB g) (one k) = folB (fun s => someP (atB f) sh s f.length) (atB g) f.length by
      rw [HL.out]
      exact fol_congr (fun s hs => atB_tabB _ hs) (fun _ _ => rfl))
    have HM := Lib.hid (show leastL f sh = tabB (one k) fun s => someP (atB f) sh s (one k) by unfold leastL; rw [HL.out])
    clear hc hlen hlen2
    by_cases hq : folB (fun s => someP (atB f) sh s f.length) (atB g) f.length = true
    · rw [if_pos hq]
      have HQ := Lib.hid hq
      clear hq
      go_enter Try.func17, Try.ntmps17
      go_wp2_with fail
      refine hck.mono ?_
      rintro e w1 ⟨rfl, hb1⟩
      have hb := hb0.trans (hb1.mono hb0.size)
      have hs := kSpread_any k hk f A c sh true w1 HL.out hsh (hr.below hb)
      have HB := Lib.hid hb
      clear hck hb1 hb0 hb
      go_wp2_with fail
      refine hs.mono ?_
      rintro e w2 ⟨m, cap, rfl, hown, hb2⟩
      have HO := Lib.hid (hown.congr (fun i hi => spr_some hi)).row
      have hb3 := HB.out.trans (hb2.mono HB.out.size)
      have HB2 := Lib.hid hb3
      have HF := Lib.hid (kFollows_any (tabB (one k) fun s => someP (atB f) sh s (one k)) g (some ⟨m, 0, none⟩) A2 cap c2 w2 HO.out (hr2.below hb3) (by rw [tabB_length, ← HL.out]; exact HLE.out) HM2.out)
      rw [tabB_length, HE.out, HQ.out] at HF
      clear hown hb2 hs hb3
      go_wp2_with fail
      refine HF.out.mono ?_
      rintro e w3 ⟨rfl, rfl⟩
      go_wp2
      go_ret2
      refine ⟨_, cap, tabB (one k) fun s => someP (atB f) sh s (one k), by rw [tabB_length]; rfl, ?_, HO.out, HB2.out⟩
      first | exact HM.out.symm | (rw [if_pos rfl]; exact HM.out.symm)
    · rw [if_neg hq]
      have HQ := Lib.hid (show folB (fun s => someP (atB f) sh s f.length) (atB g) f.length = false by simpa using hq)
      clear hq
      go_enter Try.func17, Try.ntmps17
      go_wp2_with fail
      refine hck.mono ?_
      rintro e w1 ⟨rfl, hb1⟩
      have hb := hb0.trans (hb1.mono hb0.size)
      have hs := kSpread_any k hk f A c sh true w1 HL.out hsh (hr.below hb)
      have HB := Lib.hid hb
      clear hck hb1 hb0 hb
      go_wp2_with fail
      refine hs.mono ?_
      rintro e w2 ⟨m, cap, rfl, hown, hb2⟩
      have HO := Lib.hid (hown.congr (fun i hi => spr_some hi)).row
      have hb3 := HB.out.trans (hb2.mono HB.out.size)
      have HB2 := Lib.hid hb3
      have HF := Lib.hid (kFollows_any (tabB (one k) fun s => someP (atB f) sh s (one k)) g (some ⟨m, 0, none⟩) A2 cap c2 w2 HO.out (hr2.below hb3) (by rw [tabB_length, ← HL.out]; exact HLE.out) HM2.out)
      rw [tabB_length, HE.out, HQ.out] at HF
      clear hown hb2 hs hb3
      go_wp2_with fail
      refine HF.out.mono ?_
      rintro e w3 ⟨rfl, rfl⟩
      go_wp2
      go_ret2
      exact ⟨_, 0, [], rfl, by first | rfl | simp, .inl rfl, HB2.out⟩
  · have HD := Lib.hid (show codeB n f g sh = codeK n f.length g.length sh by unfold codeB; rw [if_neg hc])
    rw [HD.out]
    have HC := Lib.hid hc
    have hne : (codeK n f.length g.length sh != 0) = true := by simpa using hc
    clear hc
    generalize codeK n f.length g.length sh = q at *
    go_enter Try.func17, Try.ntmps17
    go_wp2_with fail
    refine hck.mono ?_
    rintro e w1 ⟨rfl, hb1⟩
    have HB := Lib.hid (hb0.trans (hb1.mono hb0.size))
    clear hck hb1 hb0
    go_wp2
    go_ret2
    exact ⟨_, 0, [], rfl, by first | rfl | rw [if_neg HC.out], .inl rfl, HB.out⟩

end Go.Proofs.Ytcebbhfpnkhlmaa
