/- syllogistref.Tells, Read, BranchCheck, Branches; syllogistlaw.treeCode. -/
import Derived.Test.YtnoehmokaeegeaaCh
import Derived.Test.YtnoehmokaeegeaaWT1
import Derived.Laws.StructEq
namespace Go.Proofs.Ytnoehmokaeegeaa
open Go.RowKit

/-- The cells of a node. -/
theorem RowN.at {w : World} {A : Option Addr} {l : List Nd} {k : Nat} {b : Nd} (h : Row w A (nodesC l)) (hb : l[k]? = some b) :
    ∃ g off, A = some ⟨g, off, none⟩ ∧ w.cell? ⟨g, off + k * 3, none⟩ = some (.int .i64 b.1) ∧ w.cell? ⟨g, off + k * 3 + 1, none⟩ = some (.int .i64 b.2.1) ∧ w.cell? ⟨g, off + k * 3 + 2, none⟩ = some (.int .i64 b.2.2) := by
  have hk : k < l.length := (List.getElem?_eq_some_iff.1 hb).1
  obtain ⟨g, off, rfl, hc⟩ := h.at (k := k * 3) (by rw [nodesC_length]; omega)
  exact ⟨g, off, rfl, hc (k * 3 + 0) _ (nodesC_at hb (by decide)), hc (k * 3 + 1) _ (nodesC_at hb (by decide)), hc (k * 3 + 2) _ (nodesC_at hb (by decide))⟩

set_option maxHeartbeats 1000000 in
theorem Tells_any (n : Nat) (hn : n ≤ 4) (l : List Nd) (A : Option Addr) (c : Nat) (s : Nat) (w : World) (hs : s < 4294967296) (hl : l.length ≤ 20) (hr : Row w A (nodesC l)) (hg : GoodD n l) :
    ∀ (q : Nat) (k : Int), k.toNat ≤ q → 0 ≤ k → k < l.length + 2 →
    Calls Try.prog 24 #[.slice A l.length c, .int .i64 k, .int .u32 s] w fun e w' => e = .returned (.bool (tell l k s)) ∧ w = w' := by
  intro q
  induction q with
  | zero =>
    intro k hq h0 hk
    have HT := Lib.hid (tell_leaf (l := l) (s := s) (show k < 2 by omega))
    obtain rfl : k = 0 := by omega
    go_enter Try.func24, Try.ntmps24
    go_wp2
    go_ret
    exact ⟨ret_bool (by rw [HT.out]; rfl), rfl⟩
  | succ q ih =>
    intro k hq h0 hk
    by_cases h2 : k < 2
    · have HT := Lib.hid (tell_leaf (l := l) (s := s) h2)
      go_enter Try.func24, Try.ntmps24
      go_wp2
      go_ret
      exact ⟨ret_bool (by rw [HT.out]), rfl⟩
    · have h2' : 2 ≤ k := by omega
      obtain ⟨m, rfl⟩ : ∃ m : Nat, k = (m : Int) + 2 := ⟨(k - 2).toNat, by omega⟩
      obtain ⟨v1, v2, ⟨a1, a2, _⟩, ⟨b1, b2, _⟩⟩ := hg.node h2' hk
      have hnd := nd_at h2' hk
      have HT := Lib.hid (tell_step hg h2' hk s)
      generalize nd l ((m : Int) + 2) = b at *
      rw [show ((m : Int) + 2 - 2).toNat = m by omega] at hnd a2 b2
      obtain ⟨g, off, rfl, c0, c1, c2⟩ := RowN.at hr hnd
      obtain ⟨bv, bl, bh⟩ := b
      simp only at *
      obtain ⟨vv, rfl⟩ := Int.eq_ofNat_of_zero_le v1
      have e2 : (m : Int) + 2 - 2 = m := by omega
      have ihh := ih bh (by omega) b1 (by omega)
      have ihl := ih bl (by omega) a1 (by omega)
      have hml : m < l.length := by omega
      rw [Int.toNat_natCast] at HT
      clear hnd ih h2
      cases hb : s.testBit vv with
      | true =>
        rw [hb, if_pos rfl] at HT
        go_enter Try.func24, Try.ntmps24
        go_wp2_with fail
        refine (Bit_any s vv (by omega) hs _).mono ?_
        rintro e w1 ⟨rfl, rfl⟩
        rw [hb]
        clear hb
        go_wp2_with fail
        refine ihh.mono ?_
        rintro e w1 ⟨rfl, rfl⟩
        go_wp2
        go_ret
        exact ⟨ret_bool (by rw [HT.out]), rfl⟩
      | false =>
        rw [hb, if_neg (by decide)] at HT
        go_enter Try.func24, Try.ntmps24
        go_wp2_with fail
        refine (Bit_any s vv (by omega) hs _).mono ?_
        rintro e w1 ⟨rfl, rfl⟩
        rw [hb]
        clear hb
        go_wp2_with fail
        refine ihl.mono ?_
        rintro e w1 ⟨rfl, rfl⟩
        go_wp2
        go_ret
        exact ⟨ret_bool (by rw [HT.out]), rfl⟩

/-- A node in memory. -/
def NdC (w : World) (g : Nat) (b : Nd) : Prop := w.cell? ⟨g, 0, none⟩ = some (.int .i64 b.1) ∧ w.cell? ⟨g, 1, none⟩ = some (.int .i64 b.2.1) ∧ w.cell? ⟨g, 2, none⟩ = some (.int .i64 b.2.2)
theorem NdC.below {w w' : World} {g : Nat} {b : Nd} (h : NdC w g b) (hb : Below w.heap.size w w') : NdC w' g b :=
  ⟨(hb.cell (p := ⟨g, 0, none⟩) (block_lt_of_cell h.1)).trans h.1, (hb.cell (p := ⟨g, 1, none⟩) (block_lt_of_cell h.2.1)).trans h.2.1, (hb.cell (p := ⟨g, 2, none⟩) (block_lt_of_cell h.2.2)).trans h.2.2⟩
theorem NdC.made (w : World) (a b c : Int) (t : TypeId) : NdC (w.alloc (.cells #[.int .i64 a, .int .i64 b, .int .i64 c] t)) w.heap.size (a, b, c) := by
  refine ⟨?_, ?_, ?_⟩ <;> simp

set_option maxHeartbeats 4000000 in
theorem BranchCheck_any (n : Nat) (_hn : n ≤ 4) (l : List Nd) (A : Option Addr) (c : Nat) (root : Int) (w : World) (hl : l.length ≤ 20) (hr : Row w A (nodesC l)) :
    Calls Try.prog 23 #[.int .i64 n, .slice A l.length c, .int .i64 root] w fun e w' => e = .returned (.int .i64 (codeB n l root)) ∧ Below w.heap.size w w' := by
  go_enter Try.func23, Try.ntmps23
  go_wp2
  go_loopw [13] (fun iv wr => ∃ i : Nat, iv = .int .i64 i ∧ i ≤ l.length ∧ firstC n l i = 0 ∧ Below w.heap.size w wr) (fun iv _ => l.length - (intOf iv).toNat)
  case atStart => exact ⟨0, rfl, Nat.zero_le _, rfl, Below.refl _ _⟩
  case round =>
    obtain ⟨i, rfl, hi, hf, hbel⟩ := hrel
    have HFi := Lib.hid hf
    clear hf
    by_cases hlt : i < l.length
    · obtain ⟨b, hb⟩ := get_some hlt
      obtain ⟨g, off, rfl, c0, c1, c2⟩ := RowN.at (hr.below hbel) hb
      have HN := Lib.hid (firstC_next HFi.out hb)
      have HE := Lib.hid (show nodeC n l i b ≠ 0 → nodeC n l i b = codeB n l root from fun h => by
        have h1 : firstC n l (i + 1) ≠ 0 := by rw [firstC_next HFi.out hb]; exact h
        have h2 := firstC_stay h1 l.length (by omega)
        unfold codeB
        rw [if_pos (by rw [h2]; exact h1), h2, firstC_next HFi.out hb])
      obtain ⟨bv, bl, bh⟩ := b
      have HBi := Lib.hid hb
      clear hb
      have hb1 := hbel.alloc hbel.size (.cells #[.int .i64 bv, .int .i64 bl, .int .i64 bh] 52)
      have hN1 := NdC.made wr bv bl bh 52
      by_cases hv1 : bv < 0
      · have HC := Lib.hid (show codeB n l root = 4 by rw [← HE.out (by simp [nodeC, hv1])]; simp [nodeC, hv1])
        go_wp2
        go_ret
        exact ⟨ret_int HC.out.symm, hb1⟩
      · by_cases hv2 : (n : Int) ≤ bv
        · have HC := Lib.hid (show codeB n l root = 4 by rw [← HE.out (by simp [nodeC, hv2])]; simp [nodeC, hv2])
          go_wp2
          go_ret
          exact ⟨ret_int HC.out.symm, hb1⟩
        · have HND := Lib.hid (show nodeC n l i (bv, bl, bh) = if kidOk l i bv bl ∧ kidOk l i bv bh then 0 else 3 by unfold nodeC; rw [if_neg (by simp only; omega)])
          have hb2 := hb1.alloc hb1.size (.cells #[.int .i64 bl, .int .i64 bh] 3)
          have hN2 := hN1.below ((Below.refl _ _).alloc (Nat.le_refl _) (.cells #[.int .i64 bl, .int .i64 bh] 3))
          have hk0 : ((wr.alloc (.cells #[.int .i64 bv, .int .i64 bl, .int .i64 bh] 52)).alloc (.cells #[.int .i64 bl, .int .i64 bh] 3)).cell? ⟨wr.heap.size + 1, 0, none⟩ = some (.int .i64 bl) := by
            rw [World.cell?_alloc_at _ _ _ _ (by simp)]; rfl
          have hk1 : ((wr.alloc (.cells #[.int .i64 bv, .int .i64 bl, .int .i64 bh] 52)).alloc (.cells #[.int .i64 bl, .int .i64 bh] 3)).cell? ⟨wr.heap.size + 1, 1, none⟩ = some (.int .i64 bh) := by
            rw [World.cell?_alloc_at _ _ _ _ (by simp)]; rfl
          clear hb1 hN1
          go_wp2
          clear c0 c1 c2
          generalize hww : ((wr.alloc (.cells #[.int .i64 bv, .int .i64 bl, .int .i64 bh] 52)).alloc (.cells #[.int .i64 bl, .int .i64 bh] 3)) = ww at *
          go_loopw [33] (fun jv wi => ∃ j d : Nat, jv = .int .i64 j ∧ j ≤ 2 ∧ (1 ≤ j → kidOk l i bv bl) ∧ (2 ≤ j → kidOk l i bv bh) ∧ wi = ww.drewN d) (fun jv _ => 2 - (intOf jv).toNat)
          case atStart => exact ⟨0, 0, rfl, by omega, fun h => by omega, fun h => by omega, rfl⟩
          case round =>
            obtain ⟨j, d, rfl, hj, q1, q2, rfl⟩ := hrel
            by_cases hj2 : j < 2
            · obtain ⟨x, hcx, hyes, hno⟩ : ∃ x, ww.cell? ⟨wr.heap.size + 1, j, none⟩ = some (.int .i64 x) ∧ (kidOk l i bv x → (1 ≤ j + 1 → kidOk l i bv bl) ∧ (2 ≤ j + 1 → kidOk l i bv bh)) ∧ (¬ kidOk l i bv x → codeB n l root = 3) := by
                have h3 : ¬ (kidOk l i bv bl ∧ kidOk l i bv bh) → codeB n l root = 3 := fun h => by
                  have h4 : nodeC n l i (bv, bl, bh) = 3 := by rw [HND.out, if_neg h]
                  rw [← HE.out (by rw [h4]; decide), h4]
                by_cases e : j = 0
                · subst e
                  exact ⟨bl, hk0, fun h => ⟨fun _ => h, fun h => by omega⟩, fun h => h3 fun h' => h h'.1⟩
                · obtain rfl : j = 1 := by omega
                  exact ⟨bh, hk1, fun h => ⟨fun _ => q1 (Nat.le_refl _), fun _ => h⟩, fun h => h3 fun h' => h h'.2⟩
              have HYes := Lib.hid hyes
              have HNo := Lib.hid hno
              obtain ⟨n0, _, _⟩ := hN2
              have n0' := n0
              simp only at n0'
              clear hyes hno q1 q2 hk0 hk1 n0
              have hwi : IntKind.i64.wrap ((i : Int) + 2) = (i : Int) + 2 := IntWalk.i64_in _ (by omega)
              by_cases x1 : x < 0
              · have e1 : decide (x < 0) = true := decide_eq_true x1
                have HC := Lib.hid (HNo.out fun h => by have := h.1; omega)
                go_wp2
                go_quiet (fail)
                go_wp2
                go_ret
                exact ⟨ret_int HC.out.symm, below_drewN (below_drewN hb2 _) _⟩
              · have e1 : decide (x < 0) = false := decide_eq_false x1
                by_cases x2 : (i : Int) + 2 ≤ x
                · have e2 : decide ((i : Int) + 2 ≤ x) = true := decide_eq_true x2
                  have HC := Lib.hid (HNo.out fun h => by have := h.2.1; omega)
                  go_wp2
                  go_quiet (fail)
                  go_wp2
                  go_ret
                  exact ⟨ret_int HC.out.symm, below_drewN (below_drewN hb2 _) _⟩
                · have e2 : decide ((i : Int) + 2 ≤ x) = false := decide_eq_false x2
                  by_cases x3 : x < 2
                  · have e3 : decide (2 ≤ x) = false := decide_eq_false (by omega)
                    have HK := Lib.hid (HYes.out ⟨by omega, by omega, fun h => by omega⟩)
                    go_wp2
                    go_quiet (fail)
                    go_wp2
                    go_roundw
                    case rel => exact ⟨j + 1, _, by go_num, by omega, HK.out.1, HK.out.2, by first | rfl | exact World.drewN_drewN _ _ _⟩
                    case measure => simp [intOf]; omega
                  · have e3 : decide (2 ≤ x) = true := decide_eq_true (by omega)
                    obtain ⟨m, rfl⟩ : ∃ m : Nat, x = (m : Int) + 2 := ⟨(x - 2).toNat, by omega⟩
                    have hwm : IntKind.i64.wrap ((m : Int) + 2 - 2) = (m : Int) := by rw [show (m : Int) + 2 - 2 = m by omega]; exact IntWalk.i64_in _ (by omega)
                    have e4 : decide (i ≤ m) = false := decide_eq_false (by omega)
                    have hml : m < l.length := by omega
                    have hnd := nd_at (l := l) (k := (m : Int) + 2) (by omega) (by omega)
                    rw [show ((m : Int) + 2 - 2).toNat = m by omega] at hnd
                    obtain ⟨g', off', he, d0, _, _⟩ := RowN.at (hr.below hb2) hnd
                    simp only [Option.some.injEq, Addr.mk.injEq, and_true] at he
                    obtain ⟨rfl, rfl⟩ := he
                    have HNd := Lib.hid (show ∀ z, z = nd l ((m : Int) + 2) → (kidOk l i bv ((m : Int) + 2) ↔ bv < z.1) from fun z hz => by
                      unfold kidOk
                      rw [← hz]
                      exact ⟨fun h => h.2.2 (by omega), fun h => ⟨by omega, by omega, fun _ => h⟩⟩)
                    generalize hzz : nd l ((m : Int) + 2) = z at *
                    have HZ := Lib.hid hzz
                    obtain ⟨zv, zr⟩ := z
                    simp only at d0
                    clear hnd hzz
                    by_cases x4 : zv ≤ bv
                    · have HC := Lib.hid (HNo.out fun h => by have := (HNd.out _ rfl).1 h; simp only at this; omega)
                      have hd : decide (zv ≤ bv) = true := decide_eq_true x4
                      go_wp2
                      go_quiet (fail)
                      go_wp2
                      go_ret
                      exact ⟨ret_int HC.out.symm, below_drewN (below_drewN hb2 _) _⟩
                    · have HK := Lib.hid (HYes.out ((HNd.out _ rfl).2 (by simp only; omega)))
                      have hd : decide (zv ≤ bv) = false := decide_eq_false x4
                      go_wp2
                      go_quiet (fail)
                      go_wp2
                      go_roundw
                      case rel => exact ⟨j + 1, _, by go_num, by omega, HK.out.1, HK.out.2, by first | rfl | exact World.drewN_drewN _ _ _⟩
                      case measure => simp [intOf]; omega
            · obtain rfl : j = 2 := by omega
              have HZ := Lib.hid (show firstC n l (i + 1) = 0 by rw [HN.out, HND.out, if_pos ⟨q1 (by omega), q2 (by omega)⟩])
              clear q1 q2
              go_wp2
              go_roundw
              case rel => exact ⟨i + 1, by go_num, by omega, HZ.out, below_drewN hb2 _⟩
              case measure => simp [intOf]; omega
    · obtain rfl : i = l.length := by omega
      by_cases hr1 : root < 0
      · have HC := Lib.hid (show codeB n l root = 2 by unfold codeB; rw [if_neg (by simpa using HFi.out), if_neg (by omega)])
        go_wp2
        go_ret
        exact ⟨ret_int HC.out.symm, hbel⟩
      · by_cases hr2 : root < l.length + 2
        · have HC := Lib.hid (show codeB n l root = 0 by unfold codeB; rw [if_neg (by simpa using HFi.out), if_pos (by omega)])
          go_wp2
          go_ret
          exact ⟨ret_int HC.out.symm, hbel⟩
        · have HC := Lib.hid (show codeB n l root = 2 by unfold codeB; rw [if_neg (by simpa using HFi.out), if_neg (by omega)])
          go_wp2
          go_ret
          exact ⟨ret_int HC.out.symm, hbel⟩

end Go.Proofs.Ytnoehmokaeegeaa
