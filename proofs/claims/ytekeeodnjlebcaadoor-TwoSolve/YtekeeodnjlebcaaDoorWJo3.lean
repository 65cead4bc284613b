/- two.imply. -/
import Derived.Test.YtekeeodnjlebcaaDoorWJo2
import Derived.BigQuiet
namespace Go.Proofs.YtekeeodnjlebcaaDoor
open Go.RowKit

/-- The table with a clause's two steps. -/
def addI (n : Nat) (f : Nat → Nat) (a b : Nat) : Nat → Nat := upd (upd f (neg n a) (f (neg n a) ||| one b)) (neg n b) (upd f (neg n a) (f (neg n a) ||| one b) (neg n b) ||| one a)

set_option maxHeartbeats 1000000 in
theorem imply_any (n : Nat) (c : Cla) (B g : Nat) (f : Nat → Nat) (w : World) (hn1 : 1 ≤ n) (hn6 : n ≤ 6) (h1 : c.1 < one n) (h2 : c.2 < one n) (h0 : litW n c ≠ 0)
    (hown : Own w B g (n + n) f) (hf : ∀ a, a < n + n → f a < one (n + n)) (hX : Laid w) (hB : B ≤ w.heap.size) :
    Calls Tryd.prog 15 #[.int .i64 n, .slice (some ⟨g, 0, none⟩) (n + n) (n + n), .agg #[.int .u32 c.1, .int .u32 c.2]] w fun e w' => e = .returned (.tuple #[]) ∧
      Own w' B g (n + n) (addI n f (lowB (litW n c)) (topB (litW n c))) ∧ Below B w w' := by
  obtain ⟨c1, c2⟩ := c
  simp only at h1 h2 ⊢
  have hlt := litW_lt (n := n) (c := (c1, c2)) h1 h2
  have h12 : one (n + n) ≤ 4096 := by unfold one; exact Nat.le_trans (Nat.pow_le_pow_right (by omega) (show n + n ≤ 12 by omega)) (by decide)
  have h32 : litW n (c1, c2) < 4294967296 := by omega
  obtain ⟨l1, _⟩ := low_spec h0 h32
  obtain ⟨t0, t1, _⟩ := top_spec h0 h32
  have la := bit_lt hlt l1
  have ta := bit_lt hlt t1
  have e64 := one_le_64 hn6
  have HO := Lib.hid hown
  have HF := Lib.hid hf
  have HX := Lib.hid hX
  have HL := Lib.hid (show litW n (c1, c2) = c1 ||| c2 * 2 ^ n from rfl)
  have hbits : bits BinOp.or IntKind.u32 (c1 : Int) ((c2 : Int) * 2 ^ n % 4294967296) = (litW n (c1, c2) : Nat) := by
    have e : ((c2 : Int) * 2 ^ n % 4294967296) = ((c2 * 2 ^ n : Nat) : Int) := by
      have hp : c2 * 2 ^ n ≤ 64 * 64 := Nat.mul_le_mul (by omega) e64
      rw [show ((c2 : Int) * 2 ^ n) = ((c2 * 2 ^ n : Nat) : Int) by simp]
      omega
    have hp : c2 * 2 ^ n < 4294967296 := Nat.lt_of_le_of_lt (Nat.mul_le_mul (show c2 ≤ 64 by omega) e64) (by decide)
    rw [e, u32_or_nat _ _ (by omega) hp]
    rfl
  have HBt := Lib.hid hbits
  obtain ⟨b', hb'⟩ : ∃ b' : Nat, Lib.bitLen (litW n (c1, c2)) = b' + 1 := ⟨Lib.bitLen (litW n (c1, c2)) - 1, by omega⟩
  obtain rfl : topB (litW n (c1, c2)) = b' := by unfold topB; omega
  have htz := fun W => tz_any _ h0 h32 W
  have hln := len_any (litW n (c1, c2)) h32
  rw [hb'] at hln
  clear hown hf hX l1 t1 hbits HL hb' t0
  generalize topB (litW n (c1, c2)) = b at *
  generalize lowB (litW n (c1, c2)) = a at *
  generalize litW n (c1, c2) = x at *
  go_enter Tryd.func15, Tryd.ntmps15
  go_wp2
  go_quiet (fail)
  rw [HBt.out]
  clear HBt
  have HOw := Lib.hid ((HO.out.alloc (.cells #[.int .u32 (c1 : Int), .int .u32 (c2 : Int)] 37)).drewN nq)
  have HBw := Lib.hid (below_drewN ((Below.refl B w).alloc hB (.cells #[.int .u32 (c1 : Int), .int .u32 (c2 : Int)] 37)) nq)
  have HXw := Lib.hid (HX.out.below (below_drewN ((Below.refl w.heap.size w).alloc (Nat.le_refl _) (.cells #[.int .u32 (c1 : Int), .int .u32 (c2 : Int)] 37)) nq))
  have htz := htz _ HXw.out
  clear HO HX HXw hB
  generalize (w.alloc (.cells #[.int .u32 (c1 : Int), .int .u32 (c2 : Int)] 37)).drewN nq = w1 at *
  generalize w.heap.size = sz at *
  go_wp2_with fail
  refine htz.mono ?_
  rintro e w' ⟨rfl, rfl⟩
  go_wp2_with fail
  refine (hln _).mono ?_
  rintro e w' ⟨rfl, rfl⟩
  go_wp2
  clear hln htz
  have hna := neg_lt la
  have hnb := neg_lt ta
  have hca := HOw.out.cell hna
  have hfa := HOw.out.free (neg n a)
  have hst1 := jNot_still n a hn1 hn6 la
  have hst2 := jNot_still n b hn1 hn6 ta
  have HA := Lib.hid (HF.out _ hna)
  have HB2 := Lib.hid (HF.out _ hnb)
  have o1 := one_int b (by omega)
  have o2 := one_int a (by omega)
  have HD := Lib.hid (show addI n f a b = upd (upd f (neg n a) (f (neg n a) ||| one b)) (neg n b) (upd f (neg n a) (f (neg n a) ||| one b) (neg n b) ||| one a) from rfl)
  have hne : (neg n b = neg n a) ∨ neg n b ≠ neg n a := Decidable.em _
  generalize hAna : neg n a = na at *
  generalize hAnb : neg n b = nb at *
  have HNa := Lib.hid hAna
  have HNb := Lib.hid hAnb
  clear hAna hAnb
  have hia : (na : Int) < (n : Int) + n := by omega
  have hib : (nb : Int) < (n : Int) + n := by omega
  refine wp_region_still_tail 10 (by kernel_rfl) (by kernel_rfl) ?_
  simp only [List.take_succ_cons, List.take_zero, List.drop_succ_cons, List.drop_zero]
  iterate 3 still_step
  still_call (hst1 _)
  iterate 6 still_step
  refine wpStill_nil ?_
  go_wp2
  rw [o1]
  have HO2 := Lib.hid (HOw.out.orAt (a := na) (x := f na) (y := one b) (by have := HA.out; omega) (one_lt (by omega))).drew
  have HW2 := Lib.hid (HBw.out.setCell (p := ⟨g, na, none⟩) HOw.out.base (.int .u32 (bits .or .u32 (f na : Int) (one b : Int)))).drew
  clear hca hfa HOw HBw
  generalize (w1.setCell ⟨g, na, none⟩ (.int .u32 (bits .or .u32 (f na : Int) (one b : Int)))).drew = w2 at *
  have HF2 := Lib.hid (show upd f na (f na ||| one b) nb < 4294967296 by
    have h := HA.out
    have h3 := HB2.out
    have h4 := or_lt_one h (one_lt_one ta)
    unfold upd
    split <;> omega)
  generalize upd f na (f na ||| one b) = f2 at *
  have hca := HO2.out.cell hnb
  have hfa := HO2.out.free nb
  refine wp_region_still_tail 10 (by kernel_rfl) (by kernel_rfl) ?_
  simp only [List.take_succ_cons, List.take_zero, List.drop_succ_cons, List.drop_zero]
  iterate 3 still_step
  still_call (hst2 _)
  iterate 6 still_step
  refine wpStill_nil ?_
  go_wp2
  rw [o2]
  go_end0
  exact ⟨rfl, by rw [HD.out]; exact (HO2.out.orAt HF2.out (one_lt (by omega))).drew, (HW2.out.setCell (p := ⟨g, nb, none⟩) HO2.out.base _).drew⟩

end Go.Proofs.YtekeeodnjlebcaaDoor
