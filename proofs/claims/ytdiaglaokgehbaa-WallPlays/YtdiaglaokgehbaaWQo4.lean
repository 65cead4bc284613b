/- wall.Fewest. -/
import Derived.Test.YtdiaglaokgehbaaWQo1
import Derived.Test.YtdiaglaokgehbaaRowK
namespace Go.Proofs.Ytdiaglaokgehbaa
open Go.RowKit
open Go.ChangeMaps (setBlock)

/-- Block b is a map that has f x for each number x: what is not in it reads as zero. It has at most m entries. -/
def CtM (w : World) (b m : Nat) (f : Int → Nat) : Prop :=
  ∃ D : DataW Unit, w.ownsMap Try.prog 3 (plainElem Try.prog 3) b m D ∧ Maps.IsMap D ∧ ∀ x : Int, D.atKey (.int .i64 x) (.lit (.int .i64 0)) = .lit (.int .i64 (f x : Nat))
def updI (f : Int → Nat) (x : Int) (v : Nat) : Int → Nat := fun y => if y = x then v else f y
theorem countLit {x : Nat} (hx : x < 1000) : (Lit.int .i64 (x : Nat)).wf = true := intLit hx
section
variable {w w' : World} {b m : Nat} {f : Int → Nat}
theorem CtM.lt (h : CtM w b m f) : b < w.heap.size := by
  obtain ⟨D, h, _⟩ := h
  exact h.lt
theorem CtM.same (h : CtM w b m f) (e : w'.heap[b]? = w.heap[b]?) : CtM w' b m f := by
  obtain ⟨D, ⟨es, clock, hb, r⟩, h2⟩ := h
  exact ⟨D, ⟨es, clock, e.trans hb, r⟩, h2⟩
theorem ctM_new (w : World) : CtM (w.alloc (.map #[] 0)) w.heap.size 0 fun _ => 0 :=
  ⟨_, World.ownsMap_made w Try.prog 3 _, Maps.isMap_empty, fun _ => rfl⟩
theorem CtM.look (h : CtM w b m f) {x : Int} (hx : (Lit.int .i64 x).wf = true) : (Instr.lookup 75 (.map (some b)) (.int .i64 x) false).run Try.prog w = .ok (.int .i64 (f x : Nat)) w := by
  obtain ⟨D, h, _, hf⟩ := h
  obtain ⟨c, hrun, hat, _⟩ := h.lookup_int (Maps.int_keyed Try.underlying3) Try.underlying75 Try.underlying3 (Try.zeroValue3 _) (Maps.keyOf_int_mk Try.underlying3 hx)
  rw [hf x] at hat
  simp only [DataW.lit.injEq, Lit.int.injEq, true_and] at hat
  rw [hat]
  exact hrun
theorem CtM.put (h : CtM w b m f) (hm : m < maxLen) {x : Int} {v : Nat} (hx : (Lit.int .i64 x).wf = true) (hv : v < 1000) :
    ∃ o : Obj, (Instr.mapUpdate 75 (.map (some b)) (.int .i64 x) (.int .i64 (v : Nat))).run Try.prog w = .ok () (setBlock w b o) ∧ CtM (setBlock w b o) b (m + 1) (updI f x v) := by
  obtain ⟨D, h, hD, hf⟩ := h
  obtain ⟨w', hrun, hown, es, clock, es', clock', hb, rfl⟩ := h.store (Maps.int_keyed Try.underlying3) Try.underlying75 hm (Maps.keyOf_int_mk Try.underlying3 hx) (plainElem_int Try.underlying3 (countLit hv))
  refine ⟨_, hrun, _, hown, hD.put _ _, fun y => ?_⟩
  by_cases e : y = x
  · subst e
    rw [Maps.atKey_put_same hD ((Maps.int_keyed Try.underlying3).key (Maps.keyOf_int_mk Try.underlying3 hx))]
    simp [updI]
  · rw [Maps.atKey_put_other (fun k2 => e (by simp only [Lit.int.injEq, true_and] at k2; omega)), hf y]
    simp [updI, e]
end

/-- How many of the first k firms are of class x and have a thing. -/
def cntC (fi cl : List Int) (x : Int) : Nat → Nat
  | 0 => 0
  | k + 1 => cntC fi cl x k + if atI cl k = x ∧ (k : Int) ∈ fi then 1 else 0
theorem manyW_cnt (fi cl : List Int) (a k : Nat) : manyW fi cl a k = cntC fi cl (atI cl a) k := by
  induction k with
  | zero => rfl
  | succ k ih => unfold manyW cntC; rw [ih]
theorem cntC_le (fi cl : List Int) (x : Int) (k : Nat) : cntC fi cl x k ≤ k := by
  induction k with
  | zero => exact Nat.le_refl _
  | succ k ih => unfold cntC; split <;> omega
theorem cntC_mono (fi cl : List Int) (x : Int) {k l : Nat} (h : k ≤ l) : cntC fi cl x k ≤ cntC fi cl x l := by
  induction l with
  | zero => rw [show k = 0 by omega]; exact Nat.le_refl _
  | succ l ih =>
    by_cases e : k = l + 1
    · rw [e]; exact Nat.le_refl _
    · have := ih (by omega)
      show _ ≤ cntC fi cl x l + _
      omega
theorem most_ge {fi cl : List Int} {k K : Nat} (hk : k < K) (hf : (k : Int) ∈ fi) : manyW fi cl k cl.length ≤ mostW fi cl K := by
  induction K with
  | zero => omega
  | succ K ih =>
    unfold mostW
    by_cases e : k = K
    · subst e
      split
      · exact Nat.le_refl _
      · rename_i h
        apply Classical.byContradiction
        intro hh
        exact h ⟨by omega, hf⟩
    · have := ih (by omega)
      split
      · omega
      · exact this
theorem most_le {fi cl : List Int} {M K : Nat} (h : ∀ a, a < K → manyW fi cl a cl.length ≤ M) : mostW fi cl K ≤ M := by
  induction K with
  | zero => exact Nat.zero_le _
  | succ K ih =>
    have h1 := ih (fun a ha => h a (by omega))
    unfold mostW
    split
    · exact h K (by omega)
    · exact h1
/-- What has been found of the first k firms. -/
structure MaxC (fi cl : List Int) (k M : Nat) : Prop where
  all : ∀ x, cntC fi cl x k ≤ M
  le : M ≤ mostW fi cl cl.length
theorem MaxC.skip {fi cl : List Int} {k M : Nat} (h : MaxC fi cl k M) (hk : ¬ (k : Int) ∈ fi) : MaxC fi cl (k + 1) M :=
  ⟨fun x => by unfold cntC; rw [if_neg (fun e => hk e.2)]; exact h.all x, h.le⟩
theorem MaxC.step {fi cl : List Int} {k M : Nat} (h : MaxC fi cl k M) (hk : (k : Int) ∈ fi) (hkl : k < cl.length) : MaxC fi cl (k + 1) (max M (cntC fi cl (atI cl k) k + 1)) := by
  refine ⟨fun x => ?_, Nat.max_le.2 ⟨h.le, ?_⟩⟩
  · rw [show cntC fi cl x (k + 1) = cntC fi cl x k + (if atI cl k = x ∧ (k : Int) ∈ fi then 1 else 0) from rfl]
    have := h.all x
    by_cases e : atI cl k = x
    · subst e; rw [if_pos ⟨rfl, hk⟩]; omega
    · rw [if_neg (fun e2 => e e2.1)]; omega
  · have h1 := most_ge (fi := fi) (cl := cl) hkl hk
    rw [manyW_cnt] at h1
    have h2 := cntC_mono fi cl (atI cl k) (show k + 1 ≤ cl.length by omega)
    have h3 : cntC fi cl (atI cl k) (k + 1) = cntC fi cl (atI cl k) k + 1 := by
      rw [show cntC fi cl (atI cl k) (k + 1) = cntC fi cl (atI cl k) k + (if atI cl k = atI cl k ∧ (k : Int) ∈ fi then 1 else 0) from rfl, if_pos ⟨rfl, hk⟩]
    omega
theorem MaxC.done {fi cl : List Int} {M : Nat} (h : MaxC fi cl cl.length M) : M = mostW fi cl cl.length :=
  Nat.le_antisymm h.le (most_le fun a _ => by rw [manyW_cnt]; exact h.all _)
theorem cnt_skip {fi cl : List Int} {k : Nat} (hk : ¬ (k : Int) ∈ fi) : (fun x => cntC fi cl x (k + 1)) = fun x => cntC fi cl x k := by
  funext x
  show _ + _ = _
  rw [if_neg (fun e => hk e.2)]
  rfl
theorem cnt_step {fi cl : List Int} {k : Nat} (hk : (k : Int) ∈ fi) : updI (fun x => cntC fi cl x k) (atI cl k) (cntC fi cl (atI cl k) k + 1) = fun x => cntC fi cl x (k + 1) := by
  funext x
  unfold updI
  show _ = _ + _
  by_cases e : x = atI cl k
  · subst e; rw [if_pos rfl, if_pos ⟨rfl, hk⟩]
  · rw [if_neg e, if_neg (fun e2 => e e2.1.symm)]; rfl

set_option maxRecDepth 100000 in
set_option maxHeartbeats 4000000 in
theorem WFewest_ok : WFewestOk 29 := by
  intro fi A c cl A2 c2 w hm hcap hr hm2 hcap2 h64 hr2 hX
  have kC := qCheck_any fi cl A A2 c c2 w hr
  by_cases hc : codeF fi cl = 0
  · obtain ⟨g4, g5, g6⟩ := codeF_zero hc
    rw [hc] at kC ⊢
    rw [if_pos rfl]
    have hmm := @run_makeMap Try.prog
    have H64 := Lib.hid (fun k (h : k < cl.length) => show (Lit.int .i64 (atI cl k)).wf = true from h64 _ (List.mem_of_getElem? (atI_get h)))
    clear hc g6 h64
    go_enter Try.func29, Try.ntmps29
    go_wp2_with fail
    refine kC.mono ?_
    rintro e w2 ⟨rfl, hb2⟩
    have HB2 := Lib.hid hb2
    clear kC hb2
    go_wp2
    go_loopw [8, 20] (fun mv v wr => ∃ (k M m : Nat), v = .int .i64 k ∧ k ≤ cl.length ∧ mv = .int .i64 M ∧ m ≤ k ∧ MaxC fi cl k M ∧ CtM wr w2.heap.size m (fun x => cntC fi cl x k) ∧ Below w.heap.size w wr) (fun _ v _ => cl.length - (intOf v).toNat)
    case atStart => exact ⟨0, 0, 0, rfl, Nat.zero_le _, rfl, Nat.le_refl _, ⟨fun _ => Nat.le_refl _, Nat.zero_le _⟩, ctM_new w2, HB2.out.alloc HB2.out.size _⟩
    case round =>
      obtain ⟨k, M, m, rfl, hk, rfl, hmk, hMx, hct, hbel⟩ := hrel
      have hge : w.heap.size ≤ w2.heap.size := HB2.out.size
      have HM := Lib.hid hMx
      have HCt := Lib.hid hct
      have HBel := Lib.hid hbel
      have hM8 : M ≤ 8 := by have := hMx.le; have := mostW_le fi cl cl.length; omega
      clear hMx hct hbel
      generalize w2.heap.size = gb at *
      by_cases hlt : k < cl.length
      · obtain ⟨b, off, rfl, d1⟩ := RowI.cells (hr2.below HBel.out) (atI_get hlt)
        have kH := slContains_any fi A c (k : Int) wr (hr.below HBel.out) (by omega)
        have hkd : decide ((k : Int) < cl.length) = true := by rw [decide_eq_true_iff]; omega
        have HWf := Lib.hid (H64.out k hlt)
        by_cases hin : (k : Int) ∈ fi
        · rw [decide_eq_true hin] at kH
          have hcl := cntC_le fi cl (atI cl k) k
          have hlk := HCt.out.look HWf.out
          obtain ⟨o, hup, hct2⟩ := HCt.out.put (show m < maxLen by unfold maxLen; omega) HWf.out (show cntC fi cl (atI cl k) k + 1 < 1000 by omega)
          have hlk2 := hct2.look HWf.out
          rw [cnt_step hin] at hct2
          have HC2 := Lib.hid hct2
          have HM2 := Lib.hid (HM.out.step hin hlt)
          have HB3 := Lib.hid (blkSet_below HBel.out hge o)
          rw [show updI (fun x => cntC fi cl x k) (atI cl k) (cntC fi cl (atI cl k) k + 1) (atI cl k) = cntC fi cl (atI cl k) k + 1 by simp [updI]] at hlk2
          clear hct2 hin HCt HM
          generalize cntC fi cl (atI cl k) k = q at *
          rw [show ((q + 1 : Nat) : Int) = (q : Int) + 1 from rfl] at hup hlk2
          go_wp2_with fail
          refine kH.mono ?_
          rintro e w4 ⟨rfl, rfl⟩
          go_wp2
          go_roundw
          case rel => exact ⟨k + 1, max M (q + 1), m + 1, by go_num, by omega, by rw [Value.int.injEq]; exact ⟨rfl, by split <;> omega⟩, by omega, HM2.out, HC2.out, HB3.out⟩
          case measure => simp [intOf]; omega
        · rw [decide_eq_false hin] at kH
          have HM2 := Lib.hid (HM.out.skip hin)
          have HC2 := Lib.hid (show CtM wr gb m (fun x => cntC fi cl x (k + 1)) by rw [cnt_skip hin]; exact HCt.out)
          go_wp2_with fail
          refine kH.mono ?_
          rintro e w4 ⟨rfl, rfl⟩
          go_wp2
          go_roundw
          case rel => exact ⟨k + 1, M, m, by go_num, by omega, rfl, by omega, HM2.out, HC2.out, HBel.out⟩
          case measure => simp [intOf]; omega
      · obtain rfl : k = cl.length := by omega
        have hkd : decide ((cl.length : Int) < cl.length) = false := by rw [decide_eq_false_iff_not]; omega
        have HMe := Lib.hid HM.out.done
        go_wp2
        refine bodyPost_ret (v := .tuple #[.int .i64 (M : Nat), .int .i64 0]) (by simp [results, Try.results29, go_sem]) rfl ?_
        exact ⟨by rw [← HMe.out], HBel.out⟩
  · rw [if_neg hc]
    generalize codeF fi cl = q at *
    have hq : (q != 0) = true := by simpa using hc
    clear hc
    go_enter Try.func29, Try.ntmps29
    go_wp2_with fail
    refine kC.mono ?_
    rintro e w2 ⟨rfl, hb2⟩
    go_wp2
    refine bodyPost_ret (v := .tuple #[.int .i64 0, .int .i64 q]) (by simp [results, Try.results29, go_sem]) rfl ?_
    exact ⟨rfl, hb2⟩

end Go.Proofs.Ytdiaglaokgehbaa
