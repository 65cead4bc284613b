/- grant.start and grant.startFor. -/
import Derived.Test.YtlpjpnlfmjehnaaWGo2
import Derived.Deep.WholeRow
import Derived.Test.YtlpjpnlfmjehnaaWG1
import Derived.Test.YtlpjpnlfmjehnaaBoxA
namespace Go.Proofs.Ytlpjpnlfmjehnaa
open Go.RowKit

/-- A graph as a value. -/
def gA (s : Gs) : Array Value := (gC s).toArray
def zG : Gs := ⟨0, fun _ _ => 0⟩
theorem infoGr : (Try.prog.info? 55).map (fun i => (i.zero, i.size)) = some (some (.agg (gA zG)), 197) := by kernel_rfl
theorem gA_size (s : Gs) : (gA s).size = 197 := by show (gC s).length = 197; exact gC_length s
theorem gA_one (s : Gs) : (gA s).all (·.oneCell') = true := by
  rw [Array.all_eq_true_iff_forall_mem]
  intro v hv
  have hv' : v ∈ gC s := by simpa [gA] using hv
  unfold gC tabA at hv'
  rw [List.mem_cons, List.mem_map] at hv'
  rcases hv' with rfl | ⟨i, _, rfl⟩ <;> rfl
theorem isRow {t : TypeId} (h : (Try.prog.underlying t).map (fun d => match d with | .struct _ | .array _ _ => true | _ => false) = some true) :
    ∃ d, Try.prog.underlying t = some d ∧ (match d with | .struct _ | .array _ _ => true | _ => false) = true := by
  cases hq : Try.prog.underlying t with
  | none => rw [hq] at h; cases h
  | some d => rw [hq] at h; exact ⟨d, rfl, by simpa using h⟩
theorem underGr : ∃ d, Try.prog.underlying 55 = some d ∧ (match d with | .struct _ | .array _ _ => true | _ => false) = true := isRow (by kernel_rfl)

theorem load_gr (w : World) (g : Nat) (cs : Array Value) (t : TypeId) (hg : w.heap[g]? = some (.cells cs t (0, 0))) (hs : cs.size = 197) : (loadVar 55 ⟨g, 0, none⟩).run Try.prog w = .ok (.agg cs) w := by
  obtain ⟨d, hu, hd⟩ := underGr
  exact run_loadVar_row w g t _ cs (0, 0) d hg hu (by cases d <;> first | rfl | (simp at hd)) (by rw [(zero_of_info infoGr).2, hs])
theorem gStart_ret {a : Act} {w : World} {g : Nat} {cs : Array Value} {q : Int} {R : Ending → World → Prop} (hp : a.tmps.getD 4 undef = .pointer (some ⟨g, 0, none⟩)) (hq : a.tmps.getD 5 undef = .int .i64 q) (hd : a.defers = [])
    (hg : w.heap[g]? = some (.cells cs 55 (0, 0))) (hs : cs.size = 197) (hR : R (.returned (.tuple #[.agg cs, .int .i64 q])) w) : bodyPost Try.prog Try.f20 R .ret a w := by
  refine bodyPost_ret (v := .tuple #[.agg cs, .int .i64 q]) ?_ hd hR
  rw [results_cell_tmp rfl, hp, hq]
  simp [asAddr, Result.andThen, load_gr w g cs _ hg hs]
theorem startG_take {n : Nat} {es : List Ed} {k a b r : Nat} (h : es[k]? = some ((a : Int), (b : Int), r)) :
    (⟨n, updO (startG n (es.take k)).ov a b ((startG n (es.take k)).ov a b ||| r)⟩ : Gs) = startG n (es.take (k + 1)) := by
  unfold startG
  congr 1
  funext x y
  rw [updO_at, overL_take h]
  simp only [Int.natCast_inj]
  by_cases hc : x = a ∧ y = b
  · obtain ⟨rfl, rfl⟩ := hc
    simp
  · rw [if_neg hc, if_neg (fun k => hc ⟨k.1.symm, k.2.symm⟩)]
theorem apV_edge {n : Int} {es : List Ed} (h0 : 0 ≤ n) (f t : Int) (r : Nat) : apV (startG n.toNat es) f t = true ↔ EdgeOk n (f, t, r) := by
  rw [apV_iff]
  unfold EdgeOk startG
  simp only
  omega

set_option maxHeartbeats 1000000 in
theorem gStart_any (n : Int) (es : List Ed) (A : Option Addr) (c : Nat) (w : World) (h32 : E32 es) (hr : Row w A (edgesC es)) :
    Calls Try.prog 20 #[.int .i64 n, .slice A es.length c] w fun e w' => ∃ s : Gs,
      e = .returned (.tuple #[.agg (gA s), .int .i64 (codeE n es)]) ∧ (codeE n es = 0 → s = startG n.toNat es) ∧ Below w.heap.size w w' := by
  obtain ⟨hz, hzs⟩ := zero_of_info infoGr
  have h197 : (gA zG).size = 197 := gA_size _
  have hst := fun (w : World) (c : Array Value) (s : Gs) (hs : c.size = 197) => run_storeCells_new (P := Try.prog) w 55 c (gA s) (by rw [gA_size]; exact hzs) (by rw [gA_size, hs]) (gA_one s)
  obtain ⟨z, hzz⟩ : ∃ z, z = gA zG := ⟨_, rfl⟩
  rw [← hzz] at hz h197
  have hst0 := hst w z zG h197
  rw [← hzz] at hst0
  have HZ := Lib.hid hzz
  have HST := Lib.hid hst
  clear hzz hst hzs
  by_cases hL : n < 1 ∨ 6 < n ∨ 20 < es.length
  · have hq := Lib.hid (codeE_large hL)
    have hb : (decide (n < 1) || decide (6 < n) || decide (20 < (es.length : Int))) = true := by simp; omega
    clear HST
    go_enter Try.func20, Try.ntmps20
    go_wp2
    all_goals
      refine gStart_ret (g := w.heap.size) (cs := z) (q := 1) rfl rfl rfl (heap_alloc_new w _) h197 ?_
      refine ⟨zG, ?_, fun h => ?_, (Below.refl _ _).alloc (Nat.le_refl _) _⟩
      · rw [hq.out, HZ.out]
      · rw [hq.out] at h; cases h
  · obtain ⟨g1, g2, g3⟩ : 1 ≤ n ∧ n ≤ 6 ∧ es.length ≤ 20 := by omega
    have HL := Lib.hid hL
    clear hL
    obtain ⟨m, rfl⟩ := Int.eq_ofNat_of_zero_le (show 0 ≤ n by omega)
    have hz0 : z.setIfInBounds 0 (.int .i64 (m : Int)) = gA (startG m []) := by
      rw [HZ.out]
      show (gC zG).toArray.setIfInBounds 0 _ = (gC (startG m [])).toArray
      rw [List.setIfInBounds_toArray]
      have := gC_set_n zG [] m
      rw [List.append_nil, List.append_nil] at this
      rw [this]
      rfl
    have hst1 := HST.out (w.alloc (.cells z 55)) z (startG m []) h197
    rw [show (w.alloc (.cells z 55)).heap.size = w.heap.size + 1 by simp, ← hz0, Array.toList_setIfInBounds, hz0] at hst1
    have hne : ¬ z = #[] := by intro e; rw [e] at h197; cases h197
    have d1 : decide ((m : Int) < 1) = false := by rw [decide_eq_false_iff_not]; omega
    have d2 : decide (6 < (m : Int)) = false := by rw [decide_eq_false_iff_not]; omega
    have d3 : decide (20 < (es.length : Int)) = false := by rw [decide_eq_false_iff_not]; omega
    have HM := Lib.hid (((RowsM.nil w).box (cs := z) (t := 55) 197 h197).box (cs := gA (startG m [])) (t := 55) 197 (gA_size _))
    have hs1 : (w.alloc (.cells z 55)).heap.size = w.heap.size + 1 := by simp
    rw [hs1] at HM
    have HZ1 := Lib.hid h197
    clear HST hz0 hs1
    go_enter Try.func20, Try.ntmps20
    go_wp2
    have HM1 := Lib.hid (show RowsM w (rowG 55 197 (w.heap.size + 1) (startG m (es.take 0)) [] :: ⟨55, 197, .slice (some ⟨w.heap.size, 0, none⟩) 1 1, 1, z.toList⟩ :: []) _ by unfold rowG; rw [List.append_nil]; exact HM.out)
    clear HM hst0 hst1 hz hne
    generalize (w.alloc _).alloc _ = w1 at *
    generalize w.heap.size = g4 at *
    go_loopw [25] (fun v wr => ∃ k : Nat, v = .int .i64 k ∧ k ≤ es.length ∧ (∀ e ∈ es.take k, EdgeOk m e) ∧ RowsM w (rowG 55 197 (g4 + 1) (startG m (es.take k)) [] :: ⟨55, 197, .slice (some ⟨g4, 0, none⟩) 1 1, 1, z.toList⟩ :: []) wr) (fun v _ => es.length - (intOf v).toNat)
    case atStart => exact ⟨0, rfl, Nat.zero_le _, by simp, HM1.out⟩
    case round =>
      clear HM1
      obtain ⟨k, rfl, hk, hal, hM⟩ := hrel
      have HA := Lib.hid hal
      have HM := Lib.hid hM
      clear hal hM
      by_cases hlt : k < es.length
      · obtain ⟨e, he⟩ := get_some hlt
        obtain ⟨b, off, rfl, c0, c1, c2⟩ := RowEd.cells (hr.below HM.out.below) he
        have HX := Lib.hid he
        obtain ⟨q0, q1, q2⟩ := EdAt.new wr e 63
        have HB := Lib.hid (HM.out.box (cs := #[.int .i64 e.1, .int .i64 e.2.1, .int .u32 (e.2.2 : Int)]) (t := 63) 3 rfl).swp
        have hf := fineG_start (es := es.take k) (codeE_ok (n := m) (by rw [List.length_take]; omega) HA.out) (fun e he => h32 e (List.mem_of_mem_take he))
        have hrr := h32 e (List.mem_of_getElem? he)
        clear he HM
        obtain ⟨f, t, r⟩ := e
        simp only at c0 c1 c2 q0 q1 q2 HB hrr
        have kA := gApart_any (g4 + 1) (startG m (es.take k)) f t _ (rowG_at HB.out).n
        have hap := apV_edge (n := (m : Int)) (es := es.take k) (by omega) f t r
        rw [Int.toNat_natCast] at hap
        have KA := Lib.hid kA
        clear kA
        go_upto_region 7 with fail
        generalize wr.alloc _ = w2 at *
        generalize wr.heap.size = g8 at *
        clear c0 c1 c2
        go_wp2_with fail
        refine KA.out.mono ?_
        rintro e w' ⟨rfl, rfl⟩
        cases hc : apV (startG m (es.take k)) f t
        · have hbad := Lib.hid (codeE_bad HL.out fun h => (by rw [hc] at hap; simp at hap; exact hap (h _ (List.mem_of_getElem? HX.out))))
          have hstz := box_store (P := Try.prog) HB.out.swp.tail.tail (k := 0) rfl z HZ1.out (by rw [HZ.out]; exact gA_one _)
          have HM3 := Lib.hid (HB.out.swp.tail.tail.storeAll (k := 0) rfl z HZ1.out)
          have hz2 := (zero_of_info infoGr).1
          rw [← HZ.out] at hz2
          have hne : ¬ z = #[] := by intro e; rw [e] at h197; cases h197
          clear HB hap
          go_wp2
          refine gStart_ret (g := g4) (cs := z) (q := 2) rfl rfl rfl (by have := (HM3.out.boxHeap (k := 0) rfl).1; simpa using this) HZ1.out ?_
          refine ⟨zG, ?_, fun h => ?_, HM3.out.below⟩
          · rw [hbad.out, HZ.out]
          · rw [hbad.out] at h; cases h
        · have hE := hap.1 hc
          have HE := Lib.hid hE
          unfold EdgeOk at hE
          simp only at hE
          obtain ⟨a, rfl⟩ := Int.eq_ofNat_of_zero_le hE.1
          obtain ⟨b2, rfl⟩ := Int.eq_ofNat_of_zero_le hE.2.2.1
          have KB := Lib.hid (gAdd_any (g4 + 1) (startG m (es.take k)) a b2 r w2 HB.out hf (by omega) (by omega) hrr)
          have hF := Lib.hid (show ∀ e ∈ es.take (k + 1), EdgeOk m e by
            intro e he
            rw [List.take_add_one, HX.out] at he
            simp only [Option.toList, List.mem_append, List.mem_singleton] at he
            rcases he with he | rfl
            · exact HA.out e he
            · exact HE.out)
          clear HB hap hE hf
          go_wp2_with fail
          refine KB.out.mono ?_
          rintro e w3 ⟨rfl, hN⟩
          have hs := startG_take (n := m) HX.out
          have hN' : RowsM w (rowG 55 197 (g4 + 1) (startG m (es.take (k + 1))) [] :: ⟨55, 197, .slice (some ⟨g4, 0, none⟩) 1 1, 1, z.toList⟩ :: []) w3 := by rw [← hs]; exact hN.swp.tail
          have HN := Lib.hid hN'
          clear hN hN' KB KA q0 q1 q2
          go_wp2
          go_roundw
          case rel => exact ⟨k + 1, by go_num, by omega, hF.out, HN.out⟩
          case measure => simp [intOf]; omega
      · obtain rfl : k = es.length := by omega
        have HM3 := Lib.hid (HM.out.storeAll (k := 1) rfl (gA (startG m es)) (gA_size _))
        obtain ⟨zs, hzs⟩ : ∃ zs, zs = gA (startG m es) := ⟨_, rfl⟩
        rw [← hzs] at HM3
        have hs197 : zs.size = 197 := by rw [hzs]; exact gA_size _
        have HZS := Lib.hid hzs
        have hco := Lib.hid (codeE_ok HL.out (fun e he => HA.out e (by rw [List.take_length]; exact he)))
        clear hzs
        have hh1 := (HM.out.boxHeap (k := 0) rfl).1
        rw [List.take_length, List.append_nil, show (gC (startG m es)).toArray = zs from HZS.out.symm] at hh1
        have hh2 := (HM.out.boxHeap (k := 1) rfl).1
        rw [Array.toArray_toList] at hh2
        obtain ⟨d, hu, hd⟩ := underGr
        have hi := (zero_of_info infoGr).2
        rw [← hs197] at hi
        have hone : zs.all (·.oneCell') = true := by rw [HZS.out]; exact gA_one _
        have hold : z.size = zs.size := by rw [HZ1.out, hs197]
        go_upto_region 11 with fail
        go_wp2_with (first | (refine wpList_load_row rfl 55 _ rfl (g4 + 1) rfl 55 zs (0, 0) d hh1 hu (by cases d <;> first | rfl | (simp at hd)) hi ?_) | (refine wpList_store_row rfl 55 _ _ rfl g4 zs rfl rfl 55 z hh2 hi hold hone ?_))
        refine gStart_ret (g := g4) (cs := zs) (q := 0) rfl rfl rfl (by have := (HM3.out.boxHeap (k := 1) rfl).1; simpa using this) hs197 ?_
        exact ⟨startG m es, by rw [hco.out, HZS.out], fun _ => rfl, HM3.out.below⟩

end Go.Proofs.Ytlpjpnlfmjehnaa
