/- grant's edges, sorted. -/
import Derived.Test.YtlpjpnlfmjehnaaWGo7
import Derived.Test.YtlpjpnlfmjehnaaGr3
namespace Go.Proofs.Ytlpjpnlfmjehnaa
open Go.RowKit

theorem infoEo : (Try.prog.info? 63).map (fun i => (i.zero, i.size, i.bytes)) = some (some (.agg #[.int .i64 0, .int .i64 0, .int .u32 0]), 3, 24) := by kernel_rfl
/-- A whole array or struct out of the middle of a block. -/
theorem wpList_load_arr {P : Program} {ops : Array Oper} {rest : List Oper} {o : Oper} {a : Act} {w : World} {Q : Exit → Act → World → Prop} (hgd : o.guard = none) (ty : TypeId) (x : Operand) (ho : o.op = .load ty x)
    (ad : Addr) (hx : a.eval x = .pointer (some ad)) (cs : List Value) (hcs : ∀ j v, cs[j]? = some v → w.cell? (ad.add j) = some v) (d : TypeDesc)
    (hu : P.underlying ty = some d) (hd : (match d with | .struct _ | .array _ _ => true | _ => false) = true) (hi : (P.info? ty).map (·.size) = some cs.length)
    (h : wpList P ops Q rest (a.put o.dst (.agg cs.toArray)) w) : wpList P ops Q (o :: rest) a w :=
  wpList_plain hgd fun _ hK => by
    have hl := run_loadCells_list (P := P) w ad cs hcs
    have key : (loadVar ty ad).run P w = .ok (.agg cs.toArray) w := by
      cases hq : P.info? ty with
      | none => simp [hq] at hi
      | some i =>
        have hs : i.size = cs.length := by simpa [hq] using hi
        have hagg : (isAgg ty).run P w = .ok true w := by
          unfold isAgg
          rw [Sem.run_bind, run_underlying hu w]
          cases d <;> simp_all
        simp [loadVar, Sem.run_bind, hagg, sizeOf, typeInfo, hq, hs, hl]
    unfold Oper.wp execOp
    simp only [ho, hx, Instr.loadAt, Instr.sureAddr, Sem.run_bind, Sem.run_pure, Result.andThen_ok, key]
    exact hK _ _ h

/-- One of an array's elements. -/
theorem index_rw {cs : Array Value} {b : Nat} {v : Value} (hb : b < 14) (h : cs[b]? = some v) (w : World) : (Instr.index 52 (.agg cs) (.int .i64 (b : Int))).run Try.prog w = .ok v w := by
  have hp : (Go.part 35 cs b).run Try.prog w = .ok v w := by simp [Go.part, isAgg, Sem.run_bind, run_underlying Try.underlying35, h]
  simp [Instr.index, asIntOf, Sem.run_bind, run_underlying Try.underlying52, Try.sizeOf35, hb, hp]
/-! ## The edges so far -/
def edE (s : Gs) (a b : Nat) : List Ed := if s.ov a b = 0 then [] else [((a : Int), (b : Int), s.ov a b)]
def rowE (s : Gs) (a m : Nat) : List Ed := (List.range m).flatMap (edE s a)
def toE (s : Gs) (a : Nat) : List Ed := (List.range a).flatMap fun a => rowE s a 14
theorem rowE_succ (s : Gs) (a m : Nat) : rowE s a (m + 1) = rowE s a m ++ edE s a m := by unfold rowE; rw [List.range_succ, List.flatMap_append]; simp
theorem toE_succ (s : Gs) (a : Nat) : toE s (a + 1) = toE s a ++ rowE s a 14 := by unfold toE; rw [List.range_succ, List.flatMap_append]; simp
theorem rowE_cut {s : Gs} (h : FineG s) (a : Nat) : ∀ k, rowE s a (s.n + k) = rowE s a s.n
  | 0 => rfl
  | k + 1 => by
    rw [← Nat.add_assoc, rowE_succ, rowE_cut h a k]
    have : s.ov a (s.n + k) = 0 := Decidable.byContradiction fun e => by have := (h.2.2.2 _ _ e).2.1; omega
    rw [edE, if_pos this, List.append_nil]
theorem toE_all {s : Gs} (h : FineG s) : toE s s.n = edgesG s := by
  unfold toE edgesG
  congr 1
  funext a
  have := rowE_cut h a (14 - s.n)
  rw [show s.n + (14 - s.n) = 14 by have := h.2.1; omega] at this
  rw [this]
  rfl
theorem rowE_len (s : Gs) (a m : Nat) : (rowE s a m).length ≤ m := by
  have := flat_le (m := 1) (f := edE s a) (List.range m) fun b _ => by unfold edE; split <;> simp
  rw [List.length_range, Nat.mul_one] at this
  exact this
theorem toE_len (s : Gs) (a : Nat) : (toE s a).length ≤ a * 14 := by
  have := flat_le (m := 14) (f := fun a => rowE s a 14) (List.range a) fun b _ => rowE_len s b 14
  rw [List.length_range] at this
  exact this
/-- What one vertex has over each, as a value. -/
def rwV (s : Gs) (a : Nat) : List Value := tabA 14 fun b => .int .u32 (s.ov a b : Int)
theorem infoRw : (Try.prog.info? 52).map (·.size) = some 14 := by kernel_rfl
theorem underRw : ∃ d, Try.prog.underlying 52 = some d ∧ (match d with | .struct _ | .array _ _ => true | _ => false) = true := isRow (by kernel_rfl)

set_option maxRecDepth 100000 in
set_option maxHeartbeats 4000000 in
theorem gEdges_any (g : Nat) (s : Gs) (w : World) (hgt : GAt w g s) (hgl : g < w.heap.size) (hf : FineG s) :
    Calls Try.prog 22 #[.pointer (some ⟨g, 0, none⟩)] w fun e w' => ∃ (A : Option Addr) (c : Nat),
      e = .returned (.slice A (edgesG s).length c) ∧ RowsM w [⟨63, 3, .slice A (edgesG s).length c, (edgesG s).length, edgesC (edgesG s)⟩] w' := by
  obtain ⟨i0, hi0, hz0, hz1, hz2⟩ := info_parts infoEo
  have HI := Lib.hid (And.intro hi0 (And.intro hz0 (And.intro hz1 hz2)))
  have HG := Lib.hid hgt
  have hn14 := hf.2.1
  have HF := Lib.hid hf
  have hn := hgt.n
  clear hi0 hz0 hz1 hz2 hgt hf
  go_enter Try.func22, Try.ntmps22
  go_wp2
  go_loopw [3, 11] (fun ev av wr => ∃ a : Nat, av = .int .i64 a ∧ a ≤ s.n ∧ RowsM w [⟨63, 3, ev, (toE s a).length, edgesC (toE s a)⟩] wr) (fun _ av _ => s.n - (intOf av).toNat)
  case atStart => exact ⟨0, rfl, Nat.zero_le _, (RowsM.nil w).newNil _ _⟩
  case round =>
    obtain ⟨a, rfl, ha, hM⟩ := hrel
    have HM := Lib.hid hM
    clear hM
    by_cases hlt : a < s.n
    · have hg1 := gAt_below HG.out HM.out.below hgl
      have hrow : ∀ j v, (rwV s a)[j]? = some v → wr.cell? ((⟨g, 1 + a * 14, none⟩ : Addr).add j) = some v := by
        intro j v hj
        have hj14 : j < 14 := by have := (List.getElem?_eq_some_iff.1 hj).1; simpa [rwV, tabA] using this
        rw [rwV, tabA_get _ hj14] at hj
        rw [← hj]
        rw [show (⟨g, 1 + a * 14, none⟩ : Addr).add j = ⟨g, 1 + a * 14 + j, none⟩ by unfold Addr.add; split <;> simp_all]
        exact hg1.ov a j (by omega) hj14
      obtain ⟨d, hu, hd⟩ := underRw
      have hi := infoRw
      have hl14 : (rwV s a).length = 14 := by simp [rwV, tabA]
      rw [← hl14] at hi
      have hlt' : (a : Int) < s.n := by omega
      clear hg1
      go_wp2_with (refine wpList_load_arr rfl 52 _ rfl ⟨g, 1 + a * 14, none⟩ rfl (rwV s a) hrow d hu (by cases d <;> first | rfl | (simp at hd)) hi ?_)
      obtain ⟨zs, hzs⟩ : ∃ zs, zs = (rwV s a).toArray := ⟨_, rfl⟩
      have HZ := Lib.hid (show ∀ b : Nat, b < 14 → zs[b]? = some (.int .u32 (s.ov a b : Int)) from fun b hb => by rw [hzs, List.getElem?_toArray, rwV, tabA_get _ hb])
      rw [← hzs]
      clear hzs hrow hi hl14 hu hd
      go_loopw [3, 20] (fun ev bv wr => ∃ b : Nat, bv = .int .i64 b ∧ b ≤ 14 ∧ RowsM w [⟨63, 3, ev, (toE s a ++ rowE s a b).length, edgesC (toE s a ++ rowE s a b)⟩] wr) (fun _ bv _ => 14 - (intOf bv).toNat)
      case atStart => exact ⟨0, rfl, Nat.zero_le _, by rw [show rowE s a 0 = [] from rfl, List.append_nil]; exact HM.out⟩
      case round =>
        clear HM
        obtain ⟨b, rfl, hb, hM⟩ := hrel
        have HM := Lib.hid hM
        clear hM
        by_cases hb14 : b < 14
        · have hz := HZ.out b hb14
          have hb' : (b : Int) < 14 := by omega
          by_cases h0 : s.ov a b = 0
          · have HN := Lib.hid (show rowE s a (b + 1) = rowE s a b by rw [rowE_succ, edE, if_pos h0, List.append_nil])
            have hx := index_rw hb14 hz
            rw [h0] at hx
            clear h0 hz
            go_wp2
            go_roundw
            case rel => exact ⟨b + 1, by go_num, by omega, by rw [HN.out]; exact HM.out⟩
            case measure => simp [intOf]; omega
          · have HN := Lib.hid (show rowE s a (b + 1) = rowE s a b ++ [((a : Int), (b : Int), s.ov a b)] by rw [rowE_succ, edE, if_neg h0])
            have hx := index_rw hb14 hz
            have hlen : (toE s a ++ rowE s a b).length ≤ 1000 := by
              have h1 := toE_len s a
              have h2 := rowE_len s a b
              rw [List.length_append]
              omega
            obtain ⟨q, hq⟩ : ∃ q, q = s.ov a b := ⟨_, rfl⟩
            rw [← hq] at hx h0 HN
            obtain ⟨l, hl⟩ : ∃ l, l = toE s a ++ rowE s a b := ⟨_, rfl⟩
            have HL := Lib.hid hl
            rw [← hl] at HM hlen
            clear hz hq hl
            obtain ⟨A1, c1, e1, hcap, _⟩ := HM.out.form (k := 0) rfl
            simp only at e1 hcap
            subst e1
            have HMA := Lib.hid (HM.out.grow ((Below.refl wr.heap.size wr).alloc (Nat.le_refl _) (.cells #[.int .i64 (a : Int), .int .i64 (b : Int), .int .u32 (q : Int)] 63)))
            go_wp2_with (at_builtin; refine wpList_append_rm rfl _ _ 22 rfl 0 63 3 l.length _ (edgesC l) HMA.out rfl i0 (.agg #[.int .i64 0, .int .i64 0, .int .u32 0]) 24 Try.underlying22 HI.out.1 HI.out.2.1 HI.out.2.2.1 HI.out.2.2.2 rfl (by decide) rfl ⟨wr.heap.size, 0, none⟩ 1 1 [.int .i64 (a : Int), .int .i64 (b : Int), .int .u32 (q : Int)] rfl rfl ?qnewsa ?qonea ?q63a ?qbya ?qnexta)
            case qonea => simp [Value.oneCell']
            case q63a => unfold maxLen; omega
            case qbya => omega
            case qnexta =>
              intro A' c' w3 hn
              have HN3 := Lib.hid (show RowsM w [⟨63, 3, .slice A' (l.length + 1) c', l.length + 1, edgesC (l ++ [((a : Int), (b : Int), q)])⟩] w3 by
                rw [edgesC_append]
                exact hn)
              clear hn
              go_wp2
              go_roundw
              case rel => exact ⟨b + 1, by go_num, by omega, by rw [HN.out, ← List.append_assoc, ← HL.out, List.length_append]; exact HN3.out⟩
              case measure => simp [intOf]; omega
        · obtain rfl : b = 14 := by omega
          have HN := Lib.hid (toE_succ s a)
          go_wp2
          go_roundw
          case rel => exact ⟨a + 1, by go_num, by omega, by rw [HN.out]; exact HM.out⟩
          case measure => simp [intOf]; omega
    · obtain rfl : a = s.n := by omega
      rw [toE_all HF.out] at HM
      obtain ⟨A1, c1, e1, hcap, _⟩ := HM.out.form (k := 0) rfl
      simp only at e1
      subst e1
      go_wp2
      go_ret
      exact ⟨_, _, rfl, HM.out⟩

end Go.Proofs.Ytlpjpnlfmjehnaa
