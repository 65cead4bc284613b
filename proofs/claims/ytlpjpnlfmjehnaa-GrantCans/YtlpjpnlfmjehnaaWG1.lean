/- syllogistref.EdgesCheck, Over, Edges. -/
import Derived.Test.YtlpjpnlfmjehnaaGr2
import Derived.Test.YtlpjpnlfmjehnaaW1
import Derived.Laws.StructEq
import Derived.OneCell
namespace Go.Proofs.Ytlpjpnlfmjehnaa
open Go.RowKit

theorem RowEd.cells {w : World} {A : Option Addr} {l : List Ed} (h : Row w A (edgesC l)) {k : Nat} {e : Ed} (he : l[k]? = some e) :
    ∃ b off, A = some ⟨b, off, none⟩ ∧ w.cell? ⟨b, off + k * 3, none⟩ = some (.int .i64 e.1) ∧ w.cell? ⟨b, off + k * 3 + 1, none⟩ = some (.int .i64 e.2.1) ∧ w.cell? ⟨b, off + k * 3 + 2, none⟩ = some (.int .u32 (e.2.2 : Int)) := by
  obtain ⟨b, off, rfl, hc⟩ := h.at (k := k * 3) (by rw [edgesC_length]; have := (List.getElem?_eq_some_iff.1 he).1; omega)
  have h' : ∀ j, j < 3 → ∀ v, (edC e)[j]? = some v → w.cell? ⟨b, off + k * 3 + j, none⟩ = some v := fun j hj v hv => by
    have := hc (k * 3 + j) v (by rw [edgesC_at he hj]; exact hv)
    rwa [← Nat.add_assoc] at this
  exact ⟨b, off, rfl, h' 0 (by omega) _ rfl, h' 1 (by omega) _ rfl, h' 2 (by omega) _ rfl⟩
/-- An edge lies in a block. -/
def EdAt (w : World) (g : Nat) (e : Ed) : Prop := w.cell? ⟨g, 0, none⟩ = some (.int .i64 e.1) ∧ w.cell? ⟨g, 1, none⟩ = some (.int .i64 e.2.1) ∧ w.cell? ⟨g, 2, none⟩ = some (.int .u32 (e.2.2 : Int))
theorem EdAt.new (w : World) (e : Ed) (t : TypeId) : EdAt (w.alloc (.cells #[.int .i64 e.1, .int .i64 e.2.1, .int .u32 (e.2.2 : Int)] t)) w.heap.size e := by
  have h := heap_alloc_new w (.cells #[.int .i64 e.1, .int .i64 e.2.1, .int .u32 (e.2.2 : Int)] t)
  exact ⟨cell_of_row _ _ 0 _ _ _ h, cell_of_row _ _ 1 _ _ _ h, cell_of_row _ _ 2 _ _ _ h⟩
theorem EdAt.below {w w' : World} {g : Nat} {e : Ed} (h : EdAt w g e) (hb : Below w.heap.size w w') : EdAt w' g e :=
  ⟨(hb.cell (p := ⟨g, 0, none⟩) (block_lt_of_cell h.1)).trans h.1, (hb.cell (p := ⟨g, 1, none⟩) (block_lt_of_cell h.2.1)).trans h.2.1, (hb.cell (p := ⟨g, 2, none⟩) (block_lt_of_cell h.2.2)).trans h.2.2⟩

set_option maxHeartbeats 1000000 in
theorem EdgesCheck_any (n : Int) (es : List Ed) (A : Option Addr) (c : Nat) (w : World) (hr : Row w A (edgesC es)) :
    Calls Try.prog 9 #[.int .i64 n, .slice A es.length c] w fun e w' => e = .returned (.int .i64 (codeE n es)) ∧ Below w.heap.size w w' := by
  by_cases hL : n < 1 ∨ 6 < n ∨ 20 < es.length
  · have HC := Lib.hid (codeE_large hL)
    rw [HC.out]
    by_cases h1 : n < 1
    · clear hL; go_enter Try.func9, Try.ntmps9; go_wp2; go_ret; exact ⟨rfl, Below.refl _ _⟩
    · by_cases h2 : 6 < n
      · clear hL; go_enter Try.func9, Try.ntmps9; go_wp2; go_ret; exact ⟨rfl, Below.refl _ _⟩
      · have h3 : 20 < es.length := by omega
        clear hL; go_enter Try.func9, Try.ntmps9; go_wp2; go_ret; exact ⟨rfl, Below.refl _ _⟩
  · have HL := Lib.hid hL
    obtain ⟨g1, g2, g3⟩ : 1 ≤ n ∧ n ≤ 6 ∧ es.length ≤ 20 := by omega
    clear hL
    have d1 : decide (n < 1) = false := by rw [decide_eq_false_iff_not]; omega
    have d2 : decide (6 < n) = false := by rw [decide_eq_false_iff_not]; omega
    have d3 : decide (20 < (es.length : Int)) = false := by rw [decide_eq_false_iff_not]; omega
    go_enter Try.func9, Try.ntmps9
    go_wp2
    clear d1 d2 d3
    go_loopw [20] (fun v wr => ∃ j : Nat, v = .int .i64 j ∧ j ≤ es.length ∧ (∀ e ∈ es.take j, EdgeOk n e) ∧ Below w.heap.size w wr) (fun v _ => es.length - (intOf v).toNat)
    case atStart => exact ⟨0, rfl, Nat.zero_le _, by simp, Below.refl _ _⟩
    case round =>
      obtain ⟨j, rfl, hj, hal, hb⟩ := hrel
      have HA := Lib.hid hal
      clear hal
      by_cases hlt : j < es.length
      · obtain ⟨e, he⟩ := get_some hlt
        obtain ⟨b, off, rfl, c0, c1, c2⟩ := RowEd.cells (hr.below hb) he
        have HX := Lib.hid he
        obtain ⟨q0, q1, q2⟩ := EdAt.new wr e 63
        have HB := Lib.hid (hb.alloc hb.size (.cells #[.int .i64 e.1, .int .i64 e.2.1, .int .u32 (e.2.2 : Int)] 63))
        clear hb he
        obtain ⟨f, t, r⟩ := e
        simp only at c0 c1 c2 q0 q1 q2 HB
        have bad : ¬ EdgeOk n (f, t, r) → codeE n es = 2 := fun hn => codeE_bad HL.out fun h => hn (h _ (List.mem_of_getElem? HX.out))
        have HBad := Lib.hid bad
        clear bad
        by_cases b1 : f < 0
        · have HC := Lib.hid (HBad.out (by unfold EdgeOk; simp only; omega))
          go_wp2; go_ret; exact ⟨ret_int HC.out.symm, HB.out⟩
        · by_cases b2 : n ≤ f
          · have HC := Lib.hid (HBad.out (by unfold EdgeOk; simp only; omega))
            go_wp2; go_ret; exact ⟨ret_int HC.out.symm, HB.out⟩
          · by_cases b3 : t < 0
            · have HC := Lib.hid (HBad.out (by unfold EdgeOk; simp only; omega))
              go_wp2; go_ret; exact ⟨ret_int HC.out.symm, HB.out⟩
            · by_cases b4 : n ≤ t
              · have HC := Lib.hid (HBad.out (by unfold EdgeOk; simp only; omega))
                go_wp2; go_ret; exact ⟨ret_int HC.out.symm, HB.out⟩
              · by_cases b5 : f = t
                · have HC := Lib.hid (HBad.out (by unfold EdgeOk; simp only; omega))
                  have hbb : (f == t) = true := by simpa using b5
                  clear b5
                  go_wp2; go_ret; exact ⟨ret_int HC.out.symm, HB.out⟩
                · have HN := Lib.hid (show ∀ e ∈ es.take (j + 1), EdgeOk n e by
                    intro x hx
                    rw [List.take_add_one, HX.out, List.mem_append] at hx
                    rcases hx with hx | hx
                    · exact HA.out x hx
                    · simp at hx; rw [hx]; unfold EdgeOk; simp only; omega)
                  have hbb : (f == t) = false := by simpa using b5
                  clear b5
                  go_wp2
                  go_roundw
                  case rel => exact ⟨j + 1, by go_num, by omega, HN.out, HB.out⟩
                  case measure => simp [intOf]; omega
      · obtain rfl : j = es.length := by omega
        have HC := Lib.hid (codeE_ok HL.out (fun e he => HA.out e (by rw [List.take_length]; exact he)))
        go_wp2
        go_ret
        exact ⟨ret_int HC.out.symm, hb⟩

set_option maxHeartbeats 1000000 in
theorem Over_any (es : List Ed) (A : Option Addr) (c : Nat) (x y : Int) (w : World) (h32 : E32 es) (hl : es.length ≤ 100000000) (hr : Row w A (edgesC es)) :
    Calls Try.prog 18 #[.slice A es.length c, .int .i64 x, .int .i64 y] w fun e w' => e = .returned (.int .u32 (overL es x y : Nat)) ∧ Below w.heap.size w w' := by
  have H32 := Lib.hid h32
  clear h32
  go_enter Try.func18, Try.ntmps18
  go_wp2
  go_loopw [7, 12] (fun rv v wr => ∃ j : Nat, v = .int .i64 j ∧ j ≤ es.length ∧ (∃ q : Nat, rv = .int .u32 (q : Int) ∧ q = overL (es.take j) x y) ∧ Below w.heap.size w wr) (fun _ v _ => es.length - (intOf v).toNat)
  case atStart => exact ⟨0, rfl, Nat.zero_le _, ⟨0, rfl, rfl⟩, Below.refl _ _⟩
  case round =>
    obtain ⟨j, rfl, hj, ⟨q, rfl, hq⟩, hb⟩ := hrel
    have HQ := Lib.hid hq
    clear hq
    by_cases hlt : j < es.length
    · obtain ⟨e, he⟩ := get_some hlt
      obtain ⟨b, off, rfl, c0, c1, c2⟩ := RowEd.cells (hr.below hb) he
      have HS := Lib.hid (overL_take he x y)
      obtain ⟨q0, q1, q2⟩ := EdAt.new wr e 63
      have hq32 : q < 4294967296 := by rw [HQ.out]; exact overL_u32 (fun e he => H32.out e (List.mem_of_mem_take he)) _ _
      have hr32 := H32.out e (List.mem_of_getElem? he)
      have HB := Lib.hid (hb.alloc hb.size (.cells #[.int .i64 e.1, .int .i64 e.2.1, .int .u32 (e.2.2 : Int)] 63))
      clear hb he
      obtain ⟨f, t, r⟩ := e
      simp only at c0 c1 c2 q0 q1 q2 HB HS hr32
      rw [← HQ.out] at HS
      by_cases b1 : f = x
      · subst b1
        by_cases b2 : t = y
        · subst b2
          rw [if_pos ⟨rfl, rfl⟩] at HS
          have hor := u32_or_nat q r hq32 hr32
          go_wp2
          go_roundw
          case rel => exact ⟨j + 1, by go_num, by omega, ⟨_, rfl, HS.out.symm⟩, HB.out⟩
          case measure => simp [intOf]; omega
        · rw [if_neg (fun k => b2 k.2)] at HS
          have hbb : (t == y) = false := by simpa using b2
          clear b2
          go_wp2
          go_roundw
          case rel => exact ⟨j + 1, by go_num, by omega, ⟨_, rfl, HS.out.symm⟩, HB.out⟩
          case measure => simp [intOf]; omega
      · rw [if_neg (fun k => b1 k.1)] at HS
        have hbb : (f == x) = false := by simpa using b1
        clear b1
        go_wp2
        go_roundw
        case rel => exact ⟨j + 1, by go_num, by omega, ⟨_, rfl, HS.out.symm⟩, HB.out⟩
        case measure => simp [intOf]; omega
    · obtain rfl : j = es.length := by omega
      rw [List.take_length] at HQ
      go_wp2
      go_ret
      have e := HQ.out
      subst e
      exact ⟨rfl, hb⟩

set_option maxHeartbeats 1000000 in
theorem Edges_any (xs ys : List Ed) (A A2 : Option Addr) (c c2 : Nat) (w : World) (h : Row w A (edgesC xs)) (h2 : Row w A2 (edgesC ys)) (hn : xs.length ≤ 100000000) (hn2 : ys.length ≤ 100000000) :
    Calls Try.prog 12 #[.slice A xs.length c, .slice A2 ys.length c2] w fun e w' => e = .returned (.bool (decide (xs = ys))) ∧ ∃ d, w' = w.drewN d := by
  by_cases hl : xs.length = ys.length
  · have hd : ((xs.length : Int) != (ys.length : Int)) = false := by simp [hl]
    have HL := Lib.hid hl
    clear hl
    go_enter Try.func12, Try.ntmps12
    go_wp2
    go_loopw [5] (fun v wr => ∃ j d : Nat, v = .int .i64 j ∧ j ≤ xs.length ∧ xs.take j = ys.take j ∧ wr = w.drewN d) (fun v _ => xs.length - (intOf v).toNat)
    case atStart => exact ⟨0, 0, rfl, Nat.zero_le _, rfl, rfl⟩
    case round =>
      obtain ⟨j, d, rfl, hj, heq, rfl⟩ := hrel
      have HE := Lib.hid heq
      clear heq
      by_cases hlt : j < xs.length
      · obtain ⟨e, he⟩ := get_some hlt
        obtain ⟨e', he'⟩ := get_some (show j < ys.length by rw [← HL.out]; exact hlt)
        have hlt2 : (j : Int) < ys.length := by have := HL.out; omega
        obtain ⟨b, off, rfl, c0, c1, c2⟩ := RowEd.cells (h.drewN d) he
        obtain ⟨b', off', rfl, c0', c1', c2'⟩ := RowEd.cells (h2.drewN d) he'
        have HX := Lib.hid he
        have HX' := Lib.hid he'
        clear he he'
        obtain ⟨f, t, r⟩ := e
        obtain ⟨f', t', r'⟩ := e'
        simp only at c0 c1 c2 c0' c1' c2'
        have no : (f, t, r) ≠ (f', t', r') → decide (xs = ys) = false := fun hne => by
          rw [decide_eq_false_iff_not]
          rintro rfl
          have := HX.out.symm.trans HX'.out
          exact hne (Option.some.inj this)
        have HNo := Lib.hid no
        clear no
        generalize hw3 : w.drewN d = w3 at *
        have HW := Lib.hid hw3
        clear hw3
        by_cases b1 : f = f'
        · subst b1
          by_cases b2 : t = t'
          · subst b2
            by_cases b3 : r = r'
            · subst b3
              have HN := Lib.hid (show xs.take (j + 1) = ys.take (j + 1) by rw [List.take_add_one, List.take_add_one, HE.out, HX.out, HX'.out])
              go_wp2
              go_quiet (fail)
              go_wp2
              go_roundw
              case rel => exact ⟨j + 1, d + nq, by go_num, by omega, HN.out, by rw [← HW.out, World.drewN_drewN]⟩
              case measure => simp [intOf]; omega
            · have HC := Lib.hid (HNo.out (by simpa using b3))
              have hbb : ((r : Int) == (r' : Int)) = false := by rw [beq_eq_false_iff_ne]; omega
              clear b3
              go_wp2
              go_quiet (fail)
              go_wp2
              go_ret
              exact ⟨ret_bool HC.out.symm, d + nq, by rw [← HW.out, World.drewN_drewN]⟩
          · have HC := Lib.hid (HNo.out (by simpa using fun h => absurd h b2))
            have hbb : (t == t') = false := by simpa using b2
            clear b2
            go_wp2
            go_quiet (fail)
            go_wp2
            go_ret
            exact ⟨ret_bool HC.out.symm, d + nq, by rw [← HW.out, World.drewN_drewN]⟩
        · have HC := Lib.hid (HNo.out (by simpa using fun h => absurd h b1))
          have hbb : (f == f') = false := by simpa using b1
          clear b1
          go_wp2
          go_quiet (fail)
          go_wp2
          go_ret
          exact ⟨ret_bool HC.out.symm, d + nq, by rw [← HW.out, World.drewN_drewN]⟩
      · obtain rfl : j = xs.length := by omega
        have HC := Lib.hid (show decide (xs = ys) = true by
          rw [decide_eq_true_iff]
          have := HE.out
          rw [List.take_length, HL.out, List.take_length] at this
          exact this)
        go_wp2
        go_ret
        exact ⟨ret_bool HC.out.symm, _, rfl⟩
  · have hd : ((xs.length : Int) != (ys.length : Int)) = true := by simpa using fun h => hl (by omega)
    have HC := Lib.hid (show decide (xs = ys) = false by rw [decide_eq_false_iff_not]; rintro rfl; exact hl rfl)
    clear hl
    go_enter Try.func12, Try.ntmps12
    go_wp2
    go_ret
    exact ⟨ret_bool HC.out.symm, 0, rfl⟩

end Go.Proofs.Ytlpjpnlfmjehnaa
