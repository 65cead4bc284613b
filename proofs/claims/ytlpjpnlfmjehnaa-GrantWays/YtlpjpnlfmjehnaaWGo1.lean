/- grant's graph in memory: who is a vertex, what one has, what is added and taken away. -/
import Derived.Test.YtlpjpnlfmjehnaaGSpec
import Derived.Test.YtlpjpnlfmjehnaaMkM
import Derived.Test.YtlpjpnlfmjehnaaRm
namespace Go.Proofs.Ytlpjpnlfmjehnaa
open Go.RowKit

/-- A graph lies in block g. -/
structure GAt (w : World) (g : Nat) (s : Gs) : Prop where
  n : w.cell? ⟨g, 0, none⟩ = some (.int .i64 (s.n : Int))
  ov : ∀ a b : Nat, a < 14 → b < 14 → w.cell? ⟨g, 1 + a * 14 + b, none⟩ = some (.int .u32 (s.ov a b : Int))

/-- Its cells. -/
def gC (s : Gs) : List Value := .int .i64 (s.n : Int) :: tabA 196 (fun i => Value.int .u32 (s.ov (i / 14) (i % 14) : Int))
def rowG (t size g : Nat) (s : Gs) (tl : List Value) : Rw := ⟨t, size, .slice (some ⟨g, 0, none⟩) 1 1, 1, gC s ++ tl⟩
theorem gC_length (s : Gs) : (gC s).length = 197 := by simp [gC, tabA]
theorem gC_n (s : Gs) (tl : List Value) : (gC s ++ tl)[0]? = some (.int .i64 (s.n : Int)) := rfl
theorem gC_at (s : Gs) (tl : List Value) {a b : Nat} (ha : a < 14) (hb : b < 14) : (gC s ++ tl)[1 + a * 14 + b]? = some (.int .u32 (s.ov a b : Int)) := by
  rw [List.getElem?_append_left (by rw [gC_length]; omega), gC, show 1 + a * 14 + b = (a * 14 + b) + 1 by omega, List.getElem?_cons_succ, tabA_get _ (by omega), show (a * 14 + b) / 14 = a by omega, show (a * 14 + b) % 14 = b by omega]
theorem gC_set (s : Gs) (tl : List Value) {a b : Nat} (v : Nat) (ha : a < 14) (hb : b < 14) : (gC s ++ tl).set (1 + a * 14 + b) (.int .u32 (v : Int)) = gC ⟨s.n, updO s.ov a b v⟩ ++ tl := by
  rw [List.set_append_left _ _ (by rw [gC_length]; omega)]
  congr 1
  rw [gC, gC, show 1 + a * 14 + b = (a * 14 + b) + 1 by omega, List.set_cons_succ]
  congr 1
  apply List.ext_getElem?
  intro i
  by_cases hi : i < 196
  · by_cases e : a * 14 + b = i
    · subst e
      rw [List.getElem?_set_self (by simp [tabA]; omega), tabA_get _ hi]
      simp only [updO_at]
      rw [if_pos ⟨by omega, by omega⟩]
    · rw [List.getElem?_set_ne e, tabA_get _ hi, tabA_get _ hi]
      simp only [updO_at]
      rw [if_neg (fun k => e (by omega))]
  · rw [List.getElem?_eq_none (by simp [tabA]; omega), List.getElem?_eq_none (by simp [tabA]; omega)]
theorem gC_set_n (s : Gs) (tl : List Value) (v : Nat) : (gC s ++ tl).set 0 (.int .i64 (v : Int)) = gC ⟨v, s.ov⟩ ++ tl := by
  rw [gC, gC, List.cons_append, List.set_cons_zero, List.cons_append]

section
variable {w0 w : World} {t size g : Nat} {s : Gs} {tl : List Value} {ex : List Rw}
theorem rowG_at (h : RowsM w0 (rowG t size g s tl :: ex) w) : GAt w g s :=
  ⟨h.cell (k := 0) rfl (gC_n s tl), fun _ _ ha hb => h.cell (k := 0) rfl (gC_at s tl ha hb)⟩
theorem rowG_set (h : RowsM w0 (rowG t size g s tl :: ex) w) {a b : Nat} (v : Nat) (ha : a < 14) (hb : b < 14) :
    RowsM w0 (rowG t size g ⟨s.n, updO s.ov a b v⟩ tl :: ex) (w.setCell ⟨g, 1 + a * 14 + b, none⟩ (.int .u32 (v : Int))) := by
  have := h.store (k := 0) rfl (1 + a * 14 + b) (.int .u32 (v : Int))
  rw [gC_set s tl v ha hb] at this
  exact this
theorem rowG_count (h : RowsM w0 (rowG t size g s tl :: ex) w) (v : Nat) : RowsM w0 (rowG t size g ⟨v, s.ov⟩ tl :: ex) (w.setCell ⟨g, 0, none⟩ (.int .i64 (v : Int))) :=
  by
  have := h.store (k := 0) rfl 0 (.int .i64 (v : Int))
  rw [gC_set_n s tl v] at this
  exact this
theorem rowG_free (h : RowsM w0 (rowG t size g s tl :: ex) w) (j : Nat) : w.frozen? ⟨g, j, none⟩ = false := h.free (k := 0) rfl j
end

/-! ## What is asked of it -/
def isV (s : Gs) (v : Int) : Bool := decide (0 ≤ v ∧ v < (s.n : Int))
def apV (s : Gs) (a b : Int) : Bool := isV s a && isV s b && decide (a ≠ b)

theorem gIs_any (g : Nat) (s : Gs) (v : Int) (w : World) (hn : w.cell? ⟨g, 0, none⟩ = some (.int .i64 (s.n : Int))) :
    Calls Try.prog 44 #[.pointer (some ⟨g, 0, none⟩), .int .i64 v] w fun e w' => e = .returned (.bool (isV s v)) ∧ w = w' := by
  have hv := Lib.hid (show isV s v = (decide (0 ≤ v) && decide (v < (s.n : Int))) by unfold isV; simp)
  go_enter Try.func44, Try.ntmps44
  by_cases h1 : 0 ≤ v
  · go_wp2
    go_ret
    exact ⟨ret_bool (by rw [hv.out]; simp [h1]), rfl⟩
  · go_wp2
    go_ret
    exact ⟨ret_bool (by rw [hv.out]; simp; omega), rfl⟩

theorem gApart_any (g : Nat) (s : Gs) (a b : Int) (w : World) (hn : w.cell? ⟨g, 0, none⟩ = some (.int .i64 (s.n : Int))) :
    Calls Try.prog 29 #[.pointer (some ⟨g, 0, none⟩), .int .i64 a, .int .i64 b] w fun e w' => e = .returned (.bool (apV s a b)) ∧ w = w' := by
  have Ka := Lib.hid (gIs_any g s a w hn)
  have Kb := Lib.hid (gIs_any g s b w hn)
  have hv := Lib.hid (show apV s a b = (isV s a && isV s b && decide (a ≠ b)) from rfl)
  go_enter Try.func29, Try.ntmps29
  clear hn
  go_wp2_with fail
  refine Ka.out.mono ?_
  rintro e w' ⟨rfl, rfl⟩
  cases h1 : isV s a
  · go_wp2_with fail
    go_ret
    exact ⟨ret_bool (by rw [hv.out, h1]; rfl), rfl⟩
  · go_wp2_with fail
    refine Kb.out.mono ?_
    rintro e w' ⟨rfl, rfl⟩
    cases h2 : isV s b
    · go_wp2_with fail
      go_ret
      exact ⟨ret_bool (by rw [hv.out, h1, h2]; rfl), rfl⟩
    · by_cases h3 : a = b
      · go_wp2_with fail
        go_ret
        exact ⟨ret_bool (by rw [hv.out, h1, h2]; simp [h3]), rfl⟩
      · go_wp2_with fail
        go_ret
        exact ⟨ret_bool (by rw [hv.out, h1, h2]; simp [h3]), rfl⟩

theorem and_sub (x r : Nat) : (((x &&& r : Nat) : Int) == (r : Int)) = sub r x := by
  rw [Bool.eq_iff_iff, beq_iff_eq, sub_iff]
  constructor
  · intro h i hi
    have h' : x &&& r = r := by exact_mod_cast h
    rw [← h', Nat.testBit_and, Bool.and_eq_true] at hi
    exact hi.1
  · intro h
    have : x &&& r = r := bits_eq fun i => by
      rw [Nat.testBit_and, Bool.and_eq_true]
      exact ⟨fun k => k.2, fun k => ⟨h i k, k⟩⟩
    rw [this]
theorem gHas_any (g : Nat) (s : Gs) (a b r : Nat) (w : World) (hg : GAt w g s) (hf : FineG s) (ha : a < 14) (hb : b < 14) (hr : r < 4294967296) :
    Calls Try.prog 37 #[.pointer (some ⟨g, 0, none⟩), .int .i64 (a : Int), .int .i64 (b : Int), .int .u32 (r : Int)] w fun e w' => e = .returned (.bool (sub r (s.ov a b))) ∧ w = w' := by
  have hc := hg.ov a b ha hb
  have hbit : bits .and .u32 (s.ov a b : Int) (r : Int) = ((s.ov a b &&& r : Nat) : Int) := u32_and_nat _ _ (hf.2.2.1 a b) hr
  clear hg hf
  go_enter Try.func37, Try.ntmps37
  go_wp2
  go_ret
  exact ⟨ret_bool (and_sub _ _), rfl⟩

/-- Whether a and b are linked. -/
def lkV (s : Gs) (a b : Nat) : Bool := (s.ov a b ||| s.ov b a) &&& 3 != 0
theorem gLinked_any (g : Nat) (s : Gs) (a b : Nat) (w : World) (hg : GAt w g s) (hf : FineG s) (ha : a < 14) (hb : b < 14) :
    Calls Try.prog 39 #[.pointer (some ⟨g, 0, none⟩), .int .i64 (a : Int), .int .i64 (b : Int)] w fun e w' => e = .returned (.bool (lkV s a b)) ∧ ∃ k, w' = w.drewN k := by
  have hc := hg.ov a b ha hb
  have hc2 := hg.ov b a hb ha
  have hor : bits .or .u32 (s.ov a b : Int) (s.ov b a : Int) = ((s.ov a b ||| s.ov b a : Nat) : Int) := u32_or_nat _ _ (hf.2.2.1 a b) (hf.2.2.1 b a)
  have hbit : bits .and .u32 ((s.ov a b ||| s.ov b a : Nat) : Int) (3 : Int) = (((s.ov a b ||| s.ov b a) &&& 3 : Nat) : Int) := u32_and_nat _ 3 (or_u32 (hf.2.2.1 a b) (hf.2.2.1 b a)) (by decide)
  have hv := Lib.hid (show lkV s a b = ((((s.ov a b ||| s.ov b a) &&& 3 : Nat) : Int) != 0) by unfold lkV; rw [Bool.eq_iff_iff]; simp only [bne_iff_ne, ne_eq]; omega)
  clear hg hf
  go_enter Try.func39, Try.ntmps39
  go_wp2_with fail
  go_quiet (fail)
  go_wp2
  go_ret
  exact ⟨ret_bool hv.out.symm, _, rfl⟩

/-! ## What is done to it -/
section
variable {w0 : World} {t size : Nat} {tl : List Value} {ex : List Rw}
theorem gAdd_any (g : Nat) (s : Gs) (a b r : Nat) (w : World) (h : RowsM w0 (rowG t size g s tl :: ex) w) (hf : FineG s) (ha : a < 14) (hb : b < 14) (hr : r < 4294967296) :
    Calls Try.prog 30 #[.pointer (some ⟨g, 0, none⟩), .int .i64 (a : Int), .int .i64 (b : Int), .int .u32 (r : Int)] w fun e w' =>
      e = .returned (.tuple #[]) ∧ RowsM w0 (rowG t size g ⟨s.n, updO s.ov a b (s.ov a b ||| r)⟩ tl :: ex) w' := by
  have hg := rowG_at h
  have hc := hg.ov a b ha hb
  have hfr := rowG_free h (1 + a * 14 + b)
  have hor : bits .or .u32 (s.ov a b : Int) (r : Int) = ((s.ov a b ||| r : Nat) : Int) := u32_or_nat _ _ (hf.2.2.1 a b) hr
  have HM := Lib.hid h
  clear hg hf h
  go_enter Try.func30, Try.ntmps30
  go_wp2_with fail
  go_region
  go_wp2
  go_end0
  exact ⟨rfl, (rowG_set HM.out (s.ov a b ||| r) ha hb).drew⟩
theorem gRemove_any (g : Nat) (s : Gs) (a b r : Nat) (w : World) (h : RowsM w0 (rowG t size g s tl :: ex) w) (hf : FineG s) (ha : a < 14) (hb : b < 14) (hr : r < 4294967296) :
    Calls Try.prog 45 #[.pointer (some ⟨g, 0, none⟩), .int .i64 (a : Int), .int .i64 (b : Int), .int .u32 (r : Int)] w fun e w' =>
      e = .returned (.tuple #[]) ∧ RowsM w0 (rowG t size g ⟨s.n, updO s.ov a b (wo (s.ov a b) r)⟩ tl :: ex) w' := by
  have hg := rowG_at h
  have hc := hg.ov a b ha hb
  have hfr := rowG_free h (1 + a * 14 + b)
  have hor : bits .andNot .u32 (s.ov a b : Int) (r : Int) = (wo (s.ov a b) r : Nat) := u32_wo (hf.2.2.1 a b) hr
  have HM := Lib.hid h
  clear hg hf h
  go_enter Try.func45, Try.ntmps45
  go_wp2_with fail
  go_region
  go_wp2
  go_end0
  exact ⟨rfl, (rowG_set HM.out (wo (s.ov a b) r) ha hb).drew⟩
end

end Go.Proofs.Ytlpjpnlfmjehnaa
