/- grant's writer: a right is carried along a path. -/
import Derived.Test.YtlpjpnlfmjehnaaWGoB
namespace Go.Proofs.Ytlpjpnlfmjehnaa
open Go.RowKit

theorem step_n (s : Gs) (d : Dd) : s.n ≤ (stepG s d).2.n ∧ (stepG s d).2.n ≤ s.n + 1 ∧ (d.kind ≠ 3 → (stepG s d).2.n = s.n) := by
  unfold stepG giveG
  repeat' split
  all_goals
    refine ⟨by first | exact Nat.le_refl _ | exact Nat.le_succ _, by first | exact Nat.le_succ _ | exact Nat.le_refl _, fun h => ?_⟩
    first
      | rfl
      | (rename_i h3 _; exact absurd h3 h)
      | (rename_i h3 _ _; exact absurd h3 h)
theorem step_wr (s : Gs) (k : Int) (hk : k ≠ 3) (a b o p : Nat) : (stepG s (wrD k a b o p)).2.n = s.n := (step_n s (wrD k a b o p)).2.2 hk
theorem pass_n (s : Gs) (f t b : Nat) : s.n ≤ (runS s (passL s f t b)).n ∧ (runS s (passL s f t b)).n ≤ s.n + 1 := by
  unfold passL
  have h1 := step_n s (mkD t)
  repeat' split
  all_goals
    simp only [runS_app, runS_one, step_wr _ 1 (by decide), step_wr _ 2 (by decide)]
    omega
theorem way_n (b : Nat) : ∀ (p : List Nat) (s : Gs) (v : Nat), s.n ≤ (runS s (wayL s b v p)).n ∧ (runS s (wayL s b v p)).n ≤ s.n + p.length
  | [], s, _ => ⟨Nat.le_refl _, Nat.le_refl _⟩
  | u :: p, s, v => by
    have h1 := pass_n s v u b
    have h2 := way_n b p (runS s (passL s v u b)) u
    rw [wayL, runS_app, List.length_cons]
    omega
theorem way_take (b : Nat) : ∀ (p : List Nat) (s : Gs) (v k f u : Nat), (v :: p)[k]? = some f → p[k]? = some u →
    wayL s b v (p.take (k + 1)) = wayL s b v (p.take k) ++ passL (runS s (wayL s b v (p.take k))) f u b
  | [], _, _, _, _, _, _, h => by simp at h
  | a :: p, s, v, 0, f, u, h1, h2 => by
    simp at h1 h2
    subst h1 h2
    simp [wayL, runS]
  | a :: p, s, v, k + 1, f, u, h1, h2 => by
    rw [List.take_succ_cons, List.take_succ_cons, wayL, wayL, way_take b p (runS s (passL s v a b)) a k f u (by simpa using h1) (by simpa using h2), runS_app, List.append_assoc]
theorem fineG_runS {l : List Dd} : ∀ {s : Gs}, FineG s → (∀ d ∈ l, d.parts < 4294967296) → FineG (runS s l) := by
  induction l with
  | nil => intro s h _; exact h
  | cons d l ih =>
    intro s h hp
    exact ih (s := (stepG s d).2) (fineG_step h (hp d (by simp))) (fun e he => hp e (List.mem_cons_of_mem _ he))

theorem Wr.drewN {w0 : World} {g : Nat} {s : Gs} {l : List Dd} {ex : List Rw} {w : World} (h : Wr w0 g s l ex w) (q : Nat) : Wr w0 g s l ex (w.drewN q) := by
  obtain ⟨A, c, h⟩ := h
  exact ⟨A, c, h.drewN q⟩

section
variable {w0 : World} {ex : List Rw}
set_option maxRecDepth 100000 in
set_option maxHeartbeats 1000000 in
theorem gCarry_any (g : Nat) (s : Gs) (v : Nat) (p : List Nat) (x y r bp c : Nat) (w : World) (h : Wr w0 g s [] ex w) (hf : FineG s) (h6 : s.n ≤ 6) (hin : ∀ u ∈ v :: p, u < s.n) (h1 : 0 < p.length) (hlen : p.length ≤ 5) (hlast : (v :: p)[p.length]? = some x)
    (hrow : ∀ s' l' W, Wr w0 g s' l' ex W → ∀ (k u : Nat), (v :: p)[k]? = some u → W.cell? ⟨bp, k, none⟩ = some (.int .i64 (u : Int))) (hc : p.length + 1 ≤ c) (hr : r < 4294967296) :
    Calls Try.prog 27 #[.pointer (some ⟨g, 0, none⟩), .slice (some ⟨bp, 0, none⟩) (p.length + 1) c, .int .i64 (y : Int), .int .u32 (r : Int)] w fun e w' => e = .returned (.tuple #[]) ∧ Wr w0 g (runS s (carryL s v p x y r)) (carryL s v p x y r) ex w' := by
  have c0 := hrow _ _ _ h 0 v rfl
  have c1 := hrow _ _ _ h p.length x hlast
  have hvs := hin v (by simp)
  have e1 := step_make (s := s) (a := v) hvs (by omega)
  have f1 := fineG_step (d := mkD v) hf (show (0 : Nat) < 4294967296 by decide)
  have km := fun q => gWriteMake_any g s [] v (w.drewN q) (h.drewN q) hf (by simp)
  rw [e1] at km f1
  have hn1 : (((addG s (s.n + 1) v s.n 3).n : Int) - 1) = (s.n : Int) := by show ((s.n + 1 : Nat) : Int) - 1 = _; omega
  rw [hn1] at km
  have hnn : (addG s (s.n + 1) v s.n 3).n = s.n + 1 := rfl
  generalize hs1 : addG s (s.n + 1) v s.n 3 = s1 at *
  have HE1 := Lib.hid e1
  have KM := Lib.hid km
  have HR := Lib.hid hrow
  have F1 := Lib.hid f1
  have HIN := Lib.hid hin
  clear e1 km hs1 hn1 hrow f1 h hf hin
  have hcne : c ≠ 1 := by omega
  go_enter Try.func27, Try.ntmps27
  go_upto_region 1 with go_quiet (fail)
  go_wp2_with fail
  refine (KM.out nq).mono ?_
  rintro e w1 ⟨rfl, hW1⟩
  clear KM c0 c1
  have f2 := fineG_step (d := wrD 2 v s.n y r) F1.out hr
  have k2 := gWrite_any g s1 ([] ++ [mkD v]) 2 v s.n y r w1 hW1 F1.out (by simp) hr
  have hs2n : (stepG s1 (wrD 2 v s.n y r)).2.n = s.n + 1 := by rw [step_wr _ 2 (by decide), hnn]
  generalize hs2 : (stepG s1 (wrD 2 v s.n y r)).2 = s2 at *
  have HE2 := Lib.hid hs2
  have K2 := Lib.hid k2
  have F2 := Lib.hid f2
  clear k2 f2 hs2 hW1
  go_wp2_with fail
  refine K2.out.mono ?_
  rintro e w2 ⟨rfl, hW2⟩
  have HW2 := Lib.hid hW2
  clear K2 hW2
  go_wp2_with fail
  go_loopw [34] (fun kv wr => ∃ k : Nat, kv = .int .i64 k ∧ k ≤ p.length ∧ Wr w0 g (runS s2 (wayL s2 s.n v (p.take k))) ([] ++ [mkD v] ++ [wrD 2 v s.n y r] ++ wayL s2 s.n v (p.take k)) ex wr) (fun kv _ => p.length - (intOf kv).toNat)
  case atStart => exact ⟨0, rfl, Nat.zero_le _, by simpa [wayL, runS] using HW2.out⟩
  case round =>
    clear HW2
    obtain ⟨k, rfl, hk, hW⟩ := hrel
    by_cases hlt : k < p.length
    · obtain ⟨u, hu⟩ := get_some hlt
      obtain ⟨f, hfk⟩ := get_some (xs := v :: p) (k := k) (by rw [List.length_cons]; omega)
      have x0 := HR.out _ _ _ hW k f hfk
      have x1 := HR.out _ _ _ hW (k + 1) u (by simpa using hu)
      rw [Nat.add_comm k 1] at x1
      have hfn := HIN.out f (List.mem_of_getElem? hfk)
      have hun := HIN.out u (List.mem_cons_of_mem _ (List.mem_of_getElem? hu))
      have hL := way_len s.n (p.take k) s2 v
      have hN := way_n s.n (p.take k) s2 v
      rw [List.length_take, Nat.min_eq_left (by omega)] at hL hN
      have hT := Lib.hid (way_take s.n p s2 v k f u hfk hu)
      have hF := fineG_runS (l := wayL s2 s.n v (p.take k)) F2.out (fun d hd => (way_small _ _ _ _ d hd).2)
      generalize wayL s2 s.n v (p.take k) = wl at *
      have kp := gPass_any g (runS s2 wl) _ f u s.n wr hW hF (by simp; omega) (by omega) (by omega) (by omega)
      have KP := Lib.hid kp
      clear kp hW hF hfk hu
      go_wp2_with fail
      refine KP.out.mono ?_
      rintro e w4 ⟨rfl, hW4⟩
      have HW4 := Lib.hid hW4
      clear hW4 KP
      go_wp2
      go_roundw
      case rel =>
        refine ⟨k + 1, by go_num, by omega, ?_⟩
        rw [hT.out, runS_app, ← List.append_assoc]
        exact HW4.out
      case measure => simp [intOf]; omega
    · obtain rfl : k = p.length := by omega
      rw [List.take_length] at hW
      have hL := way_len s.n p s2 v
      have hF := fineG_runS (l := wayL s2 s.n v p) F2.out (fun d hd => (way_small _ _ _ _ d hd).2)
      have HC := Lib.hid (show carryL s v p x y r = [] ++ [mkD v] ++ [wrD 2 v s.n y r] ++ wayL s2 s.n v p ++ [wrD 1 x s.n y r] by
        unfold carryL
        rw [runS_app, runS_one, runS_one, HE1.out, HE2.out]
        rfl)
      generalize wayL s2 s.n v p = wl at *
      have KW := Lib.hid (gWrite_any g (runS s2 wl) _ 1 x s.n y r wr hW hF (by simp; omega) hr)
      clear hW hF
      go_wp2_with fail
      refine KW.out.mono ?_
      rintro e w4 ⟨rfl, hW4⟩
      have HW4 := Lib.hid hW4
      clear hW4 KW
      go_wp2
      go_end0
      refine ⟨rfl, ?_⟩
      rw [HC.out, runS_app, runS_app, runS_app, runS_app, runS_one, runS_one, runS_one]
      show Wr w0 g (stepG (runS (stepG (stepG s (mkD v)).2 (wrD 2 v s.n y r)).2 wl) _).2 _ ex w4
      rw [HE1.out, HE2.out]
      exact HW4.out
end

end Go.Proofs.Ytlpjpnlfmjehnaa
