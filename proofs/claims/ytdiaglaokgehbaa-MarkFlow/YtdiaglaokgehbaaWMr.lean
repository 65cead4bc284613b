/- mark.Run, for the rules of mark and of low. -/
import Derived.Test.YtdiaglaokgehbaaWMo2
import Derived.Test.YtdiaglaokgehbaaWRun
namespace Go.Proofs.Ytdiaglaokgehbaa
open Go.RowKit

theorem codeD_step {up : Bool} {cl th : Nat → Lab} {nc nt : Nat} {s : Ms} {d : Dd} (h : codeD nc nt d ≠ 0) : stepM up cl th nc nt s d = (codeD nc nt d, s) := by
  unfold codeD at h ⊢
  unfold stepM
  by_cases h1 : d.kind < 1 ∨ 3 < d.kind
  · rw [if_pos h1, if_pos h1]
  · rw [if_neg h1] at h
    rw [if_neg h1, if_neg h1]
    by_cases h2 : ArgBad nc nt d
    · rw [if_pos h2, if_pos h2]
    · rw [if_neg h2] at h
      exact absurd rfl h
theorem codeD_zero {nc nt : Nat} {d : Dd} (h : codeD nc nt d = 0) : ¬ (d.kind < 1 ∨ 3 < d.kind) ∧ ¬ ArgBad nc nt d := by
  unfold codeD at h
  split at h
  · cases h
  · rename_i h1
    split at h
    · cases h
    · rename_i h2
      exact ⟨h1, h2⟩
section
variable {up : Bool} {cl th : Nat → Lab} {nc nt : Nat} {s s' : Ms} {d : Dd} {q : Int}
/-- One that is denied changes nothing. -/
theorem step_no (h : stepM up cl th nc nt s d = (q, s')) (hq : q ≠ 0) : s' = s := by
  unfold stepM at h
  repeat' split at h
  all_goals first
    | exact (congrArg Prod.snd h).symm
    | exact absurd (congrArg Prod.fst h).symm hq
/-- What one that is executed does to what is known and to what the things have. -/
theorem step_ok (hc : codeD nc nt d = 0) (h : stepM up cl th nc nt s d = (0, s')) : ∃ b : Nat, d.who = b ∧ b < nc ∧ ((d.kind = 3 ∧ s'.kn = updA s.kn b 0 ∧ s'.fr = s.fr) ∨
    ∃ t : Nat, d.tgt = t ∧ t < nt ∧ ((d.kind = 1 ∧ s'.kn = updA s.kn b (s.kn b ||| s.fr t) ∧ s'.fr = s.fr) ∨ (d.kind = 2 ∧ s'.kn = s.kn ∧ s'.fr = updA s.fr t (s.fr t ||| s.kn b)))) := by
  obtain ⟨hk, hA⟩ := codeD_zero hc
  unfold stepM at h
  rw [if_neg hk, if_neg hA] at h
  unfold ArgBad at hA
  obtain ⟨b, hb⟩ := Int.eq_ofNat_of_zero_le (show 0 ≤ d.who by omega)
  have hbn : b < nc := by omega
  refine ⟨b, hb, hbn, ?_⟩
  have hbt : d.who.toNat = b := by rw [hb]; rfl
  by_cases h3 : d.kind = 3
  · rw [if_pos h3] at h
    obtain rfl := (congrArg Prod.snd h).symm
    exact .inl ⟨h3, by rw [← hbt]; rfl, rfl⟩
  · rw [if_neg h3] at h
    obtain ⟨t, ht⟩ := Int.eq_ofNat_of_zero_le (show 0 ≤ d.tgt by omega)
    have htn : t < nt := by omega
    have htt : d.tgt.toNat = t := by rw [ht]; rfl
    refine .inr ⟨t, ht, htn, ?_⟩
    by_cases h1 : d.kind = 1
    · rw [if_pos h1] at h
      split at h
      · cases h
      · obtain rfl := (congrArg Prod.snd h).symm
        exact .inl ⟨h1, by rw [← hbt, ← htt]; rfl, rfl⟩
    · rw [if_neg h1] at h
      split at h
      · obtain rfl := (congrArg Prod.snd h).symm
        exact .inr ⟨by omega, rfl, by rw [← hbt, ← htt]; rfl⟩
      · cases h
end
theorem stepM_ok (up : Bool) (cl th : Nat → Lab) (nc nt : Nat) : StepOk (stepM up cl th nc nt) Ms.kn Ms.fr (Fine nc nt) [1, 2, 3] nc nt where
  bad := fun s d h => by rw [codeK_all] at h ⊢; exact codeD_step h
  no := fun s d q s' h hq => step_no h hq
  yes := fun s d s' h h2 => step_ok (by rw [← codeK_all]; exact h) h2
  small := fun s h => ⟨h.2.1, h.2.2⟩

theorem mRunM_any {w0 : World} (up : Bool) (cs ts : List Lab) (gK g : Nat) (lb : Array Value) (R : (Nat → Lab) → List Rw) (ds : List Dd) (A3 : Option Addr) (c3 : Nat) (w : World)
    (hcs : ∀ a ∈ cs, LabOk a) (hts : ∀ a ∈ ts, LabOk a) (hn : cs.length ≤ 1000) (hn2 : ts.length ≤ 8) (hn3 : ds.length ≤ 1000) (hM : RowsM w0 (rowKs gK [1, 2, 3] :: R (baseL up (atL cs))) w) (hr3 : Row w0 A3 (deedsC ds))
    (eg : ∀ args w, (callFunc g args).run Try.prog w = .ok (.enter g args) w)
    (hf : ∀ (s : Ms) (d : Dd) (ex : List Rw) (b m : Nat) (f : Nat → Nat) (W : World), Fine cs.length ts.length s → codeD cs.length ts.length d = 0 → RowsK w0 (R s.mar ++ ex) b cs.length m f W →
      Calls Try.prog g (#[ddV d] ++ lb) W fun e W' => e = .returned (.int .i64 (stepM up (atL cs) (atL ts) cs.length ts.length s d).1) ∧ RowsK w0 (R (stepM up (atL cs) (atL ts) cs.length ts.length s d).2.mar ++ ex) b cs.length m f W') :
    Calls Try.prog 38 #[.int .i64 cs.length, .int .i64 ts.length, .slice (some ⟨gK, 0, none⟩) 3 3, .slice A3 ds.length c3, .func (.func g) #[] lb] w fun e w' => ∃ bC BF kF, e = .returned (.tuple #[.slice (some ⟨bC, 0, none⟩) ds.length ds.length, .slice BF ts.length kF]) ∧
      RowsM w0 (⟨28, 1, .slice (some ⟨bC, 0, none⟩) ds.length ds.length, ds.length, ints (runM up (atL cs) (atL ts) cs.length ts.length ds).1⟩ :: ⟨38, 1, .slice BF ts.length kF, ts.length, words (tabA ts.length (runM up (atL cs) (atL ts) cs.length ts.length ds).2.fr)⟩ :: rowKs gK [1, 2, 3] :: R (runM up (atL cs) (atL ts) cs.length ts.length ds).2.mar) w' :=
  mRun_any (stepM up (atL cs) (atL ts) cs.length ts.length) (startM up (atL cs)) Ms.kn Ms.fr (Fine cs.length ts.length) [1, 2, 3] cs.length ts.length gK g lb (fun s => R s.mar) ds A3 c3 w (by decide) hn hn2 hn3 hM hr3 rfl rfl
    (stepM_ok _ _ _ _ _) (fun l => fine_run (fun b hb => hcs _ (List.mem_of_getElem? (atL_get hb))) (fun b hb => hts _ (List.mem_of_getElem? (atL_get hb))) l) eg
    (fun s d ex b m f W h1 h2 h3 => hf s d ex b m f W h1 (by rw [← codeK_all]; exact h2) h3)

end Go.Proofs.Ytdiaglaokgehbaa
