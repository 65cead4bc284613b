/- The Chinese wall: what a script does, and what it keeps (Brewer and Nash). -/
import Derived.Test.YtdiaglaokgehbaaWl
import Derived.Test.YtdiaglaokgehbaaMk
namespace Go.Proofs.Ytdiaglaokgehbaa
open Go.RowKit

/-- What each has read, what the things have, what each knows. -/
structure Wst where
  rd : Nat → Nat
  fr : Nat → Nat
  kn : Nat → Nat
section
variable {fi cl : List Int} {nc nt : Nat}
/-- Things of two firms at odds. -/
def Clash (fi cl : List Int) (k t : Nat) : Prop := 0 ≤ atI fi k ∧ 0 ≤ atI fi t ∧ atI fi k ≠ atI fi t ∧ atI cl (atI fi k).toNat = atI cl (atI fi t).toNat
/-- A thing of another firm. -/
def Alien (fi : List Int) (k t : Nat) : Prop := 0 ≤ atI fi k ∧ atI fi k ≠ atI fi t
instance (fi cl : List Int) (k t : Nat) : Decidable (Clash fi cl k t) := by unfold Clash; infer_instance
instance (fi : List Int) (k t : Nat) : Decidable (Alien fi k t) := by unfold Alien; infer_instance
def badW (fi cl : List Int) (kind : Int) (t k : Nat) : Bool := decide (kind = 1 ∧ Clash fi cl k t ∨ kind = 2 ∧ Alien fi k t)
def denyW (fi cl : List Int) (nt : Nat) (rd : Nat) (kind : Int) (t : Nat) : Bool := (List.range nt).any fun k => rd.testBit k && badW fi cl kind t k
theorem deny_iff {rd : Nat} {kind : Int} {t : Nat} : denyW fi cl nt rd kind t = true ↔ ∃ k, k < nt ∧ rd.testBit k = true ∧ badW fi cl kind t k = true := by
  unfold denyW
  rw [List.any_eq_true]
  constructor
  · rintro ⟨k, hk, h⟩; rw [Bool.and_eq_true_iff] at h; exact ⟨k, List.mem_range.1 hk, h.1, h.2⟩
  · rintro ⟨k, hk, h1, h2⟩; exact ⟨k, List.mem_range.2 hk, by rw [h1, h2]; rfl⟩
def readW (s : Wst) (b t : Nat) : Wst := { s with rd := updA s.rd b (s.rd b ||| one t), kn := updA s.kn b (s.kn b ||| s.fr t) }
def writeW (s : Wst) (b t : Nat) : Wst := { s with fr := updA s.fr t (s.fr t ||| s.kn b) }
def ArgBadW (nc nt : Nat) (d : Dd) : Prop := d.who < 0 ∨ (nc : Int) ≤ d.who ∨ d.tgt < 0 ∨ (nt : Int) ≤ d.tgt
instance (nc nt : Nat) (d : Dd) : Decidable (ArgBadW nc nt d) := by unfold ArgBadW; infer_instance
def stepW (fi cl : List Int) (nc nt : Nat) (s : Wst) (d : Dd) : Int × Wst :=
  if d.kind ≠ 1 ∧ d.kind ≠ 2 then (6, s)
  else if ArgBadW nc nt d then (2, s)
  else if denyW fi cl nt (s.rd d.who.toNat) d.kind d.tgt.toNat = true then (7, s)
  else if d.kind = 1 then (0, readW s d.who.toNat d.tgt.toNat)
  else (0, writeW s d.who.toNat d.tgt.toNat)
def startW : Wst := ⟨fun _ => 0, fun i => one i, fun _ => 0⟩
def runW (fi cl : List Int) (nc nt : Nat) (l : List Dd) : List Int × Wst :=
  l.foldl (fun a d => (a.1 ++ [(stepW fi cl nc nt a.2 d).1], (stepW fi cl nc nt a.2 d).2)) ([], startW)
theorem runW_succ {l : List Dd} {k : Nat} {d : Dd} (h : l[k]? = some d) : runW fi cl nc nt (l.take (k + 1)) =
    ((runW fi cl nc nt (l.take k)).1 ++ [(stepW fi cl nc nt (runW fi cl nc nt (l.take k)).2 d).1], (stepW fi cl nc nt (runW fi cl nc nt (l.take k)).2 d).2) := by
  unfold runW
  rw [List.take_add_one, h, List.foldl_append]
  rfl
theorem runW_length (l : List Dd) : (runW fi cl nc nt l).1.length = l.length := by
  have : ∀ (l : List Dd) (a : List Int × Wst), (l.foldl (fun a d => (a.1 ++ [(stepW fi cl nc nt a.2 d).1], (stepW fi cl nc nt a.2 d).2)) a).1.length = a.1.length + l.length := by
    intro l
    induction l with
    | nil => intro a; rfl
    | cons d l ih => intro a; rw [List.foldl_cons, ih]; simp; omega
  unfold runW
  rw [this]
  simp
theorem runW_inv {P : Wst → Prop} (h0 : P startW) (hs : ∀ s d, P s → P (stepW fi cl nc nt s d).2) (l : List Dd) : P (runW fi cl nc nt l).2 := by
  have : ∀ (l : List Dd) (a : List Int × Wst), P a.2 → P (l.foldl (fun a d => (a.1 ++ [(stepW fi cl nc nt a.2 d).1], (stepW fi cl nc nt a.2 d).2)) a).2 := by
    intro l
    induction l with
    | nil => intro a h; exact h
    | cons d l ih => intro a h; exact ih _ (hs _ _ h)
  exact this _ _ h0
theorem stepW_inv {P : Wst → Prop} {s : Wst} (d : Dd) (h : P s) (hr : ∀ b t, b < nc → t < nt → (∀ k, k < nt → (s.rd b).testBit k = true → ¬ Clash fi cl k t) → P (readW s b t))
    (hw : ∀ b t, b < nc → t < nt → (∀ k, k < nt → (s.rd b).testBit k = true → ¬ Alien fi k t) → P (writeW s b t)) : P (stepW fi cl nc nt s d).2 := by
  unfold stepW
  split
  · exact h
  · rename_i h1
    split
    · exact h
    · rename_i h2
      unfold ArgBadW at h2
      split
      · exact h
      · rename_i h3
        rw [deny_iff] at h3
        split
        · rename_i h4
          refine hr _ _ (by omega) (by omega) fun k hk hb hc => h3 ⟨k, hk, hb, ?_⟩
          unfold badW
          rw [decide_eq_true_iff]
          exact .inl ⟨h4, hc⟩
        · rename_i h4
          refine hw _ _ (by omega) (by omega) fun k hk hb hc => h3 ⟨k, hk, hb, ?_⟩
          unfold badW
          rw [decide_eq_true_iff]
          exact .inr ⟨by omega, hc⟩

/-- All words are of things. -/
def FineW (nc nt : Nat) (s : Wst) : Prop := (∀ b, b < nc → s.rd b < one nt) ∧ (∀ t, t < nt → s.fr t < one nt) ∧ ∀ b, b < nc → s.kn b < one nt
theorem fineW_run (l : List Dd) : FineW nc nt (runW fi cl nc nt l).2 := by
  refine runW_inv (P := FineW nc nt) ⟨fun _ _ => one_pos _, fun t h => Nat.pow_lt_pow_right (by omega) h, fun _ _ => one_pos _⟩ (fun s d h => ?_) l
  obtain ⟨h1, h2, h3⟩ := h
  refine stepW_inv (P := FineW nc nt) d ⟨h1, h2, h3⟩ (fun b t hb ht _ => ⟨fun x hx => ?_, h2, fun x hx => ?_⟩) (fun b t hb ht _ => ⟨h1, fun x hx => ?_, h3⟩)
  · by_cases e : x = b
    · subst e; simp only [readW]; rw [updA_same]; exact or_lt_iff.2 ⟨h1 x hx, Nat.pow_lt_pow_right (by omega) ht⟩
    · simp only [readW]; rw [updA_other e]; exact h1 x hx
  · by_cases e : x = b
    · subst e; simp only [readW]; rw [updA_same]; exact or_lt_iff.2 ⟨h3 x hx, h2 t ht⟩
    · simp only [readW]; rw [updA_other e]; exact h3 x hx
  · by_cases e : x = t
    · subst e; simp only [writeW]; rw [updA_same]; exact or_lt_iff.2 ⟨h2 x hx, h3 b hb⟩
    · simp only [writeW]; rw [updA_other e]; exact h2 x hx

/-- Nobody has read things of two firms at odds; what one knows is of firms that it has read; into a firm's thing come its own words alone. -/
def Apart (fi cl : List Int) (nc nt : Nat) (s : Wst) : Prop :=
  (∀ b, b < nc → ∀ i j, i < nt → j < nt → (s.rd b).testBit i = true → (s.rd b).testBit j = true → ¬ Clash fi cl i j) ∧
  (∀ b, b < nc → ∀ j, (s.kn b).testBit j = true → 0 ≤ atI fi j → ∃ k, k < nt ∧ (s.rd b).testBit k = true ∧ atI fi k = atI fi j) ∧
    ∀ t, t < nt → (s.fr t).testBit t = true ∧ ∀ j, (s.fr t).testBit j = true → 0 ≤ atI fi j → atI fi j = atI fi t
theorem clash_symm {k t : Nat} (h : Clash fi cl k t) : Clash fi cl t k := ⟨h.2.1, h.1, fun e => h.2.2.1 e.symm, h.2.2.2.symm⟩
theorem bit_or (a b i : Nat) : (a ||| b).testBit i = true ↔ a.testBit i = true ∨ b.testBit i = true := by rw [Nat.testBit_or, Bool.or_eq_true_iff]
theorem bit_one {t j : Nat} : (one t).testBit j = true ↔ t = j := by rw [one_testBit]; simp
theorem apart_run (l : List Dd) : Apart fi cl nc nt (runW fi cl nc nt l).2 := by
  refine runW_inv (P := Apart fi cl nc nt) ⟨fun _ _ i j _ _ h => by simp [startW] at h, fun _ _ j h => by simp [startW] at h, fun t _ => ⟨by simp [startW, one_testBit], fun j hj _ => by rw [bit_one.1 hj]⟩⟩ (fun s d h => ?_) l
  obtain ⟨h1, h2, h3⟩ := h
  refine stepW_inv (P := Apart fi cl nc nt) d ⟨h1, h2, h3⟩ (fun b t hb ht hd => ⟨fun x hx i j hi hj bi bj => ?_, fun x hx j hj h0 => ?_, h3⟩) (fun b t hb ht hd => ⟨h1, h2, fun x hx => ?_⟩)
  · by_cases e : x = b
    · subst e
      simp only [readW] at bi bj
      rw [updA_same] at bi bj
      rcases (bit_or _ _ _).1 bi with b1 | b1
      · rcases (bit_or _ _ _).1 bj with b2 | b2
        · exact h1 x hx i j hi hj b1 b2
        · obtain rfl := bit_one.1 b2; exact hd i hi b1
      · obtain rfl := bit_one.1 b1
        rcases (bit_or _ _ _).1 bj with b2 | b2
        · exact fun hc => hd j hj b2 (clash_symm hc)
        · obtain rfl := bit_one.1 b2; exact fun hc => hc.2.2.1 rfl
    · simp only [readW] at bi bj; rw [updA_other e] at bi bj; exact h1 x hx i j hi hj bi bj
  · by_cases e : x = b
    · subst e
      simp only [readW] at hj ⊢
      rw [updA_same] at hj ⊢
      rcases (bit_or _ _ _).1 hj with h | h
      · obtain ⟨k, hk, hkb, hkf⟩ := h2 x hx j h h0
        exact ⟨k, hk, (bit_or _ _ _).2 (.inl hkb), hkf⟩
      · exact ⟨t, ht, (bit_or _ _ _).2 (.inr (bit_one.2 rfl)), ((h3 t ht).2 j h h0).symm⟩
    · simp only [readW] at hj ⊢; rw [updA_other e] at hj ⊢; exact h2 x hx j hj h0
  · by_cases e : x = t
    · subst e
      simp only [writeW]
      rw [updA_same]
      refine ⟨(bit_or _ _ _).2 (.inl (h3 x hx).1), fun j hj h0 => ?_⟩
      rcases (bit_or _ _ _).1 hj with h | h
      · exact (h3 x hx).2 j h h0
      · obtain ⟨k, hk, hkb, hkf⟩ := h2 b hb j h h0
        apply Classical.byContradiction
        intro hne
        exact hd k hk hkb ⟨by omega, by rw [hkf]; exact hne⟩
    · simp only [writeW]; rw [updA_other e]; exact h3 x hx
end

/-! ## The contract -/
/-- The code of a play. -/
def codeP (who : Int) (fi cl : List Int) (nd : Nat) : Int := if who < 1 ∨ 5 < who ∨ 30 < nd then 1 else codeF fi cl
/-- What a play comes to; nothing where there is an error. -/
def WRes (who : Int) (fi cl : List Int) (ds : List Dd) (codes : List Int) (rd fr : List Nat) : Prop :=
  if codeP who fi cl ds.length = 0 then codes = (runW fi cl who.toNat fi.length ds).1 ∧ rd = tabA who.toNat (runW fi cl who.toNat fi.length ds).2.rd ∧ fr = tabA fi.length (runW fi cl who.toNat fi.length ds).2.fr
  else codes = [] ∧ rd = [] ∧ fr = []
/-- The contract of Play. -/
def WPlayOk (fn : Nat) : Prop :=
  ∀ (who : Int) (fi : List Int) (A : Option Addr) (c : Nat) (cl : List Int) (A2 : Option Addr) (c2 : Nat) (ds : List Dd) (A3 : Option Addr) (c3 : Nat) (w : World),
    fi.length ≤ maxLen → fi.length ≤ c → Row w A (ints fi) → cl.length ≤ maxLen → cl.length ≤ c2 → Row w A2 (ints cl) → ds.length ≤ maxLen → ds.length ≤ c3 → Row w A3 (deedsC ds) → Laid w →
    Calls Try.prog fn #[.int .i64 who, .slice A fi.length c, .slice A2 cl.length c2, .slice A3 ds.length c3] w fun e w' => ∃ (B1 : Option Addr) (k1 : Nat) (codes : List Int) (B2 : Option Addr) (k2 : Nat) (rd : List Nat) (B3 : Option Addr) (k3 : Nat) (fr : List Nat),
      e = .returned (.tuple #[.agg #[.slice B1 codes.length k1, .slice B2 rd.length k2, .slice B3 fr.length k3], .int .i64 (codeP who fi cl ds.length)]) ∧ WRes who fi cl ds codes rd fr ∧
      Row w' B1 (ints codes) ∧ Row w' B2 (words rd) ∧ Row w' B3 (words fr) ∧ Below w.heap.size w w'

end Go.Proofs.Ytdiaglaokgehbaa
