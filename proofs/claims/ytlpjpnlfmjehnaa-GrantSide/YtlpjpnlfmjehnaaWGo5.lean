/- grant's path: the list of vertices from one who has the right to the one who is to have it. -/
import Derived.Test.YtlpjpnlfmjehnaaCtK
import Derived.Test.YtlpjpnlfmjehnaaWSl
import Derived.Test.YtlpjpnlfmjehnaaWG2
import Derived.Test.YtlpjpnlfmjehnaaWGo1
namespace Go.Proofs.Ytlpjpnlfmjehnaa
open Go.RowKit
open Go.ChangeMaps (setBlock)

/-- For each that was reached but the first one, from whom it was reached. -/
def Twd (es : List Ed) (x : Int) (here : List Int) (f : Int → Nat) : Prop :=
  here[0]? = some x ∧ (∀ k u, 0 < k → here[k]? = some u → ∃ j, j < k ∧ here[j]? = some (f u : Int) ∧ AdjE es u (f u)) ∧ ∀ u ∈ here, 0 ≤ u ∧ u < 1000
/-- A list of vertices from v to x, each linked to the next one. -/
structure PathW (es : List Ed) (x v : Int) (here p : List Int) : Prop where
  head : p[0]? = some v
  last : p[p.length - 1]? = some x
  adj : ∀ (i : Nat) (a b : Int), p[i]? = some a → p[i + 1]? = some b → AdjE es a b
  mem : ∀ a ∈ p, a ∈ here
theorem PathW.push {es : List Ed} {x v u : Int} {here p : List Int} (h : PathW es x v here p) (ha : AdjE es x u) (hu : u ∈ here) : PathW es u v here (p ++ [u]) := by
  have hp := (List.getElem?_eq_some_iff.1 h.head).1
  refine ⟨by rw [List.getElem?_append_left hp]; exact h.head, by simp, fun i a b h1 h2 => ?_, fun a ha => ?_⟩
  · have hb := (List.getElem?_eq_some_iff.1 h2).1
    simp only [List.length_append, List.length_singleton] at hb
    by_cases e : i + 1 < p.length
    · rw [List.getElem?_append_left e] at h2
      rw [List.getElem?_append_left (by omega)] at h1
      exact h.adj i a b h1 h2
    · have e2 : i = p.length - 1 := by omega
      rw [List.getElem?_append_left (by omega), e2, h.last] at h1
      rw [List.getElem?_append_right (by omega), show i + 1 - p.length = 0 by omega] at h2
      simp at h1 h2
      subst h1 h2
      exact ha
  · rw [List.mem_append, List.mem_singleton] at ha
    rcases ha with ha | rfl
    · exact h.mem a ha
    · exact hu
theorem vertLit {u : Int} (h : 0 ≤ u ∧ u < 1000) : (Lit.int .i64 u).wf = true := by
  obtain ⟨k, rfl⟩ := Int.eq_ofNat_of_zero_le h.1
  exact intLit (by omega)
def lenV : Value → Nat
  | .slice _ n _ => n
  | _ => 0

set_option maxRecDepth 100000 in
set_option maxHeartbeats 1000000 in
theorem gWalk_any (es : List Ed) (x v : Int) (here : List Int) (f : Int → Nat) (b m K : Nat) (w : World) (hK : K < 1000) (hk : here[K]? = some v) (hT : Twd es x here f) (hm : CtM w b m f) :
    Calls Try.prog 38 #[.map (some b), .int .i64 v, .int .i64 x] w fun e w' => ∃ (A : Option Addr) (c : Nat) (p : List Int),
      e = .returned (.slice A p.length c) ∧ PathW es x v here p ∧ p.length ≤ K + 1 ∧ RowsM w [⟨3, 1, .slice A p.length c, p.length, ints p⟩] w' := by
  obtain ⟨i0, hi0, hz0, hz1, hz2⟩ := info_parts infoIg
  have HI := Lib.hid (And.intro hi0 (And.intro hz0 (And.intro hz1 hz2)))
  have HM0 := Lib.hid ((RowsM.nil w).newAlloc (cs := #[.int .i64 v]) (t := 3) 1 1 (by decide) rfl)
  have HK := Lib.hid hk
  have HT := Lib.hid hT
  have HM := Lib.hid hm
  have hv : v ∈ here := List.mem_of_getElem? hk
  have HV := Lib.hid hv
  clear hi0 hz0 hz1 hz2 hk hT hm hv
  go_enter Try.func38, Try.ntmps38
  go_wp2
  go_loopw [1, 7] (fun uv pv wr => ∃ (kk : Nat) (u : Int) (p : List Int), uv = .int .i64 u ∧ here[kk]? = some u ∧ p.length + kk ≤ K + 1 ∧ PathW es u v here p ∧ RowsM w [⟨3, 1, pv, p.length, ints p⟩] wr) (fun _ pv _ => K + 1 - lenV pv)
  case atStart => exact ⟨K, v, [v], rfl, HK.out, by simp; omega, ⟨rfl, rfl, fun i a b h1 h2 => by simp at h2, fun a ha => by simp at ha; subst ha; exact HV.out⟩, HM0.out⟩
  case round =>
    clear HM0
    obtain ⟨kk, u, p, rfl, hu, hlen, hp, hr⟩ := hrel
    have hpos : 0 < p.length := (List.getElem?_eq_some_iff.1 hp.head).1
    obtain ⟨g, ch, hgv, hcap⟩ := hr.solid (k := 0) rfl hpos
    simp only at hgv
    subst hgv
    have HP := Lib.hid hp
    have HR := Lib.hid hr
    have HU := Lib.hid hu
    clear hp hr hu
    by_cases hx : u = x
    · subst hx
      go_wp2
      go_ret
      exact ⟨_, _, p, rfl, HP.out, by omega, HR.out⟩
    · have h0 : 0 < kk := by
        refine Nat.pos_of_ne_zero fun e => ?_
        have := HU.out
        rw [e, HT.out.1] at this
        exact hx (Option.some.inj this).symm
      obtain ⟨j, hj, hju, hja⟩ := HT.out.2.1 kk u h0 HU.out
      have hlk := (HM.out.below HR.out.below).look (vertLit (HT.out.2.2 u (List.mem_of_getElem? HU.out)))
      have HJ := Lib.hid hju
      have HP2 := Lib.hid (HP.out.push hja (List.mem_of_getElem? hju))
      clear hja hju
      generalize f u = q at *
      have HMA := Lib.hid (HR.out.grow ((Below.refl wr.heap.size wr).alloc (Nat.le_refl _) (.cells #[.int .i64 (q : Int)] 3)))
      go_wp2_with (at_builtin; refine wpList_append_rm rfl _ _ 66 rfl 0 3 1 p.length _ (ints p) HMA.out rfl i0 (.int .i64 0) 8 Try.underlying66 HI.out.1 HI.out.2.1 HI.out.2.2.1 HI.out.2.2.2 rfl (by decide) rfl ⟨wr.heap.size, 0, none⟩ 1 1 [.int .i64 (q : Int)] rfl rfl ?qnewsa ?qonea ?q63a ?qbya ?qnexta)
      case qonea => rfl
      case q63a => unfold maxLen; omega
      case qbya => omega
      case qnexta =>
        intro A' c' w3 hn
        have HN3 := Lib.hid (show RowsM w [⟨3, 1, .slice A' (p.length + 1) c', p.length + 1, ints (p ++ [(q : Int)])⟩] w3 by
          rw [ints_append]
          exact hn)
        clear hn
        go_wp2
        go_roundw
        case rel => exact ⟨j, (q : Int), p ++ [(q : Int)], rfl, HJ.out, by rw [List.length_append, List.length_singleton]; omega, HP2.out, by rw [List.length_append]; exact HN3.out⟩
        case measure => simp [lenV]; omega

end Go.Proofs.Ytlpjpnlfmjehnaa
