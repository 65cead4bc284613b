/- More rules get more; what is closed stays. -/
import Derived.Test.YthgmbiaajgpaaaaMx2
namespace Go.Proofs.Ythgmbiaajgpaaaa
open Go.RowKit

theorem round_more {n : Nat} {l l' : List Chn} (F : Nat → Nat → Nat) (h : ∀ c ∈ l, c ∈ l') : LeX n (roundX n l F) (roundX n l' F) := fun i k _ _ => sub_iff.2 fun t ht => by
  unfold roundX at *
  rw [Nat.testBit_or, Bool.or_eq_true] at *
  rcases ht with ht | ht
  · exact .inl ht
  · obtain ⟨j, h1, c, h2, h3⟩ := addN_bit.1 ht
    exact .inr (addN_bit.2 ⟨j, h1, c, h _ h2, h3⟩)
theorem SameX.le {n : Nat} {F G : Nat → Nat → Nat} (h : SameX n F G) : LeX n F G := fun i j hi hj => by rw [h i j hi hj]; exact sub_refl _
theorem close_more {n : Nat} {l l' : List Chn} {F : Nat → Nat → Nat} (hn : n ≤ 6) (hF : U2 F) (hc : C32 l') (h : ∀ c ∈ l, c ∈ l') : LeX n (closeX n l F) (closeX n l' F) := by
  have hcl : ClosedX n l' (closeX n l' F) := (last_spec hn hF hc).2.1
  exact closeX_least (le_close n l' F) (((round_more _ h).trans (SameX.le hcl)).anti (le_round n l _))
theorem close_again {n : Nat} {l : List Chn} {F : Nat → Nat → Nat} (hn : n ≤ 6) (hF : U2 F) (hc : C32 l) : tab2 n (closeX n l (atM (tab2 n (closeX n l F)))) = tab2 n (closeX n l F) := by
  have hcl : ClosedX n l (closeX n l F) := (last_spec hn hF hc).2.1
  have e : SameX n (atM (tab2 n (closeX n l F))) (closeX n l F) := fun i j hi hj => atM_tab2 _ hi hj
  have hcl2 : ClosedX n l (atM (tab2 n (closeX n l F))) := (e.round.trans hcl).trans e.symm
  rw [tab2_same]
  exact ((closeX_least (LeX.refl n _) hcl2).anti (le_close n l _)).trans e

end Go.Proofs.Ythgmbiaajgpaaaa
