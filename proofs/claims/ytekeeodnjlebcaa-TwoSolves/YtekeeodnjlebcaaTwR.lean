/- syllogistref.Reach. -/
import Derived.Test.YtekeeodnjlebcaaTwS
import Derived.Test.YtekeeodnjlebcaaTwM
import Derived.Deep.RegionHeld3
namespace Go.Proofs.Ytekeeodnjlebcaa
open Go.RowKit

theorem nats_len (xs : List Nat) : (nats xs).length = xs.length := by simp [nats]
theorem nats_mem {xs : List Nat} {x : Nat} : (x : Int) ∈ nats xs ↔ x ∈ xs := by
  unfold nats
  rw [List.mem_map]
  constructor
  · rintro ⟨y, hy, e⟩
    have : y = x := by omega
    subst this
    exact hy
  · intro h; exact ⟨x, h, rfl⟩
theorem nats_app (xs ys : List Nat) : nats (xs ++ ys) = nats xs ++ nats ys := by simp [nats]

/-- Within the going: the kth is looked at, the literals below j are done. -/
def RchR (n : Nat) (rs : List Cla) (i : Nat) (w : World) (T : List Nat) (k x j : Nat) (hv : Value) (here : List Nat) (wr : World) : Prop :=
  Bfs n rs i here k ∧ here.take (k + 1) = T ∧ here[k]? = some x ∧ (∀ y, y < j → stepB n rs x y = true → y ∈ here) ∧ OwnI wr w.heap.size hv (nats here) ∧ Below w.heap.size w wr
/-- The cells that the test reads. -/
def ThreeC (z g p c1 c2 x : Nat) (w' : World) : Prop :=
  w'.cell? ⟨z, 0, none⟩ = some (.int .u32 (c1 : Int)) ∧ w'.cell? ⟨z, 1, none⟩ = some (.int .u32 (c2 : Int)) ∧ w'.cell? ⟨g, p, none⟩ = some (.int .i64 (x : Int))
theorem ThreeC.below {z g p c1 c2 x : Nat} {w w' : World} (h : ThreeC z g p c1 c2 x w) (hb : Below w.heap.size w w') : ThreeC z g p c1 c2 x w' :=
  ⟨cell_kp' hb h.1, cell_kp' hb h.2.1, cell_kp' hb h.2.2⟩

end Go.Proofs.Ytekeeodnjlebcaa
