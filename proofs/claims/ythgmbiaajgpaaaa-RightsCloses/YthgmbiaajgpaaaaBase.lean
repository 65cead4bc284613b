/- Plain lemmas on words, rows of cells and lists: nothing of the dump. -/
import Derived.WalkKit
import Derived.WalkSpells
import Derived.WalkLawsBesides
import Derived.Outline
import Derived.Lib.Hide
import Derived.Deep.QuietTactic
import Derived.BigQuiet
import Derived.Deep.LoopGhost
import Derived.Laws.OwnMore
import Derived.Deep.AppendLies
import Derived.Deep.RegionWith
import Derived.StillTailTactics
import Derived.Deep.DeepCutAuto
import Derived.Laws.BitsAllLaws
namespace Go.Proofs.Ythgmbiaajgpaaaa
open Go.RowKit

theorem ret_bool {a b : Bool} (h : a = b) : Ending.returned (.bool a) = .returned (.bool b) := by rw [h]
theorem ret_int {k : IntKind} {a b : Int} (h : a = b) : Ending.returned (.int k a) = .returned (.int k b) := by rw [h]

/-! ## Words -/
theorem bit_and_ne (s k : Nat) : (s &&& 2 ^ k != 0) = s.testBit k := by
  have h := nat_bit k s
  rw [h]
  have hp : 0 < 2 ^ k := Nat.two_pow_pos k
  rw [Nat.testBit_eq_decide_div_mod_eq]
  rcases Nat.mod_two_eq_zero_or_one (s / 2 ^ k) with h0 | h0 <;> simp [h0]

theorem u32_lt_pow {k : Nat} (hk : k < 32) : 2 ^ k < 4294967296 := by
  have : 2 ^ k < 2 ^ 32 := Nat.pow_lt_pow_right (by omega) hk
  simpa using this

/-- The word of one thing. -/
def one (k : Nat) : Nat := 2 ^ k
theorem one_lt {k : Nat} (hk : k < 32) : one k < 4294967296 := u32_lt_pow hk
theorem one_int (k : Nat) (hk : k < 32) : (2 : Int) ^ k % 4294967296 = (one k : Int) := by
  have h := u32_lt_pow hk
  have h2 : ((2 ^ k : Nat) : Int) = (2 : Int) ^ k := by simp
  rw [← h2]
  show _ = ((2 ^ k : Nat) : Int)
  generalize 2 ^ k = m at *
  omega
theorem u32_has (s k : Nat) (hs : s < 4294967296) (hk : k < 32) : (bits .and .u32 (s : Int) (one k : Int) != 0) = s.testBit k := by
  rw [u32_and_nat s (one k) hs (one_lt hk), ← bit_and_ne]
  rw [Bool.eq_iff_iff]
  simp only [bne_iff_ne, ne_eq, one]
  generalize s &&& 2 ^ k = m
  omega

/-! ## A slice that reads as a list of cells -/
/-- The slice's address A begins a row of cells that are cs. Of an empty one nothing is asked. -/
def Row (w : World) (A : Option Addr) (cs : List Value) : Prop :=
  cs = [] ∨ ∃ b off, A = some ⟨b, off, none⟩ ∧ ∀ j v, cs[j]? = some v → w.cell? ⟨b, off + j, none⟩ = some v

theorem Row.nil (w : World) (A : Option Addr) : Row w A [] := .inl rfl

theorem Row.at {w : World} {A : Option Addr} {cs : List Value} (h : Row w A cs) {k : Nat} (hk : k < cs.length) :
    ∃ b off, A = some ⟨b, off, none⟩ ∧ ∀ j v, cs[j]? = some v → w.cell? ⟨b, off + j, none⟩ = some v := by
  rcases h with rfl | h
  · simp at hk
  · exact h

theorem block_lt_of_cell {w : World} {b o : Nat} {v : Value} (h : w.cell? ⟨b, o, none⟩ = some v) : b < w.heap.size := by
  rcases Nat.lt_or_ge b w.heap.size with h1 | h1
  · exact h1
  · simp [World.cell?, Array.getElem?_eq_none h1] at h

theorem Row.below {w w' : World} {A : Option Addr} {cs : List Value} (h : Row w A cs) (hb : Below w.heap.size w w') : Row w' A cs := by
  rcases h with rfl | ⟨b, off, rfl, hc⟩
  · exact .inl rfl
  · right
    refine ⟨b, off, rfl, fun j v hv => ?_⟩
    have h1 := hc j v hv
    exact (hb.cell (p := ⟨b, off + j, none⟩) (block_lt_of_cell h1)).trans h1

theorem Row.drewN {w : World} {A : Option Addr} {cs : List Value} (h : Row w A cs) (n : Nat) : Row (w.drewN n) A cs := h
theorem Row.of_own {w : World} {base e n g cap : Nat} {cs : List Value} (h : w.ownsRow base e 1 (.slice (some ⟨g, 0, none⟩) n cap) n cs) : Row w (some ⟨g, 0, none⟩) cs := by
  refine .inr ⟨g, 0, rfl, fun j v hv => ?_⟩
  have hl := h.1
  have hj : j < cs.length := (List.getElem?_eq_some_iff.1 hv).1
  rw [Nat.zero_add, h.cellAt j (by omega)]
  exact hv
theorem own_drewN {w : World} {base e size n : Nat} {v : Value} {cs : List Value} (h : w.ownsRow base e size v n cs) (k : Nat) : (w.drewN k).ownsRow base e size v n cs := h
theorem below_drewN {B : Nat} {a w : World} (h : Below B a w) (n : Nat) : Below B a (w.drewN n) := ⟨h.os, h.tape, h.output, h.size, h.block⟩
theorem below_own {w wr w' : World} {v : Value} {n : Nat} {xs : List Value} {e size : Nat} (hb : Below w.heap.size w wr) (h : wr.ownsRow w.heap.size e size v n xs) (hg : wr.grownBy w' v.ownBlock) : Below w.heap.size w w' :=
  hb.grown hg hb.size (fun k hk => (h.lt k hk).1)

theorem own_below {w w' : World} {base e size n g cap : Nat} {cs : List Value} (h : w.ownsRow base e size (.slice (some ⟨g, 0, none⟩) n cap) n cs) (hb : Below w.heap.size w w') :
    w'.ownsRow base e size (.slice (some ⟨g, 0, none⟩) n cap) n cs :=
  h.kept (row := none) ⟨hb.os, hb.tape, hb.output, hb.size, fun k hk _ => hb.block k hk⟩ (.inr (by simp [Value.ownBlock]))
theorem own_rebase {w : World} {base base' e size n g cap : Nat} {cs : List Value} (h : w.ownsRow base e size (.slice (some ⟨g, 0, none⟩) n cap) n cs) (hb : base' ≤ base) :
    w.ownsRow base' e size (.slice (some ⟨g, 0, none⟩) n cap) n cs := by
  obtain ⟨h1, h2⟩ := h
  refine ⟨h1, ?_⟩
  rcases h2 with h2 | ⟨g', cap', cur, hv, hg, r⟩
  · exact .inl h2
  · exact .inr ⟨g', cap', cur, hv, Nat.le_trans hb hg, r⟩

theorem drew_two (w : World) (d e : Nat) : ((w.drewN d).drew.drew).drewN e = w.drewN (d + (2 + e)) := by
  show (((w.drewN d).drewN 1).drewN 1).drewN e = _
  rw [World.drewN_drewN, World.drewN_drewN, World.drewN_drewN]
  congr 1
  omega

theorem row_news {w : World} {b off : Nat} {cs : List Value} (h : Row w (some ⟨b, off, none⟩) cs) : ∀ j u, cs[j]? = some u → w.cell? ((⟨b, off, none⟩ : Addr).add j) = some u := by
  intro j u hu
  obtain ⟨b', off', he, hc⟩ := h.at (k := j) (List.getElem?_eq_some_iff.1 hu).1
  simp only [Option.some.injEq, Addr.mk.injEq, and_true] at he
  obtain ⟨rfl, rfl⟩ := he
  have := hc j u hu
  by_cases h0 : j = 0
  · subst h0; simpa [Addr.add] using this
  · simpa [Addr.add, h0] using this

/-- The ints of a list, as cells. -/
def ints (xs : List Int) : List Value := xs.map (Value.int .i64)
/-- The words of a list, as cells. -/
def words (xs : List Nat) : List Value := xs.map fun (x : Nat) => Value.int .u32 (x : Int)
/-- Pairs, as cells. -/
def pairsC (ps : List (Int × Int)) : List Value := ps.flatMap fun p => [Value.int .i64 p.1, Value.int .i64 p.2]

@[simp] theorem ints_length (xs : List Int) : (ints xs).length = xs.length := by simp [ints]
@[simp] theorem words_length (xs : List Nat) : (words xs).length = xs.length := by simp [words]
theorem ints_at {xs : List Int} {k : Nat} {y : Int} (h : xs[k]? = some y) : (ints xs)[k]? = some (.int .i64 y) := by simp [ints, h]
theorem words_at {xs : List Nat} {k : Nat} {y : Nat} (h : xs[k]? = some y) : (words xs)[k]? = some (.int .u32 (y : Int)) := by simp [words, h]
theorem pairsC_length (ps : List (Int × Int)) : (pairsC ps).length = 2 * ps.length := by
  induction ps with
  | nil => rfl
  | cons p ps ih => simp only [pairsC, List.flatMap_cons, List.length_append, List.length_cons, List.length_nil] at *; omega
theorem pairsC_at0 {ps : List (Int × Int)} {k : Nat} {p : Int × Int} (h : ps[k]? = some p) : (pairsC ps)[k * 2]? = some (.int .i64 p.1) := by
  induction ps generalizing k with
  | nil => simp at h
  | cons q ps ih =>
    cases k with
    | zero => simp at h; subst h; simp [pairsC]
    | succ k =>
      have := ih (k := k) (by simpa using h)
      simp only [pairsC, List.flatMap_cons] at this ⊢
      rw [show (k + 1) * 2 = 2 + k * 2 from by omega]
      rw [List.getElem?_append_right (by simp)]
      simpa using this
theorem pairsC_at1 {ps : List (Int × Int)} {k : Nat} {p : Int × Int} (h : ps[k]? = some p) : (pairsC ps)[k * 2 + 1]? = some (.int .i64 p.2) := by
  induction ps generalizing k with
  | nil => simp at h
  | cons q ps ih =>
    cases k with
    | zero => simp at h; subst h; simp [pairsC]
    | succ k =>
      have := ih (k := k) (by simpa using h)
      simp only [pairsC, List.flatMap_cons] at this ⊢
      rw [show (k + 1) * 2 + 1 = 2 + (k * 2 + 1) from by omega]
      rw [List.getElem?_append_right (by simp)]
      simpa using this

theorem ints_oneCell (xs : List Int) : ∀ u ∈ ints xs, u.oneCell' = true := by
  intro u hu
  simp only [ints, List.mem_map] at hu
  obtain ⟨x, _, rfl⟩ := hu
  rfl
theorem mem_take_succ {α : Type} {xs : List α} {k : Nat} {x y : α} (hy : xs[k]? = some y) (h : ¬ x ∈ xs.take k) (h2 : ¬ x = y) : ¬ x ∈ xs.take (k+1) := by
  rw [List.take_add_one, hy]
  simp only [Option.toList, List.mem_append, List.mem_singleton]
  rintro (h3 | h3)
  · exact h h3
  · exact h2 h3

theorem get_some {α : Type} {xs : List α} {k : Nat} (h : k < xs.length) : ∃ y, xs[k]? = some y := ⟨_, List.getElem?_eq_getElem h⟩

/-- Things as numbers of Go. -/
def nats (l : List Nat) : List Int := l.map fun x : Nat => (x : Int)
@[simp] theorem nats_length (l : List Nat) : (nats l).length = l.length := by simp [nats]
theorem nats_append (l r : List Nat) : nats (l ++ r) = nats l ++ nats r := by simp [nats]
theorem mem_nats {l : List Nat} {x : Nat} : (x : Int) ∈ nats l ↔ x ∈ l := by
  unfold nats
  rw [List.mem_map]
  constructor
  · rintro ⟨y, hy, e⟩
    obtain rfl : y = x := by omega
    exact hy
  · intro h; exact ⟨x, h, rfl⟩
theorem nats_at {l : List Nat} {k x : Nat} (h : l[k]? = some x) : (nats l)[k]? = some (x : Int) := by simp [nats, h]

theorem i64_or_nat (a b : Nat) (ha : a < 4611686018427387904) (hb : b < 4611686018427387904) : bits .or .i64 (a : Int) (b : Int) = ((a ||| b : Nat) : Int) := by
  have hx : a ||| b < 2 ^ 62 := Nat.or_lt_two_pow (by omega) (by omega)
  show IntKind.i64.wrap ((BitVec.ofInt 64 (a : Int) ||| BitVec.ofInt 64 (b : Int)).toNat : Int) = _
  rw [BitVec.toNat_or, ofInt_u64 a (by omega), ofInt_u64 b (by omega), IntKind.wrap_i64]
  omega

end Go.Proofs.Ythgmbiaajgpaaaa
