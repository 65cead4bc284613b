/- The memory of a marked script: three lists in a struct, and what each one knows. -/
import Derived.Test.YtlpjpnlfmjehnaaMk
import Derived.Test.YtlpjpnlfmjehnaaWL1
import Derived.Test.YtlpjpnlfmjehnaaAppAny
import Derived.Test.YtlpjpnlfmjehnaaOwnU
namespace Go.Proofs.Ytlpjpnlfmjehnaa
open Go.RowKit

theorem wpList_append_grow {P : Program} {w : World} {ops : Array Oper} {rest : List Oper} {o : Oper} {a : Act} {Q : Exit → Act → World → Prop} (hgd : o.guard = none) (s x : Operand) (t : TypeId)
    (ho : o.op = .call { callee := .builtin .append, args := #[s, x], argTypes := #[t, t] })
    (base : Nat) (e : TypeId) (i : TypeInfo) (z : Value) (size bytes : Nat) (ht : P.underlying t = some (.slice e)) (hi : P.info? e = some i) (hz : i.zero = some z)
    (hsize : i.size = size) (hby : i.bytes = bytes) (hzs : z.cells.size = size) (hsz : 0 < size)
    (v : Value) (n : Nat) (xs : List Value) (hs : a.eval s = v) (hown : w.ownsRow base e size v n xs)
    (ad : Addr) (m c : Nat) (news : List Value) (hx : a.eval x = .slice (some ad) m c) (hl : news.length = m * size) (hnews : ∀ j u, news[j]? = some u → w.cell? (ad.add j) = some u) (h1 : ∀ u ∈ news, u.oneCell' = true)
    (h63 : n + m ≤ maxLen) (hbytes : (n + m) * bytes ≤ 140737488355328) (hbase : base ≤ w.heap.size)
    (h : ∀ v' w', w'.ownsRow base e size v' (n + m) (xs ++ news) → w.grownBy w' v.ownBlock → wpList P ops Q rest (a.put o.dst v') w') : wpList P ops Q (o :: rest) a w :=
  wpList_plain hgd fun _ hK => wp_append_any s x t ho base e i z size bytes ht hi hz hsize hby hzs hsz v n xs hs hown ad m c news hx hl hnews h1 h63 hbytes hbase (fun v' w' h1 h2 _ => hK _ _ (h v' w' h1 h2))

section
variable {w w' : World} {B e size n : Nat} {v : Value} {xs : List Value}
theorem own_far (h : w.ownsRow B e size v n xs) {a : Addr} (u : Value) (hne : v.ownBlock ≠ some a.block) : (w.setCell a u).ownsRow B e size v n xs :=
  World.ownsRow.kept h (row := some a.block) ⟨rfl, rfl, rfl, by simp [World.setCell], fun k _ hk => Below.heap_setCell _ _ _ _ (fun e => hk (by rw [e]))⟩ (.inr hne)
theorem own_keep (h : w.ownsRow B e size v n xs) (hb : Below w.heap.size w w') : w'.ownsRow B e size v n xs :=
  World.ownsRow.kept h (row := none) ⟨hb.os, hb.tape, hb.output, hb.size, fun k hk _ => hb.block k hk⟩ (by cases v.ownBlock <;> simp)
theorem own_type {g : Nat} (h : w.ownsRow B e size v n xs) (hg : v.ownBlock = some g) : ∃ cur, w.heap[g]? = some (.cells cur e (0, 0)) := by
  rcases h.2 with ⟨hv, _⟩ | ⟨g', cap, cur, hv, _, hh, _⟩
  · rw [hv] at hg; simp [Value.ownBlock] at hg
  · rw [hv] at hg
    simp only [Value.ownBlock, Option.some.injEq] at hg
    subst hg
    exact ⟨cur, hh⟩
theorem own_apart {e2 size2 n2 : Nat} {v2 : Value} {xs2 : List Value} (h : w.ownsRow B e size v n xs) (h2 : w.ownsRow B e2 size2 v2 n2 xs2) (he : e ≠ e2) {g : Nat} (hg : v2.ownBlock = some g) : v.ownBlock ≠ some g := by
  intro k
  obtain ⟨c1, h1⟩ := own_type h k
  obtain ⟨c2, h3⟩ := own_type h2 hg
  rw [h1] at h3
  simp only [Option.some.injEq, Obj.cells.injEq] at h3
  exact he h3.2.1
theorem own_block {g t : Nat} {cur : Array Value} (h : w.ownsRow B e size v n xs) (hb : w.heap[g]? = some (.cells cur t (0, 0))) (he : e ≠ t) : v.ownBlock ≠ some g := by
  intro k
  obtain ⟨c1, h1⟩ := own_type h k
  rw [h1] at hb
  simp only [Option.some.injEq, Obj.cells.injEq] at hb
  exact he hb.2.1
theorem own_slice (h : w.ownsRow B e size v n xs) : ∃ A c, v = .slice A n c ∧ n ≤ maxLen ∧ n ≤ c := by
  rcases h.2 with ⟨hv, hn⟩ | ⟨g, cap, cur, hv, _, _, h1, h2, _⟩
  · subst hn; exact ⟨none, 0, hv, by simp [maxLen], Nat.le_refl _⟩
  · exact ⟨_, cap, hv, by omega, h1⟩
theorem own_some (h : w.ownsRow B e size v n xs) (hn : 0 < n) : ∃ g c, v = .slice (some ⟨g, 0, none⟩) n c ∧ n ≤ c := by
  rcases h.2 with ⟨hv, hn'⟩ | ⟨g, cap, cur, hv, _, _, h1, _⟩
  · omega
  · exact ⟨g, cap, hv, h1⟩
theorem own_row (h : w.ownsRow B e size v n xs) : ∃ A c, v = .slice A n c ∧ n ≤ c ∧ Row w A xs := by
  rcases h.2 with ⟨hv, hn⟩ | ⟨g, cap, cur, hv, hg, hh, h1, h2, h3, h4⟩
  · subst hn
    have : xs = [] := List.eq_nil_of_length_eq_zero (by simpa using h.1)
    exact ⟨none, 0, hv, Nat.le_refl _, .inl this⟩
  · subst hv
    refine ⟨_, cap, rfl, h1, .inr ⟨g, 0, rfl, fun j u hu => ?_⟩⟩
    have hj : j < xs.length := (List.getElem?_eq_some_iff.1 hu).1
    rw [Nat.zero_add, World.ownsRow.cellAt h j (by have := h.1; omega)]
    exact hu
end

theorem infoLb : (Try.prog.info? 44).map (fun i => (i.zero, i.size, i.bytes)) = some (some (.agg #[.int .i64 0, .int .u32 0]), 2, 16) := by kernel_rfl
theorem infoEr : (Try.prog.info? 27).map (fun i => (i.zero, i.size, i.bytes)) = some (some (.int .i64 0), 1, 8) := by kernel_rfl
theorem infoU32 : (Try.prog.info? 35).map (fun i => (i.zero, i.size, i.bytes)) = some (some (.int .u32 0), 1, 4) := by kernel_rfl

section
variable {w0 w w' : World} {g : Nat} {vc vm vf vk : Value} {codes : List Int} {marks : List Lab} {fr kn : List Nat}
theorem grown_kept {row : Option Nat} {B e size n : Nat} {v : Value} {xs : List Value} (hg : w.grownBy w' row) (h : w.ownsRow B e size v n xs) (hne : ∀ b, row = some b → v.ownBlock ≠ some b) : w'.ownsRow B e size v n xs := by
  refine World.ownsRow.kept h hg ?_
  cases row with
  | none => cases v.ownBlock <;> simp
  | some b => exact .inr (hne b rfl)
theorem set_blk {a b c u : Value} {t : Nat} (h : w.heap[g]? = some (.cells #[a, b, c] t (0, 0))) :
    (w.setCell ⟨g, 0, none⟩ u).heap[g]? = some (.cells #[u, b, c] t (0, 0)) ∧ (w.setCell ⟨g, 1, none⟩ u).heap[g]? = some (.cells #[a, u, c] t (0, 0)) ∧ (w.setCell ⟨g, 2, none⟩ u).heap[g]? = some (.cells #[a, b, u] t (0, 0)) := by
  refine ⟨?_, ?_, ?_⟩ <;>
    · simp only [World.setCell]
      rw [Array.getElem?_modify, if_pos rfl, h]
      rfl
theorem grown_cell {row : Option Nat} {j : Nat} {v : Value} {cur : Array Value} {t : TypeId} (hgr : w.grownBy w' row) (hb : w.heap[g]? = some (.cells cur t (0, 0))) (hne : some g ≠ row) (hc : w.cell? ⟨g, j, none⟩ = some v) :
    w'.cell? ⟨g, j, none⟩ = some v ∧ w'.frozen? ⟨g, j, none⟩ = false := by
  have h := hgr.block g (Array.getElem?_eq_some_iff.1 hb).1 hne
  refine ⟨(World.cell?_of_block h).trans hc, ?_⟩
  rw [World.frozen?_of_block h]
  simp [World.frozen?, hb]
/-! ## Stores -/
theorem words_set (l : List Nat) (b x : Nat) : (words l).set b (.int .u32 (x : Int)) = words (l.set b x) := by unfold words; rw [List.map_set]
theorem labsC_set (l : List Lab) (b : Nat) (a : Lab) : ((labsC l).set (b * 2) (.int .i64 a.1)).set (b * 2 + 1) (.int .u32 (a.2 : Int)) = labsC (l.set b a) := by
  induction l generalizing b with
  | nil => rfl
  | cons x l ih =>
    cases b with
    | zero => simp [labsC, labC]
    | succ b =>
      have := ih b
      simp only [labsC, List.flatMap_cons, labC, List.cons_append, List.nil_append, List.set_cons_succ] at this ⊢
      rw [show (b + 1) * 2 = b * 2 + 1 + 1 by omega, show b * 2 + 1 + 1 + 1 = (b * 2 + 1) + 1 + 1 by omega]
      simp only [List.set_cons_succ]
      rw [this]
end

theorem RowD.cells {w : World} {A : Option Addr} {l : List Dd} (h : Row w A (deedsC l)) {k : Nat} {d : Dd} (hd : l[k]? = some d) :
    ∃ b off, A = some ⟨b, off, none⟩ ∧ w.cell? ⟨b, off + k * 6, none⟩ = some (.int .i64 d.kind) ∧ w.cell? ⟨b, off + k * 6 + 1, none⟩ = some (.int .i64 d.who) ∧ w.cell? ⟨b, off + k * 6 + 2, none⟩ = some (.int .i64 d.tgt) ∧
      w.cell? ⟨b, off + k * 6 + 3, none⟩ = some (.int .i64 d.lev) ∧ w.cell? ⟨b, off + k * 6 + 4, none⟩ = some (.int .u32 (d.parts : Int)) ∧ w.cell? ⟨b, off + k * 6 + 5, none⟩ = some (.int .i64 d.val) := by
  obtain ⟨b, off, rfl, hc⟩ := h.at (k := k * 6) (by rw [deedsC_length]; have := (List.getElem?_eq_some_iff.1 hd).1; omega)
  have h' : ∀ j, j < 6 → ∀ v, (ddC d)[j]? = some v → w.cell? ⟨b, off + k * 6 + j, none⟩ = some v := fun j hj v hv => by
    have := hc (k * 6 + j) v (by rw [deedsC_at hd hj]; exact hv)
    rwa [← Nat.add_assoc] at this
  exact ⟨b, off, rfl, h' 0 (by omega) _ rfl, h' 1 (by omega) _ rfl, h' 2 (by omega) _ rfl, h' 3 (by omega) _ rfl, h' 4 (by omega) _ rfl, h' 5 (by omega) _ rfl⟩

end Go.Proofs.Ytlpjpnlfmjehnaa
