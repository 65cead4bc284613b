/- syllogistref.Round. -/
import Derived.Test.YthgmbiaajgpaaaaWRt1
import Derived.Test.YthgmbiaajgpaaaaRm
import Derived.Test.YthgmbiaajgpaaaaOwn
import Derived.Test.YthgmbiaajgpaaaaFlat
import Derived.Deep.RegionHeld3
namespace Go.Proofs.Ythgmbiaajgpaaaa
open Go.RowKit

theorem infoSw : (Try.prog.info? 38).map (fun i => (i.zero, i.size, i.bytes)) = some (some (.slice none 0 0), 1, 24) := by kernel_rfl
theorem infoUw : (Try.prog.info? 33).map (fun i => (i.zero, i.size, i.bytes)) = some (some (.int .u32 0), 1, 4) := by kernel_rfl

/-- The rows of a matrix that is built: what it has so far, its rows, and others. -/
def rowsR (vo : Value) (i n : Nat) (vr : Nat → Value) (G : Nat → Nat → Nat) (ex : List Rw) : List Rw :=
  ⟨38, 1, vo, i, tabA i vr⟩ :: ((tabA i fun t => ⟨33, 1, vr t, n, words (tabA n (G t))⟩) ++ ex)
section
variable {vo : Value} {i n : Nat} {vr : Nat → Value} {G : Nat → Nat → Nat} {ex : List Rw}
theorem rowsR_ex (t : Nat) : (rowsR vo i n vr G ex)[i + 1 + t]? = ex[t]? := by
  unfold rowsR
  rw [show i + 1 + t = (i + t) + 1 by omega, List.getElem?_cons_succ, List.getElem?_append_right (by simp), tabA_length, show i + t - i = t by omega]
theorem rowsR_set {a a' : Rw} : (rowsR vo i n vr G (a :: ex)).set (i + 1) a' = rowsR vo i n vr G (a' :: ex) := by
  unfold rowsR
  rw [List.set_cons_succ, List.set_append_right _ _ (by simp)]
  simp
theorem rowsR_in {t : Nat} (ht : t < i) : (rowsR vo i n vr G ex)[t + 1]? = some ⟨33, 1, vr t, n, words (tabA n (G t))⟩ := by
  unfold rowsR
  rw [List.getElem?_cons_succ, List.getElem?_append_left (by simpa using ht), tabA_get _ ht]
theorem rowsR_take (t : Nat) : (rowsR vo i n vr G ex).take (i + 1 + t) = rowsR vo i n vr G (ex.take t) := by
  unfold rowsR
  rw [show i + 1 + t = (i + t) + 1 by omega, List.take_succ_cons, List.take_append, tabA_length, List.take_of_length_le (by simp), show i + t - i = t by omega]
theorem rowsR_app {ex2 : List Rw} : rowsR vo i n vr G ex ++ ex2 = rowsR vo i n vr G (ex ++ ex2) := by
  unfold rowsR
  simp
theorem rowsR_succ {v v9 : Value} : (rowsR vo i n vr G [⟨33, 1, v, n, words (tabA n (G i))⟩]).set 0 ⟨38, 1, v9, i + 1, tabA i vr ++ [v]⟩ = rowsR v9 (i + 1) n (updA vr i v) G [] := by
  unfold rowsR
  rw [List.set_cons_zero, tabA_succ, tabA_succ, updA_same, List.append_nil]
  congr 1
  · congr 2
    exact tabA_congr fun k hk => (updA_other (by omega)).symm
  · congr 1
    exact tabA_congr fun k hk => by rw [updA_other (by omega)]
end
theorem mats_of_rows {w0 w : World} {Ao : Option Addr} {i n co : Nat} {vr : Nat → Value} {G : Nat → Nat → Nat} (h : RowsM w0 (rowsR (.slice Ao i co) i n vr G []) w) (hG : U2 G) : Mats w Ao (tabA i fun t => tabA n (G t)) := by
  have hf : ∀ t, ∃ p : Option Addr × Nat, t < i → vr t = .slice p.1 n p.2 ∧ n ≤ p.2 ∧ n ≤ maxLen := fun t => by
    by_cases ht : t < i
    · obtain ⟨A, c, h1, h2, h3⟩ := h.form (rowsR_in ht)
      exact ⟨(A, c), fun _ => ⟨h1, h2, h3⟩⟩
    · exact ⟨(none, 0), fun h => absurd h ht⟩
  obtain ⟨f, hf⟩ := Classical.axiomOfChoice hf
  refine ⟨tabA i fun t => (tabA n (G t), (f t).1, (f t).2), ?_, ?_, ?_⟩
  · simp [tabA]
  · have e : (tabA i fun t => ((tabA n (G t), (f t).1, (f t).2) : MRow)).map rowV = tabA i vr := by
      rw [show (tabA i fun t => ((tabA n (G t), (f t).1, (f t).2) : MRow)).map rowV = tabA i fun t => rowV (tabA n (G t), (f t).1, (f t).2) by simp [tabA]]
      refine tabA_congr fun k hk => ?_
      unfold rowV
      rw [(hf k hk).1, tabA_length]
    rw [e]
    exact h.row (k := 0) rfl
  · intro y hy
    unfold tabA at hy
    rw [List.mem_map] at hy
    obtain ⟨t, ht, rfl⟩ := hy
    rw [List.mem_range] at ht
    obtain ⟨h1, h2, h3⟩ := hf t ht
    refine ⟨fun x hx => ?_, by simpa using h3, by simpa using h2, ?_⟩
    · change x ∈ tabA n (G t) at hx
      unfold tabA at hx
      rw [List.mem_map] at hx
      obtain ⟨y, _, rfl⟩ := hx
      exact hG t y
    · have q : (rowsR (.slice Ao i co) i n vr G [])[t + 1]? = some ⟨33, 1, .slice (f t).1 n (f t).2, n, words (tabA n (G t))⟩ := by rw [rowsR_in ht, h1]
      exact h.row q
theorem words_setR (xs : List Nat) (k v : Nat) : (words xs).set k (.int .u32 (v : Int)) = words (xs.set k v) := by simp [words, List.map_set]
/-- A row in the making. -/
def curX (n : Nat) (l : List Chn) (F : Nat → Nat → Nat) (i k v : Nat) : Nat → Nat := fun x => if x < k then roundX n l F i x else if x = k then v else F i x
theorem curX_set {n : Nat} {l : List Chn} {F : Nat → Nat → Nat} {i k v v' : Nat} : (words (tabA n (curX n l F i k v))).set k (.int .u32 (v' : Int)) = words (tabA n (curX n l F i k v')) := by
  rw [words_setR, tabA_set]
  congr 1
  refine tabA_congr fun x _ => ?_
  unfold updA curX
  by_cases e : x = k
  · subst e; simp
  · simp [e]
theorem curX_next {n : Nat} {l : List Chn} {F : Nat → Nat → Nat} {i k : Nat} : tabA n (curX n l F i k (roundX n l F i k)) = tabA n (curX n l F i (k + 1) (F i (k + 1))) := by
  refine tabA_congr fun x _ => ?_
  unfold curX
  by_cases h1 : x < k
  · rw [if_pos h1, if_pos (by omega)]
  · rw [if_neg h1]
    by_cases h2 : x = k
    · subst h2; rw [if_pos rfl, if_pos (by omega)]
    · rw [if_neg h2, if_neg (by omega)]
      split
      · rename_i h; rw [h]
      · rfl
theorem curX_zero {n : Nat} {l : List Chn} {F : Nat → Nat → Nat} {i : Nat} : tabA n (F i) = tabA n (curX n l F i 0 (F i 0)) := by
  refine tabA_congr fun x _ => ?_
  unfold curX
  rw [if_neg (by omega)]
  split
  · rename_i h; rw [h]
  · rfl
theorem curX_all {n : Nat} {l : List Chn} {F : Nat → Nat → Nat} {i v : Nat} : tabA n (curX n l F i n v) = tabA n (roundX n l F i) := by
  refine tabA_congr fun x hx => ?_
  unfold curX
  rw [if_pos hx]
theorem curX_at {n : Nat} {l : List Chn} {F : Nat → Nat → Nat} {i k v : Nat} (hk : k < n) : (words (tabA n (curX n l F i k v)))[k]? = some (.int .u32 (v : Int)) := by
  refine words_at ?_
  rw [tabA_get _ hk]
  unfold curX
  simp
theorem RowCh.cells {w : World} {A : Option Addr} {l : List Chn} (h : Row w A (chnsC l)) {k : Nat} {e : Chn} (he : l[k]? = some e) :
    ∃ b off, A = some ⟨b, off, none⟩ ∧ w.cell? ⟨b, off + k * 3, none⟩ = some (.int .u32 (e.a : Int)) ∧ w.cell? ⟨b, off + k * 3 + 1, none⟩ = some (.int .u32 (e.b : Int)) ∧ w.cell? ⟨b, off + k * 3 + 2, none⟩ = some (.int .u32 (e.c : Int)) := by
  have hat : ∀ j, j < 3 → (chnsC l)[k * 3 + j]? = (chC e)[j]? := fun j hj => by
    unfold chnsC
    rw [flat_get chC 3 (fun _ => rfl) (by decide), show (k * 3 + j) / 3 = k by omega, show (k * 3 + j) % 3 = j by omega, he]
    rfl
  have hlen : (chnsC l).length = 3 * l.length := by
    clear hat he h
    induction l with
    | nil => rfl
    | cons d l ih => simp only [chnsC, List.flatMap_cons, List.length_append, List.length_cons, chC, List.length_nil] at *; omega
  obtain ⟨b, off, rfl, hc⟩ := h.at (k := k * 3) (by rw [hlen]; have := (List.getElem?_eq_some_iff.1 he).1; omega)
  have h' : ∀ j, j < 3 → ∀ v, (chC e)[j]? = some v → w.cell? ⟨b, off + k * 3 + j, none⟩ = some v := fun j hj v hv => by
    have := hc (k * 3 + j) v (by rw [hat j hj]; exact hv)
    rwa [← Nat.add_assoc] at this
  exact ⟨b, off, rfl, h' 0 (by omega) _ rfl, h' 1 (by omega) _ rfl, h' 2 (by omega) _ rfl⟩
/-- What Round answers. -/
def RoundPost (n : Nat) (l : List Chn) (F : Nat → Nat → Nat) (w : World) (e : Ending) (w' : World) : Prop :=
  ∃ B k, e = .returned (.slice B n k) ∧ Mats w' B (tab2 n (roundX n l F)) ∧ n ≤ k ∧ Below w.heap.size w w'

set_option maxRecDepth 100000 in
set_option maxHeartbeats 8000000 in
theorem Round_any (n : Nat) (hn1 : 1 ≤ n) (hn : n ≤ 6) (F : Nat → Nat → Nat) (l : List Chn) (A A2 : Option Addr) (c c2 : Nat) (w : World) (hF : U2 F) (hc32 : C32 l) (hl : l.length ≤ 10) (hr : Mats w A (tab2 n F)) (hr2 : Row w A2 (chnsC l)) :
    Calls Try.prog 16 #[.int .i64 (n : Int), .slice A n c, .slice A2 l.length c2] w (RoundPost n l F w) := by
  obtain ⟨i0, hi0, hz0, hz1, hz2⟩ := info_parts infoSw
  obtain ⟨i1, hi1, hy0, hy1, hy2⟩ := info_parts infoUw
  have HI := Lib.hid (And.intro hi0 (And.intro hz0 (And.intro hz1 hz2)))
  have HI1 := Lib.hid (And.intro hi1 (And.intro hy0 (And.intro hy1 hy2)))
  have HF := Lib.hid hF
  have HC := Lib.hid hc32
  clear hi0 hz0 hz1 hz2 hi1 hy0 hy1 hy2 hF hc32
  have hrow : ∀ i, i < n → (tab2 n F)[i]? = some (tabA n (F i)) := fun i hi => tabA_get _ hi
  have HRow := Lib.hid hrow
  clear hrow
  go_enter Try.func16, Try.ntmps16
  go_wp2
  go_loopw [7, 8] (fun vo iv wr => ∃ (i : Nat) (vr : Nat → Value), iv = .int .i64 i ∧ i ≤ n ∧ RowsM w (rowsR vo i n vr (roundX n l F) []) wr) (fun _ iv _ => n - (intOf iv).toNat)
  case atStart => exact ⟨0, fun _ => undef, rfl, Nat.zero_le _, (RowsM.nil w).newNil 38 1⟩
  case round =>
    obtain ⟨i, vr, rfl, hi, hm⟩ := hrel
    obtain ⟨Ao, co, hvo, hco, _⟩ := hm.form (k := 0) rfl
    simp only at hvo hco
    subst hvo
    have HM := Lib.hid hm
    clear hm
    by_cases hlt : i < n
    · obtain ⟨bA, oA, Ai, ci, rfl, a0, _, _, _, rowi⟩ := (hr.below HM.out.below).row (HRow.out i hlt)
      rw [tabA_length] at a0
      obtain ⟨bi, oi, rfl, hci⟩ := rowi.at (k := 0) (by simp [words]; omega)
      have HMn := Lib.hid (show RowsM w (rowsR (.slice Ao i co) i n vr (roundX n l F) [⟨33, 1, .slice (some ⟨wr.heap.size, 0, none⟩) 0 0, 0, []⟩]) (wr.alloc (.cells #[] 33)) from by
        have h := HM.out.newAlloc (cs := #[]) (t := 33) 1 0 (by decide) rfl
        rw [rowsR_app] at h
        exact h)
      have hib : (i : Int) < n := by omega
      have HNews := Lib.hid (show ∀ j u, (words (tabA n (F i)))[j]? = some u → (wr.alloc (.cells #[] 33)).cell? ((⟨bi, oi, none⟩ : Addr).add j) = some u from row_news (Row.below (show Row wr (some ⟨bi, oi, none⟩) (words (tabA n (F i))) from rowi) ((Below.refl wr.heap.size wr).alloc (Nat.le_refl _) (.cells #[] 33))))
      have a9 : (wr.alloc (.cells #[] 33)).cell? ⟨bA, oA + i, none⟩ = _ := ((Below.refl wr.heap.size wr).alloc (Nat.le_refl _) (.cells #[] 33)).cell (p := ⟨bA, oA + i, none⟩) (block_lt_of_cell a0) |>.trans a0
      clear hci rowi
      have hlenw : (words (tabA n (F i))).length = n * 1 := by simp [words]
      have hex : (rowsR (.slice Ao i co) i n vr (roundX n l F) [⟨33, 1, .slice (some ⟨wr.heap.size, 0, none⟩) 0 0, 0, []⟩])[i + 1]? = some ⟨33, 1, .slice (some ⟨wr.heap.size, 0, none⟩) 0 0, 0, []⟩ := rowsR_ex 0
      have HEx := Lib.hid hex
      have HLw := Lib.hid hlenw
      clear hex hlenw
      go_wp2_with (at_builtin; refine wpList_append_rm rfl _ _ 38 rfl (i + 1) 33 1 0 _ [] HMn.out HEx.out i1 (.int .u32 0) 4 Try.underlying38 HI1.out.1 HI1.out.2.1 HI1.out.2.2.1 HI1.out.2.2.2 rfl (by decide) rfl ⟨bi, oi, none⟩ n ci (words (tabA n (F i))) rfl HLw.out HNews.out ?qone ?q63 ?qby ?qnext)
      case qone => intro u hu; unfold words at hu; rw [List.mem_map] at hu; obtain ⟨x, _, rfl⟩ := hu; rfl
      case q63 => unfold maxLen; omega
      case qby => omega
      case qnext =>
        intro A9 c9 w1 hn9
        rw [rowsR_set] at hn9
        obtain ⟨g, cg, hgv, hgc⟩ := hn9.solid (rowsR_ex 0) (by show 0 < n; omega)
        simp only [Value.slice.injEq, true_and] at hgv
        obtain ⟨rfl, rfl⟩ := hgv
        have HM1 := Lib.hid hn9
        clear hn9 HMn HNews a0 a9
        go_wp2
        go_loopw [10] (fun kv wr => ∃ k : Nat, kv = .int .i64 k ∧ k ≤ n ∧ RowsM w (rowsR (.slice Ao i co) i n vr (roundX n l F) [⟨33, 1, .slice (some ⟨g, 0, none⟩) n c9, n, words (tabA n (curX n l F i k (F i k)))⟩]) wr) (fun kv _ => n - (intOf kv).toNat)
        case atStart => exact ⟨0, rfl, Nat.zero_le _, by rw [← curX_zero]; exact HM1.out⟩
        case round =>
          clear HM1
          obtain ⟨k, rfl, hk, hm⟩ := hrel
          have HM1 := Lib.hid hm
          clear hm
          by_cases hltk : k < n
          · have hkb : (k : Int) < n := by omega
            go_wp2
            go_loopw [11] (fun jv wr => ∃ j : Nat, jv = .int .i64 j ∧ j ≤ n ∧ RowsM w (rowsR (.slice Ao i co) i n vr (roundX n l F) [⟨33, 1, .slice (some ⟨g, 0, none⟩) n c9, n, words (tabA n (curX n l F i k (F i k ||| addN F i k j l)))⟩]) wr) (fun jv _ => n - (intOf jv).toNat)
            case atStart => exact ⟨0, rfl, Nat.zero_le _, by rw [show addN F i k 0 l = 0 from rfl, Nat.or_zero]; exact HM1.out⟩
            case round =>
              clear HM1
              obtain ⟨j, rfl, hj, hm⟩ := hrel
              have HM1 := Lib.hid hm
              clear hm
              by_cases hltj : j < n
              · have hjb : (j : Int) < n := by omega
                go_wp2
                go_loopw [37] (fun tv wr => ∃ t : Nat, tv = .int .i64 t ∧ t ≤ l.length ∧ RowsM w (rowsR (.slice Ao i co) i n vr (roundX n l F) [⟨33, 1, .slice (some ⟨g, 0, none⟩) n c9, n, words (tabA n (curX n l F i k (F i k ||| addN F i k j l ||| addJ F i k j (l.take t))))⟩]) wr) (fun tv _ => l.length - (intOf tv).toNat)
                case atStart => exact ⟨0, rfl, Nat.zero_le _, by rw [show addJ F i k j (l.take 0) = 0 from rfl, Nat.or_zero]; exact HM1.out⟩
                case round =>
                  clear HM1
                  obtain ⟨t, rfl, ht, hm⟩ := hrel
                  have HM1 := Lib.hid hm
                  clear hm
                  by_cases hltt : t < l.length
                  · obtain ⟨h, hh⟩ := get_some hltt
                    obtain ⟨bc, oc, rfl, x0, x1, x2⟩ := RowCh.cells (hr2.below HM1.out.below) hh
                    have HS := Lib.hid (addJ_take (F := F) (i := i) (k := k) (j := j) hh)
                    obtain ⟨u0, u1, u2⟩ := HC.out h (List.mem_of_getElem? hh)
                    have HM2 := Lib.hid (show RowsM w (rowsR (.slice Ao i co) i n vr (roundX n l F) [⟨33, 1, .slice (some ⟨g, 0, none⟩) n c9, n, words (tabA n (curX n l F i k (F i k ||| addN F i k j l ||| addJ F i k j (l.take t))))⟩, ⟨44, 3, .slice (some ⟨wr.heap.size, 0, none⟩) 1 1, 1, chC h⟩]) _ by
                      have q := HM1.out.newAlloc (cs := #[.int .u32 (h.a : Int), .int .u32 (h.b : Int), .int .u32 (h.c : Int)]) (t := 44) 3 1 (by decide) rfl
                      rw [rowsR_app] at q
                      exact q)
                    have hcur : F i k ||| addN F i k j l ||| addJ F i k j (l.take t) < 4294967296 := or_lt_iff (n := 32) |>.2 ⟨or_lt_iff (n := 32) |>.2 ⟨HF.out i k, addN_u32 HC.out⟩, addJ_u32 fun c hc => HC.out c (List.mem_of_mem_take hc)⟩
                    clear hh
                    go_upto_region 15 with fail
                    generalize wr.alloc _ = w2 at *
                    generalize wr.heap.size = sz at *
                    clear x0 x1 x2
                    obtain ⟨_, _, Ai, ci', e1, a1, _, _, _, rowi⟩ := (hr.below HM2.out.below).row (HRow.out i hlt)
                    obtain ⟨_, _, Aj, cj, e2, a2, _, _, _, rowj⟩ := (hr.below HM2.out.below).row (HRow.out j hltj)
                    simp only [Option.some.injEq, Addr.mk.injEq, and_true] at e1 e2
                    obtain ⟨rfl, rfl⟩ := e1
                    obtain ⟨rfl, rfl⟩ := e2
                    rw [tabA_length] at a1 a2
                    obtain ⟨b1, o1, rfl, hb1⟩ := rowi.at (k := j) (by simp [words]; omega)
                    obtain ⟨b2, o2, rfl, hb2⟩ := rowj.at (k := k) (by simp [words]; omega)
                    have y1 := hb1 j _ (words_at (tabA_get (F i) hltj))
                    have y2 := hb2 k _ (words_at (tabA_get (F j) hltk))
                    clear hb1 hb2 rowi rowj
                    have z0 := HM2.out.cell (rowsR_ex 1) (j := 0) rfl
                    have z1 := HM2.out.cell (rowsR_ex 1) (j := 1) rfl
                    have z2 := HM2.out.cell (rowsR_ex 1) (j := 2) rfl
                    obtain ⟨sA, hsA⟩ : ∃ sA, sub h.a (F i j) = sA := ⟨_, rfl⟩
                    obtain ⟨sB, hsB⟩ : ∃ sB, sub h.b (F j k) = sB := ⟨_, rfl⟩
                    have kA : ∀ q, Calls Try.prog 14 #[.int .u32 (h.a : Int), .int .u32 (F i j : Int)] (w2.drewN q) fun e w'' => e = .returned (.bool sA) ∧ ∃ m, w'' = w2.drewN m := fun q => by
                      have := In_quiet h.a (F i j) u0 (HF.out i j) w2 q
                      rwa [show (h.a ||| F i j == F i j) = sA from hsA] at this
                    have kB : ∀ q, Calls Try.prog 14 #[.int .u32 (h.b : Int), .int .u32 (F j k : Int)] (w2.drewN q) fun e w'' => e = .returned (.bool sB) ∧ ∃ m, w'' = w2.drewN m := fun q => by
                      have := In_quiet h.b (F j k) u1 (HF.out j k) w2 q
                      rwa [show (h.b ||| F j k == F j k) = sB from hsB] at this
                    unfold addX at HS
                    rw [hsA, hsB] at HS
                    have HM3 := Lib.hid (show RowsM w (rowsR (.slice Ao i co) i n vr (roundX n l F) [⟨33, 1, .slice (some ⟨g, 0, none⟩) n c9, n, words (tabA n (curX n l F i k (F i k ||| addN F i k j l ||| addJ F i k j (l.take t))))⟩]) w2 by
                      have q := HM2.out.take (i + 1 + 1)
                      rw [rowsR_take] at q
                      exact q)
                    clear hsA hsB
                    cases sA with
                    | false =>
                      rw [if_neg (by simp), Nat.or_zero] at HS
                      clear kB y2 a2
                      go_wp2_with fail
                      go_quiet (with_reducible exact kA _)
                      go_wp2
                      go_roundw
                      case rel => exact ⟨t + 1, by go_num, by omega, by rw [HS.out]; exact HM3.out.drewN _⟩
                      case measure => simp [intOf]; omega
                    | true =>
                      cases sB with
                      | false =>
                        rw [if_neg (by simp), Nat.or_zero] at HS
                        go_wp2_with fail
                        go_quiet (first | with_reducible exact kA _ | with_reducible exact kB _)
                        go_wp2
                        go_roundw
                        case rel => exact ⟨t + 1, by go_num, by omega, by rw [HS.out]; exact HM3.out.drewN _⟩
                        case measure => simp [intOf]; omega
                      | true =>
                        rw [if_pos (by simp)] at HS
                        have q0 := HM2.out.cell (rowsR_ex 0) (j := k) (curX_at hltk)
                        have q1 := HM2.out.free (rowsR_ex 0) k
                        have hor := u32_or_nat _ h.c hcur u2
                        have HSt := Lib.hid (fun nq => (show RowsM w (rowsR (.slice Ao i co) i n vr (roundX n l F) [⟨33, 1, .slice (some ⟨g, 0, none⟩) n c9, n, words (tabA n (curX n l F i k (F i k ||| addN F i k j l ||| addJ F i k j (l.take (t + 1)))))⟩]) ((w2.drewN nq).setCell ⟨g, k, none⟩ (.int .u32 ((F i k ||| addN F i k j l ||| addJ F i k j (l.take t) ||| h.c : Nat) : Int))) by
                          have q := (HM3.out.drewN nq).store (k := i + 1) (rowsR_ex 0) k (.int .u32 ((F i k ||| addN F i k j l ||| addJ F i k j (l.take t) ||| h.c : Nat) : Int))
                          rw [rowsR_set, curX_set] at q
                          rw [HS.out, ← Nat.or_assoc]
                          exact q))
                        go_wp2_with fail
                        go_quiet (first | with_reducible exact kA _ | with_reducible exact kB _)
                        have q2 := (HM2.out.drewN nq).cell (rowsR_ex 0) (j := k) (curX_at hltk)
                        have q3 := (HM2.out.drewN nq).free (rowsR_ex 0) k
                        have q4 := (HM2.out.drewN nq).cell (rowsR_ex 1) (j := 2) rfl
                        have HSt2 := Lib.hid (HSt.out nq)
                        clear HSt q0 q1 z0 z1 z2 a1 a2 y1 y2 kA kB HM2 HM3
                        generalize w2.drewN nq = w5 at *
                        go_wp2_with fail
                        refine wp_region_still_tail 10 (by kernel_rfl) (by kernel_rfl) ?_
                        simp only [List.take_succ_cons, List.take_zero, List.drop_succ_cons, List.drop_zero]
                        iterate 10 still_step
                        refine wpStill_nil ?_
                        go_wp2
                        go_roundw
                        case rel => exact ⟨t + 1, by go_num, by omega, (HSt2.out.drew)⟩
                        case measure => simp [intOf]; omega
                  · obtain rfl : t = l.length := by omega
                    rw [List.take_length] at HM1
                    have HM2 := Lib.hid (show RowsM w (rowsR (.slice Ao i co) i n vr (roundX n l F) [⟨33, 1, .slice (some ⟨g, 0, none⟩) n c9, n, words (tabA n (curX n l F i k (F i k ||| addN F i k (j + 1) l)))⟩]) wr by
                      rw [addN_succ, ← Nat.or_assoc]
                      exact HM1.out)
                    clear HM1
                    go_wp2
                    go_roundw
                    case rel => exact ⟨j + 1, by go_num, by omega, HM2.out⟩
                    case measure => simp [intOf]; omega
              · obtain rfl : j = n := by omega
                have hjb : ¬ ((j : Int) < j) := by omega
                have HM2 := Lib.hid (show RowsM w (rowsR (.slice Ao i co) i j vr (roundX j l F) [⟨33, 1, .slice (some ⟨g, 0, none⟩) j c9, j, words (tabA j (curX j l F i (k + 1) (F i (k + 1))))⟩]) wr by
                  rw [← curX_next]
                  exact HM1.out)
                clear HM1
                go_wp2
                go_roundw
                case rel => exact ⟨k + 1, by go_num, by omega, HM2.out⟩
                case measure => simp [intOf]; omega
          · obtain rfl : k = n := by omega
            have hkb : ¬ ((k : Int) < k) := by omega
            have HM2 := Lib.hid (show RowsM w (rowsR (.slice Ao i co) i k vr (roundX k l F) [⟨33, 1, .slice (some ⟨g, 0, none⟩) k c9, k, words (tabA k (roundX k l F i))⟩]) wr from by
              rw [← curX_all]
              exact HM1.out)
            have HMG := Lib.hid (HM2.out.grow ((Below.refl wr.heap.size wr).alloc (Nat.le_refl _) (.cells #[.slice (some ⟨g, 0, none⟩) k c9] 38)))
            clear HM1
            go_wp2_with (at_builtin; refine wpList_append_rm rfl (.tmp 74) (.tmp 76) 23 rfl 0 38 1 i (.slice Ao i co) (tabA i vr) HMG.out rfl i0 (.slice none 0 0) 24 Try.underlying23 HI.out.1 HI.out.2.1 HI.out.2.2.1 HI.out.2.2.2 rfl (by decide) rfl ⟨wr.heap.size, 0, none⟩ 1 1 [.slice (some ⟨g, 0, none⟩) k c9] rfl rfl ?rnews ?rone ?r63 ?rby ?rnext)
            try (case rnews => exact row_news (row_new wr wr.heap.size rfl [.slice (some ⟨g, 0, none⟩) k c9] 38))
            case rone => first | rfl | intro u hu; simp only [List.mem_cons, List.not_mem_nil, or_false] at hu; rcases hu with rfl; rfl
            case r63 => unfold maxLen; omega
            case rby => omega
            case rnext =>
              intro A8 c8 w9 hn9
              rw [rowsR_succ] at hn9
              have HN := Lib.hid hn9
              clear hn9 HMG HM2
              go_wp2
              go_roundw
              case rel => exact ⟨i + 1, _, by go_num, by omega, HN.out⟩
              case measure => simp [intOf]; omega
    · obtain rfl : i = n := by omega
      have hib : ¬ ((i : Int) < i) := by omega
      go_wp2
      refine bodyPost_ret (v := .slice Ao i co) (by simp [results, Try.results16, go_sem]) rfl ?_
      exact ⟨Ao, co, rfl, mats_of_rows HM.out (roundX_u32 HF.out HC.out), hco, HM.out.below⟩

end Go.Proofs.Ythgmbiaajgpaaaa
