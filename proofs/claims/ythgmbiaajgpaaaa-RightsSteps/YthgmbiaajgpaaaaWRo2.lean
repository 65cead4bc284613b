/- slices.Clone of rows, rights.round. -/
import Derived.Test.YthgmbiaajgpaaaaWRo1
import Derived.Test.YthgmbiaajgpaaaaTbR
namespace Go.Proofs.Ythgmbiaajgpaaaa
open Go.RowKit

theorem keepR {w W : World} {g i : Nat} {v : Value} (hb : Below w.heap.size w W) (h : w.cell? ⟨g, i, none⟩ = some v) : W.cell? ⟨g, i, none⟩ = some v := (hb.cell (p := ⟨g, i, none⟩) (block_lt_of_cell h)).trans h
theorem words_tabA (n : Nat) (f : Nat → Nat) : words (tabA n f) = tabA n fun p => .int .u32 (f p : Int) := by simp [words, tabA]
set_option maxHeartbeats 1000000 in
theorem rClone_any (xs : List Nat) (A : Option Addr) (c : Nat) (w : World) (h0 : 0 < xs.length) (hl : xs.length ≤ 1000) (hr : Row w A (words xs)) :
    Calls Try.prog 26 #[.slice A xs.length c] w fun e w' => ∃ g cap, e = .returned (.slice (some ⟨g, 0, none⟩) xs.length cap) ∧ RowsM w [⟨33, 1, .slice (some ⟨g, 0, none⟩) xs.length cap, xs.length, words xs⟩] w' := by
  obtain ⟨i0, hi, hz0, hz1, hz2⟩ := info_parts infoUw
  have HI := Lib.hid (And.intro hi (And.intro hz0 (And.intro hz1 hz2)))
  obtain ⟨b, off, rfl, _⟩ := hr.at (k := 0) (by simp [words]; omega)
  have HNews := Lib.hid (row_news (hr.below ((Below.refl _ _).alloc (Nat.le_refl _) (.cells #[] 33))))
  have HLen := Lib.hid (show (words xs).length = xs.length * 1 by simp [words])
  have HM := Lib.hid ((RowsM.nil w).newAlloc (cs := #[]) (t := 33) 1 0 (by decide) rfl)
  have hnil : ∀ W, (binOp .eql 38 (.slice (some ⟨b, off, none⟩) xs.length c) (.slice none 0 0)).run Try.prog W = .ok (.bool false) W := fun W => Lib.run_eql_slice_nil W _ _ _ _ _ _ _ Try.underlying38
  clear hi hz0 hz1 hz2 hr
  go_enter Try.func26, Try.ntmps26
  go_wp2_with (at_builtin; refine wpList_append_rm rfl _ _ 38 rfl 0 33 1 0 _ [] HM.out rfl i0 (.int .u32 0) 4 Try.underlying38 HI.out.1 HI.out.2.1 HI.out.2.2.1 HI.out.2.2.2 rfl (by decide) rfl ⟨b, off, none⟩ xs.length c (words xs) rfl HLen.out HNews.out ?qone ?q63 ?qby ?qnext)
  case qone => intro u hu; unfold words at hu; rw [List.mem_map] at hu; obtain ⟨x, _, rfl⟩ := hu; rfl
  case q63 => unfold maxLen; omega
  case qby => omega
  case qnext =>
    intro A9 c9 w9 hn9
    have hn : RowsM w [⟨33, 1, .slice A9 xs.length c9, xs.length, words xs⟩] w9 := by
      first | exact hn9 | (have h := hn9; rw [Nat.zero_add] at h; exact h)
    obtain ⟨g, cg, hgv, _⟩ := hn.solid (k := 0) rfl h0
    simp only [Value.slice.injEq, true_and] at hgv
    obtain ⟨rfl, rfl⟩ := hgv
    have HN := Lib.hid hn
    clear hn hn9 HM
    go_wp2
    go_ret
    exact ⟨_, _, rfl, HN.out⟩

/-- What a round has got so far: row x, over y, up to z. -/
def cellR (n : Nat) (l : List Chn) (F : Nat → Nat → Nat) (x y z i p : Nat) : Nat :=
  if i < x then roundX n l F i p else if p < z then F x p ||| addN F x p (y + 1) l else F x p ||| addN F x p y l
def valR (n : Nat) (l : List Chn) (F : Nat → Nat → Nat) (x y z : Nat) : Nat → Nat → Value := fun i p => .int .u32 (cellR n l F x y z i p : Int)
def doneR (n : Nat) (l : List Chn) (F : Nat → Nat → Nat) : Nat → Nat → Value := fun i p => .int .u32 (roundX n l F i p : Int)
section
variable {n : Nat} {l : List Chn} {F : Nat → Nat → Nat} {x y z : Nat} {go : Nat} {gc : Nat → Nat × Nat} {eo ei : TypeId}
theorem rowR_new : rowsT eo ei go n (x + 1) gc (updA (doneR n l F) x fun p => .int .u32 (F x p : Int)) = rowsT eo ei go n (x + 1) gc (valR n l F x 0 0) :=
  rowsT_congr fun i p hi _ => by
    unfold updA valR cellR doneR
    by_cases e : i = x
    · subst e
      rw [if_pos rfl, if_neg (by omega), if_neg (by omega), show addN F i p 0 l = 0 from rfl, Nat.or_zero]
    · rw [if_neg e, if_pos (by omega)]
theorem rowR_put : rowsT eo ei go n (x + 1) gc (upd2 (valR n l F x y z) x z (.int .u32 ((F x z ||| addN F x z y l ||| obtL (F x y) (F y z) l : Nat) : Int))) = rowsT eo ei go n (x + 1) gc (valR n l F x y (z + 1)) :=
  rowsT_congr fun i p hi _ => by
    by_cases e : i = x ∧ p = z
    · obtain ⟨rfl, rfl⟩ := e
      rw [upd2_same]
      unfold valR cellR
      rw [if_neg (by omega), if_pos (by omega), addN_succ, ← Nat.or_assoc, addJ_obt]
    · rw [upd2_other e]
      unfold valR cellR
      by_cases h1 : i < x
      · rw [if_pos h1, if_pos h1]
      · have h2 : i = x := by omega
        subst h2
        have h3 : ¬ p = z := fun h => e ⟨rfl, h⟩
        rw [if_neg h1, if_neg h1]
        by_cases h4 : p < z
        · rw [if_pos h4, if_pos (by omega)]
        · rw [if_neg h4, if_neg (by omega)]
theorem rowR_next : rowsT eo ei go n (x + 1) gc (valR n l F x y n) = rowsT eo ei go n (x + 1) gc (valR n l F x (y + 1) 0) :=
  rowsT_congr fun i p hi hp => by
    unfold valR cellR
    by_cases h1 : i < x
    · rw [if_pos h1, if_pos h1]
    · rw [if_neg h1, if_neg h1, if_pos hp, if_neg (by omega)]
theorem rowR_done : rowsT eo ei go n (x + 1) gc (valR n l F x n 0) = rowsT eo ei go n (x + 1) gc (doneR n l F) :=
  rowsT_congr fun i p hi hp => by
    unfold valR cellR doneR
    by_cases h1 : i < x
    · rw [if_pos h1]
    · obtain rfl : i = x := by omega
      rw [if_neg h1, if_neg (by omega)]
      rfl
theorem cellR_at : cellR n l F x y z x z = F x z ||| addN F x z y l := by
  unfold cellR
  rw [if_neg (by omega), if_neg (by omega)]
end
theorem mats_of_table {w0 w : World} {go n : Nat} {gc : Nat → Nat × Nat} {G : Nat → Nat → Nat} (h : RowsM w0 (rowsT 38 33 go n n gc (fun i p => .int .u32 (G i p : Int)) ++ []) w) (hG : U2 G) : Mats w (some ⟨go, 0, none⟩) (tab2 n G) := by
  have hf : ∀ t, t < n → n ≤ (gc t).2 ∧ n ≤ maxLen := fun t ht => by
    obtain ⟨A, c, h1, h2, h3⟩ := h.form (rowsT_row ht)
    simp only [Value.slice.injEq, true_and] at h1
    obtain ⟨_, rfl⟩ := h1
    exact ⟨h2, h3⟩
  refine ⟨tabA n fun t => (tabA n (G t), some ⟨(gc t).1, 0, none⟩, (gc t).2), ?_, ?_, ?_⟩
  · simp [tabA, tab2]
  · have e : (tabA n fun t => ((tabA n (G t), some ⟨(gc t).1, 0, none⟩, (gc t).2) : MRow)).map rowV = tabA n (outT n n gc) := by
      rw [show (tabA n fun t => ((tabA n (G t), some ⟨(gc t).1, 0, none⟩, (gc t).2) : MRow)).map rowV = tabA n fun t => rowV (tabA n (G t), some ⟨(gc t).1, 0, none⟩, (gc t).2) by simp [tabA]]
      refine tabA_congr fun k hk => ?_
      unfold rowV outT
      rw [if_pos hk, tabA_length]
    rw [e]
    exact h.row (k := 0) rfl
  · intro y hy
    unfold tabA at hy
    rw [List.mem_map] at hy
    obtain ⟨t, ht, rfl⟩ := hy
    rw [List.mem_range] at ht
    obtain ⟨h2, h3⟩ := hf t ht
    refine ⟨fun x hx => ?_, by simpa using h3, by simpa using h2, ?_⟩
    · change x ∈ tabA n (G t) at hx
      unfold tabA at hx
      rw [List.mem_map] at hx
      obtain ⟨y, _, rfl⟩ := hx
      exact hG t y
    · show Row w (some ⟨(gc t).1, 0, none⟩) (words (tabA n (G t)))
      rw [words_tabA]
      exact h.row (rowsT_row ht)

set_option maxRecDepth 100000 in
set_option maxHeartbeats 8000000 in
theorem rRound_any (n : Nat) (hn1 : 1 ≤ n) (hn : n ≤ 6) (F : Nat → Nat → Nat) (l : List Chn) (A A2 : Option Addr) (c c2 : Nat) (w : World) (hF : U2 F) (hc32 : C32 l) (hl : l.length ≤ 10) (hr : Mats w A (tab2 n F)) (hr2 : Row w A2 (chnsC l)) :
    Calls Try.prog 22 #[.slice A n c, .slice A2 l.length c2] w (RoundPost n l F w) := by
  obtain ⟨i0, hi0, hz0, hz1, hz2⟩ := info_parts infoSw
  have HI := Lib.hid (And.intro hi0 (And.intro hz0 (And.intro hz1 hz2)))
  have HF := Lib.hid hF
  have HC := Lib.hid hc32
  have HRow := Lib.hid (show ∀ i, i < n → (tab2 n F)[i]? = some (tabA n (F i)) from fun i hi => tabA_get _ hi)
  have HR := Lib.hid hr
  have HR2 := Lib.hid hr2
  have HO := Lib.hid (fun a b (ha : a < 4294967296) (hb : b < 4294967296) W (h : Row W A2 (chnsC l)) => rObt_any a b ha hb l A2 c2 hc32 hl W h)
  clear hi0 hz0 hz1 hz2 hF hc32 hr hr2
  go_enter Try.func22, Try.ntmps22
  go_wp2_with (at_make; refine wpList_make_full _ rfl _ _ 23 rfl w.heap.size 38 i0 (.slice none 0 0) 1 Try.underlying23 HI.out.1 HI.out.2.1 HI.out.2.2.1 .i64 .i64 n n n rfl rfl rfl rfl ?b2 ?b3 (Nat.le_refl _) ?c5)
  case b2 => rw [HI.out.2.2.2]; omega
  case b3 => unfold maxLen; omega
  case c5 =>
    intro w2 hown hgrow
    have HM := Lib.hid (tabR_start ((RowsM.nil w).made hown hgrow (Nat.le_refl _)) 33 (fun _ => (0, 0)) (doneR n l F))
    clear hown hgrow
    generalize hgo : w.heap.size = go at HM ⊢
    have HG := Lib.hid hgo
    clear hgo
    go_wp2_with fail
    go_loopw [17] (fun xv wr => ∃ (x : Nat) (gc : Nat → Nat × Nat), xv = .int .i64 x ∧ x ≤ n ∧ Hid (RowsM w (rowsT 38 33 go n x gc (doneR n l F) ++ []) wr)) (fun xv _ => n - (intOf xv).toNat)
    case atStart => exact ⟨0, _, rfl, Nat.zero_le _, HM⟩
    case round =>
      clear HM
      obtain ⟨x, gc, rfl, hx, HM⟩ := hrel
      by_cases hlt : x < n
      · have hxi : (x : Int) < n := by omega
        obtain ⟨bA, oA, Ax, cx, rfl, a0', _, _, _, rowx⟩ := HR.out.row (HRow.out x hlt)
        have a0 : wr.cell? ⟨bA, oA + x, none⟩ = _ := HM.out.below.cell (p := ⟨bA, oA + x, none⟩) (block_lt_of_cell a0') |>.trans a0'
        obtain ⟨bx, ox, rfl, hcx⟩ := rowx.at (k := 0) (by simp [words]; omega)
        have kc := rClone_any (tabA n (F x)) (some ⟨bx, ox, none⟩) cx wr (by simp; omega) (by simp; omega) (rowx.below HM.out.below)
        rw [tabA_length] at a0 kc
        have HX := Lib.hid (fun W (hb : Below w.heap.size w W) y (hy : y < n) => show W.cell? ⟨bx, ox + y, none⟩ = some (.int .u32 (F x y : Int)) from
          hb.cell (p := ⟨bx, ox + y, none⟩) (block_lt_of_cell (hcx y _ (words_at (tabA_get (F x) hy)))) |>.trans (hcx y _ (words_at (tabA_get (F x) hy))))
        clear a0' hcx
        go_wp2_with fail
        refine kc.mono ?_
        rintro e w3 ⟨gx, kx, rfl, hm3⟩
        have hM3 : RowsM w ((rowsT 38 33 go n x gc (doneR n l F) ++ []) ++ [⟨33, 1, .slice (some ⟨gx, 0, none⟩) n kx, n, tabA n fun p => .int .u32 (F x p : Int)⟩]) w3 := by
          have h := hm3.at_ 0 _ rfl
          rw [words_tabA] at h
          exact HM.out.new hm3.below (rw_rebase h HM.out.below.size) (fun g e => (World.ownsRow.lt h g e).1)
        have f0 := hM3.free (k := 0) rfl x
        have x0 := hM3.cell (k := 0) rfl (tabA_get (outT n x gc) hlt)
        have hM4 := tabR_next hM3 hlt
        rw [rowR_new] at hM4
        have HM4 := Lib.hid hM4
        clear hM3 hM4 hm3 HM a0 rowx kc
        generalize updA gc x (gx, kx) = gd at HM4
        go_wp2_with fail
        generalize w3.setCell _ _ = w4 at *
        clear f0 x0
        go_loopw [29] (fun yv wy => ∃ y : Nat, yv = .int .i64 y ∧ y ≤ n ∧ Hid (RowsM w (rowsT 38 33 go n (x + 1) gd (valR n l F x y 0) ++ []) wy)) (fun yv _ => n - (intOf yv).toNat)
        case atStart => exact ⟨0, rfl, Nat.zero_le _, HM4⟩
        case round =>
          clear HM4
          obtain ⟨y, rfl, hy, HM⟩ := hrel
          by_cases hlty : y < n
          · have hyi : (y : Int) < n := by omega
            have y0 := HX.out _ HM.out.below y hlty
            obtain ⟨_, _, Ay, cy, e1, b0', _, _, _, rowy⟩ := HR.out.row (HRow.out y hlty)
            simp only [Option.some.injEq, Addr.mk.injEq, and_true] at e1
            obtain ⟨rfl, rfl⟩ := e1
            have b0 : wr.cell? ⟨bA, oA + y, none⟩ = _ := HM.out.below.cell (p := ⟨bA, oA + y, none⟩) (block_lt_of_cell b0') |>.trans b0'
            rw [tabA_length] at b0
            obtain ⟨by_, oy, rfl, hcy⟩ := rowy.at (k := 0) (by simp [words]; omega)
            have HY := Lib.hid (fun W (hb : Below w.heap.size w W) z (hz : z < n) => show W.cell? ⟨by_, oy + z, none⟩ = some (.int .u32 (F y z : Int)) from
              hb.cell (p := ⟨by_, oy + z, none⟩) (block_lt_of_cell (hcy z _ (words_at (tabA_get (F y) hz)))) |>.trans (hcy z _ (words_at (tabA_get (F y) hz))))
            clear hcy rowy b0'
            go_wp2_with fail
            clear y0 b0
            go_loopw [39] (fun zv wz => ∃ z : Nat, zv = .int .i64 z ∧ z ≤ n ∧ Hid (RowsM w (rowsT 38 33 go n (x + 1) gd (valR n l F x y z) ++ []) wz)) (fun zv _ => n - (intOf zv).toNat)
            case atStart => exact ⟨0, rfl, Nat.zero_le _, HM⟩
            case round =>
              clear HM
              obtain ⟨z, rfl, hz, HM⟩ := hrel
              by_cases hltz : z < n
              · have hzi : (z : Int) < n := by omega
                have z0 := HY.out _ HM.out.below z hltz
                have c0 := tabR_outer HM.out (Nat.lt_succ_self x) hlt
                have c1 := tabR_at HM.out (Nat.lt_succ_self x) hltz
                unfold valR at c1
                rw [cellR_at] at c1
                have hu : F x z ||| addN F x z y l < 4294967296 := or_lt_iff (n := 32) |>.2 ⟨HF.out x z, addN_u32 HC.out⟩
                have hor := u32_or_nat _ (obtL (F x y) (F y z) l) hu (obtL_u32 HC.out)
                have HS := Lib.hid (fun W (hb : Below wr.heap.size wr W) => show (fun W => W.cell? ⟨go, x, none⟩ = some (.slice (some ⟨(gd x).1, 0, none⟩) n (gd x).2)) W from keepR hb c0)
                have HK := Lib.hid (HO.out (F x y) (F y z) (HF.out x y) (HF.out y z) wr.drew (HR2.out.below HM.out.drew.below))
                go_upto_region 12 with fail
                refine wp_region_held_drew (S := fun W => W.cell? ⟨go, x, none⟩ = some (.slice (some ⟨(gd x).1, 0, none⟩) n (gd x).2)) (by kernel_rfl) (HS.out _ (Below.refl _ _).drew) (fun hHeld => ?_)
                refine' wpAnyH_take (i := 0) (oi := ⟨some 44, _, _, _, _, none⟩) (v := _) rfl (by kernel_rfl) (by kernel_rfl) (by kernel_rfl) (fun _ _ _ h => h) (Or.inl ⟨by rfl, ?hya0⟩) hHeld ?resta0
                case hya0 => (intro W hSw; obtain s1 := hSw; go_simp; try with_reducible rfl)
                simp only [Act.put, List.setIfInBounds_toArray, List.set_cons_zero, List.set_cons_succ]
                refine' wpAnyH_take (i := 1) (oi := ⟨some 45, _, _, _, _, none⟩) (v := _) rfl (by kernel_rfl) (by kernel_rfl) (by kernel_rfl) (fun _ _ _ h => h) (Or.inl ⟨by rfl, ?hya1⟩) hHeld ?resta1
                case hya1 => (intro W hSw; obtain s1 := hSw; go_simp; try with_reducible rfl)
                simp only [Act.put, List.setIfInBounds_toArray, List.set_cons_zero, List.set_cons_succ]
                refine' wpAnyH_take (i := 2) (oi := ⟨some 46, _, _, _, _, none⟩) (v := _) rfl (by kernel_rfl) (by kernel_rfl) (by kernel_rfl) (fun _ _ _ h => h) (Or.inl ⟨by rfl, ?hya2⟩) hHeld ?resta2
                case hya2 => (intro W hSw; obtain s1 := hSw; go_simp; try with_reducible rfl)
                simp only [Act.put, List.setIfInBounds_toArray, List.set_cons_zero, List.set_cons_succ]
                refine' wpAnyH_take (i := 3) (oi := ⟨some 47, _, _, _, _, none⟩) (v := _) rfl (by kernel_rfl) (by kernel_rfl) (by kernel_rfl) (fun _ _ _ h => h) (Or.inl ⟨by rfl, ?hya3⟩) hHeld ?resta3
                case hya3 => (intro W hSw; obtain s1 := hSw; go_simp; try with_reducible rfl)
                simp only [Act.put, List.setIfInBounds_toArray, List.set_cons_zero, List.set_cons_succ]
                refine' wpAnyH_take (i := 4) (oi := ⟨some 48, _, _, _, _, none⟩) (v := _) rfl (by kernel_rfl) (by kernel_rfl) (by kernel_rfl) (fun _ _ _ h => h) (Or.inl ⟨by rfl, ?hya4⟩) hHeld ?resta4
                case hya4 => (intro W hSw; obtain s1 := hSw; go_simp; try with_reducible rfl)
                simp only [Act.put, List.setIfInBounds_toArray, List.set_cons_zero, List.set_cons_succ]
                refine' wpAnyH_take (i := 5) (oi := ⟨some 49, _, _, _, _, none⟩) (v := _) rfl (by kernel_rfl) (by kernel_rfl) (by kernel_rfl) (fun _ _ _ h => h) (Or.inl ⟨by rfl, ?hya5⟩) hHeld ?resta5
                case hya5 => (intro W hSw; obtain s1 := hSw; go_simp; try with_reducible rfl)
                simp only [Act.put, List.setIfInBounds_toArray, List.set_cons_zero, List.set_cons_succ]
                refine' wpAnyH_take (i := 7) (oi := ⟨some 51, _, _, _, _, none⟩) (v := _) rfl (by kernel_rfl) (by kernel_rfl) (by kernel_rfl) (fun _ _ _ h => h) (Or.inl ⟨by rfl, ?hya7⟩) hHeld ?resta7
                case hya7 => (intro W hSw; obtain s1 := hSw; go_simp; try with_reducible rfl)
                simp only [Act.put, List.setIfInBounds_toArray, List.set_cons_zero, List.set_cons_succ]
                refine' wpAnyH_take (i := 8) (oi := ⟨some 52, _, _, _, _, none⟩) (v := _) rfl (by kernel_rfl) (by kernel_rfl) (by kernel_rfl) (fun _ _ _ h => h) (Or.inl ⟨by rfl, ?hya8⟩) hHeld ?resta8
                case hya8 => (intro W hSw; obtain s1 := hSw; go_simp; try with_reducible rfl)
                simp only [Act.put, List.setIfInBounds_toArray, List.set_cons_zero, List.set_cons_succ]
                refine' wpAnyH_take (i := 9) (oi := ⟨some 53, _, _, _, _, none⟩) (v := _) rfl (by kernel_rfl) (by kernel_rfl) (by kernel_rfl) (fun _ _ _ h => h) (Or.inl ⟨by rfl, ?hya9⟩) hHeld ?resta9
                case hya9 => (intro W hSw; obtain s1 := hSw; go_simp; try with_reducible rfl)
                simp only [Act.put, List.setIfInBounds_toArray, List.set_cons_zero, List.set_cons_succ]
                refine wpAnyH_ready (rs := [6, 10]) (by kernel_rfl) (by simp) ?_
                refine AllReadyH.cons (o := ⟨some 50, _, _, _, _, none⟩) rfl (fun K hK => ?_) (AllReadyH.cons (o := ⟨some 54, _, _, _, _, none⟩) rfl (fun K hK => ?_) AllReadyH.nil)
                · go_simp
                  refine hK.out _ _ (HS.out _ (Below.refl _ _).drew) (fun hHeld => ?_)
                  clear hK K
                  refine wpAnyH_ready (rs := [10]) (by kernel_rfl) (by simp) ?_
                  refine AllReadyH.cons (o := ⟨some 54, _, _, _, _, none⟩) rfl (fun K hK => ?_) AllReadyH.nil
                  go_simp
                  refine HK.out.mono ?_
                  rintro e w5 ⟨rfl, hb5⟩
                  have hb5' := (Below.refl wr.heap.size wr).drew.trans hb5
                  have HM5 := Lib.hid (HM.out.grow hb5')
                  refine hK.out _ _ (HS.out _ hb5') (fun hHeld => ?_)
                  clear hK K hb5 hb5' HK z0 c0 c1
                  refine' wpAnyH_take (i := 11) (oi := ⟨some 55, _, _, _, _, none⟩) (v := _) rfl (by kernel_rfl) (by kernel_rfl) (by kernel_rfl) (fun _ _ _ h => h) (Or.inl ⟨by rfl, ?hyb11x⟩) hHeld ?restb11x
                  case hyb11x => (intro W hSw; obtain s1 := hSw; go_simp; try with_reducible rfl)
                  simp only [Act.put, List.setIfInBounds_toArray, List.set_cons_zero, List.set_cons_succ]
                  refine' wpAnyH_take (i := 12) (oi := ⟨some 56, _, _, _, _, none⟩) (v := _) rfl (by kernel_rfl) (by kernel_rfl) (by kernel_rfl) (fun _ _ _ h => h) (Or.inl ⟨by rfl, ?hyb12x⟩) hHeld ?restb12x
                  case hyb12x => (intro W hSw; obtain s1 := hSw; go_simp; try with_reducible rfl)
                  simp only [Act.put, List.setIfInBounds_toArray, List.set_cons_zero, List.set_cons_succ]
                  have HM6 := Lib.hid (tabR_put HM5.out (p := z) (Nat.lt_succ_self x) (.int .u32 ((F x z ||| addN F x z y l ||| obtL (F x y) (F y z) l : Nat) : Int)))
                  have f0 := tabR_free HM5.out (Nat.lt_succ_self x) z
                  have c2 := tabR_at HM5.out (Nat.lt_succ_self x) hltz
                  rw [rowR_put] at HM6
                  refine wpAnyH_ready (rs := [13]) (by kernel_rfl) (by simp) ?_
                  refine AllReadyH.cons (o := ⟨none, _, _, _, _, none⟩) rfl (fun K hK => ?_) AllReadyH.nil
                  go_simp
                  refine hK.out _ _ (tabR_outer HM6.out (Nat.lt_succ_self x) hlt) (fun hHeld => ?_)
                  clear hK K hHeld
                  refine wpAnyH_done (by kernel_rfl) ?_ _
                  clear f0 c2 HM5
                  generalize w5.setCell _ _ = w6 at *
                  go_wp2
                  go_roundw
                  case rel => exact ⟨z + 1, by go_num, by omega, HM6⟩
                  case measure => simp [intOf]; omega
                · go_simp
                  refine HK.out.mono ?_
                  rintro e w5 ⟨rfl, hb5⟩
                  have hb5' := (Below.refl wr.heap.size wr).drew.trans hb5
                  have HM5 := Lib.hid (HM.out.grow hb5')
                  refine hK.out _ _ (HS.out _ hb5') (fun hHeld => ?_)
                  clear hK K hb5 HK z0 c0 c1
                  have c3 := tabR_at HM5.out (Nat.lt_succ_self x) hltz
                  unfold valR at c3
                  rw [cellR_at] at c3
                  refine wpAnyH_ready (rs := [6]) (by kernel_rfl) (by simp) ?_
                  refine AllReadyH.cons (o := ⟨some 50, _, _, _, _, none⟩) rfl (fun K hK => ?_) AllReadyH.nil
                  go_simp
                  refine hK.out _ _ (HS.out _ hb5') (fun hHeld => ?_)
                  clear hK K hb5' c3
                  refine' wpAnyH_take (i := 11) (oi := ⟨some 55, _, _, _, _, none⟩) (v := _) rfl (by kernel_rfl) (by kernel_rfl) (by kernel_rfl) (fun _ _ _ h => h) (Or.inl ⟨by rfl, ?hyb11y⟩) hHeld ?restb11y
                  case hyb11y => (intro W hSw; obtain s1 := hSw; go_simp; try with_reducible rfl)
                  simp only [Act.put, List.setIfInBounds_toArray, List.set_cons_zero, List.set_cons_succ]
                  refine' wpAnyH_take (i := 12) (oi := ⟨some 56, _, _, _, _, none⟩) (v := _) rfl (by kernel_rfl) (by kernel_rfl) (by kernel_rfl) (fun _ _ _ h => h) (Or.inl ⟨by rfl, ?hyb12y⟩) hHeld ?restb12y
                  case hyb12y => (intro W hSw; obtain s1 := hSw; go_simp; try with_reducible rfl)
                  simp only [Act.put, List.setIfInBounds_toArray, List.set_cons_zero, List.set_cons_succ]
                  have HM6 := Lib.hid (tabR_put HM5.out (p := z) (Nat.lt_succ_self x) (.int .u32 ((F x z ||| addN F x z y l ||| obtL (F x y) (F y z) l : Nat) : Int)))
                  have f0 := tabR_free HM5.out (Nat.lt_succ_self x) z
                  have c2 := tabR_at HM5.out (Nat.lt_succ_self x) hltz
                  rw [rowR_put] at HM6
                  refine wpAnyH_ready (rs := [13]) (by kernel_rfl) (by simp) ?_
                  refine AllReadyH.cons (o := ⟨none, _, _, _, _, none⟩) rfl (fun K hK => ?_) AllReadyH.nil
                  go_simp
                  refine hK.out _ _ (tabR_outer HM6.out (Nat.lt_succ_self x) hlt) (fun hHeld => ?_)
                  clear hK K hHeld
                  refine wpAnyH_done (by kernel_rfl) ?_ _
                  clear f0 c2 HM5
                  generalize w5.setCell _ _ = w6 at *
                  go_wp2
                  go_roundw
                  case rel => exact ⟨z + 1, by go_num, by omega, HM6⟩
                  case measure => simp [intOf]; omega
              · obtain rfl : z = n := by omega
                have hzi : ¬ ((z : Int) < z) := by omega
                go_wp2
                go_roundw
                case rel => exact ⟨y + 1, by go_num, by omega, by rw [← rowR_next]; exact HM⟩
                case measure => simp [intOf]; omega
          · obtain rfl : y = n := by omega
            have hyi : ¬ ((y : Int) < y) := by omega
            have HM2 := Lib.hid HM.out
            rw [rowR_done] at HM2
            go_wp2
            go_roundw
            case rel => exact ⟨x + 1, gd, by go_num, by omega, HM2⟩
            case measure => simp [intOf]; omega
      · obtain rfl : x = n := by omega
        have hxi : ¬ ((x : Int) < x) := by omega
        go_wp2
        go_ret
        exact ⟨some ⟨go, 0, none⟩, x, rfl, mats_of_table HM.out (roundX_u32 HF.out HC.out), Nat.le_refl _, HM.out.below⟩

end Go.Proofs.Ythgmbiaajgpaaaa
