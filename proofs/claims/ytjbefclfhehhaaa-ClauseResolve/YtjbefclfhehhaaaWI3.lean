/- syllogistref.Refutes. -/
import Derived.Test.YtjbefclfhehhaaaWI2
import Derived.Deep.RegionHeld3
namespace Go.Proofs.Ytjbefclfhehhaaa
open Go.RowKit

theorem infoCl : (Try.prog.info? 32).map (fun i => (i.zero, i.size, i.bytes)) = some (some (.agg #[.int .u32 0, .int .u32 0]), 2, 8) := by kernel_rfl
/-- Clauses of the call's own. -/
def OwnCl (w : World) (B : Nat) (v : Value) (xs : List Cla) : Prop := w.ownsRow B 32 2 v xs.length (rulesC xs)
theorem OwnCl.row {w : World} {B : Nat} {v : Value} {xs : List Cla} (h : OwnCl w B v xs) : ∃ A c, v = .slice A xs.length c ∧ Row w A (rulesC xs) := by
  rcases h.2 with ⟨hv, hn⟩ | ⟨g, cap, cur, hv, hg, hh, h1, h2, h3, h4⟩
  · have : xs = [] := List.eq_nil_of_length_eq_zero hn
    subst this
    exact ⟨none, 0, hv, .inl rfl⟩
  · subst hv
    refine ⟨some ⟨g, 0, none⟩, cap, rfl, .inr ⟨g, 0, rfl, fun j u hu => ?_⟩⟩
    have hj : j < (rulesC xs).length := (List.getElem?_eq_some_iff.1 hu).1
    rw [rulesC_length] at hj
    rw [Nat.zero_add, World.ownsRow.cellAt h j (by omega)]
    exact hu
theorem OwnCl.below {w w' : World} {B : Nat} {v : Value} {xs : List Cla} (h : OwnCl w B v xs) (hb : Below w.heap.size w w') : OwnCl w' B v xs :=
  World.ownsRow.kept h (row := none) ⟨hb.os, hb.tape, hb.output, hb.size, fun k hk _ => hb.block k hk⟩ (by cases hv : v.ownBlock <;> simp)
theorem rulesC_app (xs ys : List Cla) : rulesC (xs ++ ys) = rulesC xs ++ rulesC ys := by simp [rulesC]
theorem rulesC_cell (l : List Cla) : ∀ u ∈ rulesC l, u.oneCell' = true := by
  intro u hu
  unfold rulesC at hu
  rw [List.mem_flatMap] at hu
  obtain ⟨r, _, hr⟩ := hu
  simp at hr
  rcases hr with rfl | rfl <;> rfl
theorem RowPr.at {w : World} {A : Option Addr} {ps : List (Int × Int)} {k : Nat} {p : Int × Int} (h : Row w A (pairsC ps)) (hp : ps[k]? = some p) :
    ∃ b off, A = some ⟨b, off, none⟩ ∧ w.cell? ⟨b, off + k * 2, none⟩ = some (.int .i64 p.1) ∧ w.cell? ⟨b, off + k * 2 + 1, none⟩ = some (.int .i64 p.2) := by
  have hk : k < ps.length := (List.getElem?_eq_some_iff.1 hp).1
  obtain ⟨b, off, e, hc⟩ := h.at (k := k) (by rw [pairsC_length]; omega)
  exact ⟨b, off, e, hc _ _ (pairsC_at0 hp), by rw [Nat.add_assoc]; exact hc _ _ (pairsC_at1 hp)⟩

/-- The cells that the making of a resolvent reads. -/
def SixC (z g o i j a1 a2 b1 b2 : Nat) (w' : World) : Prop :=
  w'.cell? ⟨z, 0, none⟩ = some (.int .i64 (i : Int)) ∧ w'.cell? ⟨z, 1, none⟩ = some (.int .i64 (j : Int)) ∧ w'.cell? ⟨g, o + i * 2, none⟩ = some (.int .u32 (a1 : Int)) ∧ w'.cell? ⟨g, o + i * 2 + 1, none⟩ = some (.int .u32 (a2 : Int)) ∧
    w'.cell? ⟨g, o + j * 2, none⟩ = some (.int .u32 (b1 : Int)) ∧ w'.cell? ⟨g, o + j * 2 + 1, none⟩ = some (.int .u32 (b2 : Int))
theorem cell_kp {w w' : World} {b o : Nat} {v : Value} (hb : Below w.heap.size w w') (h : w.cell? ⟨b, o, none⟩ = some v) : w'.cell? ⟨b, o, none⟩ = some v :=
  (hb.cell (p := ⟨b, o, none⟩) (block_lt_of_cell h)).trans h
theorem two_facts {w w' : World} {g : Nat} {x y : Value} {t : TypeId} (hb : Below w.heap.size w w') (h : w.heap[g]? = some (.cells #[x, y] t (0, 0))) :
    w'.heap[g]? = some (.cells #[x, y] t (0, 0)) ∧ w'.frozen? ⟨g, 0, none⟩ = false ∧ w'.frozen? ⟨g, 1, none⟩ = false ∧ w'.cell? ⟨g, 0, none⟩ = some x ∧ w'.cell? ⟨g, 1, none⟩ = some y := by
  have h' := blk_keep hb h
  exact ⟨h', by simp [World.frozen?, h'], by simp [World.frozen?, h'], (two_cells h').1, (two_cells h').2⟩
theorem SixC.below {z g o i j a1 a2 b1 b2 : Nat} {w w' : World} (h : SixC z g o i j a1 a2 b1 b2 w) (hb : Below w.heap.size w w') : SixC z g o i j a1 a2 b1 b2 w' :=
  ⟨cell_kp hb h.1, cell_kp hb h.2.1, cell_kp hb h.2.2.1, cell_kp hb h.2.2.2.1, cell_kp hb h.2.2.2.2.1, cell_kp hb h.2.2.2.2.2⟩

set_option maxHeartbeats 2000000 in
theorem Refutes_any (l : List Cla) (A : Option Addr) (c : Nat) (ps : List (Int × Int)) (A2 : Option Addr) (c2 : Nat) (w : World) (hr : Row w A (rulesC l)) (h32 : W32 l) (hl : l.length ≤ 1000000)
    (hr2 : Row w A2 (pairsC ps)) (hl2 : ps.length ≤ 1000000) :
    Calls Try.prog 16 #[.slice A l.length c, .slice A2 ps.length c2] w fun e w' => e = .returned (.bool (refutesB l ps)) ∧ Below w.heap.size w w' := by
  obtain ⟨i0, hi0, hz0, hz1, hz2⟩ := info_parts infoCl
  go_enter Try.func16, Try.ntmps16
  go_upto_region 1 with fail
  go_cut [5] (fun v wx => OwnCl wx w.heap.size v l ∧ Below w.heap.size w wx)
  case first =>
    by_cases hl0 : l = []
    · subst hl0
      have hA : A = none ∨ ∃ a, A = some a := by cases A; exact .inl rfl; exact .inr ⟨_, rfl⟩
      have HO := Lib.hid (show OwnCl (w.alloc (.cells #[] 32)) w.heap.size (.slice (some ⟨w.heap.size, 0, none⟩) 0 0) [] from World.ownsRow_lit w #[] 0 (Nat.le_refl _) (by simp [maxLen]) rfl)
      have HB := Lib.hid ((Below.refl w.heap.size w).alloc (Nat.le_refl _) (.cells #[] 32))
      rcases hA with rfl | ⟨a, rfl⟩
      all_goals
        go_wp2
        go_meet
        exact ⟨HO.out, HB.out⟩
    · have hpos : 0 < l.length := List.length_pos_iff.2 hl0
      clear hl0
      obtain ⟨b, off, rfl, _⟩ := hr.at (k := 0) (by rw [rulesC_length]; omega)
      have hb0 := (Below.refl w.heap.size w).alloc (Nat.le_refl _) (.cells #[] 32)
      have HO := Lib.hid (show (w.alloc (.cells #[] 32)).ownsRow w.heap.size 32 2 (.slice (some ⟨w.heap.size, 0, none⟩) 0 0) 0 [] from World.ownsRow_lit w #[] 0 (Nat.le_refl _) (by simp [maxLen]) rfl)
      have HN := Lib.hid (row_news (hr.below hb0))
      have HB := Lib.hid hb0
      clear hb0
      go_wp2_with (first | (at_builtin; refine wpList_append_lies _ rfl _ _ 22 rfl w.heap.size 32 i0 (.agg #[.int .u32 0, .int .u32 0]) 2 8 Try.underlying22 hi0 hz0 hz1 hz2 rfl (by decide) _ _ _ rfl HO.out ⟨b, off, none⟩ l.length c (rulesC l) rfl ?k1 HN.out (rulesC_cell l) hpos ?k2 ?k3 ?k4 _ rfl ?k6))
      case k1 => rw [rulesC_length]; omega
      case k2 => unfold maxLen; omega
      case k3 => omega
      case k4 => exact HB.out.size
      case k6 =>
        intro g3 cap3 w4 hown4 hgrow4 hat4 hlt4
        have HG4 := Lib.hid (HB.out.grown hgrow4 HB.out.size (by intro k hk; simp [Value.ownBlock] at hk; omega))
        have HO4 := Lib.hid (show OwnCl w4 w.heap.size (.slice (some ⟨g3, 0, none⟩) l.length cap3) l by unfold OwnCl; simpa using hown4)
        clear hown4 hgrow4 hat4
        go_wp2
        go_meet
        exact ⟨by first | exact HO4.out | (simpa using HO4.out), HG4.out⟩
  case rest =>
    obtain ⟨hown, hbc⟩ := hcut
    have HO := Lib.hid hown
    clear hown
    by_cases hp0 : ps = []
    · subst hp0
      have hl63 : l.length < 9223372036854775808 := by omega
      clear HO
      go_wp2
      go_loopw [20] (fun iv wr => ∃ k : Nat, iv = .int .i64 k ∧ k ≤ l.length ∧ ((l.take k).any fun c => decide (c = (0, 0))) = false ∧ Below w.heap.size w wr) (fun iv _ => l.length - (intOf iv).toNat)
      case atStart => exact ⟨0, rfl, Nat.zero_le _, rfl, hbc⟩
      case round =>
        clear hbc
        obtain ⟨k, rfl, hk, hno, hbel⟩ := hrel
        have HN := Lib.hid hno
        clear hno
        by_cases hlt : k < l.length
        · obtain ⟨r, hrk⟩ := get_some hlt
          obtain ⟨r1, r2⟩ := r
          obtain ⟨b, off, rfl, c1, c2⟩ := RowC.at (hr.below hbel) hrk
          have HR := Lib.hid hrk
          clear hrk
          have hb2 := hbel.alloc hbel.size (.cells #[.int .u32 (r1 : Int), .int .u32 (r2 : Int)] 32)
          by_cases h1 : r1 = 0
          · subst h1
            by_cases h2 : r2 = 0
            · subst h2
              have HS := Lib.hid (show refutesB l [] = true by
                unfold refutesB
                rw [if_pos rfl, List.any_eq_true]
                exact ⟨_, List.mem_of_getElem? HR.out, by simp⟩)
              go_wp2
              go_ret
              exact ⟨ret_bool HS.out.symm, hb2⟩
            · have HS := Lib.hid (show ((l.take (k + 1)).any fun c => decide (c = (0, 0))) = false by
                rw [List.take_add_one, HR.out, List.any_append, HN.out]
                simp [h2])
              have hq : ((r2 : Int) == 0) = false := by rw [beq_eq_false_iff_ne]; omega
              clear h2
              go_wp2
              go_roundw
              case rel => exact ⟨k + 1, by go_num, by omega, HS.out, hb2⟩
              case measure => simp [intOf]; omega
          · have HS := Lib.hid (show ((l.take (k + 1)).any fun c => decide (c = (0, 0))) = false by
              rw [List.take_add_one, HR.out, List.any_append, HN.out]
              simp [h1])
            have hq : ((r1 : Int) == 0) = false := by rw [beq_eq_false_iff_ne]; omega
            clear h1
            go_wp2
            go_roundw
            case rel => exact ⟨k + 1, by go_num, by omega, HS.out, hb2⟩
            case measure => simp [intOf]; omega
        · have HS := Lib.hid (show refutesB l [] = false by
            have := HN.out
            rw [List.take_of_length_le (by omega)] at this
            unfold refutesB
            rw [if_pos rfl]
            exact this)
          go_wp2
          go_ret
          exact ⟨ret_bool HS.out.symm, hbel⟩
    · have hpos : 0 < ps.length := List.length_pos_iff.2 hp0
      have hpz : ((ps.length : Int) == 0) = false := by rw [beq_eq_false_iff_ne]; omega
      have HP0 := Lib.hid hp0
      clear hp0
      go_wp2
      go_loopw [5, 30] (fun v iv wr => ∃ (k : Nat) (all : List Cla), iv = .int .i64 k ∧ k ≤ ps.length ∧ addAll l (ps.take k) = some all ∧ OwnCl wr w.heap.size v all ∧ Below w.heap.size w wr) (fun _ iv _ => ps.length - (intOf iv).toNat)
      case atStart => exact ⟨0, l, rfl, Nat.zero_le _, rfl, HO.out, hbc⟩
      case round =>
        clear hbc HO
        obtain ⟨k, all, rfl, hk, hadd, hown, hbel⟩ := hrel
        have hlen : all.length ≤ 2000000 := by have := addAll_len hadd; rw [List.length_take] at this; omega
        have hw32 := addAll_w32 h32 hadd
        obtain ⟨A5, c5, rfl, hrow5⟩ := hown.row
        have HA := Lib.hid hadd
        have HO := Lib.hid hown
        clear hadd hown
        by_cases hlt : k < ps.length
        · obtain ⟨p, hpk⟩ := get_some hlt
          obtain ⟨p1, p2⟩ := p
          obtain ⟨b, off, rfl, c1, c2'⟩ := RowPr.at (hr2.below hbel) hpk
          have HP := Lib.hid hpk
          have HOut := Lib.hid (fun h => refutes_no HA.out HP.out (addAll_out h))
          clear hpk
          have hb2 := hbel.alloc hbel.size (.cells #[.int .i64 p1, .int .i64 p2] 52)
          simp only at c1 c2' HOut
          by_cases h1 : p1 < 0
          · have HS := Lib.hid (HOut.out (by omega))
            go_wp2
            go_ret
            exact ⟨ret_bool HS.out.symm, hb2⟩
          · by_cases h2 : p2 < 0
            · have HS := Lib.hid (HOut.out (by omega))
              go_wp2
              go_ret
              exact ⟨ret_bool HS.out.symm, hb2⟩
            · by_cases h3 : (all.length : Int) ≤ p1
              · have HS := Lib.hid (HOut.out (by omega))
                go_wp2
                go_ret
                exact ⟨ret_bool HS.out.symm, hb2⟩
              · by_cases h4 : (all.length : Int) ≤ p2
                · have HS := Lib.hid (HOut.out (by omega))
                  go_wp2
                  go_ret
                  exact ⟨ret_bool HS.out.symm, hb2⟩
                · obtain ⟨i, rfl⟩ := Int.eq_ofNat_of_zero_le (show 0 ≤ p1 by omega)
                  obtain ⟨j, rfl⟩ := Int.eq_ofNat_of_zero_le (show 0 ≤ p2 by omega)
                  have hi : i < all.length := by omega
                  have hj : j < all.length := by omega
                  clear h1 h2 h3 h4 HOut
                  obtain ⟨⟨a1, a2⟩, hai⟩ := get_some hi
                  obtain ⟨⟨b1, b2⟩, hbj⟩ := get_some hj
                  obtain ⟨g, o, rfl, d1, d2⟩ := RowC.at hrow5 hai
                  obtain ⟨g', o', eg, d3, d4⟩ := RowC.at hrow5 hbj
                  simp only [Option.some.injEq, Addr.mk.injEq, and_true] at eg
                  obtain ⟨rfl, rfl⟩ := eg
                  have ha32 := hw32 _ (List.mem_of_getElem? hai)
                  have hb32 := hw32 _ (List.mem_of_getElem? hbj)
                  have hone := addAll_one (all := all) (p := ((i : Int), (j : Int))) (by simp only; omega)
                  rw [show all.getD (((i : Int), (j : Int)) : Int × Int).1.toNat (0, 0) = (a1, a2) from by simp [hai], show all.getD (((i : Int), (j : Int)) : Int × Int).2.toNat (0, 0) = (b1, b2) from by simp [hbj]] at hone
                  have HOne := Lib.hid hone
                  have hB1 : Below wr.heap.size wr (wr.alloc (.cells #[.int .i64 (i : Int), .int .i64 (j : Int)] 52)) := (Below.refl _ _).alloc (Nat.le_refl _) _
                  have hx := two_cells (heap_alloc_new wr (.cells #[.int .i64 (i : Int), .int .i64 (j : Int)] 52))
                  have hS : SixC wr.heap.size g o i j a1 a2 b1 b2 (wr.alloc (.cells #[.int .i64 (i : Int), .int .i64 (j : Int)] 52)) :=
                    ⟨hx.1, hx.2, cell_kp hB1 d1, cell_kp hB1 d2, cell_kp hB1 d3, cell_kp hB1 d4⟩
                  have HO1 := Lib.hid (OwnCl.below HO.out hB1)
                  clear hone hai hbj hx hB1 d1 d2 d3 d4 HO hrow5
                  have key := fun W => Resolve_any (a1, a2) (b1, b2) W ha32 hb32
                  cases hres : resv (a1, a2) (b1, b2) with
                  | none =>
                    have HS := Lib.hid (refutes_no HA.out HP.out (by rw [HOne.out, hres]; rfl))
                    rw [show resT (a1, a2) (b1, b2) = .tuple #[.agg #[.int .u32 0, .int .u32 0], .bool false] from by unfold resT; rw [hres]; rfl] at key
                    clear hres
                    go_wp2
                    generalize hw1 : wr.alloc (.cells #[.int .i64 (i : Int), .int .i64 (j : Int)] 52) = w1 at *
                    generalize hsz : wr.heap.size = sz at *
                    have HB1 := Lib.hid (show Below w1.heap.size w1 w1.drew from (Below.refl _ _).drew)
                    have HBZ := Lib.hid (show Below w1.heap.size w1 (w1.alloc (.cells #[.int .u32 0, .int .u32 0] 32)).drew from ((Below.refl _ _).alloc (Nat.le_refl _) _).drew)
                    have FZ := Lib.hid (fun (W4 : World) (h : Below (w1.alloc (.cells #[.int .u32 0, .int .u32 0] 32)).drew.heap.size (w1.alloc (.cells #[.int .u32 0, .int .u32 0] 32)).drew W4) => two_facts h (show (w1.alloc (.cells #[.int .u32 0, .int .u32 0] 32)).drew.heap[w1.heap.size]? = some (.cells #[.int .u32 0, .int .u32 0] 32 (0, 0)) from heap_alloc_new w1 _))
                    have HS1 := Lib.hid (hS.below HB1.out)
                    have HSZ := Lib.hid (hS.below HBZ.out)
                    go_region_held3 (fun w' => w'.cell? ⟨sz, 0, none⟩ = some (.int .i64 (i : Int)) ∧ w'.cell? ⟨sz, 1, none⟩ = some (.int .i64 (j : Int)) ∧ w'.cell? ⟨g, o + i * 2, none⟩ = some (.int .u32 (a1 : Int)) ∧ w'.cell? ⟨g, o + i * 2 + 1, none⟩ = some (.int .u32 (a2 : Int)) ∧ w'.cell? ⟨g, o + j * 2, none⟩ = some (.int .u32 (b1 : Int)) ∧ w'.cell? ⟨g, o + j * 2 + 1, none⟩ = some (.int .u32 (b2 : Int)))
                      (first | exact hS | exact HS1.out | exact HSZ.out | exact HS1.out.below HB4.out | exact HSZ.out.below HB4.out | exact (HS1.out.below HB4.out).below ((Below.refl _ _).alloc (Nat.le_refl _) _) | exact hS.below (((HBZ.out.trans (HB4.out.mono HBZ.out.size)).setCell (Nat.le_refl _) _).setCell (Nat.le_refl _) _) | go_keep)
                      (first
                      | (go_at_call 18
                         refine (key _).mono ?_
                         rintro e w4 ⟨rfl, hb4⟩
                         have HB4 := Lib.hid hb4
                         first
                           | (obtain ⟨zb, f0, f1, z0, z1⟩ := FZ.out _ hb4
                              have HZB := Lib.hid zb
                              clear zb hb4)
                           | clear hb4))
                    all_goals
                      go_wp2
                      go_ret
                      refine ⟨ret_bool HS.out.symm, ?_⟩
                      first
                        | exact hb2.trans (((HB1.out.trans (HB4.out.mono HB1.out.size)).alloc (HB1.out.trans (HB4.out.mono HB1.out.size)).size _).mono hb2.size)
                        | exact hb2.trans ((((HBZ.out.trans (HB4.out.mono HBZ.out.size)).setCell (Nat.le_refl _) _).setCell (Nat.le_refl _) _).mono hb2.size)
                  | some cc =>
                    obtain ⟨e1, e2⟩ := cc
                    have HS := Lib.hid (show addAll l (ps.take (k + 1)) = some (all ++ [(e1, e2)]) by rw [refutes_take HA.out HP.out, HOne.out, hres]; rfl)
                    rw [show resT (a1, a2) (b1, b2) = .tuple #[.agg #[.int .u32 (e1 : Nat), .int .u32 (e2 : Nat)], .bool true] from by unfold resT; rw [hres]; rfl] at key
                    clear hres
                    go_wp2
                    generalize hw1 : wr.alloc (.cells #[.int .i64 (i : Int), .int .i64 (j : Int)] 52) = w1 at *
                    generalize hsz : wr.heap.size = sz at *
                    have HB1 := Lib.hid (show Below w1.heap.size w1 w1.drew from (Below.refl _ _).drew)
                    have HBZ := Lib.hid (show Below w1.heap.size w1 (w1.alloc (.cells #[.int .u32 0, .int .u32 0] 32)).drew from ((Below.refl _ _).alloc (Nat.le_refl _) _).drew)
                    have FZ := Lib.hid (fun (W4 : World) (h : Below (w1.alloc (.cells #[.int .u32 0, .int .u32 0] 32)).drew.heap.size (w1.alloc (.cells #[.int .u32 0, .int .u32 0] 32)).drew W4) => two_facts h (show (w1.alloc (.cells #[.int .u32 0, .int .u32 0] 32)).drew.heap[w1.heap.size]? = some (.cells #[.int .u32 0, .int .u32 0] 32 (0, 0)) from heap_alloc_new w1 _))
                    have HS1 := Lib.hid (hS.below HB1.out)
                    have HSZ := Lib.hid (hS.below HBZ.out)
                    go_region_held3 (fun w' => w'.cell? ⟨sz, 0, none⟩ = some (.int .i64 (i : Int)) ∧ w'.cell? ⟨sz, 1, none⟩ = some (.int .i64 (j : Int)) ∧ w'.cell? ⟨g, o + i * 2, none⟩ = some (.int .u32 (a1 : Int)) ∧ w'.cell? ⟨g, o + i * 2 + 1, none⟩ = some (.int .u32 (a2 : Int)) ∧ w'.cell? ⟨g, o + j * 2, none⟩ = some (.int .u32 (b1 : Int)) ∧ w'.cell? ⟨g, o + j * 2 + 1, none⟩ = some (.int .u32 (b2 : Int)))
                      (first | exact hS | exact HS1.out | exact HSZ.out | exact HS1.out.below HB4.out | exact HSZ.out.below HB4.out | exact (HS1.out.below HB4.out).below ((Below.refl _ _).alloc (Nat.le_refl _) _) | exact hS.below (((HBZ.out.trans (HB4.out.mono HBZ.out.size)).setCell (Nat.le_refl _) _).setCell (Nat.le_refl _) _) | go_keep)
                      (first
                      | (go_at_call 18
                         refine (key _).mono ?_
                         rintro e w4 ⟨rfl, hb4⟩
                         have HB4 := Lib.hid hb4
                         first
                           | (obtain ⟨zb, f0, f1, z0, z1⟩ := FZ.out _ hb4
                              have HZB := Lib.hid zb
                              clear zb hb4)
                           | clear hb4))
                    all_goals
                      first
                        | (have hB4 := HB1.out.trans (HB4.out.mono HB1.out.size)
                           have hB6 := hB4.alloc hB4.size (.cells #[.int .u32 (e1 : Int), .int .u32 (e2 : Int)] 32)
                           obtain ⟨q0, q1⟩ := two_cells (heap_alloc_new w4 (.cells #[.int .u32 (e1 : Int), .int .u32 (e2 : Int)] 32))
                           have hO6 := OwnCl.below HO1.out hB6
                           have hB7 := hb2.trans (hB6.mono hb2.size)
                           clear hB4 hB6 HB4 HBZ HSZ FZ HS1 HB1 hS key HOne HO1
                           generalize w4.alloc (.cells #[.int .u32 (e1 : Int), .int .u32 (e2 : Int)] 32) = w6 at *)
                        | (have hB4 := HBZ.out.trans (HB4.out.mono HBZ.out.size)
                           have hB6 := (hB4.setCell (p := ⟨w1.heap.size, 0, none⟩) (Nat.le_refl _) (.int .u32 (e1 : Int))).setCell (p := ⟨w1.heap.size, 1, none⟩) (Nat.le_refl _) (.int .u32 (e2 : Int))
                           obtain ⟨q0, q1⟩ := two_cells (twoC_setCell (u := .int .u32 (e1 : Int)) (v := .int .u32 (e2 : Int)) HZB.out)
                           have hO6 := OwnCl.below HO1.out hB6
                           have hB7 := hb2.trans (hB6.mono hb2.size)
                           clear hB4 hB6 HB4 HBZ HSZ FZ HS1 HB1 hS key HOne HO1 HZB
                           generalize (w4.setCell ⟨w1.heap.size, 0, none⟩ (.int .u32 (e1 : Int))).setCell ⟨w1.heap.size, 1, none⟩ (.int .u32 (e2 : Int)) = w6 at *)
                      have HO6 := Lib.hid hO6
                      have hsz7 := hB7.size
                      clear hO6
                      go_wp2_with (first | (at_builtin; refine wpList_append_lies _ rfl _ _ 22 rfl w.heap.size 32 i0 (.agg #[.int .u32 0, .int .u32 0]) 2 8 Try.underlying22 hi0 hz0 hz1 hz2 rfl (by decide) _ _ _ rfl (World.ownsRow.alloc HO6.out _) ⟨_, 0, none⟩ 1 1 (rulesC [(e1, e2)]) rfl rfl (news_two _ e1 e2 _) (rulesC_cell _) (by decide) ?k2 ?k3 ?k4 _ rfl ?k6))
                      case k2 => unfold maxLen; omega
                      case k3 => omega
                      case k4 => simp; omega
                      case k6 =>
                        intro g3 cap3 w8 hown8 hgrow8 hat8 hlt8
                        have HG8 := Lib.hid hgrow8
                        have HO8 := Lib.hid hown8
                        clear hown8 hgrow8 hat8
                        go_wp2
                        go_roundw
                        case rel =>
                          have hlt := fun k hk => (World.ownsRow.lt HO6.out k hk).1
                          refine ⟨k + 1, all ++ [(e1, e2)], by go_num, by omega, HS.out, ?_, ?_⟩
                          · unfold OwnCl
                            rw [rulesC_app, List.length_append]
                            exact HO8.out
                          · exact (hB7.alloc (by omega) _).grown HG8.out (by simp; omega) (fun k hk => by have := hlt k hk; omega)
                        case measure => simp [intOf]; omega
        · obtain rfl : k = ps.length := by omega
          have hall : 0 < all.length := by have := addAll_len HA.out; rw [List.take_length] at this; omega
          obtain ⟨m, hm⟩ : ∃ m, all.length = m + 1 := ⟨all.length - 1, by omega⟩
          have hq : ((all.length : Int) - 1) = (m : Int) := by omega
          have hml : m < all.length := by omega
          obtain ⟨⟨a1, a2⟩, hai⟩ := get_some hml
          obtain ⟨g, o, rfl, d1, d2⟩ := RowC.at hrow5 hai
          have HS := Lib.hid (show refutesB l ps = decide ((a1, a2) = (0, 0)) by
            have h := HA.out
            rw [List.take_length] at h
            unfold refutesB
            rw [if_neg HP0.out, h]
            simp only
            rw [List.getLast?_eq_getElem?, show all.length - 1 = m by omega, hai]
            simp)
          clear hm hai hrow5 HO
          by_cases h1 : a1 = 0
          · subst h1
            by_cases h2 : a2 = 0
            · subst h2
              go_wp2
              go_ret
              exact ⟨ret_bool (by rw [HS.out]; simp), hbel⟩
            · have hz : ((a2 : Int) == 0) = false := by rw [beq_eq_false_iff_ne]; omega
              have HZ := Lib.hid h2
              clear h2
              go_wp2
              go_ret
              exact ⟨ret_bool (by rw [HS.out]; have := HZ.out; simp [this]), hbel⟩
          · have hz : ((a1 : Int) == 0) = false := by rw [beq_eq_false_iff_ne]; omega
            have HZ := Lib.hid h1
            clear h1
            go_wp2
            go_ret
            exact ⟨ret_bool (by rw [HS.out]; have := HZ.out; simp [this]), hbel⟩

end Go.Proofs.Ytjbefclfhehhaaa
