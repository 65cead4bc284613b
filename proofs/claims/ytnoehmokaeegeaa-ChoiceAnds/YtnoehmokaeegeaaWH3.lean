/- syllogistref.grow, Grow. -/
import Derived.Test.YtnoehmokaeegeaaWH2
import Derived.Test.YtnoehmokaeegeaaAppAny
import Derived.Deep.RegionHeld3
namespace Go.Proofs.Ytnoehmokaeegeaa
open Go.RowKit

theorem infoN : (Try.prog.info? 52).map (fun i => (i.zero, i.size, i.bytes)) = some (some (.agg #[.int .i64 0, .int .i64 0, .int .i64 0]), 3, 24) := by kernel_rfl
theorem not_mem_take {l : List Nd} {i : Nat} {x b : Nd} (hx : l[i]? = some x) (h : b ∉ l.take i) (hn : x ≠ b) : b ∉ l.take (i + 1) := by
  rw [List.take_add_one, hx]
  simp only [Option.toList, List.mem_append, List.mem_singleton]
  rintro (h1 | rfl)
  · exact h h1
  · exact hn rfl
theorem idx_first {l : List Nd} {i : Nat} {b : Nd} (hx : l[i]? = some b) (h : b ∉ l.take i) : l.idxOf b = i := by
  have hi := (List.getElem?_eq_some_iff.1 hx).1
  conv => lhs; rw [← List.take_append_drop i l]
  rw [List.idxOf_append, if_neg h]
  have : l.drop i = b :: l.drop (i + 1) := by
    rw [List.drop_eq_getElem_cons hi]
    congr 1
    exact (List.getElem?_eq_some_iff.1 hx).2
  rw [this, List.idxOf_cons_self, List.length_take]
  omega

theorem news_three (w : World) (b : Nd) (t : TypeId) : ∀ j u, (ndC b)[j]? = some u → (w.alloc (.cells #[.int .i64 b.1, .int .i64 b.2.1, .int .i64 b.2.2] t)).cell? ((⟨w.heap.size, 0, none⟩ : Addr).add j) = some u :=
  row_news (row_new w w.heap.size rfl (ndC b) t)
theorem news_grown {w w' : World} {row : Option Nat} {ad : Addr} {cs : List Value} (h : ∀ j u, cs[j]? = some u → w.cell? (ad.add j) = some u) (hg : w.grownBy w' row) (hne : row ≠ some ad.block) : ∀ j u, cs[j]? = some u → w'.cell? (ad.add j) = some u := fun j u hu =>
  hg.cell (h j u hu) (by
    have : (ad.add j).block = ad.block := by unfold Addr.add; split <;> rfl
    rw [this]; exact hne.symm)
theorem own_row {w : World} {B e size n : Nat} {v : Value} {cs : List Value} (h : w.ownsRow B e size v n cs) : ∃ A c, v = .slice A n c ∧ Row w A cs := by
  have hl := h.1
  rcases h.2 with ⟨hv, hn⟩ | ⟨g, cap, cur, hv, hg, hh, h1, h2, h3, h4⟩
  · subst hn
    exact ⟨none, 0, hv, .inl (List.eq_nil_of_length_eq_zero (by rw [hl]; simp))⟩
  · subst hv
    refine ⟨some ⟨g, 0, none⟩, cap, rfl, .inr ⟨g, 0, rfl, fun j u hu => ?_⟩⟩
    have hj : j < cs.length := (List.getElem?_eq_some_iff.1 hu).1
    rw [Nat.zero_add, World.ownsRow.cellAt h j (by omega)]
    exact hu
/-- What grow answers. -/
def GrowPost (n : Nat) (F : Nat → Bool) (d fixed : Nat) (l : List Nd) (w : World) (e : Ending) (w' : World) : Prop :=
  ∃ (A2 : Option Addr) (c2 : Nat) (r : List Nd) (k : Int), e = .returned (.tuple #[.slice A2 r.length c2, .int .i64 k]) ∧ (r, k) = growT n F d fixed l ∧ Row w' A2 (nodesC r) ∧ Below w.heap.size w w'

set_option maxRecDepth 100000 in
set_option maxHeartbeats 4000000 in
theorem grow_any (n : Nat) (hn : n ≤ 4) (f : List Bool) (A : Option Addr) (c : Nat) (hf : f.length = one n) : ∀ (d : Nat), d ≤ n → ∀ (fixed : Nat) (l : List Nd) (Al : Option Addr) (cl : Nat) (w : World), fixed < one n → l.length + one d ≤ 40 → Row w A (boolsC f) → Row w Al (nodesC l) →
    Calls Try.prog 20 #[.int .i64 n, .slice A f.length c, .int .i64 ((n - d : Nat) : Int), .int .u32 fixed, .slice Al l.length cl] w fun e w' => GrowPost n (atB f) d fixed l w e w' := by
  have h16 := one_le_16 hn
  have HF := Lib.hid hf
  clear hf
  intro d
  induction d with
  | zero =>
    intro _ fixed l Al cl w hfx hll hr hrl
    obtain ⟨b, off, rfl, c0⟩ := atB_cell hr (show fixed < f.length by rw [HF.out]; exact hfx)
    have HG := Lib.hid (show growT n (atB f) 0 fixed l = (l, if atB f fixed then 1 else 0) from rfl)
    generalize atB f fixed = x at c0 HG
    have hfl : fixed < f.length := by rw [HF.out]; exact hfx
    rw [Nat.sub_zero]
    cases x
    · go_enter Try.func20, Try.ntmps20
      go_wp2
      go_ret2
      exact ⟨Al, cl, l, 0, rfl, by rw [HG.out]; rfl, hrl, Below.refl _ _⟩
    · go_enter Try.func20, Try.ntmps20
      go_wp2
      go_ret2
      exact ⟨Al, cl, l, 1, rfl, by rw [HG.out]; rfl, hrl, Below.refl _ _⟩
  | succ d ih =>
    intro hd fixed l Al cl w hfx hll hr hrl
    have h1d := one_succ d
    have h1p := one_pos d
    obtain ⟨v, hv⟩ : ∃ v, v = n - (d + 1) := ⟨_, rfl⟩
    have hvn : v < n := by omega
    have hnd : ((n - d : Nat) : Int) = (v : Int) + 1 := by omega
    have hne : ((v : Int) == (n : Int)) = false := by simp; omega
    have h1v := one_int v (by omega)
    have h1vn := one_lt_one hvn
    have hor := u32_or_nat fixed (one v) (by omega) (by omega)
    have hfx2 : fixed ||| one v < one n := or_lt_one hfx h1vn
    have key1 := ih (by omega) fixed l Al cl w hfx (by omega) hr hrl
    have HG := Lib.hid (show growT n (atB f) (d + 1) fixed l = (let r1 := growT n (atB f) d fixed l; let r2 := growT n (atB f) d (fixed ||| one v) r1.1; if r1.2 = r2.2 then (r2.1, r1.2) else addN r2.1 ((v : Int), r1.2, r2.2)) by rw [growT, hv])
    rw [hnd] at key1 ih
    rw [← hv]
    have HLen := Lib.hid (growT_len n (atB f) d fixed l)
    have HLen2 := Lib.hid (fun l' => growT_len n (atB f) d (fixed ||| one v) l')
    clear hv hnd
    go_enter Try.func20, Try.ntmps20
    go_wp2_with fail
    refine key1.mono ?_
    rintro e w1 ⟨A1, c1, r1, k1, rfl, hg1, hrow1, hb1⟩
    have hl1 : r1.length + 1 ≤ l.length + one d := by have := HLen.out; rw [← hg1] at this; exact this
    have key2 := ih (by omega) (fixed ||| one v) r1 A1 c1 w1 hfx2 (by omega) (hr.below hb1) hrow1
    have HG1 := Lib.hid hg1
    clear hg1 key1
    go_wp2_with fail
    refine key2.mono ?_
    rintro e w2 ⟨A2, c2, r2, k2, rfl, hg2, hrow2, hb2⟩
    have hl2 : r2.length + 1 ≤ r1.length + one d := by have := HLen2.out r1; rw [← hg2] at this; exact this
    have hb12 := hb1.trans (hb2.mono hb1.size)
    have HGG := Lib.hid (show growT n (atB f) (d + 1) fixed l = if k1 = k2 then (r2, k1) else addN r2 ((v : Int), k1, k2) by
      rw [HG.out, ← HG1.out]
      simp only
      rw [← hg2])
    clear hg2 key2 HG HG1 HLen HLen2 ih hrow1
    by_cases hk : k1 = k2
    · have hkk : (k1 == k2) = true := by rw [hk]; simp
      have HR := Lib.hid (show (r2, k1) = growT n (atB f) (d + 1) fixed l by rw [HGG.out, if_pos hk])
      clear hk
      go_wp2
      go_ret2
      exact ⟨A2, c2, r2, k1, rfl, HR.out, hrow2, hb12⟩
    · have hkk : (k1 == k2) = false := by simpa using hk
      have HR := Lib.hid (show growT n (atB f) (d + 1) fixed l = addN r2 ((v : Int), k1, k2) by rw [HGG.out, if_neg hk])
      clear hk HGG
      have hb3 : Below w2.heap.size w2 (w2.alloc (.cells #[.int .i64 (v : Int), .int .i64 k1, .int .i64 k2] 52)) := (Below.refl _ _).alloc (Nat.le_refl _) _
      have hN := NdC.made w2 (v : Int) k1 k2 52
      have hb03 := hb12.trans (hb3.mono hb12.size)
      have hrow3 := hrow2.below hb3
      go_wp2
      generalize hw3 : w2.alloc (.cells #[.int .i64 (v : Int), .int .i64 k1, .int .i64 k2] 52) = w3 at *
      have hsz3 : w2.heap.size < w3.heap.size := by rw [← hw3]; simp
      go_loopw [61] (fun iv wr => ∃ i : Nat, iv = .int .i64 i ∧ i ≤ r2.length ∧ ((v : Int), k1, k2) ∉ r2.take i ∧ Below w3.heap.size w3 wr) (fun iv _ => r2.length - (intOf iv).toNat)
      case atStart => exact ⟨0, rfl, Nat.zero_le _, by simp, Below.refl _ _⟩
      case round =>
        obtain ⟨i, rfl, hi, hni, hb4⟩ := hrel
        have HNi := Lib.hid hni
        clear hni
        have hN4 := hN.below hb4
        by_cases hlt : i < r2.length
        · obtain ⟨x, hx⟩ := get_some hlt
          obtain ⟨g, off, rfl, e0, e1, e2⟩ := RowN.at (hrow3.below hb4) hx
          have HX := Lib.hid hx
          clear hx
          obtain ⟨x1, x2, x3⟩ := x
          have hb5 := hb4.alloc hb4.size (.cells #[.int .i64 x1, .int .i64 x2, .int .i64 x3] 52)
          obtain ⟨n0, n1, n2⟩ := hN4.below ((Below.refl _ _).alloc (Nat.le_refl _) (.cells #[.int .i64 x1, .int .i64 x2, .int .i64 x3] 52))
          simp only at n0 n1 n2 e0 e1 e2
          have hg4 : w2.heap.size < wr.heap.size := by have := hb4.size; omega
          by_cases q1 : x1 = (v : Int)
          · by_cases q2 : x2 = k1
            · by_cases q3 : x3 = k2
              · subst q1 q2 q3
                have HI := Lib.hid (show (r2, (i : Int) + 2) = growT n (atB f) (d + 1) fixed l by
                  rw [HR.out]
                  unfold addN
                  rw [if_pos (List.mem_of_getElem? HX.out), idx_first HX.out HNi.out])
                go_wp2
                go_ret2
                exact ⟨some ⟨g, off, none⟩, c2, r2, (i : Int) + 2, rfl, HI.out, hrow3.below hb5, hb03.trans (hb5.mono hb03.size)⟩
              · have HN2 := Lib.hid (not_mem_take HX.out HNi.out (fun e => q3 (by simp at e; exact e.2.2)))
                subst q1 q2
                have z3 : (x3 == k2) = false := by simpa using q3
                clear q3
                go_wp2
                go_roundw
                case rel => exact ⟨i + 1, by go_num, by omega, HN2.out, hb5⟩
                case measure => simp [intOf]; omega
            · have HN2 := Lib.hid (not_mem_take HX.out HNi.out (fun e => q2 (by simp at e; exact e.2.1)))
              subst q1
              have z3 : (x2 == k1) = false := by simpa using q2
              clear q2
              go_wp2
              go_roundw
              case rel => exact ⟨i + 1, by go_num, by omega, HN2.out, hb5⟩
              case measure => simp [intOf]; omega
          · have HN2 := Lib.hid (not_mem_take HX.out HNi.out (fun e => q1 (by simp at e; exact e.1)))
            have z3 : (x1 == (v : Int)) = false := by simpa using q1
            clear q1
            go_wp2
            go_roundw
            case rel => exact ⟨i + 1, by go_num, by omega, HN2.out, hb5⟩
            case measure => simp [intOf]; omega
        · obtain rfl : i = r2.length := by omega
          have HI := Lib.hid (show (r2 ++ [((v : Int), k1, k2)], (r2.length : Int) + 2) = growT n (atB f) (d + 1) fixed l by
            rw [HR.out]
            unfold addN
            rw [if_neg (by have := HNi.out; rwa [List.take_length] at this)])
          obtain ⟨i0, hi0, hz0, hz1, hz2⟩ := info_parts infoN
          have hrow4 := hrow3.below hb4
          have hrl : r2.length ≤ 40 := by omega
          cases hr2 : r2 with
          | nil =>
            subst hr2
            have HB1 := Lib.hid (show Below wr.heap.size wr (wr.alloc (.cells #[] 52)).drew from ((Below.refl _ _).alloc (Nat.le_refl _) _).drew)
            have HS4 := Lib.hid hN4
            have HS5 := Lib.hid (hN4.below HB1.out)
            have HB2 := Lib.hid (show Below wr.heap.size wr ((wr.alloc (.cells #[] 52)).alloc (.cells #[.int .i64 (v : Int), .int .i64 k1, .int .i64 k2] 52)).drew from (((Below.refl wr.heap.size wr).alloc (Nat.le_refl _) _).alloc (by simp) _).drew)
            have HB3 := Lib.hid (show Below wr.heap.size wr ((wr.alloc (.cells #[.int .i64 (v : Int), .int .i64 k1, .int .i64 k2] 52)).alloc (.cells #[] 52)).drew from (((Below.refl wr.heap.size wr).alloc (Nat.le_refl _) _).alloc (by simp) _).drew)
            have HB4 := Lib.hid (show Below wr.heap.size wr (wr.alloc (.cells #[.int .i64 (v : Int), .int .i64 k1, .int .i64 k2] 52)) from (Below.refl wr.heap.size wr).alloc (Nat.le_refl _) _)
            have HSb := Lib.hid (hN4.below HB2.out)
            have HSc := Lib.hid (hN4.below HB3.out)
            have HSd := Lib.hid (hN4.below HB4.out)
            have HOwnB := Lib.hid (show (((wr.alloc (.cells #[] 52)).alloc (.cells #[.int .i64 (v : Int), .int .i64 k1, .int .i64 k2] 52)).drew).ownsRow wr.heap.size 52 3 (.slice (some ⟨wr.heap.size, 0, none⟩) 0 0) 0 [] from World.ownsRow.alloc (World.ownsRow_lit wr #[] 0 (Nat.le_refl _) (by simp [maxLen]) rfl) _)
            have HOwnC := Lib.hid (show (((wr.alloc (.cells #[.int .i64 (v : Int), .int .i64 k1, .int .i64 k2] 52)).alloc (.cells #[] 52)).drew).ownsRow wr.heap.size 52 3 (.slice (some ⟨wr.heap.size + 1, 0, none⟩) 0 0) 0 [] by
              have h := World.ownsRow_lit (base := wr.heap.size) (size := 3) (e := 52) (wr.alloc (.cells #[.int .i64 (v : Int), .int .i64 k1, .int .i64 k2] 52)) #[] 0 (by simp) (by simp [maxLen]) rfl
              have h2 : ((wr.alloc (.cells #[.int .i64 (v : Int), .int .i64 k1, .int .i64 k2] 52)).alloc (.cells #[] 52)).ownsRow wr.heap.size 52 3 (.slice (some ⟨wr.heap.size + 1, 0, none⟩) 0 0) 0 [] := by simpa using h
              exact h2)
            have HNb := Lib.hid (show ∀ j u, (ndC ((v : Int), k1, k2))[j]? = some u → (((wr.alloc (.cells #[] 52)).alloc (.cells #[.int .i64 (v : Int), .int .i64 k1, .int .i64 k2] 52)).drew).cell? ((⟨wr.heap.size + 1, 0, none⟩ : Addr).add j) = some u by
              have h := news_three (wr.alloc (.cells #[] 52)) ((v : Int), k1, k2) 52
              simp only [World.size_alloc] at h
              exact h)
            have HNc := Lib.hid (show ∀ j u, (ndC ((v : Int), k1, k2))[j]? = some u → (((wr.alloc (.cells #[.int .i64 (v : Int), .int .i64 k1, .int .i64 k2] 52)).alloc (.cells #[] 52)).drew).cell? ((⟨wr.heap.size, 0, none⟩ : Addr).add j) = some u from
              row_news ((row_new wr wr.heap.size rfl (ndC ((v : Int), k1, k2)) 52).below (((Below.refl _ _).alloc (Nat.le_refl _) _).drew)))
            clear hN4
            have hA : A2 = none ∨ ∃ a, A2 = some a := by cases A2; exact .inl rfl; exact .inr ⟨_, rfl⟩
            rcases hA with rfl | ⟨a, rfl⟩
            all_goals
              go_wp2
              go_region_held3 (fun w' => w'.cell? ⟨w2.heap.size, 0, none⟩ = some (.int .i64 (v : Int)) ∧ w'.cell? ⟨w2.heap.size, 1, none⟩ = some (.int .i64 k1) ∧ w'.cell? ⟨w2.heap.size, 2, none⟩ = some (.int .i64 k2)) (first | exact HS4.out | exact HS5.out | exact HS8.out | exact HSb.out | exact HSc.out | exact HSd.out | go_keep)
                (first
                | (refine step_append_any rfl (.tmp 75) (.tmp 77) 23 rfl wr.heap.size 52 i0 (.agg #[.int .i64 0, .int .i64 0, .int .i64 0]) 3 24 Try.underlying23 hi0 hz0 hz1 hz2 rfl (by decide) (.slice (some ⟨wr.heap.size, 0, none⟩) 0 0) 0 [] (by simp [Act.eval]) HOwnB.out ⟨wr.heap.size + 1, 0, none⟩ 1 1 (ndC ((v : Int), k1, k2)) (by simp [Act.eval]) rfl HNb.out (nodesC_oneCell [((v : Int), k1, k2)]) (by decide) (by decide) HB2.out.size ?_
                   intro v8 w8 hown8 hgrow8 _
                   have HB9 := Lib.hid (HB2.out.grown hgrow8 HB2.out.size (by intro k hk; simp [Value.ownBlock] at hk; omega))
                   have HOwn8 := Lib.hid hown8
                   have HS8 := Lib.hid (HS4.out.below HB9.out)
                   clear hown8 hgrow8)
                | (refine step_append_any rfl (.tmp 75) (.tmp 77) 23 rfl wr.heap.size 52 i0 (.agg #[.int .i64 0, .int .i64 0, .int .i64 0]) 3 24 Try.underlying23 hi0 hz0 hz1 hz2 rfl (by decide) (.slice (some ⟨wr.heap.size + 1, 0, none⟩) 0 0) 0 [] (by simp [Act.eval]) HOwnC.out ⟨wr.heap.size, 0, none⟩ 1 1 (ndC ((v : Int), k1, k2)) (by simp [Act.eval]) rfl HNc.out (nodesC_oneCell [((v : Int), k1, k2)]) (by decide) (by decide) HB3.out.size ?_
                   intro v8 w8 hown8 hgrow8 _
                   have HB9 := Lib.hid (HB3.out.grown hgrow8 HB3.out.size (by intro k hk; simp [Value.ownBlock] at hk; omega))
                   have HOwn8 := Lib.hid hown8
                   have HS8 := Lib.hid (HS4.out.below HB9.out)
                   clear hown8 hgrow8))
              all_goals
                obtain ⟨A8, c8, rfl, hrow8⟩ := own_row HOwn8.out
                have HRow8 := Lib.hid hrow8
                have hb9 := HB9.out
                have hb49 := hb4.trans (hb9.mono hb4.size)
                clear hrow8 HOwn8 HB9 HS8
                go_simp
                go_wp2
                go_ret2
                exact ⟨A8, c8, [] ++ [((v : Int), k1, k2)], 2, rfl, HI.out, HRow8.out, hb03.trans (hb49.mono hb03.size)⟩
          | cons x0 rest =>
            rw [← hr2]
            obtain ⟨g, off, rfl, _⟩ := RowN.at (k := 0) (b := x0) hrow4 (by rw [hr2]; rfl)
            clear hr2
            have HB1 := Lib.hid (show Below wr.heap.size wr (wr.alloc (.cells #[] 52)).drew from ((Below.refl _ _).alloc (Nat.le_refl _) _).drew)
            have HOwn0 := Lib.hid (show ((wr.alloc (.cells #[] 52)).drew).ownsRow wr.heap.size 52 3 (.slice (some ⟨wr.heap.size, 0, none⟩) 0 0) 0 [] from World.ownsRow_lit wr #[] 0 (Nat.le_refl _) (by simp [maxLen]) rfl)
            have HN0 := Lib.hid (row_news (hrow4.below HB1.out))
            have HL0 := Lib.hid (show (nodesC r2).length = r2.length * 3 by rw [nodesC_length]; omega)
            have HM0 := Lib.hid (show 0 + r2.length ≤ maxLen by unfold maxLen; omega)
            have HY0 := Lib.hid (show (0 + r2.length) * 24 ≤ 140737488355328 by omega)
            have HM1 := Lib.hid (show 0 + r2.length + 1 ≤ maxLen by unfold maxLen; omega)
            have HY1 := Lib.hid (show (0 + r2.length + 1) * 24 ≤ 140737488355328 by omega)
            have HS4 := Lib.hid hN4
            have HS5 := Lib.hid (hN4.below HB1.out)
            have HB2 := Lib.hid (show Below wr.heap.size wr ((wr.alloc (.cells #[] 52)).alloc (.cells #[.int .i64 (v : Int), .int .i64 k1, .int .i64 k2] 52)).drew from (((Below.refl wr.heap.size wr).alloc (Nat.le_refl _) _).alloc (by simp) _).drew)
            have HB3 := Lib.hid (show Below wr.heap.size wr ((wr.alloc (.cells #[.int .i64 (v : Int), .int .i64 k1, .int .i64 k2] 52)).alloc (.cells #[] 52)).drew from (((Below.refl wr.heap.size wr).alloc (Nat.le_refl _) _).alloc (by simp) _).drew)
            have HB4 := Lib.hid (show Below wr.heap.size wr (wr.alloc (.cells #[.int .i64 (v : Int), .int .i64 k1, .int .i64 k2] 52)) from (Below.refl wr.heap.size wr).alloc (Nat.le_refl _) _)
            have HSb := Lib.hid (hN4.below HB2.out)
            have HSc := Lib.hid (hN4.below HB3.out)
            have HSd := Lib.hid (hN4.below HB4.out)
            have HOwnB := Lib.hid (show (((wr.alloc (.cells #[] 52)).alloc (.cells #[.int .i64 (v : Int), .int .i64 k1, .int .i64 k2] 52)).drew).ownsRow wr.heap.size 52 3 (.slice (some ⟨wr.heap.size, 0, none⟩) 0 0) 0 [] from World.ownsRow.alloc (World.ownsRow_lit wr #[] 0 (Nat.le_refl _) (by simp [maxLen]) rfl) _)
            have HOwnC := Lib.hid (show (((wr.alloc (.cells #[.int .i64 (v : Int), .int .i64 k1, .int .i64 k2] 52)).alloc (.cells #[] 52)).drew).ownsRow wr.heap.size 52 3 (.slice (some ⟨wr.heap.size + 1, 0, none⟩) 0 0) 0 [] by
              have h := World.ownsRow_lit (base := wr.heap.size) (size := 3) (e := 52) (wr.alloc (.cells #[.int .i64 (v : Int), .int .i64 k1, .int .i64 k2] 52)) #[] 0 (by simp) (by simp [maxLen]) rfl
              have h2 : ((wr.alloc (.cells #[.int .i64 (v : Int), .int .i64 k1, .int .i64 k2] 52)).alloc (.cells #[] 52)).ownsRow wr.heap.size 52 3 (.slice (some ⟨wr.heap.size + 1, 0, none⟩) 0 0) 0 [] := by simpa using h
              exact h2)
            have HN0b := Lib.hid (row_news (hrow4.below HB2.out))
            have HN0c := Lib.hid (row_news (hrow4.below HB3.out))
            have HNb := Lib.hid (show ∀ j u, (ndC ((v : Int), k1, k2))[j]? = some u → (((wr.alloc (.cells #[] 52)).alloc (.cells #[.int .i64 (v : Int), .int .i64 k1, .int .i64 k2] 52)).drew).cell? ((⟨wr.heap.size + 1, 0, none⟩ : Addr).add j) = some u by
              have h := news_three (wr.alloc (.cells #[] 52)) ((v : Int), k1, k2) 52
              simp only [World.size_alloc] at h
              exact h)
            have HNc := Lib.hid (show ∀ j u, (ndC ((v : Int), k1, k2))[j]? = some u → (((wr.alloc (.cells #[.int .i64 (v : Int), .int .i64 k1, .int .i64 k2] 52)).alloc (.cells #[] 52)).drew).cell? ((⟨wr.heap.size, 0, none⟩ : Addr).add j) = some u from
              row_news ((row_new wr wr.heap.size rfl (ndC ((v : Int), k1, k2)) 52).below (((Below.refl _ _).alloc (Nat.le_refl _) _).drew)))
            have HWr := Lib.hid (show IntKind.i64.wrap ((r2.length : Int) + 2) = (r2.length : Int) + 2 from IntWalk.i64_in _ (by omega))
            clear hN4
            go_wp2
            go_region_held3 (fun w' => w'.cell? ⟨w2.heap.size, 0, none⟩ = some (.int .i64 (v : Int)) ∧ w'.cell? ⟨w2.heap.size, 1, none⟩ = some (.int .i64 k1) ∧ w'.cell? ⟨w2.heap.size, 2, none⟩ = some (.int .i64 k2)) (first | exact HS4.out | exact HS5.out | exact HS9.out | exact HS7.out | exact HS8.out | exact HSb.out | exact HSc.out | exact HSd.out | go_keep)
              (first
              | (refine step_append_any rfl (.tmp 73) (.tmp 74) 23 rfl wr.heap.size 52 i0 (.agg #[.int .i64 0, .int .i64 0, .int .i64 0]) 3 24 Try.underlying23 hi0 hz0 hz1 hz2 rfl (by decide) (.slice (some ⟨wr.heap.size, 0, none⟩) 0 0) 0 [] (by simp [Act.eval]) HOwn0.out ⟨g, off, none⟩ r2.length c2 (nodesC r2) (by simp [Act.eval]) HL0.out HN0.out (nodesC_oneCell _) HM0.out HY0.out HB1.out.size ?_
                 intro v7 w7 hown7 hgrow7 _
                 have HB7 := Lib.hid (HB1.out.grown hgrow7 HB1.out.size (by intro k hk; simp [Value.ownBlock] at hk; omega))
                 have HOwn7 := Lib.hid hown7
                 have HS7 := Lib.hid (HS4.out.below HB7.out)
                 have HN7 := Lib.hid (news_three w7 ((v : Int), k1, k2) 52)
                 have HO7 := Lib.hid (fun o : Obj => show (w7.alloc o).ownsRow wr.heap.size 52 3 v7 (0 + r2.length) ([] ++ nodesC r2) from World.ownsRow.alloc HOwn7.out o)
                 have HB8 := Lib.hid (fun o : Obj => show Below wr.heap.size wr (w7.alloc o) from HB7.out.alloc HB7.out.size o)
                 have HS9 := Lib.hid (HS4.out.below (HB8.out (.cells #[.int .i64 (v : Int), .int .i64 k1, .int .i64 k2] 52)))
                 clear hown7 hgrow7)
              | (refine step_append_any rfl (.tmp 73) (.tmp 74) 23 rfl wr.heap.size 52 i0 (.agg #[.int .i64 0, .int .i64 0, .int .i64 0]) 3 24 Try.underlying23 hi0 hz0 hz1 hz2 rfl (by decide) (.slice (some ⟨wr.heap.size, 0, none⟩) 0 0) 0 [] (by simp [Act.eval]) HOwnB.out ⟨g, off, none⟩ r2.length c2 (nodesC r2) (by simp [Act.eval]) HL0.out HN0b.out (nodesC_oneCell _) HM0.out HY0.out HB2.out.size ?_
                 intro v7 w7 hown7 hgrow7 _
                 have HB7 := Lib.hid (HB2.out.grown hgrow7 HB2.out.size (by intro k hk; simp [Value.ownBlock] at hk; omega))
                 have HOwn7 := Lib.hid hown7
                 have HS7 := Lib.hid (HS4.out.below HB7.out)
                 have HNB := Lib.hid (news_grown HNb.out hgrow7 (by simp [Value.ownBlock]))
                 clear hown7 hgrow7)
              | (refine step_append_any rfl (.tmp 73) (.tmp 74) 23 rfl wr.heap.size 52 i0 (.agg #[.int .i64 0, .int .i64 0, .int .i64 0]) 3 24 Try.underlying23 hi0 hz0 hz1 hz2 rfl (by decide) (.slice (some ⟨wr.heap.size + 1, 0, none⟩) 0 0) 0 [] (by simp [Act.eval]) HOwnC.out ⟨g, off, none⟩ r2.length c2 (nodesC r2) (by simp [Act.eval]) HL0.out HN0c.out (nodesC_oneCell _) HM0.out HY0.out HB3.out.size ?_
                 intro v7 w7 hown7 hgrow7 _
                 have HB7 := Lib.hid (HB3.out.grown hgrow7 HB3.out.size (by intro k hk; simp [Value.ownBlock] at hk; omega))
                 have HOwn7 := Lib.hid hown7
                 have HS7 := Lib.hid (HS4.out.below HB7.out)
                 have HNC := Lib.hid (news_grown HNc.out hgrow7 (by simp [Value.ownBlock]))
                 clear hown7 hgrow7)
              | (refine step_append_any rfl (.tmp 75) (.tmp 77) 23 rfl wr.heap.size 52 i0 (.agg #[.int .i64 0, .int .i64 0, .int .i64 0]) 3 24 Try.underlying23 hi0 hz0 hz1 hz2 rfl (by decide) v7 (0 + r2.length) ([] ++ nodesC r2) (by simp [Act.eval]) (HO7.out _) ⟨w7.heap.size, 0, none⟩ 1 1 (ndC ((v : Int), k1, k2)) (by simp [Act.eval]) rfl HN7.out (nodesC_oneCell [((v : Int), k1, k2)]) HM1.out HY1.out (HB8.out _).size ?_
                 intro v8 w8 hown8 hgrow8 _
                 have HB9 := Lib.hid ((HB8.out _).grown hgrow8 (HB8.out _).size (fun k hk => (World.ownsRow.lt HOwn7.out k hk).1))
                 have HOwn8 := Lib.hid hown8
                 have HS8 := Lib.hid (HS4.out.below HB9.out)
                 clear hown8 hgrow8)
              | (refine step_append_any rfl (.tmp 75) (.tmp 77) 23 rfl wr.heap.size 52 i0 (.agg #[.int .i64 0, .int .i64 0, .int .i64 0]) 3 24 Try.underlying23 hi0 hz0 hz1 hz2 rfl (by decide) v7 (0 + r2.length) ([] ++ nodesC r2) (by simp [Act.eval]) HOwn7.out ⟨wr.heap.size + 1, 0, none⟩ 1 1 (ndC ((v : Int), k1, k2)) (by simp [Act.eval]) rfl HNB.out (nodesC_oneCell [((v : Int), k1, k2)]) HM1.out HY1.out HB7.out.size ?_
                 intro v8 w8 hown8 hgrow8 _
                 have HB9 := Lib.hid (HB7.out.grown hgrow8 HB7.out.size (fun k hk => (World.ownsRow.lt HOwn7.out k hk).1))
                 have HOwn8 := Lib.hid hown8
                 have HS8 := Lib.hid (HS4.out.below HB9.out)
                 clear hown8 hgrow8)
              | (refine step_append_any rfl (.tmp 75) (.tmp 77) 23 rfl wr.heap.size 52 i0 (.agg #[.int .i64 0, .int .i64 0, .int .i64 0]) 3 24 Try.underlying23 hi0 hz0 hz1 hz2 rfl (by decide) v7 (0 + r2.length) ([] ++ nodesC r2) (by simp [Act.eval]) HOwn7.out ⟨wr.heap.size, 0, none⟩ 1 1 (ndC ((v : Int), k1, k2)) (by simp [Act.eval]) rfl HNC.out (nodesC_oneCell [((v : Int), k1, k2)]) HM1.out HY1.out HB7.out.size ?_
                 intro v8 w8 hown8 hgrow8 _
                 have HB9 := Lib.hid (HB7.out.grown hgrow8 HB7.out.size (fun k hk => (World.ownsRow.lt HOwn7.out k hk).1))
                 have HOwn8 := Lib.hid hown8
                 have HS8 := Lib.hid (HS4.out.below HB9.out)
                 clear hown8 hgrow8))
            all_goals
              obtain ⟨A8, c8, rfl, hrow8⟩ := own_row HOwn8.out
              have HRow8 := Lib.hid hrow8
              have hb9 := HB9.out
              have hb49 := hb4.trans (hb9.mono hb4.size)
              clear hrow8 HOwn8 HB9 HS8
              go_simp
              go_wp2
              go_ret2
              refine ⟨A8, c8, r2 ++ [((v : Int), k1, k2)], (r2.length : Int) + 2, ?_, HI.out, ?_, hb03.trans (hb49.mono hb03.size)⟩
              · have e1 : (r2 ++ [((v : Int), k1, k2)]).length = r2.length + 1 := by simp
                rw [e1]
                first | rfl | (rw [HWr.out]; rfl)
              · rw [nodesC_append]; exact HRow8.out

end Go.Proofs.Ytnoehmokaeegeaa
