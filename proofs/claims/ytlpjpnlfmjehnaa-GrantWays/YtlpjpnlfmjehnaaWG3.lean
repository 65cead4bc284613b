/- syllogistref.Grant. -/
import Derived.Test.YtlpjpnlfmjehnaaWG2
import Derived.Test.YtlpjpnlfmjehnaaRegI
import Derived.Test.YtlpjpnlfmjehnaaMkM
namespace Go.Proofs.Ytlpjpnlfmjehnaa
open Go.RowKit

theorem infoEg : (Try.prog.info? 63).map (fun i => (i.zero, i.size, i.bytes)) = some (some (.agg #[.int .i64 0, .int .i64 0, .int .u32 0]), 3, 24) := by kernel_rfl
theorem infoErg : (Try.prog.info? 27).map (fun i => (i.zero, i.size, i.bytes)) = some (some (.int .i64 0), 1, 8) := by kernel_rfl

/-- The rows of a script of rights in memory. -/
def rowsG (gN gR gO n : Nat) (va : Value) (all : List Ed) (vc : Value) (codes : List Int) (N : Int) (ve : Value) (ge : List Ed) (ex : List Rw) : List Rw :=
  ⟨3, 1, .slice (some ⟨gN, 0, none⟩) 1 1, 1, [.int .i64 (n : Int)]⟩ :: ⟨26, 3, .slice (some ⟨gR, 0, none⟩) 1 1, 1, [.slice none 0 0, .int .i64 0, .slice none 0 0]⟩ :: ⟨26, 3, .slice (some ⟨gO, 0, none⟩) 1 1, 1, [vc, .int .i64 N, ve]⟩ ::
  ⟨63, 3, va, all.length, edgesC all⟩ :: ⟨27, 1, vc, codes.length, ints codes⟩ :: ⟨63, 3, ve, ge.length, edgesC ge⟩ :: ex

theorem gHere_any (i : Int) (n g : Nat) (b : Bool) (w : World) (hb : decide (0 ≤ i ∧ i < n) = b) (hc : w.cell? ⟨g, 0, none⟩ = some (.int .i64 (n : Int))) :
    Calls Try.prog 23 #[.int .i64 i, .pointer (some ⟨g, 0, none⟩)] w fun e w' => e = .returned (.bool b) ∧ w' = w := by
  by_cases h0 : 0 ≤ i
  · have h1 : decide (i < (n : Int)) = b := by rw [← hb]; simp [h0]
    have HB := Lib.hid hb
    clear hb
    go_enter Try.func23, Try.ntmps23
    go_wp2
    go_ret
    exact ⟨by first | rfl | (rw [← h1]), rfl⟩
  · have HB := Lib.hid (show false = b by rw [← hb]; simp [h0])
    clear hb
    go_enter Try.func23, Try.ntmps23
    go_wp2
    go_ret
    exact ⟨ret_bool HB.out, rfl⟩

theorem sub_one {x : Nat} : sub 1 x = x.testBit 0 := by
  rw [Bool.eq_iff_iff, sub_iff]
  constructor
  · intro h; exact h 0 (by decide)
  · intro h i hi
    have : i = 0 := by
      rw [show (1 : Nat) = 2 ^ 0 from rfl, Nat.testBit_two_pow] at hi
      have := of_decide_eq_true hi
      omega
    subst this
    exact h
theorem sub_two {x : Nat} : sub 2 x = x.testBit 1 := by
  rw [Bool.eq_iff_iff, sub_iff]
  constructor
  · intro h; exact h 1 (by decide)
  · intro h i hi
    have : i = 1 := by
      rw [show (2 : Nat) = 2 ^ 1 from rfl, Nat.testBit_two_pow] at hi
      have := of_decide_eq_true hi
      omega
    subst this
    exact h
theorem add_over {all : List Ed} {ov : Nat → Nat → Nat} (h : ∀ a b : Nat, overL all a b = ov a b) (f t p : Nat) (x y : Nat) : overL (all ++ [((f : Int), (t : Int), p)]) x y = updO ov f t (ov f t ||| p) x y := by
  rw [overL_append, h, updO_at]
  simp only [overL]
  by_cases hc : x = f ∧ y = t
  · obtain ⟨rfl, rfl⟩ := hc
    rw [if_pos ⟨rfl, rfl⟩, if_pos ⟨rfl, rfl⟩, Nat.or_zero]
  · rw [if_neg hc, if_neg (fun k => hc ⟨by omega, by omega⟩)]
    simp
theorem drop_over {all : List Ed} {ov : Nat → Nat → Nat} (h32 : E32 all) (h : ∀ a b : Nat, overL all a b = ov a b) {p : Nat} (hp : p < 4294967296) (f t : Nat) (x y : Nat) : overL (dropL all f t p) x y = updO ov f t (wo (ov f t) p) x y := by
  rw [dropL_over h32 hp, updO_at, h, h]
  by_cases hc : x = f ∧ y = t
  · rw [if_pos hc, if_pos ⟨by omega, by omega⟩]
  · rw [if_neg hc, if_neg (fun k => hc ⟨by omega, by omega⟩)]
theorem dropL_length (l : List Ed) (a b : Int) (r : Nat) : (dropL l a b r).length = l.length := by simp [dropL]
/-- What the first k deeds do. -/
def stG (n : Nat) (es : List Ed) (ds : List Dd) (k : Nat) : List Int × Gs := runG n es (ds.take k)
theorem append_noneE (w : World) (ty : TypeId) (A : Option Addr) (m c c2 : Nat) (h : m ≤ c) : (Builtin.append_ #[22, 22] ty #[.slice A m c, .slice none 0 c2]).run Try.prog w = .ok (.slice A m c) w := by
  cases A <;> simp [Builtin.append_, run_underlying Try.underlying22, Try.sizeOf63, Builtin.lenOf, Builtin.firstCells, storeCells, h]
theorem edgesC_oneCell (l : List Ed) : ∀ u ∈ edgesC l, u.oneCell' = true := by
  intro u hu
  unfold edgesC at hu
  rw [List.mem_flatMap] at hu
  obtain ⟨r, _, hr⟩ := hu
  simp [edC] at hr
  rcases hr with rfl | rfl | rfl <;> rfl
/-- append of edges that lie somewhere, none too, to a row. -/
theorem wpList_append_ed {w w0 : World} {rs : List Rw} {ops : Array Oper} {rest : List Oper} {o : Oper} {a : Act} {Q : Exit → Act → World → Prop} (hgd : o.guard = none) (s x : Operand)
    (ho : o.op = .call { callee := .builtin .append, args := #[s, x], argTypes := #[22, 22] })
    (k n : Nat) (v : Value) (l : List Ed) (hM : RowsM w0 rs w) (hr : rs[k]? = Option.some ⟨63, 3, v, n, edgesC l⟩) (hs : a.eval s = v)
    (A : Option Addr) (m : List Ed) (c : Nat) (hx : a.eval x = .slice A m.length c) (hrow : Row w A (edgesC m)) (hl : n + m.length ≤ 100000000)
    (h : ∀ A' c' w', RowsM w0 (rs.set k ⟨63, 3, .slice A' (n + m.length) c', n + m.length, edgesC (l ++ m)⟩) w' → wpList Try.prog ops Q rest (a.put o.dst (.slice A' (n + m.length) c')) w') : wpList Try.prog ops Q (o :: rest) a w := by
  obtain ⟨i0, hi, hz0, hz1, hz2⟩ := info_parts infoEg
  have some' : ∀ ad : Addr, a.eval x = .slice (some ad) m.length c → (∀ j u, (edgesC m)[j]? = Option.some u → w.cell? (ad.add j) = Option.some u) → wpList Try.prog ops Q (o :: rest) a w := fun ad hx hn =>
    wpList_append_rm hgd s x 22 ho k 63 3 n v (edgesC l) hM hr i0 (.agg #[.int .i64 0, .int .i64 0, .int .u32 0]) 24 Try.underlying22 hi hz0 hz1 hz2 rfl (by decide) hs ad m.length c (edgesC m) hx (by rw [edgesC_length]; omega) hn (edgesC_oneCell m) (by unfold maxLen; omega) (by omega) (fun A' c' w' hN => h A' c' w' (by rw [edgesC_append]; exact hN))
  rcases hrow with hrow | ⟨b, off, rfl, hc⟩
  · have hm0 : m = [] := by
      cases m with
      | nil => rfl
      | cons a m => simp [edgesC, edC] at hrow
    subst hm0
    cases A with
    | none =>
      obtain ⟨A1, c1, e1, hcap, _⟩ := hM.form hr
      simp only at e1 hcap
      subst e1
      refine wpList_plain hgd fun K hK => ?_
      unfold Oper.wp execOp
      simp only [ho, resolve, invoke, builtin, Sem.run_bind, Sem.run_pure, Result.andThen_ok, List.map_toArray, List.map_cons, List.map_nil, hs, hx, List.length_nil, append_noneE _ _ _ _ _ _ hcap]
      refine hK _ _ (h A1 c1 w ?_)
      simp only [List.length_nil, Nat.add_zero, List.append_nil]
      have e := List.getElem?_eq_some_iff.1 hr
      rw [← e.2, List.set_getElem_self]
      exact hM
    | some ad => exact some' ad hx (fun j u hu => by simp [edgesC] at hu)
  · exact some' ⟨b, off, none⟩ hx (row_news (.inr ⟨b, off, rfl, hc⟩))
theorem drop_next {all : List Ed} {i : Nat} {e : Ed} (he : all[i]? = some e) (a b : Int) (r : Nat) :
    dropL (all.take i) a b r ++ all.drop i = dropL (all.take i) a b r ++ e :: all.drop (i + 1) ∧ dropL (all.take (i + 1)) a b r ++ all.drop (i + 1) = dropL (all.take i) a b r ++ (if e.1 = a ∧ e.2.1 = b then (e.1, e.2.1, wo e.2.2 r) else e) :: all.drop (i + 1) ∧ (dropL (all.take i) a b r).length = i := by
  have hlt := (List.getElem?_eq_some_iff.1 he).1
  refine ⟨?_, ?_, by rw [dropL_length, List.length_take]; omega⟩
  · rw [List.drop_eq_getElem_cons hlt, (List.getElem?_eq_some_iff.1 he).2]
  · rw [List.take_add_one, he]
    simp [dropL]
/-- The edges from those below a, and from a to those below b. -/
def edgesB (s : Gs) (a b : Nat) : List Ed := (List.range b).flatMap fun b => if s.ov a b = 0 then [] else [((a : Int), (b : Int), s.ov a b)]
def edgesA (s : Gs) (a : Nat) : List Ed := (List.range a).flatMap fun a => edgesB s a s.n
theorem edgesA_all (s : Gs) : edgesA s s.n = edgesG s := rfl
theorem edgesA_succ (s : Gs) (a : Nat) : edgesA s (a + 1) = edgesA s a ++ edgesB s a s.n := by unfold edgesA; rw [List.range_succ, List.flatMap_append]; simp
theorem edgesB_succ (s : Gs) (a b : Nat) : edgesB s a (b + 1) = edgesB s a b ++ if s.ov a b = 0 then [] else [((a : Int), (b : Int), s.ov a b)] := by unfold edgesB; rw [List.range_succ, List.flatMap_append]; simp
theorem edgesB_len (s : Gs) (a b : Nat) : (edgesB s a b).length ≤ b := by
  induction b with
  | zero => simp [edgesB]
  | succ b ih => rw [edgesB_succ, List.length_append]; split <;> simp <;> omega
theorem edgesA_len (s : Gs) (a : Nat) : (edgesA s a).length ≤ a * s.n := by
  induction a with
  | zero => simp [edgesA]
  | succ a ih =>
    have := edgesB_len s a s.n
    rw [edgesA_succ, List.length_append, Nat.succ_mul]
    omega
/-- The same, the list's cells and their number by themselves. -/
def rowsH (gN gR gO n : Nat) (va : Value) (m : Nat) (xs : List Value) (vc : Value) (codes : List Int) (N : Int) (ve : Value) (ge : List Ed) (ex : List Rw) : List Rw :=
  ⟨3, 1, .slice (some ⟨gN, 0, none⟩) 1 1, 1, [.int .i64 (n : Int)]⟩ :: ⟨26, 3, .slice (some ⟨gR, 0, none⟩) 1 1, 1, [.slice none 0 0, .int .i64 0, .slice none 0 0]⟩ :: ⟨26, 3, .slice (some ⟨gO, 0, none⟩) 1 1, 1, [vc, .int .i64 N, ve]⟩ ::
  ⟨63, 3, va, m, xs⟩ :: ⟨27, 1, vc, codes.length, ints codes⟩ :: ⟨63, 3, ve, ge.length, edgesC ge⟩ :: ex
theorem rowsH_eq {gN gR gO n : Nat} {va : Value} {all : List Ed} {m : Nat} {vc : Value} {codes : List Int} {N : Int} {ve : Value} {ge : List Ed} {ex : List Rw} (h : all.length = m) : rowsH gN gR gO n va m (edgesC all) vc codes N ve ge ex = rowsG gN gR gO n va all vc codes N ve ge ex := by
  subst h
  rfl
theorem rowsG_app {gN gR gO n : Nat} {va : Value} {all : List Ed} {vc : Value} {codes : List Int} {N : Int} {ve : Value} {ge : List Ed} {ex : List Rw} {A9 : Option Addr} {c9 : Nat} {e : Ed} :
    (rowsG gN gR gO n va all vc codes N ve ge ex).set 3 ⟨63, 3, .slice A9 (all.length + 1) c9, all.length + 1, edgesC (all ++ [e])⟩ = rowsG gN gR gO n (.slice A9 (all.length + 1) c9) (all ++ [e]) vc codes N ve ge ex := by
  unfold rowsG
  rw [show (all ++ [e]).length = all.length + 1 by simp]
  rfl
theorem set_mid {α : Type} {xs ys : List α} {e e' : α} {i : Nat} (h : xs.length = i) : (xs ++ e :: ys).set i e' = xs ++ e' :: ys := by
  subst h
  simp

/-- What Grant answers. -/
def GrPost (n : Nat) (es : List Ed) (ds : List Dd) (w : World) (e : Ending) (w' : World) : Prop :=
  ∃ B1 k1 B2 k2, e = .returned (.agg #[.slice B1 (runG n es ds).1.length k1, .int .i64 (runG n es ds).2.n, .slice B2 (edgesG (runG n es ds).2).length k2]) ∧
    w'.ownsRow w.heap.size 27 1 (.slice B1 (runG n es ds).1.length k1) (runG n es ds).1.length (ints (runG n es ds).1) ∧ w'.ownsRow w.heap.size 63 3 (.slice B2 (edgesG (runG n es ds).2).length k2) (edgesG (runG n es ds).2).length (edgesC (edgesG (runG n es ds).2)) ∧ Below w.heap.size w w'

set_option maxRecDepth 100000 in
set_option maxHeartbeats 40000000 in
theorem refGrant_any (n : Nat) (es : List Ed) (ds : List Dd) (A A3 : Option Addr) (c c3 : Nat) (w : World) (hce : codeE n es = 0) (h32 : E32 es) (hp32 : ∀ d ∈ ds, d.parts < 4294967296) (g3 : ds.length ≤ 1000000) (hr : Row w A (edgesC es)) (hr3 : Row w A3 (deedsC ds)) :
    Calls Try.prog 10 #[.int .i64 (n : Int), .slice A es.length c, .slice A3 ds.length c3] w (GrPost n es ds w) := by
  obtain ⟨g4, g5, g6, g7⟩ := codeE_zero hce
  obtain ⟨i0, hi0, hz0, hz1, hz2⟩ := info_parts infoEg
  obtain ⟨i1, hi1, hy0, hy1, hy2⟩ := info_parts infoErg
  have HI := Lib.hid (And.intro hi0 (And.intro hz0 (And.intro hz1 hz2)))
  have HI1 := Lib.hid (And.intro hi1 (And.intro hy0 (And.intro hy1 hy2)))
  have HE32 := Lib.hid h32
  have HP32 := Lib.hid hp32
  have HCE := Lib.hid hce
  clear hi0 hz0 hz1 hz2 hi1 hy0 hy1 hy2 h32 hp32 hce g7
  have hM0 := (((RowsM.nil w).newAlloc (cs := #[.int .i64 (n : Int)]) (t := 3) 1 1 (by decide) rfl).newAlloc (cs := #[.slice none 0 0, .int .i64 0, .slice none 0 0]) (t := 26) 3 1 (by decide) rfl).newAlloc (cs := #[.slice none 0 0, .int .i64 0, .slice none 0 0]) (t := 26) 3 1 (by decide) rfl
  have hM1 := ((hM0.newAlloc (cs := #[]) (t := 63) 3 0 (by decide) rfl).newNil 27 1).newNil 63 3
  simp only [World.size_alloc] at hM1
  have HM := Lib.hid (show RowsM w (rowsG w.heap.size (w.heap.size + 1) (w.heap.size + 1 + 1) n (.slice (some ⟨w.heap.size + 1 + 1 + 1, 0, none⟩) 0 0) [] (.slice none 0 0) [] 0 (.slice none 0 0) [] []) _ from hM1)
  clear hM0 hM1
  go_enter Try.func10, Try.ntmps10
  go_wp2_with (at_builtin; refine wpList_append_ed rfl _ _ rfl 3 0 _ [] HM.out rfl rfl A es c rfl (hr.below HM.out.below) (by omega) ?_)
  intro A' c' w1 hn1
  generalize w.heap.size + 1 + 1 + 1 = gA at *
  generalize w.heap.size + 1 + 1 = gO at *
  generalize w.heap.size + 1 = gR at *
  generalize w.heap.size = gN at *
  have HM1 := Lib.hid (show RowsM w (rowsG gN gR gO n (.slice A' es.length c') es (.slice none 0 0) [] 0 (.slice none 0 0) [] []) w1 from hn1)
  clear hn1 HM
  go_wp2
  go_loopw [8, 25] (fun va kv wr => ∃ (k : Nat) (all : List Ed) (vc : Value), kv = .int .i64 k ∧ k ≤ ds.length ∧ (∀ a b : Nat, overL all a b = (stG n es ds k).2.ov a b) ∧ E32 all ∧ all.length ≤ 20 + k ∧ FineG (stG n es ds k).2 ∧
    RowsM w (rowsG gN gR gO (stG n es ds k).2.n va all vc (stG n es ds k).1 0 (.slice none 0 0) [] []) wr) (fun _ kv _ => ds.length - (intOf kv).toNat)
  case atStart => exact ⟨0, es, _, rfl, Nat.zero_le _, fun _ _ => rfl, HE32.out, by omega, fineG_start HCE.out HE32.out, HM1.out⟩
  case round =>
    clear HM1
    obtain ⟨k, all, vc, rfl, hk, hov, hal32, hal, hfine, hm⟩ := hrel
    obtain ⟨Aa, ca, hva, hcapa, _⟩ := hm.form (k := 3) rfl
    simp only at hva hcapa
    subst hva
    have HM := Lib.hid hm
    have HOv := Lib.hid hov
    have H32 := Lib.hid hal32
    have HFi := Lib.hid hfine
    clear hm hov hal32 hfine
    by_cases hlt : k < ds.length
    · obtain ⟨d, hd⟩ := get_some hlt
      obtain ⟨b3, o3, rfl, e0, e1, e2, e3, e4, e5⟩ := RowD.cells (hr3.below HM.out.below) hd
      have HN := Lib.hid (runG_succ (n := n) (es := es) hd)
      have HLc := Lib.hid (show (stG n es ds k).1.length = k by unfold stG; rw [runG_length, List.length_take]; omega)
      change Hid (stG n es ds (k + 1) = ((stG n es ds k).1 ++ [(stepG (stG n es ds k).2 d).1], (stepG (stG n es ds k).2 d).2)) at HN
      have hdp := HP32.out d (List.mem_of_getElem? hd)
      have HFn := Lib.hid (fineG_step HFi.out hdp)
      clear hd
      generalize (stG n es ds k).1 = cd at *
      generalize (stG n es ds k).2 = s at *
      obtain ⟨kind, who, tgt, lev, parts, val⟩ := d
      simp only at e0 e1 e2 e3 e4 e5 hdp
      have HM1 := Lib.hid (show RowsM w (rowsG gN gR gO s.n (.slice Aa all.length ca) all vc cd 0 (.slice none 0 0) [] [⟨46, 6, .slice (some ⟨wr.heap.size, 0, none⟩) 1 1, 1, [.int .i64 kind, .int .i64 who, .int .i64 tgt, .int .i64 lev, .int .u32 (parts : Int), .int .i64 val]⟩]) _ from
        HM.out.newAlloc (cs := #[.int .i64 kind, .int .i64 who, .int .i64 tgt, .int .i64 lev, .int .u32 (parts : Int), .int .i64 val]) (t := 46) 6 1 (by decide) rfl)
      obtain ⟨q, s', hq⟩ : ∃ q s', stepG s ⟨kind, who, tgt, lev, parts, val⟩ = (q, s') := ⟨_, _, rfl⟩
      rw [hq] at HN HFn
      simp only at HN HFn
      have HQ := Lib.hid hq
      clear hq
      have hns := HFi.out.2.1
      go_upto_region 8 with fail
      generalize wr.alloc _ = w1 at *
      generalize wr.heap.size = sz at *
      clear e0 e1 e2 e3 e4 e5 HM
      have f0 := HM1.out.cell (k := 6) rfl (j := 0) rfl
      have f1 := HM1.out.cell (k := 6) rfl (j := 1) rfl
      have f2 := HM1.out.cell (k := 6) rfl (j := 2) rfl
      have f3 := HM1.out.cell (k := 6) rfl (j := 3) rfl
      have f4 := HM1.out.cell (k := 6) rfl (j := 4) rfl
      have fN := HM1.out.cell (k := 0) rfl (j := 0) rfl
      have hHere := fun i b hb => gHere_any i s.n gN b w1 hb fN
      go_upto_region 10 with fail
      go_cut [42] (fun v wx => ∃ bb : Bool, v = .bool bb ∧ bb = decide (kind < 1 ∨ 4 < kind) ∧ wx = w1)
      case first =>
        by_cases hk1 : kind < 1
        · have HD := Lib.hid (decide_eq_true (show kind < 1 ∨ 4 < kind from .inl hk1))
          go_wp2_with fail
          go_meet
          exact ⟨_, rfl, HD.out.symm, rfl⟩
        · by_cases hk2 : 4 < kind
          · have HD := Lib.hid (decide_eq_true (show kind < 1 ∨ 4 < kind from .inr hk2))
            go_wp2_with fail
            go_meet
            exact ⟨_, rfl, HD.out.symm, rfl⟩
          · have HD := Lib.hid (decide_eq_false (show ¬ (kind < 1 ∨ 4 < kind) by omega))
            go_wp2_with fail
            go_meet
            exact ⟨_, rfl, HD.out.symm, rfl⟩
      case rest =>
      obtain ⟨bb, rfl, hbb, hwc⟩ := hcut
      obtain rfl := hwc.symm
      have HBB := Lib.hid hbb
      clear hbb
      go_upto_if 42 with fail
      go_cut [12, 8] (fun ev av wx => ev = .int .i64 q ∧ ∃ all' : List Ed, (∀ a b : Nat, overL all' a b = s'.ov a b) ∧ E32 all' ∧ all'.length ≤ 20 + (k + 1) ∧ RowsM w (rowsG gN gR gO s'.n av all' vc cd 0 (.slice none 0 0) [] [⟨46, 6, .slice (some ⟨sz, 0, none⟩) 1 1, 1, [.int .i64 kind, .int .i64 who, .int .i64 tgt, .int .i64 lev, .int .u32 (parts : Int), .int .i64 val]⟩]) wx)
      case first =>
        by_cases hk0 : kind < 1 ∨ 4 < kind
        · obtain rfl : bb = true := by rw [HBB.out]; exact decide_eq_true hk0
          as_aux_lemma =>
            obtain ⟨rfl, rfl⟩ : (6 : Int) = q ∧ s = s' := by
              have := HQ.out
              unfold stepG at this
              rw [if_pos (by simp only; omega)] at this
              simpa using this
            go_wp2_with fail
            go_meet
            exact ⟨rfl, all, HOv.out, H32.out, by omega, HM1.out⟩
        · obtain rfl : bb = false := by rw [HBB.out]; exact decide_eq_false hk0
          · by_cases hw : 0 ≤ who ∧ who < s.n
            · obtain ⟨b, rfl⟩ := Int.eq_ofNat_of_zero_le hw.1
              by_cases hk3 : kind = 3
              · subst hk3
                by_cases hf : 14 ≤ s.n
                · as_aux_lemma =>
                    obtain ⟨rfl, rfl⟩ : (1 : Int) = q ∧ s = s' := by
                      have := HQ.out
                      unfold stepG at this
                      rw [if_neg (by simp), if_neg (by unfold BadG; simp only; omega)] at this
                      rw [if_neg (by simp), if_neg (by simp), if_pos rfl, if_pos hf] at this
                      simpa using this
                    go_wp2_with fail
                    refine (hHere (b : Int) true (by rw [decide_eq_true_iff]; omega)).mono ?_
                    rintro e wz ⟨rfl, hwz⟩
                    obtain rfl := hwz.symm
                    go_wp2_with fail
                    go_meet
                    exact ⟨rfl, all, HOv.out, H32.out, by omega, HM1.out⟩
                · as_aux_lemma =>
                    have HQS := Lib.hid (show (0 : Int) = q ∧ (⟨s.n + 1, updO s.ov b s.n (s.ov b s.n ||| 3)⟩ : Gs) = s' by
                      have := HQ.out
                      unfold stepG at this
                      rw [if_neg (by simp), if_neg (by unfold BadG; simp only; omega)] at this
                      rw [if_neg (by simp), if_neg (by simp), if_pos rfl, if_neg hf] at this
                      simpa using this)
                    go_wp2_with fail
                    refine (hHere (b : Int) true (by rw [decide_eq_true_iff]; omega)).mono ?_
                    rintro e wz ⟨rfl, hwz⟩
                    obtain rfl := hwz.symm
                    have HMA := Lib.hid (HM1.out.grow ((Below.refl w1.heap.size w1).alloc (Nat.le_refl _) (.cells #[.int .i64 (b : Int), .int .i64 (s.n : Int), .int .u32 (3 : Int)] 63)))
                    go_wp2_with (at_builtin; refine wpList_append_ed rfl _ _ rfl 3 all.length _ all HMA.out rfl rfl (some ⟨w1.heap.size, 0, none⟩) [((b : Int), (s.n : Int), 3)] 1 rfl (row_new w1 w1.heap.size rfl _ 63) (by simp only [List.length_cons, List.length_nil]; omega) ?_)
                    intro A9 c9 w9 hn9
                    have HM9 := Lib.hid (show RowsM w (rowsG gN gR gO s.n (.slice A9 (all.length + 1) c9) (all ++ [((b : Int), (s.n : Int), 3)]) vc cd 0 (.slice none 0 0) [] [⟨46, 6, .slice (some ⟨sz, 0, none⟩) 1 1, 1, [.int .i64 3, .int .i64 (b : Int), .int .i64 tgt, .int .i64 lev, .int .u32 (parts : Int), .int .i64 val]⟩]) w9 by rw [← rowsG_app]; exact hn9)
                    clear hn9 HMA
                    have n0 := HM9.out.cell (k := 0) rfl (j := 0) rfl
                    have n1 := HM9.out.free (k := 0) rfl 0
                    have hn := HM9.out.store (k := 0) rfl 0 (.int .i64 ((s.n + 1 : Nat) : Int))
                    have HMn := Lib.hid (show RowsM w (rowsG gN gR gO (s.n + 1) (.slice A9 (all.length + 1) c9) (all ++ [((b : Int), (s.n : Int), 3)]) vc cd 0 (.slice none 0 0) [] [⟨46, 6, .slice (some ⟨sz, 0, none⟩) 1 1, 1, [.int .i64 3, .int .i64 (b : Int), .int .i64 tgt, .int .i64 lev, .int .u32 (parts : Int), .int .i64 val]⟩]) (w9.setCell ⟨gN, 0, none⟩ (.int .i64 ((s.n : Int) + 1))) from hn)
                    clear hn
                    go_wp2_with fail
                    go_meet
                    obtain ⟨rfl, rfl⟩ := HQS.out
                    exact ⟨rfl, all ++ [((b : Int), (s.n : Int), 3)], add_over HOv.out b s.n 3, E32.app H32.out (show 3 < 4294967296 by decide), by rw [List.length_append]; simp only [List.length_cons, List.length_nil]; omega, HMn.out⟩
              · by_cases ht : 0 ≤ tgt ∧ tgt < s.n
                · by_cases hbt : tgt = b
                  · subst hbt
                    as_aux_lemma =>
                      obtain ⟨rfl, rfl⟩ : (2 : Int) = q ∧ s = s' := by
                        have := HQ.out
                        unfold stepG at this
                        rw [if_neg (by simp only; omega), if_pos (by unfold BadG; first | (simp only; omega) | (simp; done) | (simp; omega))] at this
                        simpa using this
                      go_wp2_with fail
                      refine (hHere (b : Int) true (by rw [decide_eq_true_iff]; omega)).mono ?_
                      rintro e wz ⟨rfl, hwz⟩
                      obtain rfl := hwz.symm
                      go_wp2_with fail
                      refine (hHere (b : Int) true (by rw [decide_eq_true_iff]; omega)).mono ?_
                      rintro e wz ⟨rfl, hwz⟩
                      obtain rfl := hwz.symm
                      go_wp2_with fail
                      go_meet
                      exact ⟨rfl, all, HOv.out, H32.out, by omega, HM1.out⟩
                  · obtain ⟨t, rfl⟩ := Int.eq_ofNat_of_zero_le ht.1
                    have hkc : kind = 1 ∨ kind = 2 ∨ kind = 4 := by omega
                    rcases hkc with rfl | rfl | rfl
                    · by_cases hl : 0 ≤ lev ∧ lev < s.n
                      · by_cases hlw : lev = b
                        · subst hlw
                          as_aux_lemma =>
                            obtain ⟨rfl, rfl⟩ : (2 : Int) = q ∧ s = s' := by
                              have := HQ.out
                              unfold stepG at this
                              rw [if_neg (by simp only; omega), if_pos (by unfold BadG; first | (simp only; omega) | (simp; done) | (simp; omega))] at this
                              simpa using this
                            have hbb : ((t : Int) == (b : Int)) = false := by rw [beq_eq_false_iff_ne]; omega
                            go_wp2_with fail
                            refine (hHere (b : Int) true (by rw [decide_eq_true_iff]; omega)).mono ?_
                            rintro e wz ⟨rfl, hwz⟩
                            obtain rfl := hwz.symm
                            go_wp2_with fail
                            refine (hHere (t : Int) true (by rw [decide_eq_true_iff]; omega)).mono ?_
                            rintro e wz ⟨rfl, hwz⟩
                            obtain rfl := hwz.symm
                            go_wp2_with fail
                            refine (hHere (b : Int) true (by rw [decide_eq_true_iff]; omega)).mono ?_
                            rintro e wz ⟨rfl, hwz⟩
                            obtain rfl := hwz.symm
                            go_wp2_with fail
                            go_meet
                            exact ⟨rfl, all, HOv.out, H32.out, by omega, HM1.out⟩
                        · as_aux_lemma =>
                            obtain ⟨o, rfl⟩ := Int.eq_ofNat_of_zero_le (show 0 ≤ lev by omega)
                            have HQ2 := Lib.hid (show giveG s o b ((s.ov b t).testBit 0) t parts = (q, s') by
                              have := HQ.out
                              unfold stepG at this
                              rw [if_neg (by simp), if_neg (by unfold BadG; simp only; omega)] at this
                              simpa using this)
                            have kO1 := fun W (hb : Below w1.heap.size w1 W) => Over_any all Aa ca b t W H32.out (by omega) ((HM1.out.row (k := 3) rfl).below hb)
                            have kO2 := fun W (hb : Below w1.heap.size w1 W) => Over_any all Aa ca t o W H32.out (by omega) ((HM1.out.row (k := 3) rfl).below hb)
                            have e1 := HOv.out b t
                            have e2 := HOv.out t o
                            simp only [e1] at kO1
                            simp only [e2] at kO2
                            have u1 := HFi.out.2.2.1 b t
                            have u2 := HFi.out.2.2.1 t o
                            have hsw := sub_one (x := s.ov b t)
                            have HB9 := Lib.hid (show b < s.n ∧ t < s.n ∧ o < s.n by omega)
                            clear e1 e2
                            obtain ⟨may, hmay⟩ : ∃ may, (s.ov b t).testBit 0 = may := ⟨_, rfl⟩
                            rw [hmay] at HQ2 hsw
                            obtain ⟨has, hhas⟩ : ∃ has, sub parts (s.ov t o) = has := ⟨_, rfl⟩
                            have HHas := Lib.hid hhas
                            generalize hx1 : s.ov b t = x1 at *
                            generalize hx2 : s.ov t o = x2 at *
                            have hbb : ((t : Int) == (b : Int)) = false := by rw [beq_eq_false_iff_ne]; omega
                            have hbc : ((o : Int) == (b : Int)) = false := by rw [beq_eq_false_iff_ne]; omega
                            go_wp2_with fail
                            refine (hHere (b : Int) true (by rw [decide_eq_true_iff]; omega)).mono ?_
                            rintro e wz ⟨rfl, hwz⟩
                            obtain rfl := hwz.symm
                            go_wp2_with fail
                            refine (hHere (t : Int) true (by rw [decide_eq_true_iff]; omega)).mono ?_
                            rintro e wz ⟨rfl, hwz⟩
                            obtain rfl := hwz.symm
                            go_wp2_with fail
                            refine (hHere (o : Int) true (by rw [decide_eq_true_iff]; omega)).mono ?_
                            rintro e wz ⟨rfl, hwz⟩
                            obtain rfl := hwz.symm
                            go_wp2_with fail
                            refine (kO1 _ (Below.refl _ _)).mono ?_
                            rintro e ws1 ⟨rfl, hbs1⟩
                            have HMs1 := Lib.hid (HM1.out.grow hbs1)
                            have HBs1 := Lib.hid hbs1
                            clear hbs1 kO1
                            have g0 := HMs1.out.cell (k := 6) rfl (j := 0) rfl
                            have g1 := HMs1.out.cell (k := 6) rfl (j := 1) rfl
                            have g2 := HMs1.out.cell (k := 6) rfl (j := 2) rfl
                            go_wp2_with fail
                            refine (In_any 1 x1 (by decide) u1 _).mono ?_
                            rintro e ws1' ⟨rfl, rfl⟩
                            rw [show (1 ||| x1 == x1) = may from hsw]
                            cases may with
                            | false =>
                              obtain ⟨rfl, rfl⟩ : (7 : Int) = q ∧ s = s' := by
                                have := HQ2.out
                                unfold giveG at this
                                simpa using this
                              go_wp2_with fail
                              go_meet
                              exact ⟨rfl, all, HOv.out, H32.out, by omega, HMs1.out⟩
                            | true =>
                              go_wp2_with fail
                              refine (kO2 _ HBs1.out).mono ?_
                              rintro e ws2 ⟨rfl, hbs2⟩
                              have HMs2 := Lib.hid (HMs1.out.grow hbs2)
                              clear hbs2 kO2 g0 g1 g2
                              have g0 := HMs2.out.cell (k := 6) rfl (j := 0) rfl
                              have g1 := HMs2.out.cell (k := 6) rfl (j := 1) rfl
                              have g2 := HMs2.out.cell (k := 6) rfl (j := 2) rfl
                              go_wp2_with fail
                              refine (In_any parts x2 hdp u2 _).mono ?_
                              rintro e ws2' ⟨rfl, rfl⟩
                              rw [show (parts ||| x2 == x2) = has from hhas]
                              clear hhas
                              cases has with
                              | false =>
                                obtain ⟨rfl, rfl⟩ : (7 : Int) = q ∧ s = s' := by
                                  have := HQ2.out
                                  unfold giveG at this
                                  rw [hx2, HHas.out] at this
                                  simpa using this
                                go_wp2_with fail
                                go_meet
                                exact ⟨rfl, all, HOv.out, H32.out, by omega, HMs2.out⟩
                              | true =>
                                have HQS := Lib.hid (show (0 : Int) = q ∧ (⟨s.n, updO s.ov b o (s.ov b o ||| parts)⟩ : Gs) = s' by
                                  have := HQ2.out
                                  unfold giveG at this
                                  rw [hx2, HHas.out] at this
                                  simpa using this)
                                have HMA := Lib.hid (HMs2.out.grow ((Below.refl ws2.heap.size ws2).alloc (Nat.le_refl _) (.cells #[.int .i64 (b : Int), .int .i64 (o : Int), .int .u32 (parts : Int)] 63)))
                                go_wp2_with (at_builtin; refine wpList_append_ed rfl _ _ rfl 3 all.length _ all HMA.out rfl rfl (some ⟨ws2.heap.size, 0, none⟩) [((b : Int), (o : Int), parts)] 1 rfl (row_new ws2 ws2.heap.size rfl _ 63) (by simp only [List.length_cons, List.length_nil]; omega) ?_)
                                intro A9 c9 w9 hn9
                                have HM9 := Lib.hid (show RowsM w (rowsG gN gR gO s.n (.slice A9 (all.length + 1) c9) (all ++ [((b : Int), (o : Int), parts)]) vc cd 0 (.slice none 0 0) [] [⟨46, 6, .slice (some ⟨sz, 0, none⟩) 1 1, 1, [.int .i64 1, .int .i64 (b : Int), .int .i64 (t : Int), .int .i64 (o : Int), .int .u32 (parts : Int), .int .i64 val]⟩]) w9 by rw [← rowsG_app]; exact hn9)
                                clear hn9 HMA
                                go_wp2_with fail
                                go_meet
                                obtain ⟨rfl, rfl⟩ := HQS.out
                                exact ⟨rfl, all ++ [((b : Int), (o : Int), parts)], add_over HOv.out b o parts, E32.app H32.out hdp, by rw [List.length_append]; simp only [List.length_cons, List.length_nil]; omega, HM9.out⟩
                      · as_aux_lemma =>
                          obtain ⟨rfl, rfl⟩ : (2 : Int) = q ∧ s = s' := by
                            have := HQ.out
                            unfold stepG at this
                            rw [if_neg (by simp only; omega), if_pos (by unfold BadG; first | (simp only; omega) | (simp; done) | (simp; omega))] at this
                            simpa using this
                          have hbb : ((t : Int) == (b : Int)) = false := by rw [beq_eq_false_iff_ne]; omega
                          go_wp2_with fail
                          refine (hHere (b : Int) true (by rw [decide_eq_true_iff]; omega)).mono ?_
                          rintro e wz ⟨rfl, hwz⟩
                          obtain rfl := hwz.symm
                          go_wp2_with fail
                          refine (hHere (t : Int) true (by rw [decide_eq_true_iff]; omega)).mono ?_
                          rintro e wz ⟨rfl, hwz⟩
                          obtain rfl := hwz.symm
                          go_wp2_with fail
                          refine (hHere lev false (by rw [decide_eq_false_iff_not]; omega)).mono ?_
                          rintro e wz ⟨rfl, hwz⟩
                          obtain rfl := hwz.symm
                          go_wp2_with fail
                          go_meet
                          exact ⟨rfl, all, HOv.out, H32.out, by omega, HM1.out⟩
                    · by_cases hl : 0 ≤ lev ∧ lev < s.n
                      · by_cases hlw : lev = t
                        · subst hlw
                          as_aux_lemma =>
                            obtain ⟨rfl, rfl⟩ : (2 : Int) = q ∧ s = s' := by
                              have := HQ.out
                              unfold stepG at this
                              rw [if_neg (by simp only; omega), if_pos (by unfold BadG; first | (simp only; omega) | (simp; done) | (simp; omega))] at this
                              simpa using this
                            have hbb : ((t : Int) == (b : Int)) = false := by rw [beq_eq_false_iff_ne]; omega
                            go_wp2_with fail
                            refine (hHere (b : Int) true (by rw [decide_eq_true_iff]; omega)).mono ?_
                            rintro e wz ⟨rfl, hwz⟩
                            obtain rfl := hwz.symm
                            go_wp2_with fail
                            refine (hHere (t : Int) true (by rw [decide_eq_true_iff]; omega)).mono ?_
                            rintro e wz ⟨rfl, hwz⟩
                            obtain rfl := hwz.symm
                            go_wp2_with fail
                            refine (hHere (t : Int) true (by rw [decide_eq_true_iff]; omega)).mono ?_
                            rintro e wz ⟨rfl, hwz⟩
                            obtain rfl := hwz.symm
                            go_wp2_with fail
                            go_meet
                            exact ⟨rfl, all, HOv.out, H32.out, by omega, HM1.out⟩
                        · as_aux_lemma =>
                            obtain ⟨o, rfl⟩ := Int.eq_ofNat_of_zero_le (show 0 ≤ lev by omega)
                            have HQ2 := Lib.hid (show giveG s o t ((s.ov b t).testBit 1) b parts = (q, s') by
                              have := HQ.out
                              unfold stepG at this
                              rw [if_neg (by simp), if_neg (by unfold BadG; simp only; omega)] at this
                              simpa using this)
                            have kO1 := fun W (hb : Below w1.heap.size w1 W) => Over_any all Aa ca b t W H32.out (by omega) ((HM1.out.row (k := 3) rfl).below hb)
                            have kO2 := fun W (hb : Below w1.heap.size w1 W) => Over_any all Aa ca b o W H32.out (by omega) ((HM1.out.row (k := 3) rfl).below hb)
                            have e1 := HOv.out b t
                            have e2 := HOv.out b o
                            simp only [e1] at kO1
                            simp only [e2] at kO2
                            have u1 := HFi.out.2.2.1 b t
                            have u2 := HFi.out.2.2.1 b o
                            have hsw := sub_two (x := s.ov b t)
                            have HB9 := Lib.hid (show b < s.n ∧ t < s.n ∧ o < s.n by omega)
                            clear e1 e2
                            obtain ⟨may, hmay⟩ : ∃ may, (s.ov b t).testBit 1 = may := ⟨_, rfl⟩
                            rw [hmay] at HQ2 hsw
                            obtain ⟨has, hhas⟩ : ∃ has, sub parts (s.ov b o) = has := ⟨_, rfl⟩
                            have HHas := Lib.hid hhas
                            generalize hx1 : s.ov b t = x1 at *
                            generalize hx2 : s.ov b o = x2 at *
                            have hbb : ((t : Int) == (b : Int)) = false := by rw [beq_eq_false_iff_ne]; omega
                            have hbc : ((o : Int) == (t : Int)) = false := by rw [beq_eq_false_iff_ne]; omega
                            go_wp2_with fail
                            refine (hHere (b : Int) true (by rw [decide_eq_true_iff]; omega)).mono ?_
                            rintro e wz ⟨rfl, hwz⟩
                            obtain rfl := hwz.symm
                            go_wp2_with fail
                            refine (hHere (t : Int) true (by rw [decide_eq_true_iff]; omega)).mono ?_
                            rintro e wz ⟨rfl, hwz⟩
                            obtain rfl := hwz.symm
                            go_wp2_with fail
                            refine (hHere (o : Int) true (by rw [decide_eq_true_iff]; omega)).mono ?_
                            rintro e wz ⟨rfl, hwz⟩
                            obtain rfl := hwz.symm
                            go_wp2_with fail
                            refine (kO1 _ (Below.refl _ _)).mono ?_
                            rintro e ws1 ⟨rfl, hbs1⟩
                            have HMs1 := Lib.hid (HM1.out.grow hbs1)
                            have HBs1 := Lib.hid hbs1
                            clear hbs1 kO1
                            have g0 := HMs1.out.cell (k := 6) rfl (j := 0) rfl
                            have g1 := HMs1.out.cell (k := 6) rfl (j := 1) rfl
                            have g2 := HMs1.out.cell (k := 6) rfl (j := 2) rfl
                            go_wp2_with fail
                            refine (In_any 2 x1 (by decide) u1 _).mono ?_
                            rintro e ws1' ⟨rfl, rfl⟩
                            rw [show (2 ||| x1 == x1) = may from hsw]
                            cases may with
                            | false =>
                              obtain ⟨rfl, rfl⟩ : (7 : Int) = q ∧ s = s' := by
                                have := HQ2.out
                                unfold giveG at this
                                simpa using this
                              go_wp2_with fail
                              go_meet
                              exact ⟨rfl, all, HOv.out, H32.out, by omega, HMs1.out⟩
                            | true =>
                              go_wp2_with fail
                              refine (kO2 _ HBs1.out).mono ?_
                              rintro e ws2 ⟨rfl, hbs2⟩
                              have HMs2 := Lib.hid (HMs1.out.grow hbs2)
                              clear hbs2 kO2 g0 g1 g2
                              have g0 := HMs2.out.cell (k := 6) rfl (j := 0) rfl
                              have g1 := HMs2.out.cell (k := 6) rfl (j := 1) rfl
                              have g2 := HMs2.out.cell (k := 6) rfl (j := 2) rfl
                              go_wp2_with fail
                              refine (In_any parts x2 hdp u2 _).mono ?_
                              rintro e ws2' ⟨rfl, rfl⟩
                              rw [show (parts ||| x2 == x2) = has from hhas]
                              clear hhas
                              cases has with
                              | false =>
                                obtain ⟨rfl, rfl⟩ : (7 : Int) = q ∧ s = s' := by
                                  have := HQ2.out
                                  unfold giveG at this
                                  rw [hx2, HHas.out] at this
                                  simpa using this
                                go_wp2_with fail
                                go_meet
                                exact ⟨rfl, all, HOv.out, H32.out, by omega, HMs2.out⟩
                              | true =>
                                have HQS := Lib.hid (show (0 : Int) = q ∧ (⟨s.n, updO s.ov t o (s.ov t o ||| parts)⟩ : Gs) = s' by
                                  have := HQ2.out
                                  unfold giveG at this
                                  rw [hx2, HHas.out] at this
                                  simpa using this)
                                have HMA := Lib.hid (HMs2.out.grow ((Below.refl ws2.heap.size ws2).alloc (Nat.le_refl _) (.cells #[.int .i64 (t : Int), .int .i64 (o : Int), .int .u32 (parts : Int)] 63)))
                                go_wp2_with (at_builtin; refine wpList_append_ed rfl _ _ rfl 3 all.length _ all HMA.out rfl rfl (some ⟨ws2.heap.size, 0, none⟩) [((t : Int), (o : Int), parts)] 1 rfl (row_new ws2 ws2.heap.size rfl _ 63) (by simp only [List.length_cons, List.length_nil]; omega) ?_)
                                intro A9 c9 w9 hn9
                                have HM9 := Lib.hid (show RowsM w (rowsG gN gR gO s.n (.slice A9 (all.length + 1) c9) (all ++ [((t : Int), (o : Int), parts)]) vc cd 0 (.slice none 0 0) [] [⟨46, 6, .slice (some ⟨sz, 0, none⟩) 1 1, 1, [.int .i64 2, .int .i64 (b : Int), .int .i64 (t : Int), .int .i64 (o : Int), .int .u32 (parts : Int), .int .i64 val]⟩]) w9 by rw [← rowsG_app]; exact hn9)
                                clear hn9 HMA
                                go_wp2_with fail
                                go_meet
                                obtain ⟨rfl, rfl⟩ := HQS.out
                                exact ⟨rfl, all ++ [((t : Int), (o : Int), parts)], add_over HOv.out t o parts, E32.app H32.out hdp, by rw [List.length_append]; simp only [List.length_cons, List.length_nil]; omega, HM9.out⟩
                      · as_aux_lemma =>
                          obtain ⟨rfl, rfl⟩ : (2 : Int) = q ∧ s = s' := by
                            have := HQ.out
                            unfold stepG at this
                            rw [if_neg (by simp only; omega), if_pos (by unfold BadG; first | (simp only; omega) | (simp; done) | (simp; omega))] at this
                            simpa using this
                          have hbb : ((t : Int) == (b : Int)) = false := by rw [beq_eq_false_iff_ne]; omega
                          go_wp2_with fail
                          refine (hHere (b : Int) true (by rw [decide_eq_true_iff]; omega)).mono ?_
                          rintro e wz ⟨rfl, hwz⟩
                          obtain rfl := hwz.symm
                          go_wp2_with fail
                          refine (hHere (t : Int) true (by rw [decide_eq_true_iff]; omega)).mono ?_
                          rintro e wz ⟨rfl, hwz⟩
                          obtain rfl := hwz.symm
                          go_wp2_with fail
                          refine (hHere lev false (by rw [decide_eq_false_iff_not]; omega)).mono ?_
                          rintro e wz ⟨rfl, hwz⟩
                          obtain rfl := hwz.symm
                          go_wp2_with fail
                          go_meet
                          exact ⟨rfl, all, HOv.out, H32.out, by omega, HM1.out⟩
                    · as_aux_lemma =>
                        have HQS := Lib.hid (show (0 : Int) = q ∧ ({ s with ov := updO s.ov b t (wo (s.ov b t) parts) } : Gs) = s' by
                          have := HQ.out
                          unfold stepG at this
                          rw [if_neg (by simp), if_neg (by unfold BadG; simp only; omega)] at this
                          rw [if_neg (by simp), if_neg (by simp), if_neg (by simp)] at this
                          simpa using this)
                        have hbb : ((t : Int) == (b : Int)) = false := by rw [beq_eq_false_iff_ne]; omega
                        go_wp2_with fail
                        refine (hHere (b : Int) true (by rw [decide_eq_true_iff]; omega)).mono ?_
                        rintro e wz ⟨rfl, hwz⟩
                        obtain rfl := hwz.symm
                        go_wp2_with fail
                        refine (hHere (t : Int) true (by rw [decide_eq_true_iff]; omega)).mono ?_
                        rintro e wz ⟨rfl, hwz⟩
                        obtain rfl := hwz.symm
                        have HDr := Lib.hid (show RowsM w (rowsH gN gR gO s.n (.slice Aa all.length ca) all.length (edgesC (dropL (all.take 0) b t parts ++ all.drop 0)) vc cd 0 (.slice none 0 0) [] [⟨46, 6, .slice (some ⟨sz, 0, none⟩) 1 1, 1, [.int .i64 4, .int .i64 (b : Int), .int .i64 (t : Int), .int .i64 lev, .int .u32 (parts : Int), .int .i64 val]⟩]) w1 from HM1.out)
                        have hlen : ∀ i, i ≤ all.length → (dropL (all.take i) b t parts ++ all.drop i).length = all.length := fun i hi => by rw [List.length_append, dropL_length, List.length_take, List.length_drop]; omega
                        have HLen := Lib.hid hlen
                        clear hlen
                        go_wp2_with fail
                        go_loopw [15] (fun iv wx => ∃ i : Nat, iv = .int .i64 i ∧ i ≤ all.length ∧ RowsM w (rowsH gN gR gO s.n (.slice Aa all.length ca) all.length (edgesC (dropL (all.take i) b t parts ++ all.drop i)) vc cd 0 (.slice none 0 0) [] [⟨46, 6, .slice (some ⟨sz, 0, none⟩) 1 1, 1, [.int .i64 4, .int .i64 (b : Int), .int .i64 (t : Int), .int .i64 lev, .int .u32 (parts : Int), .int .i64 val]⟩]) wx) (fun iv _ => all.length - (intOf iv).toNat)
                        case atStart => exact ⟨0, rfl, Nat.zero_le _, HDr.out⟩
                        case round =>
                          clear HDr
                          obtain ⟨i, rfl, hi, hm⟩ := hrel
                          by_cases hlt2 : i < all.length
                          · obtain ⟨e, he⟩ := get_some hlt2
                            obtain ⟨hd1, hd2, hd3⟩ := drop_next he (b : Int) (t : Int) parts
                            have hre := H32.out e (List.mem_of_getElem? he)
                            rw [hd1] at hm
                            obtain ⟨gE, cE, hAa, _⟩ := hm.solid (k := 3) rfl (by show 0 < all.length; omega)
                            simp only [Value.slice.injEq, true_and] at hAa
                            obtain ⟨rfl, rfl⟩ := hAa
                            have hget : (dropL (all.take i) b t parts ++ e :: all.drop (i + 1))[i]? = some e := by
                              rw [List.getElem?_append_right (by omega), hd3]; simp
                            have x0 := hm.cell (k := 3) rfl (j := i * 3) (edgesC_at hget (j := 0) (by omega))
                            have x1 := hm.cell (k := 3) rfl (j := i * 3 + 1) (edgesC_at hget (j := 1) (by omega))
                            have x2 := hm.cell (k := 3) rfl (j := i * 3 + 2) (edgesC_at hget (j := 2) (by omega))
                            have x3 := hm.free (k := 3) rfl (i * 3 + 2)
                            have g1 := hm.cell (k := 6) rfl (j := 1) rfl
                            have g2 := hm.cell (k := 6) rfl (j := 2) rfl
                            obtain ⟨f, u, r⟩ := e
                            have x0 : wr.cell? ⟨gE, i * 3, none⟩ = some (.int .i64 f) := x0
                            have x1 : wr.cell? ⟨gE, i * 3 + 1, none⟩ = some (.int .i64 u) := x1
                            have x2 : wr.cell? ⟨gE, i * 3 + 2, none⟩ = some (.int .u32 (r : Int)) := x2
                            simp only at hre
                            have HD2 := Lib.hid hd2
                            have HD3 := Lib.hid hd3
                            have HGet := Lib.hid hget
                            have HMi := Lib.hid hm
                            have hwo := u32_wo hre hdp
                            have hil : (i : Int) < all.length := by omega
                            clear hd1 hd2 hd3 hget hm he
                            by_cases hfu : f = b ∧ u = t
                            · obtain ⟨rfl, rfl⟩ := hfu
                              go_wp2_with fail
                              go_quiet (fail)
                              have hn := (HMi.out.drewN nq).store (k := 3) rfl (i * 3 + 2) (.int .u32 ((wo r parts : Nat) : Int))
                              have HNx := Lib.hid (show RowsM w (rowsH gN gR gO s.n (.slice (some ⟨gE, 0, none⟩) all.length ca) all.length (edgesC (dropL (all.take (i + 1)) b t parts ++ all.drop (i + 1))) vc cd 0 (.slice none 0 0) [] [⟨46, 6, .slice (some ⟨sz, 0, none⟩) 1 1, 1, [.int .i64 4, .int .i64 (b : Int), .int .i64 (t : Int), .int .i64 lev, .int .u32 (parts : Int), .int .i64 val]⟩]) _ by
                                have h := hn
                                rw [edgesC_set _ _ _ _ _ _ HGet.out, set_mid HD3.out] at h
                                rw [HD2.out, if_pos (by simp)]
                                exact h)
                              clear hn
                              go_wp2
                              go_roundw
                              case rel => exact ⟨i + 1, by go_num, by omega, HNx.out⟩
                              case measure => simp [intOf]; omega
                            · have HNx := Lib.hid (show RowsM w (rowsH gN gR gO s.n (.slice (some ⟨gE, 0, none⟩) all.length ca) all.length (edgesC (dropL (all.take (i + 1)) b t parts ++ all.drop (i + 1))) vc cd 0 (.slice none 0 0) [] [⟨46, 6, .slice (some ⟨sz, 0, none⟩) 1 1, 1, [.int .i64 4, .int .i64 (b : Int), .int .i64 (t : Int), .int .i64 lev, .int .u32 (parts : Int), .int .i64 val]⟩]) wr by
                                have h := HMi.out
                                rw [HD2.out, if_neg hfu]
                                exact h)
                              by_cases hf1 : f = b
                              · subst hf1
                                have hub : (u == (t : Int)) = false := by rw [beq_eq_false_iff_ne]; intro e; exact hfu ⟨rfl, e⟩
                                clear hfu
                                go_wp2_with fail
                                go_quiet (fail)
                                go_wp2
                                go_roundw
                                case rel => exact ⟨i + 1, by go_num, by omega, HNx.out.drewN _⟩
                                case measure => simp [intOf]; omega
                              · have hub : (f == (b : Int)) = false := by rw [beq_eq_false_iff_ne]; exact hf1
                                clear hfu hf1
                                go_wp2_with fail
                                go_quiet (fail)
                                go_wp2
                                go_roundw
                                case rel => exact ⟨i + 1, by go_num, by omega, HNx.out.drewN _⟩
                                case measure => simp [intOf]; omega
                          · obtain rfl : i = all.length := by omega
                            rw [List.take_length, List.drop_length, List.append_nil] at hm
                            have HMi := Lib.hid (show RowsM w (rowsG gN gR gO s.n (.slice Aa all.length ca) (dropL all b t parts) vc cd 0 (.slice none 0 0) [] [⟨46, 6, .slice (some ⟨sz, 0, none⟩) 1 1, 1, [.int .i64 4, .int .i64 (b : Int), .int .i64 (t : Int), .int .i64 lev, .int .u32 (parts : Int), .int .i64 val]⟩]) wr by
                              rw [← rowsH_eq (dropL_length all b t parts)]
                              exact hm)
                            clear hm
                            go_wp2_with fail
                            go_meet
                            obtain ⟨rfl, rfl⟩ := HQS.out
                            exact ⟨rfl, dropL all b t parts, drop_over H32.out HOv.out hdp b t, dropL_E32 H32.out _ _ _, by rw [dropL_length]; omega, HMi.out⟩
                · as_aux_lemma =>
                    obtain ⟨rfl, rfl⟩ : (2 : Int) = q ∧ s = s' := by
                      have := HQ.out
                      unfold stepG at this
                      rw [if_neg (by simp only; omega), if_pos (by unfold BadG; first | (simp only; omega) | (simp; done) | (simp; omega))] at this
                      simpa using this
                    go_wp2_with fail
                    refine (hHere (b : Int) true (by rw [decide_eq_true_iff]; omega)).mono ?_
                    rintro e wz ⟨rfl, hwz⟩
                    obtain rfl := hwz.symm
                    go_wp2_with fail
                    refine (hHere tgt false (by rw [decide_eq_false_iff_not]; omega)).mono ?_
                    rintro e wz ⟨rfl, hwz⟩
                    obtain rfl := hwz.symm
                    go_wp2_with fail
                    go_meet
                    exact ⟨rfl, all, HOv.out, H32.out, by omega, HM1.out⟩
            · as_aux_lemma =>
                obtain ⟨rfl, rfl⟩ : (2 : Int) = q ∧ s = s' := by
                  have := HQ.out
                  unfold stepG at this
                  rw [if_neg (by simp only; omega), if_pos (by unfold BadG; first | (simp only; omega) | (simp; done) | (simp; omega))] at this
                  simpa using this
                go_wp2_with fail
                refine (hHere who false (by rw [decide_eq_false_iff_not]; omega)).mono ?_
                rintro e wz ⟨rfl, hwz⟩
                obtain rfl := hwz.symm
                go_wp2_with fail
                go_meet
                exact ⟨rfl, all, HOv.out, H32.out, by omega, HM1.out⟩
      case rest =>
      obtain ⟨rfl, all2, hov2, h322, hal2, hm2⟩ := hcut
      obtain ⟨A2, c2, hav, _, _⟩ := hm2.form (k := 3) rfl
      simp only at hav
      subst hav
      have HM2 := Lib.hid hm2
      have HOv2 := Lib.hid hov2
      have H322 := Lib.hid h322
      have o0 := HM2.out.cell (k := 2) rfl (j := 0) rfl
      have HMA := Lib.hid (HM2.out.grow ((Below.refl wc.heap.size wc).alloc (Nat.le_refl _) (.cells #[.int .i64 q] 27)))
      have hl31 : k + 1 ≤ 1000000 := by omega
      clear hm2 hov2 h322 HM1 f0 f1 f2 f3 f4 fN hHere HOv H32
      go_wp2_with (at_builtin; refine wpList_append_rm rfl _ _ 24 rfl 4 27 1 cd.length vc (ints cd) HMA.out rfl i1 (.int .i64 0) 8 Try.underlying24 HI1.out.1 HI1.out.2.1 HI1.out.2.2.1 HI1.out.2.2.2 rfl (by decide) rfl ⟨wc.heap.size, 0, none⟩ 1 1 [.int .i64 q] rfl rfl ?qnewsz ?qonez ?q63z ?qbyz ?qnextz)
      try (case qnewsz => exact row_news (row_new wc wc.heap.size rfl [.int .i64 q] 27))
      case qonez => first | rfl | (intro u hu; simp only [List.mem_cons, List.not_mem_nil, or_false] at hu; rcases hu with rfl; rfl)
      case q63z => have := HLc.out; unfold maxLen; omega
      case qbyz => have := HLc.out; omega
      case qnextz =>
        intro A9 c9 w9 hn9
        have y0 := hn9.cell (k := 2) rfl (j := 0) rfl
        have y1 := hn9.free (k := 2) rfl 0
        have hn := hn9.store (k := 2) rfl 0 (.slice A9 (cd.length + 1) c9)
        have HNx := Lib.hid (show RowsM w (rowsG gN gR gO s'.n (.slice A2 all2.length c2) all2 (.slice A9 (cd.length + 1) c9) (cd ++ [q]) 0 (.slice none 0 0) [] []) _ by
          have h := hn.take 6
          unfold rowsG
          rw [show (cd ++ [q]).length = cd.length + 1 by simp, show ints (cd ++ [q]) = ints cd ++ [.int .i64 q] by simp [ints]]
          exact h)
        clear hn9 hn
        go_wp2
        go_roundw
        case rel => exact ⟨k + 1, all2, _, by go_num, by omega, by rw [HN.out]; exact HOv2.out, H322.out, hal2, by rw [HN.out]; exact HFn.out, by rw [HN.out]; exact HNx.out⟩
        case measure => simp [intOf]; omega
    · obtain rfl : k = ds.length := by omega
      have hst : stG n es ds ds.length = runG n es ds := by unfold stG; rw [List.take_length]
      rw [hst] at HM HOv HFi
      have HLc := Lib.hid (runG_length n es ds)
      clear hst hlt hk
      have HRN := Lib.hid (rfl : runG n es ds = runG n es ds)
      obtain ⟨cd, hcd⟩ : ∃ cd, (runG n es ds).1 = cd := ⟨_, rfl⟩
      obtain ⟨s, hs⟩ : ∃ s, (runG n es ds).2 = s := ⟨_, rfl⟩
      rw [hcd, hs] at HM
      rw [hs] at HOv HFi
      rw [hcd] at HLc
      have HCd := Lib.hid hcd
      have HSs := Lib.hid hs
      clear hcd hs HRN
      have hns := HFi.out.2.1
      have f0 := HM.out.cell (k := 0) rfl (j := 0) rfl
      have f1 := HM.out.cell (k := 2) rfl (j := 1) rfl
      have f2 := HM.out.free (k := 2) rfl 1
      have hn := HM.out.store (k := 2) rfl 1 (.int .i64 (s.n : Int))
      have HM2 := Lib.hid (show RowsM w (rowsG gN gR gO s.n (.slice Aa all.length ca) all vc cd (s.n : Int) (.slice none 0 0) [] []) _ from hn)
      clear hn
      go_wp2
      clear f1 f2
      go_loopw [16] (fun iv wr => ∃ (a : Nat) (ve : Value), iv = .int .i64 a ∧ a ≤ s.n ∧ RowsM w (rowsG gN gR gO s.n (.slice Aa all.length ca) all vc cd (s.n : Int) ve (edgesA s a) []) wr) (fun iv _ => s.n - (intOf iv).toNat)
      case atStart => exact ⟨0, _, rfl, Nat.zero_le _, HM2.out⟩
      case round =>
        clear HM2 HM
        obtain ⟨a, ve, rfl, ha, hm⟩ := hrel
        have HM := Lib.hid hm
        have fN := hm.cell (k := 0) rfl (j := 0) rfl
        clear hm f0
        by_cases hlt : a < s.n
        · have hai : (a : Int) < s.n := by omega
          have HAl := Lib.hid (edgesA_len s a)
          go_wp2_with fail
          go_loopw [17] (fun jv wr => ∃ (b : Nat) (ve : Value), jv = .int .i64 b ∧ b ≤ s.n ∧ RowsM w (rowsG gN gR gO s.n (.slice Aa all.length ca) all vc cd (s.n : Int) ve (edgesA s a ++ edgesB s a b) []) wr) (fun jv _ => s.n - (intOf jv).toNat)
          case atStart => exact ⟨0, ve, rfl, Nat.zero_le _, by rw [show edgesB s a 0 = [] from rfl, List.append_nil]; exact HM.out⟩
          case round =>
            clear HM fN
            obtain ⟨b, ve, rfl, hb, hm⟩ := hrel
            have HM := Lib.hid hm
            have fN := hm.cell (k := 0) rfl (j := 0) rfl
            clear hm
            by_cases hlt2 : b < s.n
            · have hbi : (b : Int) < s.n := by omega
              have hoab := HOv.out a b
              have hu := HFi.out.2.2.1 a b
              have kO := fun W (hb : Below wr.heap.size wr W) => Over_any all Aa ca a b W H32.out (by omega) ((HM.out.row (k := 3) rfl).below hb)
              rw [hoab] at kO
              have HSc := Lib.hid (edgesB_succ s a b)
              have HBl := Lib.hid (edgesB_len s a b)
              generalize s.ov a b = x at *
              clear hoab
              go_wp2_with fail
              refine (kO _ (Below.refl _ _)).mono ?_
              rintro e w2 ⟨rfl, hb2⟩
              have HM2 := Lib.hid (HM.out.grow hb2)
              have HB2 := Lib.hid hb2
              clear hb2 fN
              have fN := HM2.out.cell (k := 0) rfl (j := 0) rfl
              by_cases hx : x = 0
              · subst hx
                rw [if_pos rfl, List.append_nil] at HSc
                go_wp2
                go_roundw
                case rel => exact ⟨b + 1, ve, by go_num, by omega, by rw [HSc.out]; exact HM2.out⟩
                case measure => simp [intOf]; omega
              · rw [if_neg hx] at HSc
                have hx0 : ((x : Int) != 0) = true := by simpa using hx
                clear hx
                go_upto_region 44 with fail
                have z2 := HM2.out.cell (k := 2) rfl (j := 2) rfl
                obtain ⟨Ae, ce, hve, _, _⟩ := HM2.out.form (k := 5) rfl
                simp only at hve
                subst hve
                have HMd := Lib.hid HM2.out.drew
                have z2d := HMd.out.cell (k := 2) rfl (j := 2) rfl
                generalize hge : edgesA s a ++ edgesB s a b = ge at *
                have hgl : ge.length ≤ 1000 := by
                  have h1 := HAl.out
                  have h2 := HBl.out
                  have h3 : a * s.n ≤ 14 * 14 := Nat.mul_le_mul (by omega) hns
                  rw [← hge, List.length_append]
                  omega
                have HNext := Lib.hid (show edgesA s a ++ edgesB s a (b + 1) = ge ++ [((a : Int), (b : Int), x)] by rw [HSc.out, ← List.append_assoc, hge])
                clear hge HM HM2 fN z2
                refine wp_region_held_drew (S := fun _ => True) (by kernel_rfl) trivial (fun hHeld => ?_)
                refine' wpAnyH_take (i := 0) (oi := ⟨some 234, _, _, _, _, none⟩) (v := _) rfl (by kernel_rfl) (by kernel_rfl) (by kernel_rfl) (fun _ _ _ h => h) (Or.inl ⟨by rfl, ?hyg1⟩) hHeld ?restg1
                case hyg1 => (intro W hSw; go_simp; try with_reducible rfl)
                simp only [Act.put, List.setIfInBounds_toArray, List.set_cons_zero, List.set_cons_succ]
                refine' wpAnyH_take (i := 2) (oi := ⟨some 236, _, _, _, _, none⟩) (v := _) rfl (by kernel_rfl) (by kernel_rfl) (by kernel_rfl) (fun _ _ _ h => h) (Or.inl ⟨by rfl, ?hyg2⟩) hHeld ?restg2
                case hyg2 => (intro W hSw; go_simp; try with_reducible rfl)
                simp only [Act.put, List.setIfInBounds_toArray, List.set_cons_zero, List.set_cons_succ]
                refine' wpAnyH_take (i := 3) (oi := ⟨some 237, _, _, _, _, none⟩) (v := _) rfl (by kernel_rfl) (by kernel_rfl) (by kernel_rfl) (fun _ _ _ h => h) (Or.inl ⟨by rfl, ?hyg3⟩) hHeld ?restg3
                case hyg3 => (intro W hSw; go_simp; try with_reducible rfl)
                simp only [Act.put, List.setIfInBounds_toArray, List.set_cons_zero, List.set_cons_succ]
                refine' wpAnyH_take (i := 4) (oi := ⟨some 238, _, _, _, _, none⟩) (v := _) rfl (by kernel_rfl) (by kernel_rfl) (by kernel_rfl) (fun _ _ _ h => h) (Or.inl ⟨by rfl, ?hyg4⟩) hHeld ?restg4
                case hyg4 => (intro W hSw; go_simp; try with_reducible rfl)
                simp only [Act.put, List.setIfInBounds_toArray, List.set_cons_zero, List.set_cons_succ]
                refine' wpAnyH_take (i := 5) (oi := ⟨some 239, _, _, _, _, none⟩) (v := _) rfl (by kernel_rfl) (by kernel_rfl) (by kernel_rfl) (fun _ _ _ h => h) (Or.inl ⟨by rfl, ?hyg5⟩) hHeld ?restg5
                case hyg5 => (intro W hSw; go_simp; try with_reducible rfl)
                simp only [Act.put, List.setIfInBounds_toArray, List.set_cons_zero, List.set_cons_succ]
                refine' wpAnyH_take (i := 6) (oi := ⟨some 240, _, _, _, _, none⟩) (v := _) rfl (by kernel_rfl) (by kernel_rfl) (by kernel_rfl) (fun _ _ _ h => h) (Or.inl ⟨by rfl, ?hyg6⟩) hHeld ?restg6
                case hyg6 => (intro W hSw; go_simp; try with_reducible rfl)
                simp only [Act.put, List.setIfInBounds_toArray, List.set_cons_zero, List.set_cons_succ]
                refine wpAnyH_ready (rs := [1, 7]) (by kernel_rfl) (by simp) ?_
                refine AllReadyH.cons (o := ⟨some 235, _, _, _, _, none⟩) rfl (fun K hK => ?_) (AllReadyH.cons (o := ⟨some 241, _, _, _, _, none⟩) rfl (fun K hK => ?_) AllReadyH.nil)
                · as_aux_lemma =>
                    go_simp
                    refine hK.out _ _ trivial (fun hHeld => ?_)
                    clear hK K
                    try simp only [Act.put, List.setIfInBounds_toArray, List.set_cons_zero, List.set_cons_succ]
                    refine wpAnyH_ready (rs := [7]) (by kernel_rfl) (by simp) ?_
                    refine AllReadyH.cons (o := ⟨some 241, _, _, _, _, none⟩) rfl (fun K hK => ?_) AllReadyH.nil
                    go_simp
                    refine (kO _ (HB2.out.trans ((Below.refl w2.heap.size w2).drew.mono HB2.out.size))).mono ?_
                    rintro e w3 ⟨rfl, hb3⟩
                    have HM3 := Lib.hid (HMd.out.grow hb3)
                    have z3 := HM3.out.cell (k := 2) rfl (j := 2) rfl
                    clear hb3
                    refine hK.out _ _ trivial (fun hHeld => ?_)
                    clear hK K
                    try simp only [Act.put, List.setIfInBounds_toArray, List.set_cons_zero, List.set_cons_succ]
                    refine' wpAnyH_take (i := 8) (oi := ⟨some 242, _, _, _, _, none⟩) (v := _) rfl (by kernel_rfl) (by kernel_rfl) (by kernel_rfl) (fun _ _ _ h => h) (Or.inl ⟨by rfl, ?hyg7⟩) hHeld ?restg7
                    case hyg7 => (intro W hSw; go_simp; try with_reducible rfl)
                    simp only [Act.put, List.setIfInBounds_toArray, List.set_cons_zero, List.set_cons_succ]
                    refine wpAnyH_ready (rs := [9]) (by kernel_rfl) (by simp) ?_
                    refine AllReadyH.cons (o := ⟨some 243, _, _, _, _, none⟩) rfl (fun K hK => ?_) AllReadyH.nil
                    go_simp
                    have HM4 := Lib.hid (HM3.out.grow ((Below.refl w3.heap.size w3).alloc (Nat.le_refl _) (.cells #[.int .i64 (a : Int), .int .i64 (b : Int), .int .u32 (x : Int)] 63)))
                    have z4 := HM4.out.cell (k := 2) rfl (j := 2) rfl
                    have HOwn := Lib.hid (HM4.out.at_ 5 _ rfl)
                    have HNews := Lib.hid (row_news (row_new w3 w3.heap.size rfl [.int .i64 (a : Int), .int .i64 (b : Int), .int .u32 (x : Int)] 63))
                    refine hK.out _ _ trivial (fun hHeld => ?_)
                    clear hK K
                    try simp only [Act.put, List.setIfInBounds_toArray, List.set_cons_zero, List.set_cons_succ]
                    refine wpAnyH_ready (rs := [10]) (by kernel_rfl) (by simp) ?_
                    refine AllReadyH.cons (o := ⟨some 244, _, _, _, _, none⟩) rfl (fun K hK => ?_) AllReadyH.nil
                    refine step_append_any rfl (.tmp 235) (.tmp 243) 22 rfl w.heap.size 63 i0 (.agg #[.int .i64 0, .int .i64 0, .int .u32 0]) 3 24 Try.underlying22 HI.out.1 HI.out.2.1 HI.out.2.2.1 HI.out.2.2.2 rfl (by decide) (.slice Ae ge.length ce) ge.length (edgesC ge) (by simp [Act.eval]) HOwn.out ⟨w3.heap.size, 0, none⟩ 1 1 [.int .i64 (a : Int), .int .i64 (b : Int), .int .u32 (x : Int)] (by simp [Act.eval]) rfl HNews.out (by intro u hu; simp only [List.mem_cons, List.not_mem_nil, or_false] at hu; rcases hu with rfl | rfl | rfl <;> rfl) (by unfold maxLen; omega) (by omega) HM4.out.below.size ?_
                    intro v6 w6 hown6 hgrow6 hat6
                    have hp := RowsM.push (k := 5) HM4.out rfl hown6 hgrow6 hat6
                    obtain ⟨A6, c6, e6, _, _⟩ := hp.form (k := 5) rfl
                    simp only at e6
                    subst e6
                    have y2 := hp.cell (k := 2) rfl (j := 2) rfl
                    have y3 := hp.free (k := 2) rfl 2
                    have hn := hp.store (k := 2) rfl 2 (.slice A6 (ge.length + 1) c6)
                    refine hK.out _ _ trivial (fun hHeld => ?_)
                    clear hK K
                    try simp only [Act.put, List.setIfInBounds_toArray, List.set_cons_zero, List.set_cons_succ]
                    have HN9 := Lib.hid (show RowsM w (rowsG gN gR gO s.n (.slice Aa all.length ca) all vc cd (s.n : Int) (.slice A6 (ge.length + 1) c6) (ge ++ [((a : Int), (b : Int), x)]) []) _ by
                      have h := hn
                      unfold rowsG
                      rw [show (ge ++ [((a : Int), (b : Int), x)]).length = ge.length + 1 by simp, edgesC_append]
                      exact h)
                    clear hn hp hown6 hgrow6 hat6
                    refine' wpAnyH_take (i := 11) (oi := ⟨some 245, _, _, _, _, none⟩) (v := _) rfl (by kernel_rfl) (by kernel_rfl) (by kernel_rfl) (fun _ _ _ h => h) (Or.inl ⟨by rfl, ?hyg8⟩) hHeld ?restg8
                    case hyg8 => (intro W hSw; go_simp; try with_reducible rfl)
                    simp only [Act.put, List.setIfInBounds_toArray, List.set_cons_zero, List.set_cons_succ]
                    refine wpAnyH_ready (rs := [12]) (by kernel_rfl) (by simp) ?_
                    refine AllReadyH.cons (o := ⟨none, _, _, _, _, none⟩) rfl (fun K hK => ?_) AllReadyH.nil
                    go_simp
                    refine hK.out _ _ trivial (fun hHeld => ?_)
                    clear hK K
                    refine wpAnyH_done (by kernel_rfl) ?_ _
                    go_wp2
                    go_roundw
                    case rel => exact ⟨b + 1, _, by go_num, by omega, by rw [HNext.out]; exact HN9.out⟩
                    case measure => simp [intOf]; omega
                · as_aux_lemma =>
                    go_simp
                    refine (kO _ (HB2.out.trans ((Below.refl w2.heap.size w2).drew.mono HB2.out.size))).mono ?_
                    rintro e w3 ⟨rfl, hb3⟩
                    have HM3 := Lib.hid (HMd.out.grow hb3)
                    have z3 := HM3.out.cell (k := 2) rfl (j := 2) rfl
                    clear hb3
                    refine hK.out _ _ trivial (fun hHeld => ?_)
                    clear hK K
                    try simp only [Act.put, List.setIfInBounds_toArray, List.set_cons_zero, List.set_cons_succ]
                    refine' wpAnyH_take (i := 8) (oi := ⟨some 242, _, _, _, _, none⟩) (v := _) rfl (by kernel_rfl) (by kernel_rfl) (by kernel_rfl) (fun _ _ _ h => h) (Or.inl ⟨by rfl, ?hyg9⟩) hHeld ?restg9
                    case hyg9 => (intro W hSw; go_simp; try with_reducible rfl)
                    simp only [Act.put, List.setIfInBounds_toArray, List.set_cons_zero, List.set_cons_succ]
                    refine wpAnyH_ready (rs := [1, 9]) (by kernel_rfl) (by simp) ?_
                    refine AllReadyH.cons (o := ⟨some 235, _, _, _, _, none⟩) rfl (fun K hK => ?_) (AllReadyH.cons (o := ⟨some 243, _, _, _, _, none⟩) rfl (fun K hK => ?_) AllReadyH.nil)
                    · go_simp
                      refine hK.out _ _ trivial (fun hHeld => ?_)
                      clear hK K
                      try simp only [Act.put, List.setIfInBounds_toArray, List.set_cons_zero, List.set_cons_succ]
                      refine wpAnyH_ready (rs := [9]) (by kernel_rfl) (by simp) ?_
                      refine AllReadyH.cons (o := ⟨some 243, _, _, _, _, none⟩) rfl (fun K hK => ?_) AllReadyH.nil
                      go_simp
                      have HM4 := Lib.hid (HM3.out.grow ((Below.refl w3.heap.size w3).alloc (Nat.le_refl _) (.cells #[.int .i64 (a : Int), .int .i64 (b : Int), .int .u32 (x : Int)] 63)))
                      have z4 := HM4.out.cell (k := 2) rfl (j := 2) rfl
                      have HOwn := Lib.hid (HM4.out.at_ 5 _ rfl)
                      have HNews := Lib.hid (row_news (row_new w3 w3.heap.size rfl [.int .i64 (a : Int), .int .i64 (b : Int), .int .u32 (x : Int)] 63))
                      refine hK.out _ _ trivial (fun hHeld => ?_)
                      clear hK K
                      try simp only [Act.put, List.setIfInBounds_toArray, List.set_cons_zero, List.set_cons_succ]
                      refine wpAnyH_ready (rs := [10]) (by kernel_rfl) (by simp) ?_
                      refine AllReadyH.cons (o := ⟨some 244, _, _, _, _, none⟩) rfl (fun K hK => ?_) AllReadyH.nil
                      refine step_append_any rfl (.tmp 235) (.tmp 243) 22 rfl w.heap.size 63 i0 (.agg #[.int .i64 0, .int .i64 0, .int .u32 0]) 3 24 Try.underlying22 HI.out.1 HI.out.2.1 HI.out.2.2.1 HI.out.2.2.2 rfl (by decide) (.slice Ae ge.length ce) ge.length (edgesC ge) (by simp [Act.eval]) HOwn.out ⟨w3.heap.size, 0, none⟩ 1 1 [.int .i64 (a : Int), .int .i64 (b : Int), .int .u32 (x : Int)] (by simp [Act.eval]) rfl HNews.out (by intro u hu; simp only [List.mem_cons, List.not_mem_nil, or_false] at hu; rcases hu with rfl | rfl | rfl <;> rfl) (by unfold maxLen; omega) (by omega) HM4.out.below.size ?_
                      intro v6 w6 hown6 hgrow6 hat6
                      have hp := RowsM.push (k := 5) HM4.out rfl hown6 hgrow6 hat6
                      obtain ⟨A6, c6, e6, _, _⟩ := hp.form (k := 5) rfl
                      simp only at e6
                      subst e6
                      have y2 := hp.cell (k := 2) rfl (j := 2) rfl
                      have y3 := hp.free (k := 2) rfl 2
                      have hn := hp.store (k := 2) rfl 2 (.slice A6 (ge.length + 1) c6)
                      refine hK.out _ _ trivial (fun hHeld => ?_)
                      clear hK K
                      try simp only [Act.put, List.setIfInBounds_toArray, List.set_cons_zero, List.set_cons_succ]
                      have HN9 := Lib.hid (show RowsM w (rowsG gN gR gO s.n (.slice Aa all.length ca) all vc cd (s.n : Int) (.slice A6 (ge.length + 1) c6) (ge ++ [((a : Int), (b : Int), x)]) []) _ by
                        have h := hn
                        unfold rowsG
                        rw [show (ge ++ [((a : Int), (b : Int), x)]).length = ge.length + 1 by simp, edgesC_append]
                        exact h)
                      clear hn hp hown6 hgrow6 hat6
                      refine' wpAnyH_take (i := 11) (oi := ⟨some 245, _, _, _, _, none⟩) (v := _) rfl (by kernel_rfl) (by kernel_rfl) (by kernel_rfl) (fun _ _ _ h => h) (Or.inl ⟨by rfl, ?hyg10⟩) hHeld ?restg10
                      case hyg10 => (intro W hSw; go_simp; try with_reducible rfl)
                      simp only [Act.put, List.setIfInBounds_toArray, List.set_cons_zero, List.set_cons_succ]
                      refine wpAnyH_ready (rs := [12]) (by kernel_rfl) (by simp) ?_
                      refine AllReadyH.cons (o := ⟨none, _, _, _, _, none⟩) rfl (fun K hK => ?_) AllReadyH.nil
                      go_simp
                      refine hK.out _ _ trivial (fun hHeld => ?_)
                      clear hK K
                      refine wpAnyH_done (by kernel_rfl) ?_ _
                      go_wp2
                      go_roundw
                      case rel => exact ⟨b + 1, _, by go_num, by omega, by rw [HNext.out]; exact HN9.out⟩
                      case measure => simp [intOf]; omega
                    · go_simp
                      have HM4 := Lib.hid (HM3.out.grow ((Below.refl w3.heap.size w3).alloc (Nat.le_refl _) (.cells #[.int .i64 (a : Int), .int .i64 (b : Int), .int .u32 (x : Int)] 63)))
                      have z4 := HM4.out.cell (k := 2) rfl (j := 2) rfl
                      have HOwn := Lib.hid (HM4.out.at_ 5 _ rfl)
                      have HNews := Lib.hid (row_news (row_new w3 w3.heap.size rfl [.int .i64 (a : Int), .int .i64 (b : Int), .int .u32 (x : Int)] 63))
                      refine hK.out _ _ trivial (fun hHeld => ?_)
                      clear hK K
                      try simp only [Act.put, List.setIfInBounds_toArray, List.set_cons_zero, List.set_cons_succ]
                      refine wpAnyH_ready (rs := [1]) (by kernel_rfl) (by simp) ?_
                      refine AllReadyH.cons (o := ⟨some 235, _, _, _, _, none⟩) rfl (fun K hK => ?_) AllReadyH.nil
                      go_simp
                      refine hK.out _ _ trivial (fun hHeld => ?_)
                      clear hK K
                      try simp only [Act.put, List.setIfInBounds_toArray, List.set_cons_zero, List.set_cons_succ]
                      refine wpAnyH_ready (rs := [10]) (by kernel_rfl) (by simp) ?_
                      refine AllReadyH.cons (o := ⟨some 244, _, _, _, _, none⟩) rfl (fun K hK => ?_) AllReadyH.nil
                      refine step_append_any rfl (.tmp 235) (.tmp 243) 22 rfl w.heap.size 63 i0 (.agg #[.int .i64 0, .int .i64 0, .int .u32 0]) 3 24 Try.underlying22 HI.out.1 HI.out.2.1 HI.out.2.2.1 HI.out.2.2.2 rfl (by decide) (.slice Ae ge.length ce) ge.length (edgesC ge) (by simp [Act.eval]) HOwn.out ⟨w3.heap.size, 0, none⟩ 1 1 [.int .i64 (a : Int), .int .i64 (b : Int), .int .u32 (x : Int)] (by simp [Act.eval]) rfl HNews.out (by intro u hu; simp only [List.mem_cons, List.not_mem_nil, or_false] at hu; rcases hu with rfl | rfl | rfl <;> rfl) (by unfold maxLen; omega) (by omega) HM4.out.below.size ?_
                      intro v6 w6 hown6 hgrow6 hat6
                      have hp := RowsM.push (k := 5) HM4.out rfl hown6 hgrow6 hat6
                      obtain ⟨A6, c6, e6, _, _⟩ := hp.form (k := 5) rfl
                      simp only at e6
                      subst e6
                      have y2 := hp.cell (k := 2) rfl (j := 2) rfl
                      have y3 := hp.free (k := 2) rfl 2
                      have hn := hp.store (k := 2) rfl 2 (.slice A6 (ge.length + 1) c6)
                      refine hK.out _ _ trivial (fun hHeld => ?_)
                      clear hK K
                      try simp only [Act.put, List.setIfInBounds_toArray, List.set_cons_zero, List.set_cons_succ]
                      have HN9 := Lib.hid (show RowsM w (rowsG gN gR gO s.n (.slice Aa all.length ca) all vc cd (s.n : Int) (.slice A6 (ge.length + 1) c6) (ge ++ [((a : Int), (b : Int), x)]) []) _ by
                        have h := hn
                        unfold rowsG
                        rw [show (ge ++ [((a : Int), (b : Int), x)]).length = ge.length + 1 by simp, edgesC_append]
                        exact h)
                      clear hn hp hown6 hgrow6 hat6
                      refine' wpAnyH_take (i := 11) (oi := ⟨some 245, _, _, _, _, none⟩) (v := _) rfl (by kernel_rfl) (by kernel_rfl) (by kernel_rfl) (fun _ _ _ h => h) (Or.inl ⟨by rfl, ?hyg11⟩) hHeld ?restg11
                      case hyg11 => (intro W hSw; go_simp; try with_reducible rfl)
                      simp only [Act.put, List.setIfInBounds_toArray, List.set_cons_zero, List.set_cons_succ]
                      refine wpAnyH_ready (rs := [12]) (by kernel_rfl) (by simp) ?_
                      refine AllReadyH.cons (o := ⟨none, _, _, _, _, none⟩) rfl (fun K hK => ?_) AllReadyH.nil
                      go_simp
                      refine hK.out _ _ trivial (fun hHeld => ?_)
                      clear hK K
                      refine wpAnyH_done (by kernel_rfl) ?_ _
                      go_wp2
                      go_roundw
                      case rel => exact ⟨b + 1, _, by go_num, by omega, by rw [HNext.out]; exact HN9.out⟩
                      case measure => simp [intOf]; omega
            · obtain rfl : b = s.n := by omega
              have hbi : ¬ ((s.n : Int) < s.n) := by omega
              have HNx := Lib.hid (show RowsM w (rowsG gN gR gO s.n (.slice Aa all.length ca) all vc cd (s.n : Int) ve (edgesA s (a + 1)) []) wr by rw [edgesA_succ]; exact HM.out)
              clear hb hlt2
              go_wp2
              go_roundw
              case rel => exact ⟨a + 1, ve, by go_num, by omega, HNx.out⟩
              case measure => simp [intOf]; omega
        · obtain rfl : a = s.n := by omega
          rw [edgesA_all] at HM
          have hbi : ¬ ((s.n : Int) < s.n) := by omega
          have x0 := HM.out.cell (k := 1) rfl (j := 0) rfl
          have x1 := HM.out.cell (k := 1) rfl (j := 1) rfl
          have x2 := HM.out.cell (k := 1) rfl (j := 2) rfl
          have y0 := HM.out.cell (k := 2) rfl (j := 0) rfl
          have y1 := HM.out.cell (k := 2) rfl (j := 1) rfl
          have y2 := HM.out.cell (k := 2) rfl (j := 2) rfl
          have k0 := HM.out.free (k := 1) rfl 0
          have k1 := HM.out.free (k := 1) rfl 1
          have k2 := HM.out.free (k := 1) rfl 2
          obtain ⟨Ac, cc, e1, _, _⟩ := HM.out.form (k := 4) rfl
          obtain ⟨Ae, ce, e2, _, _⟩ := HM.out.form (k := 5) rfl
          simp only at e1 e2
          subst e1 e2
          have HN := Lib.hid (((HM.out.store (k := 1) rfl 0 (.slice Ac cd.length cc)).store (k := 1) rfl 1 (.int .i64 (s.n : Int))).store (k := 1) rfl 2 (.slice Ae (edgesG s).length ce))
          clear hlt ha
          go_wp2
          have q0 := HN.out.cell (k := 1) rfl (j := 0) rfl
          have q1 := HN.out.cell (k := 1) rfl (j := 1) rfl
          have q2 := HN.out.cell (k := 1) rfl (j := 2) rfl
          refine bodyPost_ret (v := .agg #[.slice Ac cd.length cc, .int .i64 (s.n : Int), .slice Ae (edgesG s).length ce]) (by simp [results, Try.results10, go_sem, q0, q1, q2]) rfl ?_
          refine ⟨Ac, cc, Ae, ce, ?_, ?_, ?_, HN.out.below⟩
          · rw [HCd.out, HSs.out]
          · rw [HCd.out]; exact HN.out.at_ 4 _ rfl
          · rw [HSs.out]; exact HN.out.at_ 5 _ rfl

end Go.Proofs.Ytlpjpnlfmjehnaa
