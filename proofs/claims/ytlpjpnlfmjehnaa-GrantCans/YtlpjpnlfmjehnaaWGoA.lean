/- grant's writer: one deed is executed and written down. -/
import Derived.Test.YtlpjpnlfmjehnaaWGo9
import Derived.Test.YtlpjpnlfmjehnaaGr4
namespace Go.Proofs.Ytlpjpnlfmjehnaa
open Go.RowKit

theorem infoDe : (Try.prog.info? 46).map (fun i => (i.zero, i.size, i.bytes)) = some (some (.agg #[.int .i64 0, .int .i64 0, .int .i64 0, .int .i64 0, .int .u32 0, .int .i64 0]), 6, 48) := by kernel_rfl
theorem gC_tl (s : Gs) (u v : Value) : (gC s ++ [u]).set 197 v = gC s ++ [v] := by
  rw [List.set_append_right _ _ (by rw [gC_length]; omega), gC_length]
  rfl
theorem gC_last (s : Gs) (u : Value) : (gC s ++ [u])[197]? = some u := by
  rw [List.getElem?_append_right (by rw [gC_length]; omega), gC_length]
  rfl
theorem deedsC_snoc (l : List Dd) (d : Dd) : deedsC (l ++ [d]) = deedsC l ++ [.int .i64 d.kind, .int .i64 d.who, .int .i64 d.tgt, .int .i64 d.lev, .int .u32 (d.parts : Int), .int .i64 d.val] := by
  unfold deedsC
  rw [List.flatMap_append, List.flatMap_cons, List.flatMap_nil, List.append_nil]
  rfl
/-- append to a row, as one operation. -/
theorem wp_append_rm {P : Program} {w w0 : World} {rs : List Rw} {o : Oper} {a : Act} {K : Act → World → Prop} {Q : Exit → Act → World → Prop} (s x : Operand) (t : TypeId)
    (ho : o.op = .call { callee := .builtin .append, args := #[s, x], argTypes := #[t, t] })
    (k : Nat) (e size n : Nat) (v : Value) (xs : List Value) (hM : RowsM w0 rs w) (hr : rs[k]? = Option.some ⟨e, size, v, n, xs⟩) (i : TypeInfo) (z : Value) (bytes : Nat) (ht : P.underlying t = Option.some (.slice e)) (hi : P.info? e = Option.some i) (hz : i.zero = Option.some z)
    (hsize : i.size = size) (hby : i.bytes = bytes) (hzs : z.cells.size = size) (hsz : 0 < size) (hs : a.eval s = v)
    (ad : Addr) (m c : Nat) (news : List Value) (hx : a.eval x = .slice (Option.some ad) m c) (hl : news.length = m * size) (hnews : ∀ j u, news[j]? = Option.some u → w.cell? (ad.add j) = Option.some u) (h1 : ∀ u ∈ news, u.oneCell' = true)
    (h63 : n + m ≤ maxLen) (hbytes : (n + m) * bytes ≤ 140737488355328)
    (h : ∀ A c' w', RowsM w0 (rs.set k ⟨e, size, .slice A (n + m) c', n + m, xs ++ news⟩) w' → K (a.put o.dst (.slice A (n + m) c')) w') : o.wp P a w K Q :=
  wp_append_any s x t ho w0.heap.size e i z size bytes ht hi hz hsize hby hzs hsz v n xs hs (hM.at_ k _ hr) ad m c news hx hl hnews h1 h63 hbytes hM.below.size (fun v' w' h1 h2 h3 => by
    have hN := hM.push (n' := n + m) (v' := v') (xs' := xs ++ news) hr h1 h2 h3
    obtain ⟨A, c', e1, _, _⟩ := hN.form (k := k) (List.getElem?_set_self (List.getElem?_eq_some_iff.1 hr).1)
    simp only at e1
    subst e1
    exact h A c' w' hN)

theorem rowG_last {w0 w : World} {t size g : Nat} {s : Gs} {u : Value} {ex : List Rw} (h : RowsM w0 (rowG t size g s [u] :: ex) w) : w.cell? ⟨g, 197, none⟩ = some u := h.cell (k := 0) rfl (gC_last s u)
/-- A writer lies in block g: the graph, the script. -/
def Wr (w0 : World) (g : Nat) (s : Gs) (l : List Dd) (ex : List Rw) (w : World) : Prop :=
  ∃ (A : Option Addr) (c : Nat), RowsM w0 (rowG 70 198 g s [.slice A l.length c] :: ⟨46, 6, .slice A l.length c, l.length, deedsC l⟩ :: ex) w
theorem Wr.lt {w0 : World} {g : Nat} {s : Gs} {l : List Dd} {ex : List Rw} {w : World} (h : Wr w0 g s l ex w) : g < w.heap.size := by
  obtain ⟨A, c, h⟩ := h
  exact block_lt_of_cell (rowG_at h).n
theorem Wr.at_ {w0 : World} {g : Nat} {s : Gs} {l : List Dd} {ex : List Rw} {w : World} (h : Wr w0 g s l ex w) : GAt w g s := by
  obtain ⟨A, c, h⟩ := h
  exact rowG_at h

set_option maxRecDepth 100000 in
set_option maxHeartbeats 4000000 in
theorem gDo_any {w0 : World} {ex : List Rw} (g : Nat) (s : Gs) (l : List Dd) (d : Dd) (w : World) (h : Wr w0 g s l ex w) (hf : FineG s) (hp : d.parts < 4294967296) (hl : l.length ≤ 1000) :
    Calls Try.prog 47 #[.pointer (some ⟨g, 0, none⟩), ddV d] w fun e w' => e = .returned (.tuple #[]) ∧ Wr w0 g (stepG s d).2 (l ++ [d]) ex w' := by
  obtain ⟨i0, hi0, hz0, hz1, hz2⟩ := info_parts infoDe
  have HI := Lib.hid (And.intro hi0 (And.intro hz0 (And.intro hz1 hz2)))
  have hgl := h.lt
  obtain ⟨A, c, hM⟩ := h
  have HD := Lib.hid (deedsC_snoc l d)
  obtain ⟨kind, who, tgt, lev, parts, val⟩ := d
  have HM := Lib.hid (hM.box (cs := #[.int .i64 kind, .int .i64 who, .int .i64 tgt, .int .i64 lev, .int .u32 (parts : Int), .int .i64 val]) (t := 46) 6 rfl).swp
  simp only at hp
  unfold ddV
  clear hM hi0 hz0 hz1 hz2
  go_enter Try.func47, Try.ntmps47
  go_upto_region 1 with fail
  have hlt1 : g < (w.alloc (.cells #[.int .i64 kind, .int .i64 who, .int .i64 tgt, .int .i64 lev, .int .u32 (parts : Int), .int .i64 val] 46)).heap.size := by simp; omega
  generalize w.alloc _ = w1 at *
  generalize w.heap.size = g3 at *
  have e0 := HM.out.cell (k := 1) rfl (j := 0) rfl
  have e1 := HM.out.cell (k := 1) rfl (j := 1) rfl
  have e2 := HM.out.cell (k := 1) rfl (j := 2) rfl
  have e3 := HM.out.cell (k := 1) rfl (j := 3) rfl
  have e4 := HM.out.cell (k := 1) rfl (j := 4) rfl
  have e5 := HM.out.cell (k := 1) rfl (j := 5) rfl
  have hK := gExec_any g s ⟨kind, who, tgt, lev, parts, val⟩ (w1.drewN 1) (HM.out.drewN 1) hf hp hlt1
  unfold ddV at hK
  simp only at hK
  generalize hst : stepG s ⟨kind, who, tgt, lev, parts, val⟩ = st at *
  have HST := Lib.hid hst
  clear hst
  have HK := Lib.hid hK
  clear hK hgl hlt1
  refine wp_region_still_tail 4 (by kernel_rfl) (by kernel_rfl) ?_
  simp only [List.take_succ_cons, List.take_zero, List.drop_succ_cons, List.drop_zero]
  iterate 4 still_step
  refine wpStill_nil ?_
  show wpList _ _ _ _ _ (w1.drewN 1)
  go_wp2_with fail
  refine HK.out.mono ?_
  rintro e w2 ⟨rfl, hN⟩
  have HN := Lib.hid hN
  clear hN HM HK e0 e1 e2 e3 e4 e5
  go_upto_region 2 with fail
  have x0 := HN.out.cell (k := 0) rfl (j := 197) (gC_last _ _)
  have HS := Lib.hid (show (_ ∧ _ ∧ _ ∧ _ ∧ _ ∧ _) from ⟨HN.out.cell (k := 1) rfl (j := 0) rfl, HN.out.cell (k := 1) rfl (j := 1) rfl, HN.out.cell (k := 1) rfl (j := 2) rfl, HN.out.cell (k := 1) rfl (j := 3) rfl, HN.out.cell (k := 1) rfl (j := 4) rfl, HN.out.cell (k := 1) rfl (j := 5) rfl⟩)
  refine wp_region_held_drew (S := fun W => W.cell? ⟨g3, 0, none⟩ = some (.int .i64 kind) ∧ W.cell? ⟨g3, 1, none⟩ = some (.int .i64 who) ∧ W.cell? ⟨g3, 2, none⟩ = some (.int .i64 tgt) ∧ W.cell? ⟨g3, 3, none⟩ = some (.int .i64 lev) ∧ W.cell? ⟨g3, 4, none⟩ = some (.int .u32 (parts : Int)) ∧ W.cell? ⟨g3, 5, none⟩ = some (.int .i64 val)) (by kernel_rfl) HS.out (fun hHeld => ?_)
  refine' wpAnyH_take (i := 0) (oi := ⟨some 9, _, _, _, _, none⟩) (v := _) rfl (by kernel_rfl) (by kernel_rfl) (by kernel_rfl) (fun _ _ _ h => h) (Or.inl ⟨by rfl, ?hya0⟩) hHeld ?resta0
  case hya0 => (intro W hSw; obtain ⟨s0, s1, s2, s3, s4, s5⟩ := hSw; go_simp; try with_reducible rfl)
  simp only [Act.put, List.setIfInBounds_toArray, List.set_cons_zero, List.set_cons_succ]
  refine' wpAnyH_take (i := 1) (oi := ⟨some 10, _, _, _, _, none⟩) (v := _) rfl (by kernel_rfl) (by kernel_rfl) (by kernel_rfl) (fun _ _ _ h => h) (Or.inl ⟨by rfl, ?hya1⟩) hHeld ?resta1
  case hya1 => (intro W hSw; obtain ⟨s0, s1, s2, s3, s4, s5⟩ := hSw; go_simp; try with_reducible rfl)
  simp only [Act.put, List.setIfInBounds_toArray, List.set_cons_zero, List.set_cons_succ]
  refine' wpAnyH_take (i := 2) (oi := ⟨some 11, _, _, _, _, none⟩) (v := _) rfl (by kernel_rfl) (by kernel_rfl) (by kernel_rfl) (fun _ _ _ h => h) (Or.inl ⟨by rfl, ?hya2⟩) hHeld ?resta2
  case hya2 => (intro W hSw; obtain ⟨s0, s1, s2, s3, s4, s5⟩ := hSw; go_simp; try with_reducible rfl)
  simp only [Act.put, List.setIfInBounds_toArray, List.set_cons_zero, List.set_cons_succ]
  refine' wpAnyH_take (i := 3) (oi := ⟨some 12, _, _, _, _, none⟩) (v := _) rfl (by kernel_rfl) (by kernel_rfl) (by kernel_rfl) (fun _ _ _ h => h) (Or.inl ⟨by rfl, ?hya3⟩) hHeld ?resta3
  case hya3 => (intro W hSw; obtain ⟨s0, s1, s2, s3, s4, s5⟩ := hSw; go_simp; try with_reducible rfl)
  simp only [Act.put, List.setIfInBounds_toArray, List.set_cons_zero, List.set_cons_succ]
  refine' wpAnyH_take (i := 5) (oi := ⟨some 14, _, _, _, _, none⟩) (v := _) rfl (by kernel_rfl) (by kernel_rfl) (by kernel_rfl) (fun _ _ _ h => h) (Or.inl ⟨by rfl, ?hya5⟩) hHeld ?resta5
  case hya5 => (intro W hSw; obtain ⟨s0, s1, s2, s3, s4, s5⟩ := hSw; go_simp; try with_reducible rfl)
  simp only [Act.put, List.setIfInBounds_toArray, List.set_cons_zero, List.set_cons_succ]
  have HNa := Lib.hid (HN.out.drew.grow ((Below.refl w2.drew.heap.size w2.drew).alloc (Nat.le_refl _) (.cells #[.int .i64 kind, .int .i64 who, .int .i64 tgt, .int .i64 lev, .int .u32 (parts : Int), .int .i64 val] 46)))
  refine wpAnyH_ready (rs := [4, 6]) (by kernel_rfl) (by simp) ?_
  refine AllReadyH.cons (o := ⟨some 13, _, _, _, _, none⟩) rfl (fun K hK => ?_) (AllReadyH.cons (o := ⟨some 15, _, _, _, _, none⟩) rfl (fun K hK => ?_) AllReadyH.nil)
  · go_simp
    refine hK.out _ _ HS.out (fun hHeld => ?_)
    clear hK K
    refine wpAnyH_ready (rs := [6]) (by kernel_rfl) (by simp) ?_
    refine AllReadyH.cons (o := ⟨some 15, _, _, _, _, none⟩) rfl (fun K hK => ?_) AllReadyH.nil
    go_simp
    refine hK.out _ _ ⟨HNa.out.cell (k := 1) rfl (j := 0) rfl, HNa.out.cell (k := 1) rfl (j := 1) rfl, HNa.out.cell (k := 1) rfl (j := 2) rfl, HNa.out.cell (k := 1) rfl (j := 3) rfl, HNa.out.cell (k := 1) rfl (j := 4) rfl, HNa.out.cell (k := 1) rfl (j := 5) rfl⟩ (fun hHeld => ?_)
    clear hK K
    refine wpAnyH_ready (rs := [7]) (by kernel_rfl) (by simp) ?_
    refine AllReadyH.cons (o := ⟨some 16, _, _, _, _, none⟩) rfl (fun K hK => ?_) AllReadyH.nil
    refine wp_append_rm (.tmp 13) (.tmp 15) 23 rfl 2 46 6 l.length (.slice A l.length c) (deedsC l) HNa.out rfl i0 _ 48 Try.underlying23 HI.out.1 HI.out.2.1 HI.out.2.2.1 HI.out.2.2.2 rfl (by decide) rfl ⟨w2.heap.size, 0, none⟩ 1 1 [.int .i64 kind, .int .i64 who, .int .i64 tgt, .int .i64 lev, .int .u32 (parts : Int), .int .i64 val] rfl rfl ?qnewsx ?qonex ?q63x ?qbyx ?qnextx
    case qnewsx => exact row_news (row_new w2.drew w2.heap.size rfl [.int .i64 kind, .int .i64 who, .int .i64 tgt, .int .i64 lev, .int .u32 (parts : Int), .int .i64 val] 46)
    case qonex => intro u hu; simp only [List.mem_cons, List.not_mem_nil, or_false] at hu; rcases hu with rfl | rfl | rfl | rfl | rfl | rfl <;> rfl
    case q63x => unfold maxLen; omega
    case qbyx => omega
    case qnextx =>
      intro A' c' w4 hn
      have HN4 := Lib.hid hn
      clear hn
      simp only [Act.put, List.setIfInBounds_toArray, List.set_cons_zero, List.set_cons_succ]
      refine hK.out _ _ ⟨HN4.out.cell (k := 1) rfl (j := 0) rfl, HN4.out.cell (k := 1) rfl (j := 1) rfl, HN4.out.cell (k := 1) rfl (j := 2) rfl, HN4.out.cell (k := 1) rfl (j := 3) rfl, HN4.out.cell (k := 1) rfl (j := 4) rfl, HN4.out.cell (k := 1) rfl (j := 5) rfl⟩ (fun hHeld => ?_)
      clear hK K
      refine' wpAnyH_take (i := 8) (oi := ⟨some 17, _, _, _, _, none⟩) (v := _) rfl (by kernel_rfl) (by kernel_rfl) (by kernel_rfl) (fun _ _ _ h => h) (Or.inl ⟨by rfl, ?hyx8⟩) hHeld ?restx8
      case hyx8 => (intro W hSw; obtain ⟨s0, s1, s2, s3, s4, s5⟩ := hSw; go_simp; try with_reducible rfl)
      simp only [Act.put, List.setIfInBounds_toArray, List.set_cons_zero, List.set_cons_succ]
      refine' wpAnyH_take (i := 9) (oi := ⟨some 18, _, _, _, _, none⟩) (v := _) rfl (by kernel_rfl) (by kernel_rfl) (by kernel_rfl) (fun _ _ _ h => h) (Or.inl ⟨by rfl, ?hyx9⟩) hHeld ?restx9
      case hyx9 => (intro W hSw; obtain ⟨s0, s1, s2, s3, s4, s5⟩ := hSw; go_simp; try with_reducible rfl)
      simp only [Act.put, List.setIfInBounds_toArray, List.set_cons_zero, List.set_cons_succ]
      refine wpAnyH_ready (rs := [10]) (by kernel_rfl) (by simp) ?_
      refine AllReadyH.cons (o := ⟨none, _, _, _, _, none⟩) rfl (fun K hK => ?_) AllReadyH.nil
      have f0 := rowG_free HN4.out 197
      have hx := (rowG_last HN4.out)
      go_simp
      have hW := (HN4.out.store (k := 0) rfl 197 (.slice A' (l.length + 1) c'))
      rw [gC_tl] at hW
      have HW := Lib.hid hW
      clear hW
      refine hK.out _ _ ⟨HW.out.cell (k := 1) rfl (j := 0) rfl, HW.out.cell (k := 1) rfl (j := 1) rfl, HW.out.cell (k := 1) rfl (j := 2) rfl, HW.out.cell (k := 1) rfl (j := 3) rfl, HW.out.cell (k := 1) rfl (j := 4) rfl, HW.out.cell (k := 1) rfl (j := 5) rfl⟩ (fun hHeld => ?_)
      clear hK K HN4
      refine wpAnyH_done (by kernel_rfl) ?_ _
      go_wp2
      go_end0
      refine ⟨rfl, A', c', ?_⟩
      rw [HD.out, HST.out, List.length_append]
      exact HW.out.swp.tail
  · go_simp
    refine hK.out _ _ ⟨HNa.out.cell (k := 1) rfl (j := 0) rfl, HNa.out.cell (k := 1) rfl (j := 1) rfl, HNa.out.cell (k := 1) rfl (j := 2) rfl, HNa.out.cell (k := 1) rfl (j := 3) rfl, HNa.out.cell (k := 1) rfl (j := 4) rfl, HNa.out.cell (k := 1) rfl (j := 5) rfl⟩ (fun hHeld => ?_)
    clear hK K
    refine wpAnyH_ready (rs := [4]) (by kernel_rfl) (by simp) ?_
    refine AllReadyH.cons (o := ⟨some 13, _, _, _, _, none⟩) rfl (fun K hK => ?_) AllReadyH.nil
    have x1 : ((w2.alloc (.cells #[.int .i64 kind, .int .i64 who, .int .i64 tgt, .int .i64 lev, .int .u32 (parts : Int), .int .i64 val] 46)).drew).cell? ⟨g, 197, none⟩ = some (.slice A l.length c) := HNa.out.cell (k := 0) rfl (j := 197) (gC_last _ _)
    go_simp
    refine hK.out _ _ ⟨HNa.out.cell (k := 1) rfl (j := 0) rfl, HNa.out.cell (k := 1) rfl (j := 1) rfl, HNa.out.cell (k := 1) rfl (j := 2) rfl, HNa.out.cell (k := 1) rfl (j := 3) rfl, HNa.out.cell (k := 1) rfl (j := 4) rfl, HNa.out.cell (k := 1) rfl (j := 5) rfl⟩ (fun hHeld => ?_)
    clear hK K
    refine wpAnyH_ready (rs := [7]) (by kernel_rfl) (by simp) ?_
    refine AllReadyH.cons (o := ⟨some 16, _, _, _, _, none⟩) rfl (fun K hK => ?_) AllReadyH.nil
    refine wp_append_rm (.tmp 13) (.tmp 15) 23 rfl 2 46 6 l.length (.slice A l.length c) (deedsC l) HNa.out rfl i0 _ 48 Try.underlying23 HI.out.1 HI.out.2.1 HI.out.2.2.1 HI.out.2.2.2 rfl (by decide) rfl ⟨w2.heap.size, 0, none⟩ 1 1 [.int .i64 kind, .int .i64 who, .int .i64 tgt, .int .i64 lev, .int .u32 (parts : Int), .int .i64 val] rfl rfl ?qnewsy ?qoney ?q63y ?qbyy ?qnexty
    case qnewsy => exact row_news (row_new w2.drew w2.heap.size rfl [.int .i64 kind, .int .i64 who, .int .i64 tgt, .int .i64 lev, .int .u32 (parts : Int), .int .i64 val] 46)
    case qoney => intro u hu; simp only [List.mem_cons, List.not_mem_nil, or_false] at hu; rcases hu with rfl | rfl | rfl | rfl | rfl | rfl <;> rfl
    case q63y => unfold maxLen; omega
    case qbyy => omega
    case qnexty =>
      intro A' c' w4 hn
      have HN4 := Lib.hid hn
      clear hn
      simp only [Act.put, List.setIfInBounds_toArray, List.set_cons_zero, List.set_cons_succ]
      refine hK.out _ _ ⟨HN4.out.cell (k := 1) rfl (j := 0) rfl, HN4.out.cell (k := 1) rfl (j := 1) rfl, HN4.out.cell (k := 1) rfl (j := 2) rfl, HN4.out.cell (k := 1) rfl (j := 3) rfl, HN4.out.cell (k := 1) rfl (j := 4) rfl, HN4.out.cell (k := 1) rfl (j := 5) rfl⟩ (fun hHeld => ?_)
      clear hK K
      refine' wpAnyH_take (i := 8) (oi := ⟨some 17, _, _, _, _, none⟩) (v := _) rfl (by kernel_rfl) (by kernel_rfl) (by kernel_rfl) (fun _ _ _ h => h) (Or.inl ⟨by rfl, ?hyy8⟩) hHeld ?resty8
      case hyy8 => (intro W hSw; obtain ⟨s0, s1, s2, s3, s4, s5⟩ := hSw; go_simp; try with_reducible rfl)
      simp only [Act.put, List.setIfInBounds_toArray, List.set_cons_zero, List.set_cons_succ]
      refine' wpAnyH_take (i := 9) (oi := ⟨some 18, _, _, _, _, none⟩) (v := _) rfl (by kernel_rfl) (by kernel_rfl) (by kernel_rfl) (fun _ _ _ h => h) (Or.inl ⟨by rfl, ?hyy9⟩) hHeld ?resty9
      case hyy9 => (intro W hSw; obtain ⟨s0, s1, s2, s3, s4, s5⟩ := hSw; go_simp; try with_reducible rfl)
      simp only [Act.put, List.setIfInBounds_toArray, List.set_cons_zero, List.set_cons_succ]
      refine wpAnyH_ready (rs := [10]) (by kernel_rfl) (by simp) ?_
      refine AllReadyH.cons (o := ⟨none, _, _, _, _, none⟩) rfl (fun K hK => ?_) AllReadyH.nil
      have f0 := rowG_free HN4.out 197
      have hx := (rowG_last HN4.out)
      go_simp
      have hW := (HN4.out.store (k := 0) rfl 197 (.slice A' (l.length + 1) c'))
      rw [gC_tl] at hW
      have HW := Lib.hid hW
      clear hW
      refine hK.out _ _ ⟨HW.out.cell (k := 1) rfl (j := 0) rfl, HW.out.cell (k := 1) rfl (j := 1) rfl, HW.out.cell (k := 1) rfl (j := 2) rfl, HW.out.cell (k := 1) rfl (j := 3) rfl, HW.out.cell (k := 1) rfl (j := 4) rfl, HW.out.cell (k := 1) rfl (j := 5) rfl⟩ (fun hHeld => ?_)
      clear hK K HN4
      refine wpAnyH_done (by kernel_rfl) ?_ _
      go_wp2
      go_end0
      refine ⟨rfl, A', c', ?_⟩
      rw [HD.out, HST.out, List.length_append]
      exact HW.out.swp.tail

end Go.Proofs.Ytlpjpnlfmjehnaa
