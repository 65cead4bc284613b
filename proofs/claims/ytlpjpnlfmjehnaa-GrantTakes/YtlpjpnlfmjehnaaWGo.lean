/- grant.Way; with this the contracts of Play, Can and Way are there. -/
import Derived.Test.YtlpjpnlfmjehnaaWGo7
import Derived.Test.YtlpjpnlfmjehnaaWGo9
import Derived.Test.YtlpjpnlfmjehnaaWGoC
namespace Go.Proofs.Ytlpjpnlfmjehnaa
open Go.RowKit

/-! ## Paths of natural numbers -/
theorem nats_of : ∀ (l : List Int), (∀ a ∈ l, 0 ≤ a) → ∃ m : List Nat, l = m.map (fun k : Nat => (k : Int))
  | [], _ => ⟨[], rfl⟩
  | a :: l, h => by
    obtain ⟨k, hk⟩ := Int.eq_ofNat_of_zero_le (h a (by simp))
    obtain ⟨m, hm⟩ := nats_of l (fun b hb => h b (List.mem_cons_of_mem _ hb))
    exact ⟨k :: m, by rw [List.map_cons, ← hm, hk]⟩
theorem adj_ne {n : Int} {es : List Ed} (hE : ∀ e ∈ es, EdgeOk n e) {a b : Int} (h : AdjE es a b) : a ≠ b := by
  obtain ⟨e, he, _, h | h⟩ := h
  · have := (hE e he).2.2.2.2
    omega
  · have := (hE e he).2.2.2.2
    omega
/-- What path answers, as a list of natural numbers. -/
theorem pathR_cases {n : Nat} {es : List Ed} {x y r : Nat} {p : List Int} (hc : codeE n es = 0) (h : PathR n es x y r p) :
    (p.length = 0 ∧ ¬ CanE es x y r) ∨ (p.length = 1 ∧ CanE es x y r ∧ sub r (overL es x y) = true) ∨
    ∃ (v : Nat) (q : List Nat), p = (v :: q).map (fun k : Nat => (k : Int)) ∧ 0 < q.length ∧ (v :: q).length ≤ n ∧ CanE es x y r ∧ ¬ sub r (overL es x y) = true ∧ sub r (overL es v y) = true ∧
      (v :: q)[q.length]? = some x ∧ (∀ u ∈ v :: q, u < n) ∧ ∀ (i a c : Nat), (v :: q)[i]? = some a → (v :: q)[i + 1]? = some c → AdjE es (a : Int) c ∧ a ≠ c := by
  rcases h with ⟨rfl, h⟩ | ⟨v, here, _, hv, hcan, hw, hh, hlen, hone⟩
  · exact .inl ⟨rfl, h⟩
  · obtain ⟨m, hm⟩ := nats_of p (fun a ha => (hh a (hw.mem a ha)).1)
    subst hm
    have hE := (codeE_zero hc).2.2.2
    match m, hw, hlen, hone with
    | [], hw, _, _ => exact absurd hw.head (by simp)
    | [a], hw, _, _ =>
      have h1 := hw.head
      have h2 := hw.last
      simp at h1 h2
      subst h1
      rw [← h2]
      exact .inr (.inl ⟨rfl, by rw [h2]; exact hcan, hv⟩)
    | a :: b :: q, hw, hlen, hone =>
      have h1 := hw.head
      have h2 := hw.last
      simp at h1
      subst h1
      refine .inr (.inr ⟨a, b :: q, rfl, by simp, by simpa using hlen, hcan, fun hx => ?_, hv, ?_, fun u hu => ?_, fun i c d hc hd => ?_⟩)
      · have := hone hx
        simp at this
      · rw [List.length_map, List.getElem?_map] at h2
        simp only [List.length_cons, Nat.add_sub_cancel] at h2 ⊢
        cases hg : (a :: b :: q)[q.length + 1]? with
        | none => rw [hg] at h2; simp at h2
        | some z => rw [hg] at h2; have h3 : (z : Int) = (x : Int) := Option.some.inj h2; rw [Int.ofNat_inj.1 h3]
      · have := hh (u : Int) (hw.mem _ (List.mem_map_of_mem hu))
        omega
      · have := hw.adj i c d (by rw [List.getElem?_map, hc]; rfl) (by rw [List.getElem?_map, hd]; rfl)
        exact ⟨this, fun e => adj_ne hE this (by rw [e])⟩

theorem infoWr : (Try.prog.info? 70).map (fun i => (i.zero, i.size)) = some (some (.agg ((gA zG).push (.slice none 0 0))), 198) := by kernel_rfl
theorem sizePl : (Try.prog.info? 59).map (·.size) = some 197 := (zero_of_info infoPl).2
theorem build_wr (zs : Array Value) (h : zs.size = 197) (w : World) : (Instr.build 70 #[(0, .agg zs)]).run Try.prog w = .ok (.agg (zs.push (.slice none 0 0))) w := by
  have hz := (zero_of_info infoWr).1
  have hu := Try.underlying70
  have hs : ∀ w, (sizeOf 59).run Try.prog w = .ok 197 w := fun w => by
    have := sizePl
    unfold sizeOf typeInfo
    cases hq : Try.prog.info? 59 with
    | none => rw [hq] at this; cases this
    | some i => rw [hq] at this; simp at this; simp [hq, this]
  have hf : (zs.zipIdx.foldl (fun (cs : Array Value) (p : Value × Nat) => cs.setIfInBounds p.2 p.1) ((gA zG).push (.slice none 0 0)) 0 197) = zs.push (.slice none 0 0) := by
    have := fold_set 0 zs.toList 0 ((gA zG).push (.slice none 0 0)) (by rw [Array.size_push, gA_size]; simp [h])
    apply Array.toList_inj.1
    simp only [Nat.zero_add, List.take_zero, List.nil_append] at this
    rw [Array.toList_push, List.drop_append_of_le_length (by have := gA_size zG; simp [h, this]), List.drop_of_length_le (by have := gA_size zG; simp [h, this]), List.nil_append] at this
    rw [Array.toList_push, ← this, ← h]
    simp [Array.foldl_toList, ← Array.toList_zipIdx]
  simp [Instr.build, hz, Sem.run_bind, run_underlying hu, hs, Value.cells, Instr.fill, h, gA_size, hf]
theorem exec_build_wr {a : Act} {o : Oper} {x : Operand} {cs : Array Value} {W : World} (ho : o.op = .build 70 #[(0, x)]) (hx : a.eval x = .agg cs) (hs : cs.size = 197) :
    (execOp a.eval o).run Try.prog W = .ok (.value (.agg (cs.push (.slice none 0 0)))) W := by
  unfold execOp
  simp [ho, hx, build_wr cs hs W, Result.andThen]
theorem wpList_exec {P : Program} {ops : Array Oper} {rest : List Oper} {o : Oper} {a : Act} {w : World} {Q : Exit → Act → World → Prop} {v : Value} (hg : o.guard = none) (he : (execOp a.eval o).run P w = .ok (.value v) w)
    (h : wpList P ops Q rest (a.put o.dst v) w) : wpList P ops Q (o :: rest) a w :=
  wpList_plain hg fun _ hK => by
    unfold Oper.wp
    rw [he]
    exact hK _ _ h

set_option maxRecDepth 100000 in
set_option maxHeartbeats 4000000 in
theorem GWay_ok : GWayOk 16 := by
  intro n es A c x y r w hlm hlc h32 hrow hr _
  obtain ⟨hz, hzs⟩ := zero_of_info infoGr
  have h197 : (gA zG).size = 197 := gA_size _
  obtain ⟨z, hzz⟩ : ∃ z, z = gA zG := ⟨_, rfl⟩
  rw [← hzz] at hz h197
  have HZ1 := Lib.hid h197
  have HZS := Lib.hid hzs
  have KS := Lib.hid (gStartFor_any n es A c x y r w h32 hrow hr)
  have H32 := Lib.hid h32
  clear hzz hzs h32
  go_enter Try.func16, Try.ntmps16
  go_wp2_with fail
  refine KS.out.mono ?_
  rintro e w2 ⟨s, rfl, hs, hb⟩
  have hst := run_storeCells_new (P := Try.prog) w2 55 z (gA s) (by rw [gA_size]; exact HZS.out) (by rw [gA_size, HZ1.out]) (gA_one s)
  have hM := ((((RowsM.nil w).newNil 46 6).grow hb).box (cs := gA s) (t := 55) 197 (gA_size s)).swp
  have HM3 := Lib.hid (show RowsM w (⟨46, 6, .slice none 0 0, 0, []⟩ :: rowG 55 197 w2.heap.size s [] :: []) _ by unfold rowG; rw [List.append_nil]; exact hM)
  obtain ⟨zs, hzs⟩ : ∃ zs, zs = gA s := ⟨_, rfl⟩
  rw [← hzs] at hst HM3
  have HS := Lib.hid hs
  have hzs7 : zs.size = 197 := by rw [hzs]; exact gA_size s
  have HSZ := Lib.hid hzs
  clear hzs hs hb KS hM
  rw [← HSZ.out]
  have hlt : w2.heap.size < (w2.alloc (.cells zs 55)).heap.size := by simp
  go_upto_region 2 with fail
  generalize w2.alloc _ = w3 at *
  generalize w2.heap.size = g12 at *
  clear hst
  by_cases hE : codeGC n es x y r = 0
  · rw [hE]
    have HE0 := Lib.hid hE
    obtain ⟨c0, x0, x1, y0, y1, hne, hp⟩ := codeGC_zero hE
    have hsE := HS.out hE
    subst hsE
    have hn0 := (codeE_zero c0).1
    have hn6 := (codeE_zero c0).2.1
    obtain ⟨n, rfl⟩ := Int.eq_ofNat_of_zero_le (show 0 ≤ n by omega)
    obtain ⟨x, rfl⟩ := Int.eq_ofNat_of_zero_le x0
    obtain ⟨y, rfl⟩ := Int.eq_ofNat_of_zero_le y0
    rw [Int.toNat_natCast] at HM3 HSZ
    have HC0 := Lib.hid c0
    have KP := Lib.hid (gPath_any g12 n es x y r w3 (rowG_at HM3.out.swp) hlt c0 H32.out ⟨x0, x1⟩ ⟨y0, y1⟩ hr (pop_one_ne hp))
    have HNE := Lib.hid hne
    clear x0 y0 hp hE c0 hne
    go_wp2_with fail
    refine KP.out.mono ?_
    rintro e w4 ⟨B, k, p, rfl, hpr, hRp⟩
    have HM4 := Lib.hid (HM3.out.beside hRp)
    have hcase := pathR_cases HC0.out hpr
    clear hpr hRp HM3 KP
    rcases hcase with ⟨h0, hno⟩ | hcase
    · have hq := Lib.hid hno
      rw [h0]
      go_wp2
      refine bodyPost_ret (v := .tuple #[.slice none 0 0, .int .i64 5]) (by simp [results, Try.results16, go_sem]) rfl ?_
      exact ⟨none, 0, [], 5, rfl, ⟨fun h => absurd HE0.out h, fun _ _ => ⟨rfl, rfl⟩, fun _ h => absurd h hq.out⟩, Row.nil _ _, HM4.out.below⟩
    · obtain ⟨hzw, hzws⟩ := zero_of_info infoWr
      have h198 : ((gA zG).push (.slice none 0 0)).size = 198 := by rw [Array.size_push, gA_size]
      obtain ⟨zw, hzzw⟩ : ∃ z, z = (gA zG).push (.slice none 0 0) := ⟨_, rfl⟩
      rw [← hzzw] at hzw h198
      clear hzzw
      have hlp : 0 < p.length := by
        rcases hcase with h | ⟨v, q, rfl, _⟩
        · omega
        · simp
      have HCASE := Lib.hid hcase
      clear hcase hz
      have hh1 := (HM4.out.boxHeap (k := 1) rfl).1
      rw [List.append_nil, show (gC (startG n es)).toArray = zs from HSZ.out.symm] at hh1
      obtain ⟨d, hu, hd⟩ := underGr
      have hi := (zero_of_info infoGr).2
      have HZ7 := Lib.hid hzs7
      rw [← hzs7] at hi
      have h198' : (zs.push (.slice none 0 0)).size = 198 := by rw [Array.size_push, hzs7]
      have hold : zw.size = (zs.push (.slice none 0 0)).size := by rw [h198, h198']
      have hiw : (Try.prog.info? 70).map (·.size) = some (zs.push (.slice none 0 0)).size := by rw [h198']; exact hzws
      have honew : (zs.push (Value.slice none 0 0)).all (·.oneCell') = true := by rw [Array.all_push, HSZ.out, gA_one]; rfl
      have HM6 := Lib.hid (show RowsM w (rowG 70 198 w4.heap.size (startG n es) [.slice none 0 0] :: [⟨46, 6, .slice none 0 0, 0, []⟩, rowG 55 197 g12 (startG n es) [], ⟨3, 1, .slice B p.length k, p.length, ints p⟩]) _ by
        have := (HM4.out.box (cs := zw) (t := 70) 198 h198).storeAll (k := 0) rfl (zs.push (.slice none 0 0)) h198'
        rw [Array.toList_push, show zs.toList = gC (startG n es) by rw [HSZ.out]; rfl] at this
        exact this)
      clear hzs7
      go_upto_region 8 with (first | (refine wpList_load_row rfl 55 _ rfl g12 rfl 55 zs (0, 0) d hh1 hu (by cases d <;> first | rfl | (simp at hd)) hi ?_) | (refine wpList_exec rfl (exec_build_pl rfl rfl HZ7.out) ?_) | (refine wpList_exec rfl (exec_build_wr rfl rfl HZ7.out) ?_) | (refine wpList_store_row rfl 70 _ _ rfl w4.heap.size (zs.push (.slice none 0 0)) rfl rfl 70 zw (Go.heap_alloc_new _ _) hiw hold honew ?_))
      clear hh1 hu hi hd d honew hiw hold h198' hzws h198 hzw
      generalize (w4.alloc _).setRow _ _ = w5 at *
      generalize w4.heap.size = g15 at *
      rcases HCASE.out with ⟨h1, hcan, hsub⟩ | ⟨v, q, hpe, hq0, hql, hcan, hnsub, hsub, hlast, hin, hadj⟩
      · have HQ := Lib.hid (And.intro hcan hsub)
        have c0 := rowG_last HM6.out
        rw [h1]
        clear HCASE hcan hsub
        go_wp2
        refine bodyPost_ret (v := .tuple #[.slice none 0 0, .int .i64 0]) (by simp [results, Try.results16, go_sem]) rfl ?_
        refine ⟨none, 0, [], 0, rfl, ⟨fun h => absurd HE0.out h, fun _ h => absurd HQ.out.1 h, fun _ _ => ⟨rfl, by simp, by simp, fun _ => rfl, ?_⟩⟩, Row.nil _ _, HM6.out.below⟩
        exact HQ.out.2
      · obtain ⟨bp, cp, hB, hcp⟩ := HM6.out.solid (k := 3) rfl hlp
        simp only [Value.slice.injEq] at hB hcp
        obtain ⟨rfl, _, rfl⟩ := hB
        have hpl : p.length = q.length + 1 := by rw [hpe]; simp
        have HF := Lib.hid (fineG_start HC0.out H32.out)
        have hWr : Wr w g15 (startG n es) [] [rowG 55 197 g12 (startG n es) [], ⟨3, 1, .slice (some ⟨bp, 0, none⟩) p.length k, p.length, ints p⟩] w5 := ⟨none, 0, HM6.out⟩
        have KC := Lib.hid (gCarry_any g15 (startG n es) v q x y r bp k w5 hWr HF.out (by show n ≤ 6; omega) hin hq0 (by rw [List.length_cons] at hql; omega) hlast (fun s' l' W hW kk u hu => by
          obtain ⟨A', c', h⟩ := hW
          refine h.cell (k := 3) rfl (j := kk) (ints_mem ?_)
          rw [hpe, List.getElem?_map, hu]; rfl) (by omega) hr)
        have HQ := Lib.hid (And.intro hcan hnsub)
        have hlastq : (v :: q).getLast (by simp) = x := by
          rw [List.getLast_eq_getElem]
          have := (List.getElem?_eq_some_iff.1 hlast).2
          simpa using this
        have HOK := Lib.hid (carry_ok HC0.out (hin v (by simp)) (by omega) (by omega) (by have := HNE.out; omega) hr hsub hql hlastq (fun u hu => hin u (List.mem_cons_of_mem _ hu)) hadj)
        rw [hpl]
        clear HCASE hcan hsub hnsub hlast hin hadj hpe hWr HM6 hlastq HM4
        go_wp2_with fail
        refine KC.out.mono ?_
        rintro e w6 ⟨rfl, A', c', hM⟩
        have HM := Lib.hid hM
        have c0 := rowG_last hM
        generalize carryL (startG n es) v q x y r = l at *
        clear hM KC
        go_wp2
        refine bodyPost_ret (v := .tuple #[.slice A' l.length c', .int .i64 0]) (by simp [results, Try.results16, go_sem]) rfl ?_
        refine ⟨A', c', l, 0, rfl, ⟨fun h => absurd HE0.out h, fun _ h => absurd HQ.out.1 h, fun _ _ => ⟨rfl, HOK.out.1, by have := HOK.out.2.1; omega, fun h => absurd h HQ.out.2, ?_⟩⟩, HM.out.row (k := 1) rfl, HM.out.below⟩
        rw [runG_runS]
        exact HOK.out.2.2
  · have HE := Lib.hid hE
    obtain ⟨q, hqq⟩ : ∃ q, q = codeGC n es x y r := ⟨_, rfl⟩
    rw [← hqq] at HE ⊢
    have hE := HE.out
    have HQ := Lib.hid hqq
    clear hqq
    go_wp2
    refine bodyPost_ret (v := .tuple #[.slice none 0 0, .int .i64 q]) (by simp [results, Try.results16, go_sem]) rfl ?_
    exact ⟨none, 0, [], q, rfl, ⟨fun _ => ⟨HQ.out, rfl⟩, fun h => absurd (HQ.out.trans h) hE, fun h => absurd (HQ.out.trans h) hE⟩, Row.nil _ _, HM3.out.below⟩

end Go.Proofs.Ytlpjpnlfmjehnaa
