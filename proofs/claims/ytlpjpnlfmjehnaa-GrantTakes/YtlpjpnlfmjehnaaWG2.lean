/- syllogistref.Can. -/
import Derived.Test.YtlpjpnlfmjehnaaWG1
import Derived.Test.YtlpjpnlfmjehnaaRm
import Derived.Test.YtlpjpnlfmjehnaaOwnI
namespace Go.Proofs.Ytlpjpnlfmjehnaa
open Go.RowKit

theorem infoIg : (Try.prog.info? 3).map (fun i => (i.zero, i.size, i.bytes)) = some (some (.int .i64 0), 1, 8) := by kernel_rfl
theorem ints_mem {l : List Int} {k : Nat} {v : Int} (h : l[k]? = some v) : (ints l)[k]? = some (.int .i64 v) := ints_at h

/-- What Can answers. -/
def CanPost (es : List Ed) (x y : Int) (r : Nat) (w : World) (e : Ending) (w' : World) : Prop := ∃ b : Bool, e = .returned (.bool b) ∧ (b = true ↔ CanE es x y r) ∧ Below w.heap.size w w'

set_option maxRecDepth 100000 in
set_option maxHeartbeats 4000000 in
theorem refCan_any (n : Int) (hn : n ≤ 6) (es : List Ed) (A : Option Addr) (c : Nat) (x y : Int) (r : Nat) (w : World) (h32 : E32 es) (hr32 : r < 4294967296) (hl : es.length ≤ 20) (hg : ∀ e ∈ es, EdgeOk n e) (hx : 0 ≤ x ∧ x < n) (hr : Row w A (edgesC es)) :
    Calls Try.prog 15 #[.slice A es.length c, .int .i64 x, .int .i64 y, .int .u32 r] w (CanPost es x y r w) := by
  obtain ⟨i0, hi0, hz0, hz1, hz2⟩ := info_parts infoIg
  have HI := Lib.hid (And.intro hi0 (And.intro hz0 (And.intro hz1 hz2)))
  have H32 := Lib.hid h32
  have HG := Lib.hid hg
  have HM0 := Lib.hid ((RowsM.nil w).newAlloc (cs := #[.int .i64 x]) (t := 3) 1 1 (by decide) rfl)
  clear hi0 hz0 hz1 hz2 h32 hg
  go_enter Try.func15, Try.ntmps15
  go_wp2
  go_loopw [9, 10] (fun hv kv wr => ∃ (here : List Int) (k : Nat), kv = .int .i64 k ∧ k ≤ here.length ∧ Bfg n es x y r here k ∧ RowsM w [⟨3, 1, hv, here.length, ints here⟩] wr) (fun _ kv _ => 6 - (intOf kv).toNat)
  case atStart => exact ⟨[x], 0, rfl, by simp, Bfg.init hx, HM0.out⟩
  case round =>
    clear HM0
    obtain ⟨here, k, rfl, hk, hB, hm⟩ := hrel
    have hlen : here.length ≤ 6 := by have := hB.len; omega
    have hpos : 0 < here.length := List.length_pos_of_mem hB.start
    obtain ⟨g, ch, hv, hcap⟩ := hm.solid (k := 0) rfl hpos
    simp only at hv
    subst hv
    have HBf := Lib.hid hB
    have HM := Lib.hid hm
    clear hm
    by_cases hlt : k < here.length
    · obtain ⟨v, hv⟩ := get_some hlt
      have c0 := HM.out.cell (k := 0) rfl (j := k) (ints_mem hv)
      have HV := Lib.hid hv
      have hk6 : k < 6 := by omega
      have hO := fun W (hb : Below w.heap.size w W) => Over_any es A c v y W H32.out (by omega) (hr.below hb)
      have ho32 := overL_u32 H32.out v y
      clear hv hB
      have hks : (k : Int) < here.length := by omega
      go_upto_region 5 with fail
      go_cut [37] (fun bv wx => ∃ b : Bool, bv = .bool b ∧ (b = true ↔ (v ≠ y ∧ sub r (overL es v y) = true)) ∧ RowsM w [⟨3, 1, .slice (some ⟨g, 0, none⟩) here.length ch, here.length, ints here⟩] wx)
      case first =>
        by_cases hvy : v = y
        · have hb1 : (v != y) = false := by simpa using hvy
          have HR := Lib.hid (show (false = true ↔ (v ≠ y ∧ sub r (overL es v y) = true)) by simp [hvy])
          clear hvy
          go_wp2_with fail
          go_meet
          exact ⟨_, rfl, HR.out, HM.out⟩
        · have hb1 : (v != y) = true := by simpa using hvy
          have HR := Lib.hid (show (sub r (overL es v y) = true ↔ (v ≠ y ∧ sub r (overL es v y) = true)) by simp [hvy])
          clear hvy
          go_wp2_with fail
          refine (hO _ HM.out.below).mono ?_
          rintro e w2 ⟨rfl, hb2⟩
          have HM2 := Lib.hid (HM.out.grow hb2)
          clear hb2
          go_wp2_with fail
          refine (In_any r _ hr32 ho32 _).mono ?_
          rintro e w3 ⟨rfl, rfl⟩
          go_wp2_with fail
          go_meet
          exact ⟨_, rfl, HR.out, HM2.out⟩
      case rest =>
      obtain ⟨b, rfl, hb, hm⟩ := hcut
      have HB := Lib.hid hb
      have HM1 := Lib.hid hm
      clear hb hm c0 hO ho32 HM
      cases b with
      | true =>
        have HC := Lib.hid (HBf.out.yes (List.mem_of_getElem? HV.out) (HB.out.1 rfl).1 (HB.out.1 rfl).2)
        go_wp2
        go_ret
        exact ⟨true, rfl, by simp [HC.out], HM1.out.below⟩
      | false =>
        have HNo := Lib.hid (show ¬ (v ≠ y ∧ sub r (overL es v y) = true) from fun h => by have := HB.out.2 h; cases this)
        clear HB
        go_wp2_with fail
        go_loopw [9, 40] (fun hv jv wr => ∃ (here : List Int) (j : Nat), jv = .int .i64 j ∧ j ≤ es.length ∧ k < here.length ∧ Bfg n es x y r here k ∧ here[k]? = some v ∧ (∀ u, AdjE (es.take j) v u → u ∈ here) ∧ RowsM w [⟨3, 1, hv, here.length, ints here⟩] wr) (fun _ jv _ => es.length - (intOf jv).toNat)
        case atStart => exact ⟨here, 0, rfl, Nat.zero_le _, by omega, HBf.out, HV.out, (fun u ⟨e, he, _⟩ => by simp at he), HM1.out⟩
        case round =>
          clear HM1 HBf HV hlen hpos hcap hk hlt hks
          obtain ⟨here, j, rfl, hj, hkl, hB, hv, had, hm⟩ := hrel
          have hlen : here.length ≤ 6 := by have := hB.len; omega
          obtain ⟨g, ch, hgv, hcap⟩ := hm.solid (k := 0) rfl (by show 0 < here.length; omega)
          simp only at hgv
          subst hgv
          have HBf := Lib.hid hB
          have HV := Lib.hid hv
          have HAd := Lib.hid had
          by_cases hlt : j < es.length
          · obtain ⟨e, he⟩ := get_some hlt
            obtain ⟨b2, o2, rfl, d0, d1, d2⟩ := RowEd.cells (hr.below hm.below) he
            have hre := H32.out e (List.mem_of_getElem? he)
            have hok := HG.out e (List.mem_of_getElem? he)
            have HT := Lib.hid (fun u => adj_take he (v := v) (u := u))
            have HE := Lib.hid (List.mem_of_getElem? he)
            have HM := Lib.hid (show RowsM w [⟨3, 1, .slice (some ⟨g, 0, none⟩) here.length ch, here.length, ints here⟩, ⟨63, 3, .slice (some ⟨wr.heap.size, 0, none⟩) 1 1, 1, [.int .i64 e.1, .int .i64 e.2.1, .int .u32 (e.2.2 : Int)]⟩] _ from hm.newAlloc (cs := #[.int .i64 e.1, .int .i64 e.2.1, .int .u32 (e.2.2 : Int)]) (t := 63) 3 1 (by decide) rfl)
            have hat := EdAt.new wr e 63
            clear he hm hB hv had
            obtain ⟨f, t, q⟩ := e
            simp only at d0 d1 d2 hre HT HM hat
            obtain ⟨o1, o2', o3, o4, o5⟩ := hok
            simp only at o1 o2' o3 o4 o5
            obtain ⟨q0, q1, q2⟩ := hat
            simp only at q0 q1 q2
            go_upto_region 10 with fail
            clear d0 d1 d2
            generalize wr.alloc _ = w1 at *
            generalize wr.heap.size = sz at *
            have hand : bits .and .u32 (q : Int) 3 = ((q &&& 3 : Nat) : Int) := u32_and_nat q 3 hre (by decide)
            have c0 := HM.out.cell (k := 0) rfl (j := k) (ints_mem HV.out)
            have hks : (k : Int) < here.length := by omega
            by_cases h3 : q &&& 3 = 0
            · rw [h3] at hand
              have HN := Lib.hid (show ∀ u, AdjE (es.take (j + 1)) v u → u ∈ here from fun u hu => (((HT.out u).1 hu).resolve_right fun k => k.1 h3) |> HAd.out u)
              go_wp2
              go_roundw
              case rel => exact ⟨here, j + 1, by go_num, by omega, hkl, HBf.out, HV.out, HN.out, HM.out.take 1⟩
              case measure => simp [intOf]; omega
            · obtain ⟨q3, hq3⟩ : ∃ q3, q3 = q &&& 3 := ⟨_, rfl⟩
              rw [← hq3] at hand h3
              have hq0 : ((q3 : Int) == 0) = false := by rw [beq_eq_false_iff_ne]; omega
              have HQ3 := Lib.hid (show q &&& 3 ≠ 0 by rw [← hq3]; exact h3)
              clear h3 hq3
              have hH := fun z nn => Has_quiet here (some ⟨g, 0, none⟩) ch z w1 nn (HM.out.row (k := 0) rfl) (by omega)
              by_cases hf : f = v
              · subst hf
                have htf : (t == f) = false := by rw [beq_eq_false_iff_ne]; omega
                by_cases hin : t ∈ here
                · have HN := Lib.hid (show ∀ u, AdjE (es.take (j + 1)) f u → u ∈ here from fun u hu => ((HT.out u).1 hu).elim (HAd.out u) fun k => k.2.elim (fun k => k.2 ▸ hin) (fun k => absurd k.1.symm o5))
                  have hH' := hH t
                  rw [decide_eq_true hin] at hH'
                  clear hH hin
                  go_wp2_with fail
                  go_quiet (with_reducible exact hH' _)
                  go_wp2_with fail
                  go_quiet (fail)
                  go_wp2
                  go_roundw
                  case rel => exact ⟨here, j + 1, by go_num, by omega, hkl, HBf.out, HV.out, HN.out, (HM.out.drewN _).take 1⟩
                  case measure => simp [intOf]; omega

                · have HB2 := Lib.hid (HBf.out.add HG.out (by omega) (List.mem_of_getElem? HV.out) ⟨_, HE.out, HQ3.out, .inl ⟨rfl, rfl⟩⟩ hin)
                  have HN := Lib.hid (show ∀ u, AdjE (es.take (j + 1)) f u → u ∈ here ++ [t] from fun u hu => ((HT.out u).1 hu).elim (fun k => List.mem_append_left _ (HAd.out u k)) fun k => k.2.elim (fun k => by rw [← k.2]; simp) (fun k => absurd k.1.symm o5))
                  have hH' := hH t
                  rw [decide_eq_false hin] at hH'
                  clear hH hin
                  go_wp2_with fail
                  go_quiet (with_reducible exact hH' _)
                  have HMA := Lib.hid ((HM.out.drewN nq).grow ((Below.refl (w1.drewN nq).heap.size (w1.drewN nq)).alloc (Nat.le_refl _) (.cells #[.int .i64 t] 3)))
                  go_wp2_with (at_builtin; refine wpList_append_rm rfl _ _ 66 rfl 0 3 1 here.length _ (ints here) HMA.out rfl i0 (.int .i64 0) 8 Try.underlying66 HI.out.1 HI.out.2.1 HI.out.2.2.1 HI.out.2.2.2 rfl (by decide) rfl ⟨(w1.drewN nq).heap.size, 0, none⟩ 1 1 [.int .i64 t] rfl rfl ?qnewsa ?qonea ?q63a ?qbya ?qnexta)
                  case qnewsa => exact row_news (row_new (w1.drewN nq) (w1.drewN nq).heap.size rfl [.int .i64 t] 3)
                  case qonea => intro u hu; simp only [List.mem_cons, List.not_mem_nil, or_false] at hu; rcases hu with rfl; rfl
                  case q63a => unfold maxLen; omega
                  case qbya => omega
                  case qnexta =>
                    intro A' c' w3 hn
                    have HN3 := Lib.hid (show RowsM w [⟨3, 1, .slice A' (here.length + 1) c', here.length + 1, ints (here ++ [t])⟩, ⟨63, 3, .slice (some ⟨sz, 0, none⟩) 1 1, 1, [.int .i64 f, .int .i64 t, .int .u32 (q : Int)]⟩] w3 by
                      rw [ints_append]
                      exact hn)
                    clear hn
                    have hks : (k : Int) < ((here.length + 1 : Nat) : Int) := by omega
                    obtain ⟨g3, c3, e3, _⟩ := HN3.out.solid (k := 0) rfl (by show 0 < here.length + 1; omega)
                    simp only [Value.slice.injEq, true_and] at e3
                    obtain ⟨rfl, rfl⟩ := e3
                    clear c0 q0 q1 q2
                    have q0 := HN3.out.cell (k := 1) rfl (j := 0) rfl
                    have q1 := HN3.out.cell (k := 1) rfl (j := 1) rfl
                    have q2 := HN3.out.cell (k := 1) rfl (j := 2) rfl
                    have c0 := HN3.out.cell (k := 0) rfl (j := k) (ints_mem (by rw [List.getElem?_append_left hkl]; exact HV.out))
                    go_wp2_with fail
                    go_quiet (fail)
                    go_wp2
                    go_roundw
                    case rel => exact ⟨here ++ [t], j + 1, by go_num, by omega, by rw [List.length_append]; omega, HB2.out, by rw [List.getElem?_append_left hkl]; exact HV.out, HN.out, by rw [List.length_append]; exact (HN3.out.drewN _).take 1⟩
                    case measure => simp [intOf]; omega

              · have hfv : (f == v) = false := by rw [beq_eq_false_iff_ne]; exact hf
                by_cases ht : t = v
                · subst ht
                  by_cases hin : f ∈ here
                  · have HN := Lib.hid (show ∀ u, AdjE (es.take (j + 1)) t u → u ∈ here from fun u hu => ((HT.out u).1 hu).elim (HAd.out u) fun k => k.2.elim (fun k => absurd k.1 o5) (fun k => k.2 ▸ hin))
                    clear hH hf
                    go_wp2_with fail
                    go_quiet (fail)
                    have HMq := Lib.hid (HM.out.drewN nq)
                    have q0 : (w1.drewN nq).cell? ⟨sz, 0, none⟩ = _ := q0
                    have q1 : (w1.drewN nq).cell? ⟨sz, 1, none⟩ = _ := q1
                    have c0 : (w1.drewN nq).cell? ⟨g, k, none⟩ = _ := c0
                    generalize w1.drewN nq = w2 at *
                    have hH' := fun nn => Has_quiet here (some ⟨g, 0, none⟩) ch f w2 nn (HMq.out.row (k := 0) rfl) (by omega)
                    rw [decide_eq_true hin] at hH'
                    clear hin
                    go_wp2_with fail
                    go_quiet (with_reducible exact hH' _)
                    go_wp2
                    go_roundw
                    case rel => exact ⟨here, j + 1, by go_num, by omega, hkl, HBf.out, HV.out, HN.out, (HMq.out.drewN _).take 1⟩
                    case measure => simp [intOf]; omega

                  · have HB2 := Lib.hid (HBf.out.add HG.out (by omega) (List.mem_of_getElem? HV.out) ⟨_, HE.out, HQ3.out, .inr ⟨rfl, rfl⟩⟩ hin)
                    have HN := Lib.hid (show ∀ u, AdjE (es.take (j + 1)) t u → u ∈ here ++ [f] from fun u hu => ((HT.out u).1 hu).elim (fun k => List.mem_append_left _ (HAd.out u k)) fun k => k.2.elim (fun k => absurd k.1 o5) (fun k => by rw [← k.2]; simp))
                    clear hH hf
                    go_wp2_with fail
                    go_quiet (fail)
                    have HMq := Lib.hid (HM.out.drewN nq)
                    have q0 : (w1.drewN nq).cell? ⟨sz, 0, none⟩ = _ := q0
                    have q1 : (w1.drewN nq).cell? ⟨sz, 1, none⟩ = _ := q1
                    have c0 : (w1.drewN nq).cell? ⟨g, k, none⟩ = _ := c0
                    generalize w1.drewN nq = w2 at *
                    have hH' := fun nn => Has_quiet here (some ⟨g, 0, none⟩) ch f w2 nn (HMq.out.row (k := 0) rfl) (by omega)
                    rw [decide_eq_false hin] at hH'
                    clear hin
                    go_wp2_with fail
                    go_quiet (with_reducible exact hH' _)
                    have HMA := Lib.hid ((HMq.out.drewN nq).grow ((Below.refl (w2.drewN nq).heap.size (w2.drewN nq)).alloc (Nat.le_refl _) (.cells #[.int .i64 f] 3)))
                    go_wp2_with (at_builtin; refine wpList_append_rm rfl _ _ 66 rfl 0 3 1 here.length _ (ints here) HMA.out rfl i0 (.int .i64 0) 8 Try.underlying66 HI.out.1 HI.out.2.1 HI.out.2.2.1 HI.out.2.2.2 rfl (by decide) rfl ⟨(w2.drewN nq).heap.size, 0, none⟩ 1 1 [.int .i64 f] rfl rfl ?qnewsb ?qoneb ?q63b ?qbyb ?qnextb)
                    case qnewsb => exact row_news (row_new (w2.drewN nq) (w2.drewN nq).heap.size rfl [.int .i64 f] 3)
                    case qoneb => intro u hu; simp only [List.mem_cons, List.not_mem_nil, or_false] at hu; rcases hu with rfl; rfl
                    case q63b => unfold maxLen; omega
                    case qbyb => omega
                    case qnextb =>
                      intro A' c' w3 hn
                      have HN3 := Lib.hid (show RowsM w [⟨3, 1, .slice A' (here.length + 1) c', here.length + 1, ints (here ++ [f])⟩, ⟨63, 3, .slice (some ⟨sz, 0, none⟩) 1 1, 1, [.int .i64 f, .int .i64 t, .int .u32 (q : Int)]⟩] w3 by
                        rw [ints_append]
                        exact hn)
                      clear hn
                      go_wp2
                      go_roundw
                      case rel => exact ⟨here ++ [f], j + 1, by go_num, by omega, by rw [List.length_append]; omega, HB2.out, by rw [List.getElem?_append_left hkl]; exact HV.out, HN.out, by rw [List.length_append]; exact HN3.out.take 1⟩
                      case measure => simp [intOf]; omega

                · have htv : (t == v) = false := by rw [beq_eq_false_iff_ne]; exact ht
                  have HN := Lib.hid (show ∀ u, AdjE (es.take (j + 1)) v u → u ∈ here from fun u hu => ((HT.out u).1 hu).elim (HAd.out u) fun k => k.2.elim (fun k => absurd k.1 hf) (fun k => absurd k.1 ht))
                  clear hH hf ht
                  go_wp2_with fail
                  go_quiet (fail)
                  go_wp2_with fail
                  go_quiet (fail)
                  go_wp2
                  go_roundw
                  case rel => exact ⟨here, j + 1, by go_num, by omega, hkl, HBf.out, HV.out, HN.out, (HM.out.drewN _).take 1⟩
                  case measure => simp [intOf]; omega

          · obtain rfl : j = es.length := by omega
            rw [List.take_length] at HAd
            have HB3 := Lib.hid (HBf.out.next HV.out HAd.out HNo.out)
            have HMe := Lib.hid hm
            clear hB hv had hm hlt hj
            go_wp2
            go_roundw
            case rel => exact ⟨here, k + 1, by go_num, by omega, HB3.out, HMe.out⟩
            case measure => simp [intOf]; omega
    · obtain rfl : k = here.length := by omega
      have HC := Lib.hid (show ¬ CanE es x y r from HBf.out.no)
      have hks : ¬ ((here.length : Int) < here.length) := by omega
      clear hlt hk hB
      go_wp2
      go_ret
      exact ⟨false, rfl, by simp [HC.out], HM.out.below⟩

end Go.Proofs.Ytlpjpnlfmjehnaa
