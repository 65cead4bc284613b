/- grant's path: who is reached, and from whom. -/
import Derived.Test.YtlpjpnlfmjehnaaWGo5
namespace Go.Proofs.Ytlpjpnlfmjehnaa
open Go.RowKit
open Go.ChangeMaps (setBlock)

theorem gAt_below {w w' : World} {g : Nat} {s : Gs} (h : GAt w g s) (hb : Below w.heap.size w w') (hg : g < w.heap.size) : GAt w' g s := by
  have hc : ∀ j, w'.cell? ⟨g, j, none⟩ = w.cell? ⟨g, j, none⟩ := fun j => by
    simp only [World.cell?, hb.block g hg]
  exact ⟨by rw [hc]; exact h.n, fun a b ha hb => by rw [hc]; exact h.ov a b ha hb⟩
theorem lk_adj {n : Nat} {es : List Ed} {a b : Nat} : lkV (startG n es) a b = true ↔ AdjE es b a := by
  unfold lkV
  rw [bne_iff_ne]
  constructor
  · intro h; exact (joined_adj h).symm
  · rintro ⟨e, he, h1, h2⟩
    rw [and3_bit] at h1 ⊢
    simp only [Nat.testBit_or, Bool.or_eq_true_iff]
    have key : ∀ i, e.2.2.testBit i = true → ((startG n es).ov a b).testBit i = true ∨ ((startG n es).ov b a).testBit i = true := fun i hi => by
      rcases h2 with h2 | h2
      · exact .inr (overL_bit.2 ⟨e, he, h2.1, h2.2, hi⟩)
      · exact .inl (overL_bit.2 ⟨e, he, h2.2, h2.1, hi⟩)
    rcases h1 with h1 | h1
    · exact .inl (key 0 h1)
    · exact .inr (key 1 h1)
theorem Twd.push {es : List Ed} {x u : Int} {v k : Nat} {here : List Int} {f : Int → Nat} (h : Twd es x here f) (hk : here[k]? = some (v : Int)) (ha : AdjE es u v) (hu : ¬ u ∈ here) (hr : 0 ≤ u ∧ u < 1000) : Twd es x (here ++ [u]) (updI f u v) := by
  have hkl := (List.getElem?_eq_some_iff.1 hk).1
  refine ⟨by rw [List.getElem?_append_left (by omega)]; exact h.1, fun i z hi hz => ?_, fun z hz => ?_⟩
  · by_cases e : i < here.length
    · rw [List.getElem?_append_left e] at hz
      obtain ⟨j, h1, h2, h3⟩ := h.2.1 i z hi hz
      have hne : z ≠ u := fun e => hu (e ▸ List.mem_of_getElem? hz)
      refine ⟨j, h1, ?_, ?_⟩
      · rw [List.getElem?_append_left (by omega)]; simp only [updI, if_neg hne]; exact h2
      · simp only [updI, if_neg hne]; exact h3
    · have hl := (List.getElem?_eq_some_iff.1 hz).1
      simp only [List.length_append, List.length_singleton] at hl
      rw [List.getElem?_append_right (by omega), show i - here.length = 0 by omega] at hz
      simp at hz
      subst hz
      refine ⟨k, by omega, ?_, ?_⟩
      · rw [List.getElem?_append_left hkl]; simp only [updI, if_true]; exact hk
      · simp only [updI, if_true]; exact ha
  · rw [List.mem_append, List.mem_singleton] at hz
    rcases hz with hz | rfl
    · exact h.2.2 z hz
    · exact hr
/-- What path answers. -/
def PathR (n : Int) (es : List Ed) (x y : Int) (r : Nat) (p : List Int) : Prop :=
  (p = [] ∧ ¬ CanE es x y r) ∨ ∃ (v : Int) (here : List Int), v ≠ y ∧ sub r (overL es v y) = true ∧ CanE es x y r ∧ PathW es x v here p ∧ (∀ a ∈ here, 0 ≤ a ∧ a < n) ∧ p.length ≤ n.toNat ∧ (sub r (overL es x y) = true → p.length ≤ 1)
theorem not_self {n r y : Nat} {es : List Ed} (hF : FineG (startG n es)) (hr0 : r ≠ 0) {x : Int} (hx : 0 ≤ x) (h : sub r (overL es x y) = true) : x ≠ y := by
  obtain ⟨v, rfl⟩ := Int.eq_ofNat_of_zero_le hx
  intro e
  have e' : v = y := by omega
  subst e'
  obtain ⟨i, hi⟩ := exists_bit hr0
  have h1 := sub_iff.1 h i hi
  have h2 : (startG n es).ov v v ≠ 0 := fun e => by rw [show (startG n es).ov v v = overL es v v from rfl] at e; rw [e, Nat.zero_testBit] at h1; cases h1
  exact (hF.2.2.2 v v h2).2.2 rfl

set_option maxRecDepth 100000 in
set_option maxHeartbeats 4000000 in
theorem gPath_any (g n : Nat) (es : List Ed) (x y : Int) (r : Nat) (w : World) (hgt : GAt w g (startG n es)) (hgl : g < w.heap.size) (hc : codeE n es = 0) (h32 : E32 es) (hx : 0 ≤ x ∧ x < n) (hy : 0 ≤ y ∧ y < n) (hr : r < 4294967296) (hr0 : r ≠ 0) :
    Calls Try.prog 25 #[.pointer (some ⟨g, 0, none⟩), .int .i64 x, .int .i64 y, .int .u32 (r : Int)] w fun e w' => ∃ (A : Option Addr) (c : Nat) (p : List Int),
      e = .returned (.slice A p.length c) ∧ PathR n es x y r p ∧ RowsM w [⟨3, 1, .slice A p.length c, p.length, ints p⟩] w' := by
  obtain ⟨i0, hi0, hz0, hz1, hz2⟩ := info_parts infoIg
  have HI := Lib.hid (And.intro hi0 (And.intro hz0 (And.intro hz1 hz2)))
  have HG := Lib.hid hgt
  have HF := Lib.hid (fineG_start hc h32)
  obtain ⟨_, hn6, _, hE⟩ := codeE_zero hc
  have HE := Lib.hid hE
  have HM0 := Lib.hid ((RowsM.nil w).newAlloc (cs := #[.int .i64 x]) (t := 3) 1 1 (by decide) rfl).mapC
  rw [show (w.alloc (.cells #[.int .i64 x] 3)).heap.size = w.heap.size + 1 by simp] at HM0
  have hmm := @run_makeMap Try.prog
  obtain ⟨yn, rfl⟩ := Int.eq_ofNat_of_zero_le hy.1
  clear hi0 hz0 hz1 hz2 hgt hE
  go_enter Try.func25, Try.ntmps25
  go_wp2
  go_loopw [9, 11] (fun hv kv wr => ∃ (here : List Int) (k m : Nat) (f : Int → Nat), kv = .int .i64 k ∧ k ≤ here.length ∧ Bfg n es x yn r here k ∧ Twd es x here f ∧ m ≤ here.length ∧ RowsC w [⟨3, 1, hv, here.length, ints here⟩] (w.heap.size + 1) m f wr) (fun _ kv _ => 6 - (intOf kv).toNat)
  case atStart => exact ⟨[x], 0, 0, fun _ => 0, rfl, by simp, Bfg.init hx, ⟨rfl, fun k u h1 h2 => by have := (List.getElem?_eq_some_iff.1 h2).1; simp at this; omega, fun u hu => by simp at hu; omega⟩, by omega, HM0.out⟩
  case round =>
    clear HM0
    obtain ⟨here, k, m, f, rfl, hk, hB, hT, hmh, hM⟩ := hrel
    have hlen : here.length ≤ 6 := by have := hB.len; omega
    have hpos : 0 < here.length := List.length_pos_of_mem hB.start
    obtain ⟨gh, ch, hv, hcap⟩ := hM.rows.solid (k := 0) rfl hpos
    simp only at hv
    subst hv
    have HBf := Lib.hid hB
    have HT := Lib.hid hT
    have HM := Lib.hid hM
    clear hM hT
    by_cases hlt : k < here.length
    · obtain ⟨v, hv⟩ := get_some hlt
      have c0 := HM.out.rows.cell (k := 0) rfl (j := k) (ints_mem hv)
      have hvi := hB.inside v (List.mem_of_getElem? hv)
      obtain ⟨v, rfl⟩ := Int.eq_ofNat_of_zero_le hvi.1
      have HV := Lib.hid hv
      have hg1 := gAt_below HG.out HM.out.rows.below hgl
      have KH := Lib.hid (gHas_any g (startG n es) v yn r wr hg1 HF.out (by omega) (by omega) hr)
      have hgn : wr.cell? ⟨g, 0, none⟩ = some (.int .i64 (n : Int)) := hg1.n
      have hks : (k : Int) < here.length := by omega
      have HB := Lib.hid hB
      clear hv hB hg1
      go_wp2_with fail
      refine KH.out.mono ?_
      rintro e w' ⟨rfl, rfl⟩
      cases hs : sub r ((startG n es).ov v yn)
      · have HNo := Lib.hid (show ¬ ((v : Int) ≠ yn ∧ sub r (overL es v yn) = true) from fun h => by have h2 := h.2; rw [show overL es v yn = (startG n es).ov v yn from rfl, hs] at h2; cases h2)
        clear hs c0 KH
        go_wp2_with fail
        go_loopw [9, 40] (fun hv jv wr => ∃ (here : List Int) (j m : Nat) (f : Int → Nat), jv = .int .i64 j ∧ j ≤ n ∧ k < here.length ∧ Bfg n es x yn r here k ∧ Twd es x here f ∧ here[k]? = some (v : Int) ∧ (∀ u : Nat, u < j → AdjE es v u → (u : Int) ∈ here) ∧ m ≤ here.length ∧ RowsC w [⟨3, 1, hv, here.length, ints here⟩] (w.heap.size + 1) m f wr) (fun _ jv _ => n - (intOf jv).toNat)
        case atStart => exact ⟨here, 0, m, f, rfl, Nat.zero_le _, by omega, HB.out, HT.out, HV.out, (fun u hu => by omega), hmh, HM.out⟩
        case round =>
          clear HM HBf HV hlen hpos hcap hk hlt hks HB HT hmh
          obtain ⟨here, j, m, f, rfl, hj, hkl, hB, hT, hv, had, hmh, hm⟩ := hrel
          have hlen : here.length ≤ 6 := by have := hB.len; omega
          obtain ⟨gh, ch, hgv, hcap⟩ := hm.rows.solid (k := 0) rfl (by show 0 < here.length; omega)
          simp only at hgv
          subst hgv
          have HB := Lib.hid hB
          have HV := Lib.hid hv
          have HAd := Lib.hid had
          have HM := Lib.hid hm
          have HT := Lib.hid hT
          clear hB hv had hm hT
          by_cases hlt : j < n
          · have hg1 := gAt_below HG.out HM.out.rows.below hgl
            have KL := Lib.hid (gLinked_any g (startG n es) j v wr hg1 HF.out (by omega) (by omega))
            have KC := Lib.hid (fun q => slContains_any here (some ⟨gh, 0, none⟩) ch (j : Int) (wr.drewN q) ((HM.out.rows.drewN q).row (k := 0) rfl) (by omega))
            have hjn : (j : Int) < n := by omega
            clear hg1
            cases hlk : lkV (startG n es) j v
            · have HN := Lib.hid (show ∀ u : Nat, u < j + 1 → AdjE es v u → (u : Int) ∈ here from fun u hu ha => by
                by_cases e : u = j
                · subst e; rw [lk_adj.2 ha] at hlk; cases hlk
                · exact HAd.out u (by omega) ha)
              rw [hlk] at KL
              clear hlk KC
              go_wp2_with fail
              refine KL.out.mono ?_
              rintro e w' ⟨rfl, nq, rfl⟩
              go_wp2
              go_roundw
              case rel => exact ⟨here, j + 1, m, f, by go_num, by omega, hkl, HB.out, HT.out, HV.out, HN.out, hmh, HM.out.drewN _⟩
              case measure => simp [intOf]; omega
            · have hadj := lk_adj.1 hlk
              rw [hlk] at KL
              by_cases hin : (j : Int) ∈ here
              · have HN := Lib.hid (show ∀ u : Nat, u < j + 1 → AdjE es v u → (u : Int) ∈ here from fun u hu ha => by
                  by_cases e : u = j
                  · subst e; exact hin
                  · exact HAd.out u (by omega) ha)
                rw [decide_eq_true hin] at KC
                clear hlk hin hadj
                go_wp2_with fail
                refine KL.out.mono ?_
                rintro e w' ⟨rfl, nq, rfl⟩
                go_wp2_with fail
                refine (KC.out nq).mono ?_
                rintro e w' ⟨rfl, rfl⟩
                go_wp2
                go_roundw
                case rel => exact ⟨here, j + 1, m, f, by go_num, by omega, hkl, HB.out, HT.out, HV.out, HN.out, hmh, HM.out.drewN _⟩
                case measure => simp [intOf]; omega
              · rw [decide_eq_false hin] at KC
                have HT2 := Lib.hid (HT.out.push HV.out hadj.symm hin ⟨by omega, by omega⟩)
                have HB2 := Lib.hid (HB.out.add HE.out (by omega) (List.mem_of_getElem? HV.out) hadj hin)
                have HN := Lib.hid (show ∀ u : Nat, u < j + 1 → AdjE es v u → (u : Int) ∈ here ++ [(j : Int)] from fun u hu ha => by
                  by_cases e : u = j
                  · subst e; simp
                  · exact List.mem_append_left _ (HAd.out u (by omega) ha))
                clear hlk hin hadj
                go_wp2_with fail
                refine KL.out.mono ?_
                rintro e w' ⟨rfl, nq, rfl⟩
                go_wp2_with fail
                refine (KC.out nq).mono ?_
                rintro e w' ⟨rfl, rfl⟩
                have HMq := Lib.hid (HM.out.drewN nq)
                clear HM KL KC
                generalize wr.drewN nq = w2 at *
                have HMA := Lib.hid (HMq.out.grow ((Below.refl w2.heap.size w2).alloc (Nat.le_refl _) (.cells #[.int .i64 (j : Int)] 3)))
                go_wp2_with (at_builtin; refine wpList_append_rc rfl _ _ 66 rfl 0 3 1 here.length _ (ints here) HMA.out rfl i0 (.int .i64 0) 8 Try.underlying66 HI.out.1 HI.out.2.1 HI.out.2.2.1 HI.out.2.2.2 rfl (by decide) rfl ⟨w2.heap.size, 0, none⟩ 1 1 [.int .i64 (j : Int)] rfl rfl ?qnewsa ?qonea ?q63a ?qbya ?qnexta)
                case qnewsa => exact row_news (row_new w2 w2.heap.size rfl [.int .i64 (j : Int)] 3)
                case qonea => intro u hu; simp only [List.mem_cons, List.not_mem_nil, or_false] at hu; rcases hu with rfl; rfl
                case q63a => unfold maxLen; omega
                case qbya => omega
                case qnexta =>
                  intro A' c' w3 hn
                  have hn' : RowsC w [⟨3, 1, .slice A' (here.length + 1) c', here.length + 1, ints (here ++ [(j : Int)])⟩] (w.heap.size + 1) m f w3 := by
                    rw [ints_append]
                    exact hn
                  obtain ⟨o, hup, hn2⟩ := hn'.put (x := (j : Int)) (v := v) (by unfold maxLen; omega) (vertLit ⟨by omega, by omega⟩) (by omega)
                  have HN3 := Lib.hid hn2
                  clear hn hn' hn2
                  go_wp2
                  go_roundw
                  case rel => exact ⟨here ++ [(j : Int)], j + 1, m + 1, updI f j v, by go_num, by omega, by rw [List.length_append]; omega, HB2.out, HT2.out, by rw [List.getElem?_append_left hkl]; exact HV.out, HN.out, by rw [List.length_append, List.length_singleton]; omega, by rw [List.length_append]; exact HN3.out⟩
                  case measure => simp [intOf]; omega
          · obtain rfl : j = n := by omega
            have HB3 := Lib.hid (HB.out.next HV.out (fun u hu => by
              have hu2 := (CnE.one hu).inside HE.out (HB.out.inside _ (List.mem_of_getElem? HV.out))
              obtain ⟨u, rfl⟩ := Int.eq_ofNat_of_zero_le hu2.1
              exact HAd.out u (by omega) hu) HNo.out)
            clear hlt hj
            go_wp2
            go_roundw
            case rel => exact ⟨here, k + 1, m, f, by go_num, by omega, HB3.out, HT.out, hmh, HM.out⟩
            case measure => simp [intOf]; omega
      · have hne : (v : Int) ≠ yn := not_self HF.out hr0 (by omega) hs
        have HC := Lib.hid (HB.out.yes (List.mem_of_getElem? HV.out) hne hs)
        have KW := Lib.hid (gWalk_any es x v here f (w.heap.size + 1) m k wr (by omega) HV.out HT.out HM.out.map)
        have H0 := Lib.hid (show sub r (overL es x yn) = true → k = 0 from fun h => Decidable.byContradiction fun hk => HB.out.none 0 x (by omega) HT.out.1 ⟨not_self HF.out hr0 hx.1 h, h⟩)
        have HS := Lib.hid hs
        have HNE := Lib.hid hne
        clear hs hne c0
        go_wp2_with fail
        refine KW.out.mono ?_
        rintro e w' ⟨A, c, p, rfl, hp, hl, hR⟩
        have HP := Lib.hid hp
        have HR := Lib.hid (hR.base HM.out.rows.below)
        clear hp hR
        go_wp2
        go_ret
        have := HB.out.len
        exact ⟨A, c, p, rfl, .inr ⟨v, here, HNE.out, HS.out, HC.out, HP.out, HB.out.inside, by omega, fun h => by have := H0.out h; omega⟩, HR.out⟩
    · obtain rfl : k = here.length := by omega
      have HC := Lib.hid (show ¬ CanE es x yn r from HBf.out.no)
      have hks : ¬ ((here.length : Int) < here.length) := by omega
      clear hlt hk hB
      go_wp2
      go_ret
      exact ⟨none, 0, [], rfl, .inl ⟨rfl, HC.out⟩, (HM.out.rows.drop 1).newNil _ _⟩

end Go.Proofs.Ytlpjpnlfmjehnaa
