/- truth.omit. -/
import Derived.Test.YtcokpjffgeihbaaWTo6
namespace Go.Proofs.Ytcokpjffgeihbaa
open Go.RowKit
open Go.ChangeMaps (setBlock)

theorem ownK_ne {w : World} {B b : Nat} {v : Value} {pl : List (Nat × Nat)} {o : Obj} (h : OwnK w B v pl) (hb : w.heap[b]? = some o) (ho : ∀ cs t fr, o ≠ .cells cs t fr) : v.ownBlock ≠ some b := by
  rcases h.2 with ⟨hv, _⟩ | ⟨g, cap, cur, hv, hg, hh, _⟩
  · rw [hv]; simp [Value.ownBlock]
  · rw [hv]
    intro e
    simp only [Value.ownBlock, Option.some.injEq] at e
    subst e
    rw [hh] at hb
    simp only [Option.some.injEq] at hb
    exact ho _ _ _ hb.symm
theorem ownK_kept {w w' : World} {B b : Nat} {v : Value} {pl : List (Nat × Nat)} (h : OwnK w B v pl) (hos : w'.os = w.os) (ht : w'.tape = w.tape) (ho : w'.output = w.output) (hs : w.heap.size ≤ w'.heap.size) (hk : ∀ k, k < w.heap.size → k ≠ b → w'.heap[k]? = w.heap[k]?) (hne : v.ownBlock ≠ some b) : OwnK w' B v pl :=
  World.ownsRow.kept h (row := some b) ⟨hos, ht, ho, hs, fun k hk' hkb => hk k hk' (fun e => hkb (by rw [e]))⟩ (.inr hne)

/-- What omit has on its way: a loop over the map in b, the primes v, the shorter ones in bs. -/
structure OmS (w0 : World) (r b bs : Nat) (l pl sl : List (Nat × Nat)) (vis : Nat × Nat → Prop) (left : Nat) (v : Value) (w : World) : Prop where
  steps : Steps w r b l vis left
  own : OwnK w w0.heap.size v pl
  map : MapIs w bs sl
  below : Below w0.heap.size w0 w
  hb : b < w0.heap.size
  hbs : w0.heap.size ≤ bs
  hr : w0.heap.size ≤ r
theorem OmS.ne {w0 w : World} {r b bs left : Nat} {l pl sl : List (Nat × Nat)} {vis : Nat × Nat → Prop} {v : Value} (h : OmS w0 r b bs l pl sl vis left v w) : v.ownBlock ≠ some b ∧ v.ownBlock ≠ some r ∧ v.ownBlock ≠ some bs ∧ bs ≠ r := by
  obtain ⟨es, clock, since, seen, c0, h1, h2, h3, h4, h5, _⟩ := h.steps
  obtain ⟨es', clock', h6, _⟩ := h.map
  refine ⟨ownK_ne h.own h1 (by simp), ownK_ne h.own h5 (by simp), ownK_ne h.own h6 (by simp), ?_⟩
  rintro rfl
  rw [h5] at h6
  cases h6
theorem OmS.grow {w0 w w' : World} {r b bs left : Nat} {l pl sl : List (Nat × Nat)} {vis : Nat × Nat → Prop} {v : Value} (h : OmS w0 r b bs l pl sl vis left v w) (hb : Below w.heap.size w w') : OmS w0 r b bs l pl sl vis left v w' :=
  ⟨h.steps.below hb, h.own.below hb, h.map.below hb, h.below.trans (hb.mono h.below.size), h.hb, h.hbs, h.hr⟩
theorem OmS.store {w0 w : World} {r b bs left : Nat} {l pl sl sl' : List (Nat × Nat)} {vis : Nat × Nat → Prop} {v : Value} {o : Obj} (h : OmS w0 r b bs l pl sl vis left v w) (hm : MapIs (setBlock w bs o) bs sl') : OmS w0 r b bs l pl sl' vis left v (setBlock w bs o) := by
  obtain ⟨n1, n2, n3, n4⟩ := h.ne
  have hbb : b ≠ bs := by have := h.hb; have := h.hbs; omega
  exact ⟨h.steps.same (heapSet_other _ hbb) (heapSet_other _ (fun e => n4 e.symm)), ownK_kept (b := bs) h.own rfl rfl rfl (by rw [heapSet_size]; exact Nat.le_refl _) (fun k _ hk => heapSet_other _ hk) n3, hm, below_set h.below h.hbs o, h.hb, h.hbs, h.hr⟩
theorem OmS.next {w0 w w1 : World} {r b bs left left' : Nat} {l pl sl : List (Nat × Nat)} {vis vis' : Nat × Nat → Prop} {v : Value} {o : Obj} (h : OmS w0 r b bs l pl sl vis left v w) (hw : w1 = w ∨ w1 = w.drew) (hs : Steps (setBlock w1 r o) r b l vis' left') : OmS w0 r b bs l pl sl vis' left' v (setBlock w1 r o) := by
  obtain ⟨n1, n2, n3, n4⟩ := h.ne
  rcases hw with rfl | rfl
  · exact ⟨hs, ownK_kept (b := r) h.own rfl rfl rfl (by rw [heapSet_size]; exact Nat.le_refl _) (fun k _ hk => heapSet_other _ hk) n2, h.map.same (heapSet_other _ n4), below_set h.below h.hr o, h.hb, h.hbs, h.hr⟩
  · exact ⟨hs, ownK_kept (b := r) h.own rfl rfl rfl (by rw [heapSet_size]; exact Nat.le_refl _) (fun k _ hk => heapSet_other _ hk) n2, h.map.same (heapSet_other _ n4), below_set h.below.drew h.hr o, h.hb, h.hbs, h.hr⟩
theorem OmS.append {w0 w w' : World} {r b bs left : Nat} {l pl pl' sl : List (Nat × Nat)} {vis : Nat × Nat → Prop} {v v' : Value} (h : OmS w0 r b bs l pl sl vis left v w) (ho : OwnK w' w0.heap.size v' pl') (hg : w.grownBy w' v.ownBlock) : OmS w0 r b bs l pl' sl vis left v' w' := by
  obtain ⟨n1, n2, n3, n4⟩ := h.ne
  have hl := h.steps.lt
  have hm := h.map.lt
  exact ⟨h.steps.same (hg.block b hl.2 (fun e => n1 e.symm)) (hg.block r hl.1 (fun e => n2 e.symm)), ho, h.map.same (hg.block bs hm (fun e => n3 e.symm)), h.below.grown hg h.below.size (fun k hk => (World.ownsRow.lt h.own k hk).1), h.hb, h.hbs, h.hr⟩

theorem TwoC_set {w : World} {g b y no : Nat} {o : Obj} (h : TwoC w g y no) (hne : g ≠ b) : TwoC (setBlock w b o) g y no := by
  unfold TwoC World.cell? at *
  simp only [heapSet_other o hne]
  exact h
/-- What has been gathered when those of vis have been. -/
structure OmD (n : Nat) (F : Nat → Bool) (l pl sl : List (Nat × Nat)) (vis : Nat × Nat → Prop) : Prop where
  nodup : pl.Nodup
  prime : ∀ p, p ∈ pl ↔ vis p ∧ p ∈ primL n F (one n)
  short : ∀ q, q ∈ sl ↔ ∃ p, vis p ∧ ∃ u, u < n ∧ oppP p u ∈ l ∧ q = lessP p u

set_option maxHeartbeats 4000000 in
theorem tOmit_any (n : Nat) (hn : n ≤ 4) (F : Nat → Bool) (d b : Nat) (l : List (Nat × Nat)) (w : World) (hm : MapIs w b l) (hl : LevL n F d l) :
    Calls Try.prog 33 #[.int .i64 n, .map (some b)] w fun e w' => ∃ v bs pl sl, e = .returned (.tuple #[v, .map (some bs)]) ∧ OwnK w' w.heap.size v pl ∧ MapIs w' bs sl ∧ w.heap.size ≤ bs ∧ pl.Nodup ∧ (∀ p, p ∈ pl ↔ p ∈ l ∧ p ∈ primL n F (one n)) ∧ LevL n F (d + 1) sl ∧ Below w.heap.size w w' := by
  have h16 := one_le_16 hn
  have hmm := @run_makeMap Try.prog
  have hb0 : Below w.heap.size w (w.alloc (.map #[] 0)) := (Below.refl _ _).alloc (Nat.le_refl _) _
  obtain ⟨clock, hrg, hst⟩ := steps_new (hm.below hb0)
  have hbl := hm.lt
  have HS := Lib.hid (show OmS w (w.heap.size + 1) b w.heap.size l [] [] (fun _ => False) l.length (.slice none 0 0) ((w.alloc (.map #[] 0)).alloc (.mapIter (some b) clock #[] clock)) from
    ⟨by have e : (w.alloc (.map #[] 0)).heap.size = w.heap.size + 1 := by simp
        rw [e] at hst; exact hst, World.ownsRow_nil _ _ _ _, (mapIs_new w).below ((Below.refl _ _).alloc (Nat.le_refl _) _), hb0.trans ((Below.refl _ _).alloc hb0.size _), hbl, Nat.le_refl _, by omega⟩)
  have HD := Lib.hid (show OmD n F l [] [] (fun _ => False) from ⟨List.nodup_nil, by simp, by simp⟩)
  have HM := Lib.hid hm
  have HL := Lib.hid hl
  clear hm hl hst hb0
  go_enter Try.func33, Try.ntmps33
  go_wp2
  clear hmm hrg
  go_loopw [6] (fun v wr => ∃ pl sl vis left, OmS w (w.heap.size + 1) b w.heap.size l pl sl vis left v wr ∧ OmD n F l pl sl vis ∧ (∀ p, vis p → p ∈ l)) (fun _ wr => wr.rangeLeft b (w.heap.size + 1))
  case atStart => exact ⟨[], [], _, _, HS.out, HD.out, by simp⟩
  case round =>
    clear HS HD
    obtain ⟨pl, sl, vis, left, hS, hD, hvis⟩ := hrel
    have HS := Lib.hid hS
    have HD := Lib.hid hD
    have HV := Lib.hid hvis
    clear hS hD hvis
    rcases HS.out.steps.next 0 with ⟨h0, hall, hrun⟩ | ⟨p, pv, o, w1, left', hp, hnv, hlt, hw1, hrun, hst, hent⟩
    · have HE := Lib.hid hall
      clear hall h0
      go_wp2
      go_ret2
      exact ⟨_, _, pl, sl, rfl, HS.out.own, HS.out.map, Nat.le_refl _, HD.out.nodup, fun p => by rw [HD.out.prime, HE.out], fun q => by
        rw [HD.out.short, ← less_lev hn HL.out]
        constructor
        · rintro ⟨p, h1, h2⟩; exact ⟨p, (HE.out p).1 h1, h2⟩
        · rintro ⟨p, h1, h2⟩; exact ⟨p, (HE.out p).2 h1, h2⟩, HS.out.below⟩
    · have HS1 := Lib.hid (HS.out.next hw1 hst)
      have HP := Lib.hid hp
      have HNV := Lib.hid hnv
      have HLT := Lib.hid hlt
      have h16p := lev16 hn ((HL.out p).1 hp).1
      have HLE := Lib.hid HS.out.steps.left_eq
      obtain ⟨y, no⟩ := p
      clear hp hnv hlt hst hw1 HS
      generalize setBlock w1 _ o = w2 at *
      unfold clV at hent hrun
      simp only at hent hrun h16p
      have HS3 := Lib.hid (HS1.out.grow ((Below.refl _ _).alloc (Nat.le_refl _) (.cells #[.int .u32 (y : Int), .int .u32 (no : Int)] 49)))
      have HT3 := Lib.hid (TwoC.made w2 y no 49)
      have hgne : w.heap.size < w2.heap.size := by have := HS1.out.steps.lt.1; omega
      clear HS1
      go_wp2
      go_loopw [9, 21] (fun pv' v wi => ∃ (k : Nat) (ok : Bool) (sl' : List (Nat × Nat)), v = .int .i64 k ∧ k ≤ n ∧ pv' = .bool ok ∧ (ok = true ↔ ∀ u, u < k → oppP (y, no) u ∉ l) ∧ OmS w (w.heap.size + 1) b w.heap.size l pl sl' (fun q => vis q ∨ q = (y, no)) left' u6 wi ∧
        (∀ q, q ∈ sl' ↔ q ∈ sl ∨ ∃ u, u < k ∧ oppP (y, no) u ∈ l ∧ q = lessP (y, no) u) ∧ TwoC wi w2.heap.size y no) (fun _ v _ => n - (intOf v).toNat)
      case atStart => exact ⟨0, true, sl, rfl, Nat.zero_le _, rfl, by simp, HS3.out, by simp, HT3.out⟩
      case round =>
        clear HS3 HT3
        rename World => wi
        obtain ⟨k, ok, sl', rfl, hk, rfl, hok, hS, hsl, ht⟩ := hrel
        have HOK := Lib.hid hok
        have HS := Lib.hid hS
        have HSL := Lib.hid hsl
        have HT := Lib.hid ht
        obtain ⟨c1, c2⟩ := ht
        clear hok hS hsl
        by_cases hkn : k < n
        · have h1k := one_int k (by omega)
          have h1k16 : one k < 16 := Nat.lt_of_lt_of_le (Nat.pow_lt_pow_right (by decide) hkn) h16
          have hx1 := u32_xor_nat y (one k) (by omega) (by omega)
          have hx2 := u32_xor_nat no (one k) (by omega) (by omega)
          have hw1 := u32_wo (a := y) (b := one k) (by omega) (by omega)
          have hw2 := u32_wo (a := no) (b := one k) (by omega) (by omega)
          have hS4 := HS.out.grow ((Below.refl _ _).alloc (Nat.le_refl _) (.cells #[.int .u32 ((y ^^^ one k : Nat) : Int), .int .u32 ((no ^^^ one k : Nat) : Int)] 49))
          have hlook := (HM.out.below hS4.below).look (oppP (y, no) k)
          unfold clV oppP at hlook
          simp only at hlook
          obtain ⟨q, hq⟩ : ∃ q : Bool, q = decide ((y ^^^ one k, no ^^^ one k) ∈ l) := ⟨_, rfl⟩
          rw [← hq] at hlook
          have HS4 := Lib.hid hS4
          have HQ := Lib.hid (show q = decide (oppP (y, no) k ∈ l) from hq)
          clear hq hS4
          cases q with
          | false =>
            have hno : oppP (y, no) k ∉ l := by simpa using HQ.out.symm
            have HN1 := Lib.hid (show ok = true ↔ ∀ u, u < k + 1 → oppP (y, no) u ∉ l by
              rw [HOK.out]
              constructor
              · intro h u hu
                by_cases e : u = k
                · subst e; exact hno
                · exact h u (by omega)
              · exact fun h u hu => h u (by omega))
            have HN2 := Lib.hid (show ∀ q, q ∈ sl' ↔ q ∈ sl ∨ ∃ u, u < k + 1 ∧ oppP (y, no) u ∈ l ∧ q = lessP (y, no) u by
              intro q
              rw [HSL.out]
              constructor
              · rintro (h | ⟨u, hu, h⟩)
                · exact .inl h
                · exact .inr ⟨u, by omega, h⟩
              · rintro (h | ⟨u, hu, h1, h2⟩)
                · exact .inl h
                · by_cases e : u = k
                  · subst e; exact absurd h1 hno
                  · exact .inr ⟨u, by omega, h1, h2⟩)
            clear hno
            go_wp2
            go_roundw
            case rel => exact ⟨k + 1, ok, sl', by go_num, by omega, rfl, HN1.out, HS4.out, HN2.out, HT.out.below ((Below.refl _ _).alloc (Nat.le_refl _) _)⟩
            case measure => simp [intOf]; omega
          | true =>
            have hyes : oppP (y, no) k ∈ l := by simpa using HQ.out.symm
            obtain ⟨o', sl2, hst, hmap2, hmem2⟩ := HS4.out.map.store (lessP (y, no) k)
            have HS5 := Lib.hid (HS4.out.store hmap2)
            have HT5 := Lib.hid (TwoC_set (b := w.heap.size) (o := o') (HT.out.below ((Below.refl _ _).alloc (Nat.le_refl _) (.cells #[.int .u32 ((y ^^^ one k : Nat) : Int), .int .u32 ((no ^^^ one k : Nat) : Int)] 49))) (by omega))
            unfold clV lessP at hst
            simp only at hst
            have hc1 := (HT.out.below ((Below.refl _ _).alloc (Nat.le_refl _) (.cells #[.int .u32 ((y ^^^ one k : Nat) : Int), .int .u32 ((no ^^^ one k : Nat) : Int)] 49)))
            obtain ⟨c3, c4⟩ := hc1
            have HN1 := Lib.hid (show false = true ↔ ∀ u, u < k + 1 → oppP (y, no) u ∉ l by
              constructor
              · intro h; cases h
              · intro h; exact absurd hyes (h k (by omega)))
            have HN2 := Lib.hid (show ∀ q, q ∈ sl2 ↔ q ∈ sl ∨ ∃ u, u < k + 1 ∧ oppP (y, no) u ∈ l ∧ q = lessP (y, no) u by
              intro q
              rw [hmem2, HSL.out]
              constructor
              · rintro ((h | ⟨u, hu, h⟩) | rfl)
                · exact .inl h
                · exact .inr ⟨u, by omega, h⟩
                · exact .inr ⟨k, by omega, hyes, rfl⟩
              · rintro (h | ⟨u, hu, h1, h2⟩)
                · exact .inl (.inl h)
                · by_cases e : u = k
                  · subst e; exact .inr h2
                  · exact .inl (.inr ⟨u, by omega, h1, h2⟩))
            clear hyes hmem2 hmap2
            go_wp2
            go_roundw
            case rel => exact ⟨k + 1, false, sl2, by go_num, by omega, rfl, HN1.out, HS5.out, HN2.out, HT5.out⟩
            case measure => simp [intOf]; omega
        · obtain rfl : k = n := by omega
          have HVN := Lib.hid (show ∀ p, (vis p ∨ p = (y, no)) → p ∈ l by
            rintro p (h | rfl)
            · exact HV.out p h
            · exact HP.out)
          have HPR := Lib.hid (show ok = true ↔ (y, no) ∈ primL k F (one k) by rw [HOK.out, prime_lev hn HL.out HP.out])
          have HSH := Lib.hid (show ∀ q, q ∈ sl' ↔ ∃ p, (vis p ∨ p = (y, no)) ∧ ∃ u, u < k ∧ oppP p u ∈ l ∧ q = lessP p u by
            intro q
            rw [HSL.out, HD.out.short]
            constructor
            · rintro (⟨p, h1, h2⟩ | ⟨u, h1, h2⟩)
              · exact ⟨p, .inl h1, h2⟩
              · exact ⟨(y, no), .inr rfl, u, h1, h2⟩
            · rintro ⟨p, h1 | rfl, h2⟩
              · exact .inl ⟨p, h1, h2⟩
              · exact .inr h2)
          cases ok with
          | false =>
            have HDN := Lib.hid (show OmD k F l pl sl' (fun q => vis q ∨ q = (y, no)) from ⟨HD.out.nodup, fun p => by
              rw [HD.out.prime]
              constructor
              · rintro ⟨h1, h2⟩; exact ⟨.inl h1, h2⟩
              · rintro ⟨h1 | rfl, h2⟩
                · exact ⟨h1, h2⟩
                · exact absurd (HPR.out.2 h2) (by decide), HSH.out⟩)
            go_wp2
            go_roundw
            case rel => exact ⟨pl, sl', _, left', HS.out, HDN.out, HVN.out⟩
            case measure => rw [HS.out.steps.left_eq, HLE.out]; exact HLT.out
          | true =>
            have HDN := Lib.hid (show OmD k F l (pl ++ [(y, no)]) sl' (fun q => vis q ∨ q = (y, no)) from ⟨List.nodup_append.2 ⟨HD.out.nodup, by simp, by
                rintro a ha c hc rfl
                simp only [List.mem_singleton] at hc
                rw [hc] at ha
                exact HNV.out ((HD.out.prime _).1 ha).1⟩, fun p => by
              rw [List.mem_append, HD.out.prime, List.mem_singleton]
              constructor
              · rintro (⟨h1, h2⟩ | rfl)
                · exact ⟨.inl h1, h2⟩
                · exact ⟨.inr rfl, HPR.out.1 rfl⟩
              · rintro ⟨h1 | rfl, h2⟩
                · exact .inl ⟨h1, h2⟩
                · exact .inr rfl, HSH.out⟩)
            have hpl : pl.length ≤ 256 := by
              have h1 := nodup_sub_length pl (primL k F (one k)) HD.out.nodup (fun p hp => ((HD.out.prime p).1 hp).2)
              have h2 := primL_len k F (one k)
              have h3 : one k * one k ≤ 16 * 16 := Nat.mul_le_mul h16 h16
              omega
            have HO4 := Lib.hid (show _root_.Go.World.ownsRow _ w.heap.size 49 2 _ pl.length (rulesC pl) from HS.out.own)
            have hsz4 := HS.out.below.size
            obtain ⟨i0, hi, hz0, hz1, hz2⟩ := info_parts infoK
            go_wp2_with (first | (at_builtin; refine wpList_append_lies _ rfl _ _ 39 rfl w.heap.size 49 i0 (.agg #[.int .u32 0, .int .u32 0]) 2 8 Try.underlying39 hi hz0 hz1 hz2 rfl (by decide) _ _ _ rfl (HO4.out.alloc _) ⟨_, 0, none⟩ 1 1 [.int .u32 (y : Int), .int .u32 (no : Int)] rfl rfl (news_two _ _ _ _) ?c1 (by decide) ?c2 ?c3 ?c4 _ rfl ?c6))
            case c1 => first | exact ⟨rfl, rfl⟩ | (intro u hu; simp at hu; rcases hu with rfl | rfl <;> rfl)
            case c2 => unfold maxLen; omega
            case c3 => omega
            case c4 => first | omega | (simp; omega)
            case c6 =>
              intro g3 cap3 w4 hown4 hgrow4 hat4 hlt4
              have HS5 := Lib.hid (OmS.append (pl' := pl ++ [(y, no)]) (HS.out.grow ((Below.refl _ _).alloc (Nat.le_refl _) (.cells #[.int .u32 (y : Int), .int .u32 (no : Int)] 49))) (by
                unfold OwnK
                rw [rulesC_append, List.length_append]
                exact hown4) hgrow4)
              clear hown4 hgrow4 hat4 hlt4 hi hz0 hz1 hz2 hsz4
              go_wp2
              go_roundw
              case rel => exact ⟨pl ++ [(y, no)], sl', _, left', HS5.out, HDN.out, HVN.out⟩
              case measure => rw [HS5.out.steps.left_eq, HLE.out]; exact HLT.out

end Go.Proofs.Ytcokpjffgeihbaa
