/- fix.Rises, fix.All, fix.Least, fix.Most keep their contracts. -/
import Derived.Test.YtihhplkcpdepgaaWXo1
import Derived.Test.YtihhplkcpdepgaaGan
import Derived.Shelf.Abstract
namespace Go.Proofs.Ytihhplkcpdepgaa
open Go.RowKit

theorem falls_enters (args : Array Value) (w : World) : (callFunc 19 args).run Try.prog w = .ok (.enter 19 args) w := enters_of Try.func19 (by kernel_rfl) rfl args w
theorem fixed_enters (args : Array Value) (w : World) : (callFunc 23 args).run Try.prog w = .ok (.enter 23 args) w := enters_of Try.func23 (by kernel_rfl) rfl args w
theorem cell_new (w : World) (v : Value) (t : TypeId) : (w.alloc (.cells #[v] t)).cell? ⟨w.heap.size, 0, none⟩ = some v := by
  rw [World.cell?_alloc_at _ _ _ _ rfl]; rfl
theorem cell_kept {w w' : World} {b o : Nat} {v : Value} (hb : Below w.heap.size w w') (h : w.cell? ⟨b, o, none⟩ = some v) : w'.cell? ⟨b, o, none⟩ = some v :=
  (hb.cell (p := ⟨b, o, none⟩) (block_lt_of_cell h)).trans h

/-- What lies after the two parameters are boxed. -/
def Boxed (n : Int) (A : Option Addr) (m c : Nat) (w w2 : World) : Prop :=
  w2.cell? ⟨w.heap.size, 0, none⟩ = some (.int .i64 n) ∧ w2.cell? ⟨w.heap.size + 1, 0, none⟩ = some (.slice A m c) ∧ Below w.heap.size w w2
theorem boxed (n : Int) (A : Option Addr) (m c : Nat) (w : World) : Boxed n A m c w ((w.alloc (.cells #[.int .i64 n] 3)).alloc (.cells #[.slice A m c] 22)) := by
  have hb1 := (Below.refl w.heap.size w).alloc (Nat.le_refl _) (.cells #[.int .i64 n] 3)
  have hs : (w.alloc (.cells #[.int .i64 n] 3)).heap.size = w.heap.size + 1 := by simp
  refine ⟨?_, ?_, hb1.alloc hb1.size _⟩
  · exact cell_kept ((Below.refl _ _).alloc (Nat.le_refl _) _) (cell_new w (.int .i64 n) 3)
  · rw [← hs]
    exact cell_new _ (.slice A m c) 22

set_option maxHeartbeats 2000000 in
theorem XRises_ok : XRisesOk 9 := by
  intro n f A c w h32 hm hr hX
  have hbx := boxed n A f.length c w
  have hc := fxCheck_any n f A c _ (hr.below hbx.2.2) h32
  have HX := Lib.hid hbx
  by_cases h0 : codeM n f = 0
  · rw [h0] at hc
    rw [h0]
    obtain ⟨k, rfl, h1, h5, hl, hft⟩ := codeM_zero h0
    have HL := Lib.hid hl
    have c1 := hbx.1
    have c2 := hbx.2.1
    have key := fxSets_any k h5 19 #[] #[.pointer (some ⟨w.heap.size, 0, none⟩), .pointer (some ⟨w.heap.size + 1, 0, none⟩)] (fallB k f) _ falls_enters
      (fun s W hs hW => fxFalls_any k h5 f A c w.heap.size (w.heap.size + 1) s W HL.out h32 hs (cell_kept hW c1) (cell_kept hW c2) ((hr.below hbx.2.2).below hW))
    have HLen := Lib.hid (rise_len HL.out)
    clear h0 hl hbx
    go_enter Try.func9, Try.ntmps9
    go_wp2_with fail
    refine hc.mono ?_
    rintro e w3 ⟨rfl, rfl⟩
    clear hc
    go_wp2_with fail
    refine key.mono ?_
    rintro e w4 ⟨A2, c3, l, rfl, hl, _, hb4⟩
    have HE := Lib.hid (HX.out.2.2.trans (hb4.mono HX.out.2.2.size))
    have HQ := Lib.hid hl
    clear hl hb4 key
    go_wp2
    go_ret2
    have e : ((l.length : Int) == 0) = riseB f := by
      rw [← HLen.out, ← HQ.out, Bool.eq_iff_iff, beq_iff_eq, beq_iff_eq]
      omega
    exact ⟨by rw [← e]; rfl, HE.out⟩
  · have HN := Lib.hid (show (codeM n f == 0) = false from by simpa using h0)
    generalize codeM n f = q at *
    clear hbx
    go_enter Try.func9, Try.ntmps9
    go_wp2_with fail
    refine hc.mono ?_
    rintro e w3 ⟨rfl, rfl⟩
    clear hc
    go_wp2
    go_ret2
    exact ⟨by rw [HN.out]; rfl, HX.out.2.2⟩

set_option maxHeartbeats 2000000 in
theorem XAll_ok : XAllOk 12 := by
  intro n f A c w h32 hm hr hX
  have hb := (Below.refl w.heap.size w).alloc (Nat.le_refl _) (.cells #[.slice A f.length c] 22)
  have c2 := cell_new w (.slice A f.length c) 22
  have hc := fxCheck_any n f A c _ (hr.below hb) h32
  have HB := Lib.hid hb
  by_cases h0 : codeM n f = 0
  · rw [h0] at hc
    rw [h0, if_pos rfl]
    obtain ⟨k, rfl, h1, h5, hl, hft⟩ := codeM_zero h0
    have HL := Lib.hid hl
    have key := fxSets_any k h5 23 #[] #[.pointer (some ⟨w.heap.size, 0, none⟩)] (fixB f) _ fixed_enters
      (fun s W hs hW => fxFixed_any k h5 f A c w.heap.size s W HL.out hs (cell_kept hW c2) ((hr.below hb).below hW))
    clear h0 hl hb
    go_enter Try.func12, Try.ntmps12
    go_wp2_with fail
    refine hc.mono ?_
    rintro e w3 ⟨rfl, rfl⟩
    clear hc
    go_wp2_with fail
    refine key.mono ?_
    rintro e w4 ⟨A2, c3, l, rfl, hl, hrow, hb4⟩
    have HE := Lib.hid (HB.out.trans (hb4.mono HB.out.size))
    have HQ := Lib.hid hl
    have HR := Lib.hid hrow
    clear hl hb4 key hrow
    go_wp2
    go_ret2
    exact ⟨A2, c3, l, rfl, by rw [HQ.out, HL.out]; rfl, HR.out, HE.out⟩
  · rw [if_neg h0]
    generalize codeM n f = q at *
    clear hb
    go_enter Try.func12, Try.ntmps12
    go_wp2_with fail
    refine hc.mono ?_
    rintro e w3 ⟨rfl, rfl⟩
    clear hc
    go_wp2
    go_ret2
    exact ⟨none, 0, [], rfl, rfl, .inl rfl, HB.out⟩

set_option maxHeartbeats 1000000 in
theorem fxMono_any (n : Int) (f : List Nat) (A : Option Addr) (c : Nat) (w : World) (h32 : U32 f) (hm : f.length ≤ maxLen) (hr : Row w A (words f)) (hX : Laid w) :
    Calls Try.prog 24 #[.int .i64 n, .slice A f.length c] w fun e w' => e = .returned (.int .i64 (codeN n f)) ∧ Below w.heap.size w w' := by
  have key := XRises_ok n f A c w h32 hm hr hX
  by_cases h0 : codeM n f = 0
  · cases h1 : riseB f with
    | true =>
      rw [codeN_ok h0 h1]
      rw [h0, h1] at key
      clear h0 h1
      go_enter Try.func24, Try.ntmps24
      go_wp2_with fail
      refine key.mono ?_
      rintro e w1 ⟨rfl, hb⟩
      clear key
      go_wp2
      go_ret
      exact ⟨rfl, hb⟩
    | false =>
      rw [codeN_none h0 h1]
      rw [h0, h1] at key
      clear h0 h1
      go_enter Try.func24, Try.ntmps24
      go_wp2_with fail
      refine key.mono ?_
      rintro e w1 ⟨rfl, hb⟩
      clear key
      go_wp2
      go_ret
      exact ⟨rfl, hb⟩
  · rw [codeN_err h0]
    rw [show (codeM n f == 0) = false from by simpa using h0, Bool.false_and] at key
    generalize codeM n f = q at *
    go_enter Try.func24, Try.ntmps24
    go_wp2_with fail
    refine key.mono ?_
    rintro e w1 ⟨rfl, hb⟩
    clear key
    go_wp2
    go_ret
    exact ⟨rfl, hb⟩

theorem codeN_zero {n : Int} {f : List Nat} (h : codeN n f = 0) : codeM n f = 0 ∧ Rise f := by
  by_cases h0 : codeM n f = 0
  · refine ⟨h0, ?_⟩
    cases h1 : riseB f with
    | true => exact rise_iff.1 h1
    | false => rw [codeN_none h0 h1] at h; omega
  · rw [codeN_err h0] at h; exact absurd h h0

/-- On the way up. -/
def UpI (k : Nat) (f : List Nat) (s : Nat) : Prop := s < one k ∧ sub s (im f s) = true ∧ ∀ c, c < one k → im f c = c → sub s c = true
/-- On the way down. -/
def DownI (k : Nat) (f : List Nat) (s : Nat) : Prop := s < one k ∧ sub (im f s) s = true ∧ ∀ c, c < one k → im f c = c → sub c s = true
theorem zero_sub (s : Nat) : sub 0 s = true := sub_iff.2 fun i hi => by simp at hi
theorem UpI.init (k : Nat) (f : List Nat) : UpI k f 0 := ⟨one_pos k, zero_sub _, fun _ _ _ => zero_sub _⟩
theorem DownI.init {k : Nat} {f : List Nat} (hl : f.length = one k) (hf : FitT k f) : DownI k f (full k) :=
  ⟨full_lt k, sub_full (im_lt hf (by rw [hl]; exact full_lt k)), fun _ h _ => sub_full h⟩
theorem UpI.step {k : Nat} {f : List Nat} (hl : f.length = one k) (hf : FitT k f) (hr : Rise f) {s : Nat} (h : UpI k f s) (hn : im f s ≠ s) : UpI k f (im f s) ∧ one k - im f s < one k - s := by
  obtain ⟨h1, h2, h3⟩ := h
  have h4 := im_lt hf (show s < f.length by omega)
  have h5 := sub_le h2
  refine ⟨⟨h4, hr _ _ (by omega) (by omega) h2, fun c hc he => ?_⟩, by omega⟩
  have := hr s c (by omega) (by omega) (h3 c hc he)
  rwa [he] at this
theorem DownI.step {k : Nat} {f : List Nat} (hl : f.length = one k) (hf : FitT k f) (hr : Rise f) {s : Nat} (h : DownI k f s) (hn : im f s ≠ s) : DownI k f (im f s) ∧ im f s < s := by
  obtain ⟨h1, h2, h3⟩ := h
  have h4 := im_lt hf (show s < f.length by omega)
  have h5 := sub_le h2
  refine ⟨⟨h4, hr _ _ (by omega) (by omega) h2, fun c hc he => ?_⟩, by omega⟩
  have := hr c s (by omega) (by omega) (h3 c hc he)
  rwa [he] at this

set_option maxHeartbeats 1000000 in
theorem XLeast_ok : XLeastOk 15 := by
  intro n f A c w h32 hm hr hX
  have key := fxMono_any n f A c w h32 hm hr hX
  by_cases h0 : codeN n f = 0
  · rw [h0] at key
    rw [h0]
    obtain ⟨hM, hR⟩ := codeN_zero h0
    obtain ⟨k, rfl, h1, h5, hl, hft⟩ := codeM_zero hM
    have hle := one_le_32 h5
    have hs := fun W (hb : Below w.heap.size w W) => fxSettle_any f A c 0 W (hr.below hb) (by omega) (UpI k f) (fun s => one k - s) (fun s h => by rw [hl]; exact h.1) (UpI.init k f) (fun s h hn => h.step hl hft hR hn)
    have HS := Lib.hid hs
    clear h0 hM hR hl hft hs
    go_enter Try.func15, Try.ntmps15
    go_wp2_with fail
    refine key.mono ?_
    rintro e w1 ⟨rfl, hb⟩
    clear key
    go_wp2_with fail
    refine (HS.out _ hb).mono ?_
    rintro e w2 ⟨s, rfl, hI, hfx, rfl⟩
    have HI := Lib.hid hI
    have HF := Lib.hid hfx
    clear hI hfx
    go_wp2
    go_ret2
    exact ⟨s, rfl, fun _ => by rw [Int.toNat_natCast]; exact ⟨HI.out.1, HF.out, HI.out.2.2⟩, fun h => absurd rfl h, hb⟩
  · have HN := Lib.hid h0
    generalize codeN n f = q at *
    go_enter Try.func15, Try.ntmps15
    go_wp2_with fail
    refine key.mono ?_
    rintro e w1 ⟨rfl, hb⟩
    clear key
    go_wp2
    go_ret2
    exact ⟨0, rfl, fun h => absurd h HN.out, fun _ => rfl, hb⟩

set_option maxHeartbeats 1000000 in
theorem XMost_ok : XMostOk 17 := by
  intro n f A c w h32 hm hr hX
  have key := fxMono_any n f A c w h32 hm hr hX
  by_cases h0 : codeN n f = 0
  · rw [h0] at key
    rw [h0]
    obtain ⟨hM, hR⟩ := codeN_zero h0
    obtain ⟨k, rfl, h1, h5, hl, hft⟩ := codeM_zero hM
    have hle := one_le_32 h5
    have hs := fun W (hb : Below w.heap.size w W) => fxSettle_any f A c (full k) W (hr.below hb) (by omega) (DownI k f) (fun s => s) (fun s h => by rw [hl]; exact h.1) (DownI.init hl hft) (fun s h hn => h.step hl hft hR hn)
    have HS := Lib.hid hs
    clear h0 hM hR hl hft hs
    go_enter Try.func17, Try.ntmps17
    go_wp2_with fail
    refine key.mono ?_
    rintro e w1 ⟨rfl, hb⟩
    clear key
    go_wp2_with fail
    refine (fxAll_any k h5 _).mono ?_
    rintro e w2 ⟨rfl, rfl⟩
    go_wp2_with fail
    refine (HS.out _ hb).mono ?_
    rintro e w2 ⟨s, rfl, hI, hfx, rfl⟩
    have HI := Lib.hid hI
    have HF := Lib.hid hfx
    clear hI hfx
    go_wp2
    go_ret2
    exact ⟨s, rfl, fun _ => by rw [Int.toNat_natCast]; exact ⟨HI.out.1, HF.out, HI.out.2.2⟩, fun h => absurd rfl h, hb⟩
  · have HN := Lib.hid h0
    generalize codeN n f = q at *
    go_enter Try.func17, Try.ntmps17
    go_wp2_with fail
    refine key.mono ?_
    rintro e w1 ⟨rfl, hb⟩
    clear key
    go_wp2
    go_ret2
    exact ⟨0, rfl, fun h => absurd h HN.out, fun _ => rfl, hb⟩

end Go.Proofs.Ytihhplkcpdepgaa
