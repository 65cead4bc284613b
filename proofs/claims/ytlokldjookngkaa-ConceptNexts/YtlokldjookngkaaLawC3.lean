/- The law on Next, by the document's answer. -/
import Derived.Test.YtlokldjookngkaaLawC2
namespace Go.Proofs.Ytlokldjookngkaa
open Go.RowKit

/-- The first concept behind m among the first k. -/
def NxS (l : List Nat) (m k : Nat) (sm : Bool) (wt : Nat) : Prop :=
  (sm = false → wt = 0 ∧ ∀ c ∈ l.take k, behB c m = false) ∧ (sm = true → wt ∈ l.take k ∧ behB wt m = true ∧ ∀ c ∈ l.take k, behB c m = true → c = wt ∨ behB c wt = true)
theorem NxS.init (l : List Nat) (m : Nat) : NxS l m 0 false 0 := ⟨fun _ => ⟨rfl, fun c hc => by simp at hc⟩, fun h => by cases h⟩
theorem take_mem {l : List Nat} {k x c : Nat} (hx : l[k]? = some x) : c ∈ l.take (k + 1) ↔ c ∈ l.take k ∨ c = x := by
  rw [List.take_add_one, hx]; simp
theorem NxS.yes {l : List Nat} {m k x wt : Nat} {sm : Bool} (h : NxS l m k sm wt) (hx : l[k]? = some x) (h1 : behB x m = true) (h2 : sm = true → behB wt x = true) : NxS l m (k + 1) true x := by
  refine ⟨fun h => (by cases h), fun _ => ⟨(take_mem hx).2 (.inr rfl), h1, fun c hc hcm => ?_⟩⟩
  rcases (take_mem hx).1 hc with hc | rfl
  · right
    cases sm with
    | false => rw [(h.1 rfl).2 c hc] at hcm; cases hcm
    | true =>
      rcases (h.2 rfl).2.2 c hc hcm with rfl | e
      · exact h2 rfl
      · exact beh_trans e (h2 rfl)
  · exact .inl rfl
theorem NxS.no {l : List Nat} {m k x wt : Nat} {sm : Bool} (h : NxS l m k sm wt) (hx : l[k]? = some x) (h1 : behB x m = true → sm = true ∧ (x = wt ∨ behB x wt = true)) : NxS l m (k + 1) sm wt := by
  refine ⟨fun e => ⟨(h.1 e).1, fun c hc => ?_⟩, fun e => ⟨(take_mem hx).2 (.inl (h.2 e).1), (h.2 e).2.1, fun c hc hcm => ?_⟩⟩
  · rcases (take_mem hx).1 hc with hc | rfl
    · exact (h.1 e).2 c hc
    · cases e2 : behB c m with
      | false => rfl
      | true => rw [(h1 e2).1] at e; cases e
  · rcases (take_mem hx).1 hc with hc | rfl
    · exact (h.2 e).2.2 c hc hcm
    · exact (h1 hcm).2
theorem NxS.next {n : Nat} {rows : List Nat} {m wt : Nat} (h : NxS (conL n rows (one n)) m (conL n rows (one n)).length true wt) : IsNext n rows m wt := by
  obtain ⟨h1, h2, h3⟩ := h.2 rfl
  rw [List.take_of_length_le (Nat.le_refl _)] at h1 h3
  obtain ⟨a1, a2⟩ := mem_conL.1 h1
  exact ⟨a1, a2, h2, fun c hc hk hcm => h3 c (mem_conL.2 ⟨hc, hk⟩) hcm⟩
theorem NxS.none {n : Nat} {rows : List Nat} {m wt : Nat} (h : NxS (conL n rows (one n)) m (conL n rows (one n)).length false wt) : NoNext n rows m := by
  obtain ⟨_, h3⟩ := h.1 rfl
  rw [List.take_of_length_le (Nat.le_refl _)] at h3
  exact fun c hc hk => h3 c (mem_conL.2 ⟨hc, hk⟩)

set_option maxHeartbeats 1000000 in
theorem ConceptNexts_with (hJ : CNextOk 18) (n : Int) (rows : List Nat) (A : Option Addr) (c m : Nat) (w : World) (hm : m < 4294967296) (h32 : U32 rows) (hmx : rows.length ≤ maxLen) (hr : Row w A (words rows)) (hX : Laid w) :
    Calls Try.prog 6 #[.int .i64 n, .slice A rows.length c, .int .u32 m] w fun e w' => e = .returned (.bool true) ∧ Below w.heap.size w w' := by
  have key := hJ n rows A c m w hm h32 hmx hr hX
  by_cases hc : codeT n rows 0 m = 0
  · obtain ⟨n, rfl, hn1, hn6, hl, hf, hmn, _⟩ := codeT_zero hc
    have HC := Lib.hid hc
    have h64 := one_le_64 hn6
    clear hc
    go_enter Try.func6, Try.ntmps6
    go_wp2_with fail
    refine key.mono ?_
    rintro e w1 ⟨s, q, rfl, hnx, hb1⟩
    have HN := Lib.hid (hnx.2 HC.out)
    clear hnx key
    go_wp2_with fail
    refine (TableCheck_any n rows A c 0 m _ (hr.below hb1)).mono ?_
    rintro e w2 ⟨rfl, rfl⟩
    rw [HC.out]
    go_wp2_with fail
    refine (Concepts_any n rows A c _ hn6 (hr.below hb1) h32 hl).mono ?_
    rintro e w3 ⟨A3, c3, u, rfl, hu, hrow3, hb3⟩
    have hb03 := hb1.trans (hb3.mono hb1.size)
    have HR3 := Lib.hid hrow3
    have HU := Lib.hid hu
    have hul : u.length ≤ 64 := by rw [hu]; have := conL_len n rows (one n); omega
    clear hu hrow3 hb1 hb3
    go_wp2
    go_loopw [10, 11, 38] (fun wv sv iv wr => ∃ k : Nat, iv = .int .i64 k ∧ k ≤ u.length ∧ (∃ (wt : Nat) (sm : Bool), NxS u m k sm wt ∧ wt < 64 ∧ wv = .int .u32 wt ∧ sv = .bool sm) ∧ w3 = wr) (fun _ _ iv _ => u.length - (intOf iv).toNat)
    case atStart => exact ⟨0, rfl, Nat.zero_le _, ⟨0, false, NxS.init u m, by omega, rfl, rfl⟩, rfl⟩
    case round =>
      obtain ⟨k, rfl, hk, ⟨wt, sm, hst, hwt, rfl, rfl⟩, rfl⟩ := hrel
      have HS := Lib.hid hst
      clear hst
      by_cases hlt : k < u.length
      · obtain ⟨x, hx⟩ := get_some hlt
        obtain ⟨g3, off3, rfl, hcell⟩ := HR3.out.at (k := k) (by rw [words_length]; exact hlt)
        have cx := hcell _ _ (words_at hx)
        have hx64 : x < one n := (mem_conL.1 (by rw [← HU.out]; exact List.mem_of_getElem? hx)).1
        have HX := Lib.hid hx
        clear hcell hx
        cases h1 : behB x m with
        | true =>
          cases sm with
          | true =>
            cases h2 : behB wt x with
            | true =>
              have HY := Lib.hid (HS.out.yes HX.out h1 (fun _ => h2))
              go_wp2_with fail
              refine (Behind_any x m _ (by omega) hm).mono ?_
              rintro e w4 ⟨rfl, rfl⟩
              rw [h1]
              go_wp2_with fail
              refine (Behind_any wt x _ (by omega) (by omega)).mono ?_
              rintro e w4 ⟨rfl, rfl⟩
              rw [h2]
              clear h1 h2
              go_wp2
              go_roundw
              case rel => exact ⟨k + 1, by go_num, by omega, ⟨x, true, HY.out, by omega, rfl, rfl⟩, trivial⟩
              case measure => simp [intOf]; omega
            | false =>
              have HY := Lib.hid (HS.out.no HX.out (fun _ => ⟨rfl, by
                by_cases e : x = wt
                · exact .inl e
                · right
                  have hw : wt < one n := by
                    have := (HS.out.2 rfl).1
                    rw [HU.out] at this
                    exact (mem_conL.1 (List.mem_of_mem_take this)).1
                  rcases beh_total (show n ≤ 32 by omega) hx64 hw e with h | h
                  · exact h
                  · rw [h] at h2; cases h2⟩))
              go_wp2_with fail
              refine (Behind_any x m _ (by omega) hm).mono ?_
              rintro e w4 ⟨rfl, rfl⟩
              rw [h1]
              go_wp2_with fail
              refine (Behind_any wt x _ (by omega) (by omega)).mono ?_
              rintro e w4 ⟨rfl, rfl⟩
              rw [h2]
              clear h1 h2
              go_wp2
              go_roundw
              case rel => exact ⟨k + 1, by go_num, by omega, ⟨wt, true, HY.out, hwt, rfl, rfl⟩, trivial⟩
              case measure => simp [intOf]; omega
          | false =>
            have HY := Lib.hid (HS.out.yes HX.out h1 (fun h => by cases h))
            go_wp2_with fail
            refine (Behind_any x m _ (by omega) hm).mono ?_
            rintro e w4 ⟨rfl, rfl⟩
            rw [h1]
            clear h1
            go_wp2
            go_roundw
            case rel => exact ⟨k + 1, by go_num, by omega, ⟨x, true, HY.out, by omega, rfl, rfl⟩, trivial⟩
            case measure => simp [intOf]; omega
        | false =>
          have HY := Lib.hid (HS.out.no HX.out (fun h => by rw [h] at h1; cases h1))
          go_wp2_with fail
          refine (Behind_any x m _ (by omega) hm).mono ?_
          rintro e w4 ⟨rfl, rfl⟩
          rw [h1]
          clear h1
          go_wp2
          go_roundw
          case rel => exact ⟨k + 1, by go_num, by omega, ⟨wt, sm, HY.out, hwt, rfl, rfl⟩, trivial⟩
          case measure => simp [intOf]; omega
      · have hke : k = u.length := by omega
        have hN := HN.out
        rw [Int.toNat_natCast] at hN
        have hS := HS.out
        rw [hke, HU.out] at hS
        cases sm with
        | true =>
          have h1 := hS.next
          obtain ⟨rfl, rfl⟩ : q = 0 ∧ s = wt := by
            rcases hN with ⟨h, h2⟩ | ⟨_, _, h3⟩
            · exact ⟨h, h2.unique h1⟩
            · have h4 := h1.2.2.1
              rw [h3 wt h1.1 h1.2.1] at h4
              cases h4
          clear hN hS h1 HN HS
          go_wp2
          go_ret
          exact ⟨ret_bool (by simp), hb03⟩
        | false =>
          have h1 := hS.none
          obtain ⟨rfl, rfl⟩ : q = 5 ∧ s = 0 := by
            rcases hN with ⟨h, h2⟩ | ⟨h, h2, _⟩
            · have h4 := h2.2.2.1
              rw [h1 s h2.1 h2.2.1] at h4
              cases h4
            · exact ⟨h, h2⟩
          clear hN hS h1 HN HS
          go_wp2
          go_ret
          exact ⟨rfl, hb03⟩
  · go_enter Try.func6, Try.ntmps6
    go_wp2_with fail
    refine key.mono ?_
    rintro e w1 ⟨s, q, rfl, hnx, hb1⟩
    obtain ⟨rfl, rfl⟩ := hnx.1 hc
    clear key hnx
    go_wp2_with fail
    refine (TableCheck_any n rows A c 0 m _ (hr.below hb1)).mono ?_
    rintro e w2 ⟨rfl, rfl⟩
    generalize codeT n rows 0 m = k at *
    have hk : (k == 0) = false := by simpa using hc
    have hk2 : (k != 0) = true := by simpa using hc
    clear hc
    go_wp2
    go_ret
    exact ⟨rfl, hb1⟩
end Go.Proofs.Ytlokldjookngkaa
