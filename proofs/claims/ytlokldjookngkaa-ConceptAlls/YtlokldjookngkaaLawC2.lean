/- The law on All of package concept, by the document's answer. -/
import Derived.Test.YtlokldjookngkaaLawC1
namespace Go.Proofs.Ytlokldjookngkaa
open Go.RowKit

theorem Owners_still {x : Nat} (rows : List Nat) (A : Option Addr) (c m : Nat) (h : ownW rows m = x) (w : World) (hr : Row w A (words rows)) (h32 : U32 rows) (hm : m < 4294967296) (hl : rows.length ≤ 8) :
    Calls Try.prog 15 #[.slice A rows.length c, .int .u32 m] w fun e w' => e = .returned (.int .u32 x) ∧ w' = w :=
  (Owners_any rows A c m w hr h32 hm hl).mono fun _ _ ⟨he, hw⟩ => ⟨by rw [he, h], hw.symm⟩
theorem conP_length (n : Nat) (rows : List Nat) : (conP n rows).length = (conL n rows (one n)).length := by simp [conP]
theorem conP_at {n : Nat} {rows : List Nat} {i m : Nat} (h : (conL n rows (one n))[i]? = some m) : (conP n rows)[i]? = some (ownW rows m, m) := by simp [conP, h]
theorem conL_len (n : Nat) (rows : List Nat) (k : Nat) : (conL n rows k).length ≤ k := filter_len _ _
theorem RowP.at {w : World} {A : Option Addr} {rs : List (Nat × Nat)} {k : Nat} {r : Nat × Nat} (h : Row w A (rulesC rs)) (hr : rs[k]? = some r) :
    ∃ b off, A = some ⟨b, off, none⟩ ∧ w.cell? ⟨b, off + k * 2, none⟩ = some (.int .u32 (r.1 : Int)) ∧ w.cell? ⟨b, off + k * 2 + 1, none⟩ = some (.int .u32 (r.2 : Int)) := by
  have hk : k < rs.length := (List.getElem?_eq_some_iff.1 hr).1
  obtain ⟨b, off, e, hc⟩ := h.at (k := k) (by rw [rulesC_length]; omega)
  exact ⟨b, off, e, hc _ _ (rulesC_at0 hr), by rw [Nat.add_assoc]; exact hc _ _ (rulesC_at1 hr)⟩

set_option maxHeartbeats 1000000 in
theorem ConceptAlls_with (hJ : CAllOk 16) (n : Int) (rows : List Nat) (A : Option Addr) (c : Nat) (w : World) (h32 : U32 rows) (hm : rows.length ≤ maxLen) (hr : Row w A (words rows)) (hX : Laid w) :
    Calls Try.prog 5 #[.int .i64 n, .slice A rows.length c] w fun e w' => e = .returned (.bool true) ∧ Below w.heap.size w w' := by
  have key := hJ n rows A c w h32 hm hr hX
  by_cases hc : codeT n rows 0 0 = 0
  · obtain ⟨n, rfl, hn1, hn6, hl, hf, _⟩ := codeT_zero hc
    rw [hc, if_pos rfl, Int.toNat_natCast] at key
    have HC := Lib.hid hc
    have h64 := one_le_64 hn6
    have h256 := one_le_256 hl
    clear hc
    go_enter Try.func5, Try.ntmps5
    go_wp2_with fail
    refine key.mono ?_
    rintro e w1 ⟨A2, c2, l, rfl, hle, _, hrow, hb1⟩
    have HLe := Lib.hid hle
    have HR := Lib.hid hrow
    clear hle hrow key
    go_wp2_with fail
    refine (TableCheck_any n rows A c 0 0 _ (hr.below hb1)).mono ?_
    rintro e w2 ⟨rfl, rfl⟩
    rw [HC.out]
    go_wp2_with fail
    refine (Concepts_any n rows A c _ hn6 (hr.below hb1) h32 hl).mono ?_
    rintro e w3 ⟨A3, c3, u, rfl, hu, hrow3, hb3⟩
    have hb03 := hb1.trans (hb3.mono hb1.size)
    have HR2 := Lib.hid (HR.out.below hb3)
    have HR3 := Lib.hid hrow3
    have HU := Lib.hid hu
    have hlen : l.length = u.length := by rw [HLe.out, conP_length, hu]
    have hul : u.length ≤ 64 := by rw [hu]; have := conL_len n rows (one n); omega
    have hd : ((l.length : Int) != (u.length : Int)) = false := by rw [hlen]; simp
    clear hu hrow3 HR hb1 hb3
    go_wp2
    have HLen := Lib.hid hlen
    clear hlen hd
    go_loopw [40] (fun iv wr => ∃ k : Nat, iv = .int .i64 k ∧ k ≤ u.length ∧ Below w3.heap.size w3 wr ∧ Below w.heap.size w wr) (fun iv _ => u.length - (intOf iv).toNat)
    case atStart => exact ⟨0, rfl, Nat.zero_le _, Below.refl _ _, hb03⟩
    case round =>
      clear hb03
      obtain ⟨k, rfl, hk, hb3, hbel⟩ := hrel
      by_cases hlt : k < u.length
      · obtain ⟨x, hx⟩ := get_some hlt
        have hp : l[k]? = some (ownW rows x, x) := by rw [HLe.out]; exact conP_at (HU.out ▸ hx)
        obtain ⟨g, off, rfl, c0, c1⟩ := RowP.at (HR2.out.below hb3) hp
        obtain ⟨g3, off3, rfl, hcell⟩ := (HR3.out.below hb3).at (k := k) (by rw [words_length]; exact hlt)
        have cx := hcell _ _ (words_at hx)
        have hx64 : x < one n := (mem_conL.1 (by rw [← HU.out]; exact List.mem_of_getElem? hx)).1
        have hx32 : x < 4294967296 := by omega
        obtain ⟨y, hy⟩ : ∃ y, ownW rows x = y := ⟨_, rfl⟩
        rw [hy] at c0
        have HY := Lib.hid hy
        have hb4 := hb3.alloc hb3.size (.cells #[.int .u32 (y : Int), .int .u32 (x : Int)] 36)
        have hbel4 := hbel.alloc hbel.size (.cells #[.int .u32 (y : Int), .int .u32 (x : Int)] 36)
        have HR4 := Lib.hid (hr.below hbel4)
        have cx4 : (wr.alloc (.cells #[.int .u32 (y : Int), .int .u32 (x : Int)] 36)).cell? ⟨g3, off3 + k, none⟩ = some (.int .u32 (x : Int)) := by
          have hlt3 : g3 < wr.heap.size := block_lt_of_cell cx
          exact ((Below.refl wr.heap.size wr).alloc (Nat.le_refl _) _).cell (p := ⟨g3, off3 + k, none⟩) hlt3 |>.trans cx
        clear hcell hx hp hy
        obtain ⟨d0, d1⟩ := RuleC.made wr y x 36
        go_wp2
        generalize wr.alloc (.cells #[.int .u32 (y : Int), .int .u32 (x : Int)] 36) = w4 at *
        go_quiet ((go_at_call 15; exact Calls.quiet_of_same (Owners_still rows A c x HY.out _ (HR4.out.drewN _) h32 hx32 hl)))
        go_wp2
        go_roundw
        case rel => exact ⟨k + 1, by go_num, by omega, below_drewN hb4 _, below_drewN hbel4 _⟩
        case measure => simp [intOf]; omega
      · go_wp2
        go_ret
        exact ⟨rfl, hbel⟩
  · rw [if_neg hc] at key
    go_enter Try.func5, Try.ntmps5
    go_wp2_with fail
    refine key.mono ?_
    rintro e w1 ⟨A2, c2, l, rfl, rfl, _, hrow, hb1⟩
    go_wp2_with fail
    refine (TableCheck_any n rows A c 0 0 _ (hr.below hb1)).mono ?_
    rintro e w2 ⟨rfl, rfl⟩
    clear key hrow
    generalize codeT n rows 0 0 = k at *
    have hk : (k == 0) = false := by simpa using hc
    have hk2 : (k != 0) = true := by simpa using hc
    clear hc
    go_wp2
    go_ret
    exact ⟨rfl, hb1⟩
end Go.Proofs.Ytlokldjookngkaa
