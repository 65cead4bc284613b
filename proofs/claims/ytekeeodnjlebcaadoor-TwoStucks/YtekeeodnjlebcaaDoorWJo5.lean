/- two.Reach. -/
import Derived.Test.YtekeeodnjlebcaaDoorWJo3
import Derived.Test.YtekeeodnjlebcaaDoorWJo4
namespace Go.Proofs.YtekeeodnjlebcaaDoor
open Go.RowKit

def onesJ (a : Nat) : Nat → Nat := fun x => if x < a then one x else 0
theorem onesJ_step (a : Nat) : upd (onesJ a) a (one a) = onesJ (a + 1) := by
  funext x
  by_cases e : x = a
  · subst e; rw [upd_same]; simp [onesJ]
  · rw [upd_other e]; simp only [onesJ]
    have : (x < a) = (x < a + 1) := by apply propext; omega
    simp only [this]
theorem onesJ_all (n : Nat) : tab n (onesJ n) = tab n one := tab_congr fun i hi => by simp [onesJ, hi]
def ReachOnes (m g : Nat) (w : World) (v : Value) (wr : World) : Prop :=
  ∃ a : Nat, v = .int .i64 a ∧ a ≤ m ∧ Own wr w.heap.size g m (onesJ a) ∧ Below w.heap.size w wr
def ReachSteps (n m g : Nat) (l : List Cla) (w : World) (v : Value) (wr : World) : Prop :=
  ∃ (k : Nat) (f : Nat → Nat), v = .int .i64 k ∧ k ≤ l.length ∧ Grows m (imps n l) f (2 * k) ∧ Own wr w.heap.size g m f ∧ Below w.heap.size w wr

set_option maxHeartbeats 1000000 in
theorem JReach_ok : JReachOk 7 := by
  intro n rs A c w h32 hl hr hX
  have hck := jCheck_any n rs A c w h32 hl hr hX
  by_cases hc : codeD n rs = 0
  · obtain ⟨n, rfl, hn1, hn6, hl16, hok, _⟩ := codeD_zero hc
    rw [hc] at hck
    have HC := Lib.hid hc
    have HK := Lib.hid hok
    have HH := Lib.hid h32
    obtain ⟨i0, hi, hz0, hz1, hz2⟩ := info_parts info29
    have HI := Lib.hid (And.intro hi (And.intro hz0 (And.intro hz1 hz2)))
    obtain ⟨m, hm⟩ : ∃ m, m = n + n := ⟨_, rfl⟩
    have hm12 : m ≤ 12 := by omega
    have HG := Lib.hid (hok.good (by omega))
    have HTb := Lib.hid (hok.table (by omega))
    have himp := imply_any n
    rw [← hm] at HG HTb himp
    have hmI : (2 * (n : Int)) = (m : Int) := by omega
    have HM := Lib.hid hm
    have HIm := Lib.hid himp
    have HX := Lib.hid hX
    have HL32 := Lib.hid hl
    clear hc hok hi hz0 hz1 hz2 hm himp hX h32 hl
    go_enter Tryd.func7, Tryd.ntmps7
    go_wp2_with fail
    refine hck.mono ?_
    rintro e w1 ⟨rfl, hb1⟩
    clear hck
    have hsz := hb1.size
    have HB1 := Lib.hid hb1
    clear hb1
    go_wp2_with (at_make; refine wpList_make_full _ rfl _ _ 23 rfl w.heap.size 28 i0 (.int .u32 0) 1 Tryd.underlying23 HI.out.1 HI.out.2.1 HI.out.2.2.1 .i64 .i64 _ _ m rfl rfl ?b0 ?b1 ?b2 ?b3 hsz ?c5)
    case b0 => rfl
    case b1 => rfl
    case b2 => rw [HI.out.2.2.2]; omega
    case b3 => unfold maxLen; omega
    case c5 =>
      intro w2 hown hgrow
      have HO := Lib.hid (own_made hown)
      have HB := Lib.hid (HB1.out.grown hgrow HB1.out.size (by intro k hk; cases hk))
      clear hown hgrow HB1 hsz
      generalize w1.heap.size = g at *
      go_wp2
      go_loopw [22] (fun v wr => ReachOnes m g w v wr) (fun v _ => m - (intOf v).toNat)
      case atStart => exact ⟨0, rfl, Nat.zero_le _, HO.out.congr (tab_congr fun i _ => by simp [onesJ]), HB.out⟩
      case round =>
        clear HO HB
        obtain ⟨a, rfl, ha, hown, hbel⟩ := hrel
        have HO := Lib.hid hown
        have HB := Lib.hid hbel
        clear hbel
        by_cases hlt : a < m
        · have hcc := hown.cell hlt
          have hff := hown.free a
          have o1 := one_int a (by omega)
          clear hown
          go_wp2
          go_roundw
          case rel => exact ⟨a + 1, by go_num, by omega, by rw [← onesJ_step]; exact HO.out.stored a (one a), HB.out.setCell HO.out.base _⟩
          case measure => simp [intOf]; omega
        · obtain rfl : a = m := by omega
          clear hown
          go_wp2
          go_loopw [33] (fun v wr => ReachSteps n a g rs w v wr) (fun v _ => rs.length - (intOf v).toNat)
          case atStart => exact ⟨0, one, rfl, Nat.zero_le _, Grows.init _ _, HO.out.congr (onesJ_all _), HB.out⟩
          case round =>
            clear HO HB
            obtain ⟨k, f, rfl, hk, hgr, hown, hbel⟩ := hrel
            have HO := Lib.hid hown
            have HGr := Lib.hid hgr
            clear hown hgr
            by_cases hkl : k < rs.length
            · obtain ⟨r, hrk⟩ := get_some hkl
              obtain ⟨r1, r2⟩ := r
              obtain ⟨b, off, rfl, c1, c2⟩ := RowC.at (hr.below hbel) hrk
              simp only at c1 c2
              have hmem := List.mem_of_getElem? hrk
              obtain ⟨f1, f2⟩ := HK.out.fit _ hmem
              have hnz := lit_nz (n := n) (c := (r1, r2)) (by omega) f1 f2 (two_iff.1 HK.out.two _ hmem).1
              have hb2 := hbel.alloc hbel.size (.cells #[.int .u32 (r1 : Int), .int .u32 (r2 : Int)] 37)
              have hcall := HIm.out (r1, r2) w.heap.size g f (wr.alloc (.cells #[.int .u32 (r1 : Int), .int .u32 (r2 : Int)] 37)) hn1 hn6 f1 f2 hnz (HO.out.alloc _) HGr.out.lt (HX.out.below hb2) hb2.size
              have HS := Lib.hid (grow_clause HK.out (by omega) hrk (by rw [← HM.out]; exact HGr.out))
              have HB2 := Lib.hid hb2
              rw [← HM.out] at HS
              simp only at hcall
              clear hmem f1 f2 hnz hb2 hrk hbel HO HGr
              go_wp2_with fail
              refine hcall.mono ?_
              rintro e w3 ⟨rfl, hown3, hbel3⟩
              have HO3 := Lib.hid hown3
              have HB3 := Lib.hid hbel3
              clear hown3 hbel3 hcall
              go_wp2
              go_roundw
              case rel => exact ⟨k + 1, _, by go_num, by omega, HS.out, HO3.out, HB2.out.trans HB3.out⟩
              case measure => simp [intOf]; omega
            · obtain rfl : k = rs.length := by omega
              have hj := join_any a (imps n rs) w.heap.size g f wr hm12 (Mids.init (by rw [imps_len]; exact HGr.out)) HG.out HO.out
              clear hkl
              go_wp2_with fail
              refine hj.mono ?_
              rintro e w3 ⟨rfl, hown3, hbel3⟩
              have HO3 := Lib.hid hown3
              have HB3 := Lib.hid (hbel.trans hbel3)
              clear hown3 hbel3 hj hbel
              go_wp2
              go_ret2
              refine ⟨some ⟨g, 0, none⟩, a, (List.range a).map (reachW n rs), ?_, ?_, ?_, HB3.out⟩
              · rw [HC.out]; simp
              · rw [reachL_ok HC.out, HM.out]
              · rw [← HTb.out]; exact HO3.out.row
  · have HR := Lib.hid (reachL_err hc)
    generalize codeD n rs = cc at *
    go_enter Tryd.func7, Tryd.ntmps7
    go_wp2_with fail
    refine hck.mono ?_
    rintro e w1 ⟨rfl, hb1⟩
    clear hck
    go_wp2
    go_ret2
    exact ⟨none, 0, [], rfl, HR.out.symm, .inl rfl, hb1⟩

end Go.Proofs.YtekeeodnjlebcaaDoor
