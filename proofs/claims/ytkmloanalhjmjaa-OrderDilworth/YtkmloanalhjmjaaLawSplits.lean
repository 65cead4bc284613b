/- The walk of the law on Split, by the document's answer. -/
import Derived.Test.YtkmloanalhjmjaaW18
import Derived.Test.YtkmloanalhjmjaaW11
namespace Go.Proofs.Ytkmloanalhjmjaa
open Go.RowKit

/-- What has been seen: k lists whole. -/
def SpK (L : List (List Nat)) (w w2 : World) (mv sv iv : Value) (wr : World) : Prop :=
  ∃ k : Nat, iv = .int .i64 k ∧ k ≤ L.length ∧ OwnI wr w2.heap.size sv (nats (L.take k).flatten) ∧ (∃ m : Nat, m = (L.take k).flatten.length ∧ mv = .int .i64 m) ∧ Below w2.heap.size w2 wr ∧ Below w.heap.size w wr
/-- What has been seen: and the first t of list c. -/
def SpT (L : List (List Nat)) (k : Nat) (c : List Nat) (w w2 : World) (mv sv iv : Value) (wr : World) : Prop :=
  ∃ t : Nat, iv = .int .i64 t ∧ t ≤ c.length ∧ OwnI wr w2.heap.size sv (nats ((L.take k).flatten ++ c.take t)) ∧ (∃ m : Nat, m = (L.take k).flatten.length + t ∧ mv = .int .i64 m) ∧ Below w2.heap.size w2 wr ∧ Below w.heap.size w wr

theorem owns_below {w w' : World} {B T k m : Nat} {v : Value} {cs : List Value} (h : w.ownsRow B T k v m cs) (hb : Below w.heap.size w w') : w'.ownsRow B T k v m cs :=
  World.ownsRow.kept h (row := none) ⟨hb.os, hb.tape, hb.output, hb.size, fun k hk _ => hb.block k hk⟩ (by cases hv : v.ownBlock <;> simp)

set_option maxHeartbeats 2000000 in
theorem OrderSplits_walk (n : Int) (ps : List (Int × Int)) (A : Option Addr) (c : Nat) (w : World) (hm : ps.length ≤ maxLen) (hr : Row w A (pairsC ps)) :
    Calls Try.prog 8 #[.int .i64 n, .slice A ps.length c] w fun e w' => e = .returned (.bool true) ∧ Below w.heap.size w w' := by
  by_cases hc : code n ps = 0
  · obtain ⟨h2, h3, h4⟩ := code_zero hc
    obtain ⟨n, rfl⟩ := Int.eq_ofNat_of_zero_le (show 0 ≤ n by unfold Large at h2; omega)
    obtain ⟨hn1, hn6, hl⟩ : 1 ≤ n ∧ n ≤ 6 ∧ ps.length ≤ 20 := by unfold Large at h2; omega
    obtain ⟨i0, hi, hz0, hz1, hz2⟩ := info_parts info3
    have HI := Lib.hid (And.intro hi (And.intro hz0 (And.intro hz1 hz2)))
    have hW : widest n ps < 4294967296 := by
      have h1 : widest n ps ≤ one n := widestTo_le n ps _
      have h2 := one_le_64 hn6
      omega
    have HC := Lib.hid hc
    clear h2 h3 h4 hc hi hz0 hz1 hz2
    go_enter Try.func8, Try.ntmps8
    go_wp2_with fail
    refine (Split_ok n ps A c _ hm hr HC.out).mono ?_
    rintro e w1 ⟨v, L, B, rfl, hown, hsp, hb1⟩
    obtain ⟨A2, c2, vs, rfl, hrow, hvl, hvs⟩ := hown.open
    have HS := Lib.hid hsp
    have HR := Lib.hid hrow
    have HV := Lib.hid hvs
    have HVl := Lib.hid hvl
    have hLn : L.length ≤ 32 := by rw [hsp.len]; exact pop_le _
    have hLf : L.flatten.length ≤ 6 := by rw [hsp.full.len]; exact hn6
    clear hown hsp hrow hvs hvl
    go_wp2_with fail
    refine (OrderCheck_any n ps A c _ hm (hr.below hb1)).mono ?_
    rintro e w2 ⟨rfl, hb2⟩
    rw [HC.out]
    have hb02 := hb1.trans (hb2.mono hb1.size)
    have hsz2 := hb02.size
    have hsz1 := hb2.size
    go_wp2
    go_loopw [8, 9, 35] (fun mv sv iv wr => SpK L w w2 mv sv iv wr) (fun _ _ iv _ => L.length - (intOf iv).toNat)
    case atStart => exact ⟨0, rfl, Nat.zero_le _, World.ownsRow_nil _ _ _ _, ⟨0, rfl, rfl⟩, Below.refl _ _, hb02⟩
    case round =>
      obtain ⟨k, rfl, hk, hown, ⟨m, hmm, rfl⟩, hb3, hbel⟩ := hrel
      have HM := Lib.hid hmm
      clear hmm
      have HO := Lib.hid hown
      clear hown
      by_cases hkl : k < L.length
      · obtain ⟨cl, hcl⟩ := get_some hkl
        obtain ⟨Ai, cc, hvi, hri⟩ := HV.out k cl hcl
        have hcm : cl ∈ L := List.mem_of_getElem? hcl
        have hpos : 0 < cl.length := List.length_pos_iff.2 (HS.out.ne cl hcm)
        have hd0 : ((cl.length : Int) == 0) = false := by rw [beq_eq_false_iff_ne]; omega
        have HCl := Lib.hid hcl
        have HCm := Lib.hid hcm
        have HRi := Lib.hid hri
        have HFl := Lib.hid (flatten_at hcl)
        have hcl6 : (L.take k).flatten.length + cl.length ≤ 6 := by
          obtain ⟨_, r, hr2⟩ := HFl.out
          have := congrArg List.length hr2
          rw [List.length_append, List.length_append] at this
          omega
        obtain ⟨gv, ov, rfl, hcv⟩ := ((HR.out.below hb2).below hb3).at (k := k) (by rw [HVl.out]; exact hkl)
        have hck := hcv k _ hvi
        clear hcl hvi hri hcv hcm
        go_wp2
        go_loopw [8, 9, 44] (fun mv sv iv wr => SpT L k cl w w2 mv sv iv wr) (fun _ _ iv _ => cl.length - (intOf iv).toNat)
        case atStart => exact ⟨0, rfl, Nat.zero_le _, by rw [List.take_zero, List.append_nil]; exact HO.out, ⟨m, HM.out, rfl⟩, hb3, hbel⟩
        case round =>
          clear HO hb3 hbel hck HM
          obtain ⟨t, rfl, ht, hown, ⟨m, hmm, rfl⟩, hb3, hbel⟩ := hrel
          have HM := Lib.hid hmm
          have hm6 : m ≤ 6 := by omega
          clear hmm
          have HO := Lib.hid hown
          have hsl : (nats ((L.take k).flatten ++ cl.take t)).length = m := by rw [nats_length, List.length_append, List.length_take, HM.out]; omega
          obtain ⟨As, cs, rfl, hrs⟩ : ∃ As cs, u9 = .slice As m cs ∧ Row wr As (ints (nats ((L.take k).flatten ++ cl.take t))) := by
            obtain ⟨As, cs, h, hrs, _⟩ := hown.row
            exact ⟨As, cs, by rw [h, hsl], hrs⟩
          have HRs := Lib.hid hrs
          have HSl := Lib.hid hsl
          have hsz3 := hb3.size
          clear hown hrs hsl
          by_cases htl : t < cl.length
          · obtain ⟨a, ha⟩ := get_some htl
            have han : a < n := (HS.out.chain cl HCm.out).1 a (List.mem_of_getElem? ha)
            have HNs := Lib.hid (not_seen HS.out.full.nodup HCl.out ha)
            have HTk := Lib.hid (take_at ha)
            obtain ⟨gi, oi, rfl, hci⟩ := ((HRi.out.below hb2).below hb3).at (k := t) (by rw [ints_length, nats_length]; exact htl)
            have hca := hci t _ (ints_at (nats_at ha))
            have key := Has_any (nats ((L.take k).flatten ++ cl.take t)) As cs a wr HRs.out (by rw [HSl.out]; omega)
            rw [HSl.out, show decide ((a : Int) ∈ nats ((L.take k).flatten ++ cl.take t)) = false from by rw [decide_eq_false_iff_not, mem_nats]; exact HNs.out] at key
            have HKey := Lib.hid key
            clear key
            obtain ⟨S, hSe⟩ : ∃ S, S = (L.take k).flatten ++ cl.take t := ⟨_, rfl⟩
            have HSe := Lib.hid hSe
            have HOw := Lib.hid (show wr.ownsRow w2.heap.size 3 1 (.slice As m cs) m (ints (nats S)) by
              have h := HO.out
              unfold OwnI at h
              rw [HSl.out, ← hSe] at h
              exact h)
            clear hSe
            obtain ⟨hi, hz0, hz1, hz2⟩ := HI.out
            cases t with
            | zero =>
              rw [Nat.add_zero] at hca
              go_wp2_with fail
              refine HKey.out.mono ?_
              rintro e w4 ⟨rfl, rfl⟩
              go_wp2_with (first | (at_builtin; refine wpList_append_lies _ rfl _ _ 36 rfl w2.heap.size 3 i0 (.int .i64 0) 1 8 Try.underlying36 hi hz0 hz1 hz2 rfl (by decide) _ _ _ rfl (HOw.out.alloc _) ⟨wr.heap.size, 0, none⟩ 1 1 [.int .i64 a] rfl rfl (cell_one_new _ _ _) ?c1 (by decide) ?c2 ?c3 ?c4 _ rfl ?c6))
              case c1 => intro u hu; simp at hu; subst hu; rfl
              case c2 => unfold maxLen; omega
              case c3 => omega
              case c4 => simp; omega
              case c6 =>
                intro g3 cap3 w6 hown4 hgrow4 hat4 hlt4
                have HG4 := Lib.hid hgrow4
                have HO4 := Lib.hid hown4
                clear hown4 hgrow4 hat4 hi hz0 hz1 hz2
                go_wp2
                go_roundw
                case rel =>
                  have hlt := fun k hk => (World.ownsRow.lt HOw.out k hk).1
                  refine ⟨0 + 1, by go_num, by omega, ?_, ⟨m + 1, by have := HM.out; omega, by go_num⟩, ?_, ?_⟩
                  · rw [HTk.out, ← List.append_assoc, ← HSe.out, nats_append]
                    unfold OwnI
                    rw [ints_append, List.length_append, HSe.out, HSl.out, ← HSe.out]
                    exact HO4.out
                  · exact (hb3.alloc hsz3 _).grown HG4.out (by simp; omega) hlt
                  · exact (hbel.alloc (by omega) _).grown HG4.out (by simp; omega) (fun k hk => by have := hlt k hk; omega)
                case measure => simp [intOf]; omega
            | succ s =>
              obtain ⟨b, hb⟩ := get_some (show s < cl.length by omega)
              have hcb := hci s _ (ints_at (nats_at hb))
              have hbn : b < n := (HS.out.chain cl HCm.out).1 b (List.mem_of_getElem? hb)
              have HAb := Lib.hid (ab_iff.1 (pairwise_next (HS.out.chain cl HCm.out).2 hb ha)).2
              clear hci
              go_wp2_with fail
              refine HKey.out.mono ?_
              rintro e w4 ⟨rfl, rfl⟩
              go_wp2_with fail
              refine (Under_any n ps A c b a _ (hr.below hbel) hl).mono ?_
              rintro e w5 ⟨rfl, hb5⟩
              rw [HAb.out]
              have HOx := Lib.hid (owns_below HOw.out hb5)
              have hc3 := hb3.trans (hb5.mono hsz3)
              have hcel := hbel.trans (hb5.mono hbel.size)
              have hsz3 := hc3.size
              clear hb3 hbel hb5 HOw hca hcb
              go_wp2_with (first | (at_builtin; refine wpList_append_lies _ rfl _ _ 36 rfl w2.heap.size 3 i0 (.int .i64 0) 1 8 Try.underlying36 hi hz0 hz1 hz2 rfl (by decide) _ _ _ rfl (HOx.out.alloc _) ⟨w5.heap.size, 0, none⟩ 1 1 [.int .i64 a] rfl rfl (cell_one_new _ _ _) ?c1 (by decide) ?c2 ?c3 ?c4 _ rfl ?c6))
              case c1 => intro u hu; simp at hu; subst hu; rfl
              case c2 => unfold maxLen; omega
              case c3 => omega
              case c4 => simp; omega
              case c6 =>
                intro g3 cap3 w6 hown4 hgrow4 hat4 hlt4
                have HG4 := Lib.hid hgrow4
                have HO4 := Lib.hid hown4
                clear hown4 hgrow4 hat4 hi hz0 hz1 hz2
                go_wp2
                go_roundw
                case rel =>
                  have hlt := fun k hk => (World.ownsRow.lt HOx.out k hk).1
                  refine ⟨(s + 1) + 1, by go_num, by omega, ?_, ⟨m + 1, by have := HM.out; omega, by go_num⟩, ?_, ?_⟩
                  · rw [HTk.out, ← List.append_assoc, ← HSe.out, nats_append]
                    unfold OwnI
                    rw [ints_append, List.length_append, HSe.out, HSl.out, ← HSe.out]
                    exact HO4.out
                  · exact (hc3.alloc hsz3 _).grown HG4.out (by simp; omega) hlt
                  · exact (hcel.alloc (by omega) _).grown HG4.out (by simp; omega) (fun k hk => by have := hlt k hk; omega)
                case measure => simp [intOf]; omega
          · have hte : t = cl.length := by omega
            subst hte
            go_wp2
            go_roundw
            case rel =>
              have e : (L.take (k + 1)).flatten = (L.take k).flatten ++ cl.take cl.length := by rw [HFl.out.1, List.take_length]
              refine ⟨k + 1, by go_num, by omega, ?_, ?_, hb3, hbel⟩
              · rw [e]; exact HO.out
              · exact ⟨m, by rw [e, List.length_append, List.length_take, Nat.min_self, HM.out], rfl⟩
            case measure => simp [intOf]; omega
      · have hke : k = L.length := by omega
        subst hke
        have hmn : n = m := by rw [HM.out, List.take_length, HS.out.full.len]
        subst hmn
        go_wp2_with fail
        refine (Widest_any n ps A c _ (hr.below hbel) hn6 hl).mono ?_
        rintro e w4 ⟨rfl, hb4⟩
        have hbel4 := hbel.trans (hb4.mono hbel.size)
        clear hbel hb4
        go_wp2_with fail
        refine (Size_any (widest n ps) hW _).mono ?_
        rintro e w4 ⟨rfl, rfl⟩
        rw [← HS.out.len]
        go_wp2
        go_ret
        exact ⟨rfl, hbel4⟩
  · go_enter Try.func8, Try.ntmps8
    go_wp2_with fail
    refine (Split_err n ps A c _ hm hr hc).mono ?_
    rintro e w1 ⟨rfl, hb1⟩
    go_wp2_with fail
    refine (OrderCheck_any n ps A c _ hm (hr.below hb1)).mono ?_
    rintro e w2 ⟨rfl, hb2⟩
    have HB2 := Lib.hid (hb1.trans (hb2.mono hb1.size))
    generalize code n ps = k at *
    have hk : (k != 0) = true := by simpa using hc
    clear hc
    go_wp2
    go_ret
    exact ⟨rfl, HB2.out⟩

end Go.Proofs.Ytkmloanalhjmjaa
