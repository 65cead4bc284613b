/- syllogistref.Reach. -/
import Derived.Test.YtekeeodnjlebcaaDoorTwS
import Derived.Test.YtekeeodnjlebcaaDoorTwM
import Derived.Deep.RegionHeld3
namespace Go.Proofs.YtekeeodnjlebcaaDoor
open Go.RowKit

theorem nats_len (xs : List Nat) : (nats xs).length = xs.length := by simp [nats]
theorem nats_mem {xs : List Nat} {x : Nat} : (x : Int) ∈ nats xs ↔ x ∈ xs := by
  unfold nats
  rw [List.mem_map]
  constructor
  · rintro ⟨y, hy, e⟩
    have : y = x := by omega
    subst this
    exact hy
  · intro h; exact ⟨x, h, rfl⟩
theorem nats_app (xs ys : List Nat) : nats (xs ++ ys) = nats xs ++ nats ys := by simp [nats]

/-- Within the going: the kth is looked at, the literals below j are done. -/
def RchR (n : Nat) (rs : List Cla) (i : Nat) (w : World) (T : List Nat) (k x j : Nat) (hv : Value) (here : List Nat) (wr : World) : Prop :=
  Bfs n rs i here k ∧ here.take (k + 1) = T ∧ here[k]? = some x ∧ (∀ y, y < j → stepB n rs x y = true → y ∈ here) ∧ OwnI wr w.heap.size hv (nats here) ∧ Below w.heap.size w wr
/-- The cells that the test reads. -/
def ThreeC (z g p c1 c2 x : Nat) (w' : World) : Prop :=
  w'.cell? ⟨z, 0, none⟩ = some (.int .u32 (c1 : Int)) ∧ w'.cell? ⟨z, 1, none⟩ = some (.int .u32 (c2 : Int)) ∧ w'.cell? ⟨g, p, none⟩ = some (.int .i64 (x : Int))
theorem ThreeC.below {z g p c1 c2 x : Nat} {w w' : World} (h : ThreeC z g p c1 c2 x w) (hb : Below w.heap.size w w') : ThreeC z g p c1 c2 x w' :=
  ⟨cell_kp' hb h.1, cell_kp' hb h.2.1, cell_kp' hb h.2.2⟩

set_option maxHeartbeats 4000000 in
theorem Reach_any (n : Nat) (hn : n ≤ 6) (rs : List Cla) (A : Option Addr) (c i : Nat) (w : World) (hg : TwoOk n rs) (hi : i < n + n) (h32 : W32 rs) (hl : rs.length ≤ 16) (hr : Row w A (rulesC rs)) :
    Calls Tryd.prog 9 #[.int .i64 n, .slice A rs.length c, .int .i64 i] w fun e w' => e = .returned (.int .u32 (reachW n rs i : Nat)) ∧ Below w.heap.size w w' := by
  obtain ⟨i0, hi0, hz0, hz1, hz2⟩ := info_parts info3
  have HI := Lib.hid (And.intro hi0 (And.intro hz0 (And.intro hz1 hz2)))
  have hO0 : OwnI (w.alloc (.cells #[.int .i64 (i : Int)] 3)) w.heap.size (.slice (some ⟨w.heap.size, 0, none⟩) 1 1) (nats [i]) := World.ownsRow_lit w #[.int .i64 (i : Int)] 1 (Nat.le_refl _) (by simp [maxLen]) rfl
  have hb0 := (Below.refl w.heap.size w).alloc (Nat.le_refl _) (.cells #[.int .i64 (i : Int)] 3)
  have HO0 := Lib.hid hO0
  have HB0 := Lib.hid hb0
  clear hi0 hz0 hz1 hz2 hO0 hb0
  go_enter Tryd.func9, Tryd.ntmps9
  go_wp2
  go_loopw [7, 8, 9] (fun hv sv kv wr => ∃ (here : List Nat) (k q : Nat), kv = .int .i64 k ∧ sv = .int .u32 q ∧ k ≤ here.length ∧ Bfs n rs i here k ∧ SetOf q (here.take k) ∧ OwnI wr w.heap.size hv (nats here) ∧ Below w.heap.size w wr) (fun _ _ kv _ => n + n - (intOf kv).toNat)
  case atStart => exact ⟨[i], 0, 0, rfl, rfl, by simp, Bfs.init hi, SetOf.nil, HO0.out, HB0.out⟩
  case round =>
    clear HO0 HB0
    obtain ⟨here, k, q, rfl, rfl, hk, hB, hS, hown, hbel⟩ := hrel
    have hhl := hB.len
    have hq12 : q < one (n + n) := hS.lt fun x hx => hB.lt x (List.mem_of_mem_take hx)
    have h4096 : one (n + n) ≤ 4096 := by
      have : one (n + n) ≤ one 12 := Nat.pow_le_pow_right (by omega) (by omega)
      simpa [one] using this
    have HBf := Lib.hid hB
    have HSe := Lib.hid hS
    have HO := Lib.hid hown
    have hnl := nats_len here
    obtain ⟨A5, c5, rfl, hrow5, _⟩ := hown.row
    rw [hnl] at HO ⊢
    clear hB hS hown
    by_cases hlt : k < here.length
    · obtain ⟨x, hx⟩ := get_some hlt
      obtain ⟨g, o, rfl, hcell⟩ := hrow5.at (k := k) (by rw [ints_length, hnl]; exact hlt)
      have ck := hcell _ _ (ints_at (nats_at hx))
      have hx12 := HBf.out.lt x (List.mem_of_getElem? hx)
      have h1x := one_int x (by omega)
      have hox : one x < one (n + n) := Nat.pow_lt_pow_right (by omega) hx12
      have hor := u32_or_nat q (one x) (by omega) (by omega)
      have HX := Lib.hid hx
      have HS2 := Lib.hid (show SetOf (q ||| one x) (here.take (k + 1)) by
        rw [List.take_add_one, hx]
        exact HSe.out.add x)
      clear hcell hx hnl
      go_wp2
      try rw [hor]
      obtain ⟨q2, hq2⟩ : ∃ q2, q ||| one x = q2 := ⟨_, rfl⟩
      rw [hq2] at HS2 ⊢
      try rw [h1x]
      clear hor h1x hq2
      obtain ⟨T, hT⟩ : ∃ T, here.take (k + 1) = T := ⟨_, rfl⟩
      have HR0 := Lib.hid (show RchR n rs i w T k x 0 (.slice (some ⟨g, o, none⟩) here.length c5) here wr from ⟨HBf.out, hT, HX.out, fun y hy => by omega, HO.out, hbel⟩)
      rw [hT] at HS2
      clear hT ck
      go_loopw [7, 10] (fun hv jv wr => ∃ (here : List Nat) (j : Nat), jv = .int .i64 j ∧ j ≤ n + n ∧ RchR n rs i w T k x j hv here wr) (fun _ jv _ => n + n - (intOf jv).toNat)
      case atStart => exact ⟨here, 0, rfl, Nat.zero_le _, HR0.out⟩
      case round =>
        clear HR0 HO hbel HX HBf HSe hrow5
        obtain ⟨here2, j, rfl, hj, hR⟩ := hrel
        have HR := Lib.hid hR
        obtain ⟨hB2, hT2, hx2, hd2, hown2, hbel2⟩ := hR
        have hk2 : k < here2.length := (List.getElem?_eq_some_iff.1 hx2).1
        by_cases hjn : j < n + n
        · have HR3 := Lib.hid (show RchR n rs i w T k x j u7 here2 wr from HR.out)
          have hjd : decide ((j : Int) < (n : Int) + (n : Int)) = true := by rw [decide_eq_true_iff]; omega
          clear hB2 hT2 hx2 hd2 hown2
          go_wp2
          try rw [hjd]
          clear hjd
          go_loopw [7, 38] (fun hv mv wr => ∃ (here : List Nat) (m : Nat), mv = .int .i64 m ∧ m ≤ rs.length ∧ RchR n rs i w T k x j hv here wr ∧ (stepB n (rs.take m) x j = true → j ∈ here)) (fun _ mv _ => rs.length - (intOf mv).toNat)
          case atStart => exact ⟨here2, 0, rfl, Nat.zero_le _, HR.out, fun h => by simp [stepB] at h⟩
          case round =>
            clear HR HR3 hbel2 hk2
            obtain ⟨here3, m, rfl, hm, hR, hst⟩ := hrel
            have HR := Lib.hid hR
            have HSt := Lib.hid hst
            obtain ⟨hB3, hT3, hx3, hd3, hown3, hbel3⟩ := hR
            have hk3 : k < here3.length := (List.getElem?_eq_some_iff.1 hx3).1
            have hl3 := hB3.len
            have hnl := nats_len here3
            obtain ⟨A6, c6, rfl, hrow6, _⟩ := hown3.row
            have HO := Lib.hid hown3
            rw [hnl] at HR HO ⊢
            clear hst hB3 hT3 hd3 hown3
            by_cases hlt3 : m < rs.length
            · obtain ⟨⟨c1, c2⟩, hrk⟩ := get_some hlt3
              have hmem := List.mem_of_getElem? hrk
              obtain ⟨b, off, rfl, d1, d2⟩ := RowC.at (hr.below hbel3) hrk
              obtain ⟨b1, b2⟩ := h32 _ hmem
              have hsz12 : (litsK n (c1, c2) n).length = 1 ∨ (litsK n (c1, c2) n).length = 2 := by
                have h1 := lits_size hg.n32 (hg.fit _ hmem).1 (hg.fit _ hmem).2
                have h2 := two_iff.1 hg.two _ hmem
                omega
              obtain ⟨g6, o6, rfl, hcell⟩ := hrow6.at (k := k) (by rw [ints_length, hnl]; exact hk3)
              have ck := hcell _ _ (ints_at (nats_at hx3))
              have HTk := Lib.hid (step_take (n := n) (x := x) (y := j) hrk)
              have hB1 : Below wr.heap.size wr (wr.alloc (.cells #[.int .u32 (c1 : Int), .int .u32 (c2 : Int)] 37)) := (Below.refl _ _).alloc (Nat.le_refl _) _
              have hz := two_cells (heap_alloc_new wr (.cells #[.int .u32 (c1 : Int), .int .u32 (c2 : Int)] 37))
              have hS1 : ThreeC wr.heap.size g6 (o6 + k) c1 c2 x (wr.alloc (.cells #[.int .u32 (c1 : Int), .int .u32 (c2 : Int)] 37)) := ⟨hz.1, hz.2, cell_kp' hB1 ck⟩
              have keyS := fun W => Said_any n hn c1 c2 x j W b1 b2 hx12 hsz12
              have hrowW : ∀ W, Below wr.heap.size wr W → Row W (some ⟨g6, o6, none⟩) (ints (nats here3)) := fun W hW => hrow6.below hW
              have HRW := Lib.hid hrowW
              have HX3 := Lib.hid hx3
              have HMem := Lib.hid hmem
              have HRk := Lib.hid hrk
              simp only at b1 b2
              clear hrk hmem hcell hz hsz12 hrowW hx3 hrow6 ck
              obtain ⟨bs, hbs⟩ : ∃ bs, saidB n (c1, c2) x j = bs := ⟨_, rfl⟩
              rw [hbs] at keyS HTk
              have HBS := Lib.hid hbs
              clear hbs
              have keyH := fun W (hW : Below wr.heap.size wr W) => Has_any (nats here3) (some ⟨g6, o6, none⟩) c6 (j : Int) W (HRW.out W hW) (by rw [hnl]; omega)
              obtain ⟨bh, hbh⟩ : ∃ bh, decide ((j : Int) ∈ nats here3) = bh := ⟨_, rfl⟩
              rw [hbh, hnl] at keyH
              have HBH := Lib.hid (show decide (j ∈ here3) = bh by rw [← hbh, decide_eq_decide]; exact nats_mem.symm)
              clear hbh
              go_wp2
              generalize hw1 : wr.alloc (.cells #[.int .u32 (c1 : Int), .int .u32 (c2 : Int)] 37) = w1 at *
              have HBd := Lib.hid (show Below wr.heap.size wr w1.drew from hB1.drew)
              have HS1 := Lib.hid (show ThreeC wr.heap.size g6 (o6 + k) c1 c2 x w1.drew from hS1)
              generalize hsz : wr.heap.size = sz at *
              cases bs with
              | false =>
                have hc1 := HS1.out.1
                have hc2 := HS1.out.2.1
                have hc3 := HS1.out.2.2
                first
                | (go_region_with (go_at_call 19
                                   refine (keyS _).mono ?_
                                   rintro e w4 ⟨rfl, hb4⟩
                                   have HB4 := Lib.hid (HBd.out.trans (hb4.mono (by rw [← hsz]; exact HBd.out.size)))
                                   clear hb4))
                | fail
                all_goals
                  have HR5 := Lib.hid (show RchR n rs i w T k x j (.slice (some ⟨g6, o6, none⟩) here3.length c6) here3 w4 from
                    ⟨HR.out.1, HR.out.2.1, HR.out.2.2.1, HR.out.2.2.2.1, OwnI.below HO.out (by rw [hsz]; exact HB4.out), hbel3.trans (HB4.out.mono (by rw [← hsz]; exact hbel3.size))⟩)
                  subst hsz
                  go_wp2
                  go_roundw
                  case rel => exact ⟨here3, m + 1, by go_num, by omega, HR5.out, fun h => HSt.out (by rw [HTk.out, Bool.or_false] at h; exact h)⟩
                  case measure => simp [intOf]; omega
              | true =>
                cases bh with
                | true =>
                  go_region_held3 (fun w' => w'.cell? ⟨sz, 0, none⟩ = some (.int .u32 (c1 : Int)) ∧ w'.cell? ⟨sz, 1, none⟩ = some (.int .u32 (c2 : Int)) ∧ w'.cell? ⟨g6, o6 + k, none⟩ = some (.int .i64 (x : Int))) (first | exact hS1 | exact HS1.out | exact HS4.out | go_keep)
                    (first
                    | (go_at_call 19
                       refine (keyS _).mono ?_
                       rintro e w4 ⟨rfl, hb4⟩
                       have HS4 := Lib.hid (HS1.out.below hb4)
                       have HB4 := Lib.hid (HBd.out.trans (hb4.mono (by rw [← hsz]; exact HBd.out.size)))
                       clear hb4)
                    | (go_at_call 20
                       refine (keyH _ HB4.out).mono ?_
                       rintro e w5 ⟨rfl, rfl⟩))
                  all_goals
                    have HR5 := Lib.hid (show RchR n rs i w T k x j (.slice (some ⟨g6, o6, none⟩) here3.length c6) here3 w4 from
                      ⟨HR.out.1, HR.out.2.1, HR.out.2.2.1, HR.out.2.2.2.1, OwnI.below HO.out (by rw [hsz]; exact HB4.out), hbel3.trans (HB4.out.mono (by rw [← hsz]; exact hbel3.size))⟩)
                    subst hsz
                    go_wp2
                    go_roundw
                    case rel => exact ⟨here3, m + 1, by go_num, by omega, HR5.out, fun _ => of_decide_eq_true HBH.out⟩
                    case measure => simp [intOf]; omega
                | false =>
                  go_region_held3 (fun w' => w'.cell? ⟨sz, 0, none⟩ = some (.int .u32 (c1 : Int)) ∧ w'.cell? ⟨sz, 1, none⟩ = some (.int .u32 (c2 : Int)) ∧ w'.cell? ⟨g6, o6 + k, none⟩ = some (.int .i64 (x : Int))) (first | exact hS1 | exact HS1.out | exact HS4.out | go_keep)
                    (first
                    | (go_at_call 19
                       refine (keyS _).mono ?_
                       rintro e w4 ⟨rfl, hb4⟩
                       have HS4 := Lib.hid (HS1.out.below hb4)
                       have HB4 := Lib.hid (HBd.out.trans (hb4.mono (by rw [← hsz]; exact HBd.out.size)))
                       clear hb4)
                    | (go_at_call 20
                       refine (keyH _ HB4.out).mono ?_
                       rintro e w5 ⟨rfl, rfl⟩))
                  all_goals
                    have hO5 := OwnI.below HO.out (by rw [hsz]; exact HB4.out)
                    have hb5 := hbel3.trans (HB4.out.mono (by rw [← hsz]; exact hbel3.size))
                    have HO5 := Lib.hid (show _root_.Go.World.ownsRow w4 w.heap.size 3 1 (.slice (some ⟨g6, o6, none⟩) here3.length c6) here3.length (ints (nats here3)) by unfold OwnI at hO5; rw [hnl] at hO5; exact hO5)
                    have HNj := Lib.hid (of_decide_eq_false HBH.out)
                    have HStep := Lib.hid (step_iff.2 ⟨_, HMem.out, HBS.out⟩)
                    have hsz5 := hb5.size
                    clear hO5
                    subst hsz
                    obtain ⟨hi0, hz0, hz1, hz2⟩ := HI.out
                    go_wp2_with (first | (at_builtin; refine wpList_append_lies _ rfl _ _ 41 rfl w.heap.size 3 i0 (.int .i64 0) 1 8 Tryd.underlying41 hi0 hz0 hz1 hz2 rfl (by decide) _ _ _ rfl (World.ownsRow.alloc HO5.out _) ⟨_, 0, none⟩ 1 1 [.int .i64 (j : Int)] rfl rfl (cell_one_new _ _ _) ?c1 (by decide) ?c2 ?c3 ?c4 _ rfl ?c6))
                    case c1 => intro u hu; simp at hu; subst hu; rfl
                    case c2 => first | (unfold maxLen; omega) | (simp; unfold maxLen; omega)
                    case c3 => first | omega | (simp; omega)
                    case c4 => simp; omega
                    case c6 =>
                      intro g7 cap7 w7 hown7 hgrow7 hat7 hlt7
                      have HB7 := Lib.hid (show Below w.heap.size w w7 from (hb5.alloc (by omega) _).grown hgrow7 (by simp; omega) (fun k hk => (World.ownsRow.lt HO5.out k hk).1))
                      have HO7 := Lib.hid (show OwnI w7 w.heap.size (.slice (some ⟨g7, 0, none⟩) (here3.length + 1) cap7) (nats (here3 ++ [j])) by
                        unfold OwnI
                        rw [nats_append, ints_append]
                        simp only [List.length_append, nats_length, List.length_cons, List.length_nil, Nat.zero_add] at hown7 ⊢
                        exact hown7)
                      clear hown7 hgrow7 hat7 hi0 hz0 hz1 hz2
                      go_wp2
                      go_roundw
                      case rel =>
                        have hBf := HR.out.1.add (by omega) (List.mem_of_getElem? HX3.out) hjn HStep.out HNj.out
                        refine ⟨here3 ++ [j], m + 1, by go_num, by omega, ⟨hBf, take_app HR.out.2.1 hk3, ?_, fun y hy hs => List.mem_append_left _ (HR.out.2.2.2.1 y hy hs), HO7.out, HB7.out⟩, fun _ => by simp⟩
                        rw [List.getElem?_append_left hk3]
                        exact HX3.out
                      case measure => simp [intOf]; omega
            · have HD := Lib.hid (show stepB n rs x j = true → j ∈ here3 by have := HSt.out; rw [List.take_of_length_le (by omega)] at this; exact this)
              go_wp2
              go_roundw
              case rel => exact ⟨here3, j + 1, by go_num, by omega, ⟨HR.out.1, HR.out.2.1, HR.out.2.2.1, fun y hy hs => by
                by_cases e : y = j
                · subst e; exact HD.out hs
                · exact HR.out.2.2.2.1 y (by omega) hs, HR.out.2.2.2.2.1, HR.out.2.2.2.2.2⟩⟩
              case measure => simp [intOf]; omega
        · clear hB2 hT2 hx2 hd2 hown2
          go_wp2
          go_roundw
          case rel => exact ⟨here2, k + 1, q2, by go_num, rfl, by omega, HR.out.1.next HR.out.2.2.1 (fun y hs => HR.out.2.2.2.1 y (by have := hg.step_lt hs; omega) hs), by rw [HR.out.2.1]; exact HS2.out, HR.out.2.2.2.2.1, hbel2⟩
          case measure => simp [intOf]; omega
    · obtain rfl : k = here.length := by omega
      have HW := Lib.hid (HBf.out.word (by have := HSe.out; rw [List.take_length] at this; exact this))
      go_wp2
      go_ret
      exact ⟨ret_int (by rw [HW.out]), hbel⟩

end Go.Proofs.YtekeeodnjlebcaaDoor
