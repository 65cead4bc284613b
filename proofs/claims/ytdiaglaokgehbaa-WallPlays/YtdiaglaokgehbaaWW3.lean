/- syllogistref.Wall. -/
import Derived.Test.YtdiaglaokgehbaaWW2
import Derived.Test.YtdiaglaokgehbaaWl4
import Derived.Test.YtdiaglaokgehbaaRm
import Derived.Test.YtdiaglaokgehbaaMRow
import Derived.Test.YtdiaglaokgehbaaOwn
import Derived.Deep.RegionHeld3
namespace Go.Proofs.Ytdiaglaokgehbaa
open Go.RowKit

theorem infoLw : (Try.prog.info? 47).map (fun i => (i.zero, i.size, i.bytes)) = some (some (.slice none 0 0), 1, 24) := by kernel_rfl
theorem infoIw : (Try.prog.info? 3).map (fun i => (i.zero, i.size, i.bytes)) = some (some (.int .i64 0), 1, 8) := by kernel_rfl

/-- The rows of a wall's script in memory. -/
def rowsW (g8 g9 gR gK nc : Nat) (vc vr vf : Value) (vb : Nat → Value) (codes : List Int) (rdl fr kn : List Nat) (L : Nat → List Nat) : List Rw :=
  ⟨49, 3, .slice (some ⟨g9, 0, none⟩) 1 1, 1, [vc, vr, vf]⟩ :: ⟨49, 3, .slice (some ⟨g8, 0, none⟩) 1 1, 1, [.slice none 0 0, .slice none 0 0, .slice none 0 0]⟩ ::
    ⟨28, 1, vc, codes.length, ints codes⟩ :: ⟨38, 1, vr, rdl.length, words rdl⟩ :: ⟨38, 1, vf, fr.length, words fr⟩ ::
    ⟨47, 1, .slice (some ⟨gR, 0, none⟩) nc nc, nc, tabA nc vb⟩ :: ⟨38, 1, .slice (some ⟨gK, 0, none⟩) nc nc, nc, words kn⟩ ::
    tabA nc fun b => ⟨3, 1, vb b, (L b).length, ints (nats (L b))⟩

section
variable {g8 g9 gR gK nc : Nat} {vc vr vf : Value} {vb : Nat → Value} {codes : List Int} {rdl fr kn : List Nat} {L : Nat → List Nat} {d : Rw}
theorem rowsW_get {b : Nat} (hb : b < nc) : (d :: rowsW g8 g9 gR gK nc vc vr vf vb codes rdl fr kn L)[b + 8]? = some ⟨3, 1, vb b, (L b).length, ints (nats (L b))⟩ := by
  show (tabA nc _)[b]? = _
  exact tabA_get _ hb
theorem rowsW_at6 {b : Nat} {r : Rw} : ((d :: rowsW g8 g9 gR gK nc vc vr vf vb codes rdl fr kn L).set (b + 8) r)[6]? = some ⟨47, 1, .slice (some ⟨gR, 0, none⟩) nc nc, nc, tabA nc vb⟩ := rfl
theorem rowsW_at0 {b : Nat} {r : Rw} : ((d :: rowsW g8 g9 gR gK nc vc vr vf vb codes rdl fr kn L).set (b + 8) r)[0]? = some d := rfl
theorem rowsW_read {b m : Nat} {v' : Value} {l' : List Nat} {xs : List Value} (hx : xs = ints (nats l')) (hm : m = l'.length) :
    ((d :: rowsW g8 g9 gR gK nc vc vr vf vb codes rdl fr kn L).set (b + 8) ⟨3, 1, v', m, xs⟩).set 6 ⟨47, 1, .slice (some ⟨gR, 0, none⟩) nc nc, nc, (tabA nc vb).set b v'⟩ =
      d :: rowsW g8 g9 gR gK nc vc vr vf (updA vb b v') codes rdl fr kn (updA L b l') := by
  subst hx hm
  show d :: _ :: _ :: _ :: _ :: _ :: _ :: _ :: (tabA nc _).set b _ = d :: _ :: _ :: _ :: _ :: _ :: _ :: _ :: tabA nc _
  rw [tabA_set, tabA_set]
  congr 9
  funext x
  by_cases e : x = b
  · subst e; simp [updA_same]
  · simp [updA_other e]
theorem rowsW_knows {b x : Nat} {f : Nat → Nat} :
    (d :: rowsW g8 g9 gR gK nc vc vr vf vb codes rdl fr (tabA nc f) L).set 7 ⟨38, 1, .slice (some ⟨gK, 0, none⟩) nc nc, nc, (words (tabA nc f)).set b (.int .u32 (x : Int))⟩ =
      d :: rowsW g8 g9 gR gK nc vc vr vf vb codes rdl fr (tabA nc (updA f b x)) L := by
  rw [words_set, tabA_set]
  rfl
theorem rowsW_from {t x nt gf cf : Nat} {f : Nat → Nat} :
    (d :: rowsW g8 g9 gR gK nc vc vr (.slice (some ⟨gf, 0, none⟩) nt cf) vb codes rdl (tabA nt f) kn L).set 5 ⟨38, 1, .slice (some ⟨gf, 0, none⟩) nt cf, nt, (words (tabA nt f)).set t (.int .u32 (x : Int))⟩ =
      d :: rowsW g8 g9 gR gK nc vc vr (.slice (some ⟨gf, 0, none⟩) nt cf) vb codes rdl (tabA nt (updA f t x)) kn L := by
  rw [words_set, tabA_set, rowsW, rowsW, tabA_length, tabA_length]
  rfl
end
theorem own_as {w : World} {B e size n : Nat} {v v' : Value} {xs : List Value} (hv : v = v') (h : (⟨e, size, v, n, xs⟩ : Rw).at B w) : w.ownsRow B e size v' n xs := hv ▸ h
theorem news_int (w : World) (t : Nat) : ∀ j u, ([Value.int .i64 (t : Int)] : List Value)[j]? = some u → ((w.alloc (.cells #[.int .i64 (t : Int)] 3)).drew).cell? ((⟨w.heap.size, 0, none⟩ : Addr).add j) = some u :=
  row_news ((row_new w w.heap.size rfl [.int .i64 (t : Int)] 3).below (Below.refl _ _).drew)

/-- What the first k deeds do. -/
def stW (fi cl : List Int) (nc : Nat) (ds : List Dd) (k : Nat) : List Int × Wst := runW fi cl nc fi.length (ds.take k)

set_option maxRecDepth 100000 in
set_option maxHeartbeats 40000000 in
theorem Wall_any (nc : Nat) (fi cl : List Int) (ds : List Dd) (A A2 A3 : Option Addr) (c c2 c3 : Nat) (w : World) (g1 : 1 ≤ nc) (g2 : nc ≤ 5) (g3 : ds.length ≤ 30) (hcf : codeF fi cl = 0) (hr : Row w A (ints fi)) (hr2 : Row w A2 (ints cl)) (hr3 : Row w A3 (deedsC ds)) :
    Calls Try.prog 28 #[.int .i64 (nc : Int), .slice A fi.length c, .slice A2 cl.length c2, .slice A3 ds.length c3] w fun e w' => ∃ B1 k1 B2 k2 B3 k3,
      e = .returned (.agg #[.slice B1 (runW fi cl nc fi.length ds).1.length k1, .slice B2 nc k2, .slice B3 fi.length k3]) ∧
      Row w' B1 (ints (runW fi cl nc fi.length ds).1) ∧ Row w' B2 (words (tabA nc (runW fi cl nc fi.length ds).2.rd)) ∧ Row w' B3 (words (tabA fi.length (runW fi cl nc fi.length ds).2.fr)) ∧ Below w.heap.size w w' := by
  obtain ⟨g4, g5, g6⟩ := codeF_zero hcf
  obtain ⟨i0, hi0, hz0, hz1, hz2⟩ := info_parts infoLw
  obtain ⟨i1, hi1, hy0, hy1, hy2⟩ := info_parts infoU32
  obtain ⟨i2, hi2, hx0, hx1, hx2⟩ := info_parts infoEr
  obtain ⟨i3, hi3, hv0, hv1, hv2⟩ := info_parts infoIw
  have HI := Lib.hid (And.intro hi0 (And.intro hz0 (And.intro hz1 hz2)))
  have HI1 := Lib.hid (And.intro hi1 (And.intro hy0 (And.intro hy1 hy2)))
  have HI2 := Lib.hid (And.intro hi2 (And.intro hx0 (And.intro hx1 hx2)))
  have HI3 := Lib.hid (And.intro hi3 (And.intro hv0 (And.intro hv1 hv2)))
  have HG6 := Lib.hid g6
  clear hi0 hz0 hz1 hz2 hi1 hy0 hy1 hy2 hi2 hx0 hx1 hx2 hi3 hv0 hv1 hv2 hcf g6
  go_enter Try.func28, Try.ntmps28
  have hM0 := ((RowsM.nil w).box (cs := #[.slice none 0 0, .slice none 0 0, .slice none 0 0]) (t := 49) 3 rfl).box (cs := #[.slice none 0 0, .slice none 0 0, .slice none 0 0]) (t := 49) 3 rfl
  have hM1 := ((hM0.newNil 28 1).newNil 38 1).newNil 38 1
  simp only [World.size_alloc] at hM1
  have HM := Lib.hid hM1
  clear hM0 hM1
  go_wp2_with (at_make; refine wpList_make_full _ rfl _ _ 74 rfl w.heap.size 47 i0 (.slice none 0 0) 1 Try.underlying74 HI.out.1 HI.out.2.1 HI.out.2.2.1 .i64 .i64 nc nc nc rfl rfl rfl rfl ?b2 ?b3 ?b4 ?c5)
  case b2 => rw [HI.out.2.2.2]; omega
  case b3 => unfold maxLen; omega
  case b4 => exact HM.out.below.size
  case c5 =>
    intro w1 hown hgr
    have hM1 := HM.out.made hown hgr (by simp)
    have HM1 := Lib.hid hM1
    clear hM1 HM hown hgr
    go_wp2_with (at_make; refine wpList_make_full _ rfl _ _ 25 rfl w.heap.size 38 i1 (.int .u32 0) 1 Try.underlying25 HI1.out.1 HI1.out.2.1 HI1.out.2.2.1 .i64 .i64 nc nc nc rfl rfl rfl rfl ?d2 ?d3 ?d4 ?d5)
    case d2 => rw [HI1.out.2.2.2]; omega
    case d3 => unfold maxLen; omega
    case d4 => exact HM1.out.below.size
    case d5 =>
      intro w2 hown hgr
      have hM2 := (HM1.out.made hown hgr (Nat.le_refl _)).nils 3 1 nc
      have e1 : (madeCells #[Value.int .u32 0] nc).toList = words (tabA nc fun _ => 0) := by
        rw [toList_madeCells_one]
        apply List.ext_getElem?
        intro i
        by_cases hi : i < nc <;> simp [words, tabA, hi]
      have e2 : (madeCells #[Value.slice none 0 0] nc).toList = tabA nc fun _ => .slice none 0 0 := by
        rw [toList_madeCells_one]
        apply List.ext_getElem?
        intro i
        by_cases hi : i < nc <;> simp [tabA, hi]
      rw [e1, e2] at hM2
      generalize w1.heap.size = gK at *
      have HM2 := Lib.hid (show RowsM w (rowsW w.heap.size (w.heap.size + 1) (w.heap.size + 1 + 1) gK nc (.slice none 0 0) (.slice none 0 0) (.slice none 0 0) (fun _ => .slice none 0 0) [] [] [] (tabA nc fun _ => 0) (fun _ => [])) w2 by simpa [rowsW, tabA, words, ints, nats] using hM2)
      clear hM2 e1 e2 hown hgr HM1
      generalize w.heap.size + 1 + 1 = gR at *
      generalize w.heap.size + 1 = g9 at *
      go_wp2
      go_loopw [12] (fun v wr => ∃ k : Nat, v = .int .i64 k ∧ k ≤ fi.length ∧ ∃ vf, RowsM w (rowsW w.heap.size g9 gR gK nc (.slice none 0 0) (.slice none 0 0) vf (fun _ => .slice none 0 0) [] [] (tabA k one) (tabA nc fun _ => 0) (fun _ => [])) wr) (fun v _ => fi.length - (intOf v).toNat)
      case atStart => exact ⟨0, rfl, Nat.zero_le _, _, HM2.out⟩
      case round =>
        clear HM2
        obtain ⟨k, rfl, hk, vf, hm⟩ := hrel
        have HM := Lib.hid hm
        clear hm
        by_cases hlt : k < fi.length
        · have h1 := one_int k (by omega)
          have c2 := HM.out.cell (k := 0) rfl (j := 2) rfl
          have HMA := Lib.hid (HM.out.grow ((Below.refl wr.heap.size wr).alloc (Nat.le_refl _) (.cells #[.int .u32 (one k : Int)] 38)))
          go_wp2_with (at_builtin; refine wpList_append_rm rfl (.tmp 37) (.tmp 41) 25 rfl 4 38 1 k vf (words (tabA k one)) HMA.out (by rw [rowsW, tabA_length]; rfl) i1 (.int .u32 0) 4 Try.underlying25 HI1.out.1 HI1.out.2.1 HI1.out.2.2.1 HI1.out.2.2.2 rfl (by decide) rfl ⟨wr.heap.size, 0, none⟩ 1 1 [.int .u32 (one k : Int)] rfl rfl ?qnews ?qone ?q63 ?qby ?qnext)
          case qnews => exact row_news (row_new wr wr.heap.size rfl [.int .u32 (one k : Int)] 38)
          case qone => intro u hu; simp only [List.mem_cons, List.not_mem_nil, or_false] at hu; rcases hu with rfl; rfl
          case q63 => unfold maxLen; omega
          case qby => omega
          case qnext =>
            intro A' c' w3 hn
            have e1 := hn.cell (k := 0) rfl (j := 2) rfl
            have e2 := hn.free (k := 0) rfl 2
            have hn2 := hn.store (k := 0) rfl 2 (.slice A' (k + 1) c')
            have HN := Lib.hid (show RowsM w (rowsW w.heap.size g9 gR gK nc (.slice none 0 0) (.slice none 0 0) (.slice A' (k + 1) c') (fun _ => .slice none 0 0) [] [] (tabA (k + 1) one) (tabA nc fun _ => 0) (fun _ => [])) _ by
              have : words (tabA (k + 1) one) = words (tabA k one) ++ [.int .u32 (one k : Int)] := by rw [tabA_succ]; simp [words]
              rw [rowsW, this, tabA_length]
              exact hn2)
            clear hn hn2
            go_wp2
            go_roundw
            case rel => exact ⟨k + 1, by go_num, by omega, _, HN.out⟩
            case measure => simp [intOf]; omega
        · obtain rfl : k = fi.length := by omega
          have hvf := HM.out.form (k := 4) rfl
          obtain ⟨Af, cf, hvf, _, _⟩ := hvf
          simp only [tabA_length] at hvf
          subst hvf
          have HM0 := Lib.hid (show RowsM w (rowsW w.heap.size g9 gR gK nc (.slice none 0 0) (.slice none 0 0) (.slice Af fi.length cf) (fun _ => .slice none 0 0) [] [] (tabA fi.length one) (tabA nc fun _ => 0) (fun _ => [])) wr from HM.out)
          clear HM hlt hk
          go_wp2
          go_loopw [46] (fun v wr => ∃ k : Nat, v = .int .i64 k ∧ k ≤ ds.length ∧ ∃ vc vb L, RdL nc fi.length (stW fi cl nc ds k).2 L ∧ RowsM w (rowsW w.heap.size g9 gR gK nc vc (.slice none 0 0) (.slice Af fi.length cf) vb (stW fi cl nc ds k).1 [] (tabA fi.length (stW fi cl nc ds k).2.fr) (tabA nc (stW fi cl nc ds k).2.kn) L) wr) (fun v _ => ds.length - (intOf v).toNat)
          case atStart => exact ⟨0, rfl, Nat.zero_le _, _, _, _, RdL.start, HM0.out⟩
          case round =>
            clear HM0
            obtain ⟨k, rfl, hk, vc, vb, L, hrd, hm⟩ := hrel
            have HM := Lib.hid hm
            have HRd := Lib.hid hrd
            clear hm hrd
            by_cases hlt : k < ds.length
            · obtain ⟨d, hd⟩ := get_some hlt
              obtain ⟨b3, o3, rfl, e0, e1, e2, e3, e4, e5⟩ := RowD.cells (hr3.below HM.out.below) hd
              have HN := Lib.hid (runW_succ (fi := fi) (cl := cl) (nc := nc) (nt := fi.length) hd)
              have HLc := Lib.hid (show (stW fi cl nc ds k).1.length = k by unfold stW; rw [runW_length, List.length_take]; omega)
              have HF := Lib.hid (show FineW nc fi.length (stW fi cl nc ds k).2 from fineW_run (ds.take k))
              change Hid (stW fi cl nc ds (k + 1) = ((stW fi cl nc ds k).1 ++ [(stepW fi cl nc fi.length (stW fi cl nc ds k).2 d).1], (stepW fi cl nc fi.length (stW fi cl nc ds k).2 d).2)) at HN
              clear hd
              generalize (stW fi cl nc ds k).1 = cd at *
              generalize (stW fi cl nc ds k).2 = s at *
              obtain ⟨kind, who, tgt, lev, parts, val⟩ := d
              simp only at e0 e1 e2 e3 e4 e5
              have HM1 := Lib.hid (RowsM.box HM.out (cs := #[.int .i64 kind, .int .i64 who, .int .i64 tgt, .int .i64 lev, .int .u32 (parts : Int), .int .i64 val]) (t := 62) 6 rfl)
              obtain ⟨q, s', hq⟩ : ∃ q s', stepW fi cl nc fi.length s ⟨kind, who, tgt, lev, parts, val⟩ = (q, s') := ⟨_, _, rfl⟩
              rw [hq] at HN
              have HQ := Lib.hid hq
              clear hq
              go_upto_region 12 with fail
              generalize wr.alloc _ = w1 at *
              generalize wr.heap.size = sz at *
              clear e0 e1 e2 e3 e4 e5 HM
              change Hid (RowsM w (⟨62, 6, .slice (some ⟨sz, 0, none⟩) 1 1, 1, [.int .i64 kind, .int .i64 who, .int .i64 tgt, .int .i64 lev, .int .u32 (parts : Int), .int .i64 val]⟩ :: rowsW w.heap.size g9 gR gK nc vc (.slice none 0 0) (.slice Af fi.length cf) vb cd [] (tabA fi.length s.fr) (tabA nc s.kn) L) w1) at HM1
              have f0 := HM1.out.cell (k := 0) rfl (j := 0) rfl
              have f1 := HM1.out.cell (k := 0) rfl (j := 1) rfl
              have f2 := HM1.out.cell (k := 0) rfl (j := 2) rfl
              go_cut [57] (fun v wx => ∃ bb : Bool, v = .bool bb ∧ bb = decide (kind ≠ 1 ∧ kind ≠ 2) ∧ wx = w1)
              case first =>
                by_cases hk1 : kind = 1
                · subst hk1
                  go_wp2_with fail
                  go_meet
                  exact ⟨_, rfl, rfl, rfl⟩
                · by_cases hk2 : kind = 2
                  · subst hk2
                    go_wp2_with fail
                    go_meet
                    exact ⟨_, rfl, rfl, rfl⟩
                  · have hd1 : (kind != 1) = true := by simpa using hk1
                    have hd2 : (kind != 2) = true := by simpa using hk2
                    have HD := Lib.hid (decide_eq_true (show kind ≠ 1 ∧ kind ≠ 2 from ⟨hk1, hk2⟩))
                    go_wp2_with fail
                    go_meet
                    exact ⟨_, rfl, HD.out.symm, rfl⟩
              case rest =>
              obtain ⟨bb, rfl, hbb, rfl⟩ := hcut
              have HBB := Lib.hid hbb
              clear hbb
              go_upto_if 57 with fail
              go_cut [15] (fun v wx => v = .int .i64 q ∧ ∃ vb' L', RdL nc fi.length s' L' ∧ RowsM w (⟨62, 6, .slice (some ⟨sz, 0, none⟩) 1 1, 1, [.int .i64 kind, .int .i64 who, .int .i64 tgt, .int .i64 lev, .int .u32 (parts : Int), .int .i64 val]⟩ :: rowsW w.heap.size g9 gR gK nc vc (.slice none 0 0) (.slice Af fi.length cf) vb' cd [] (tabA fi.length s'.fr) (tabA nc s'.kn) L') wx)
              case first =>
                by_cases hk1 : kind = 1
                · subst hk1
                  obtain rfl : bb = false := by rw [HBB.out]; rfl
                  by_cases hw0 : who < 0
                  · as_aux_lemma =>
                      obtain ⟨rfl, rfl⟩ : 2 = q ∧ s = s' := by have := HQ.out; unfold stepW at this; rw [if_neg (by simp)] at this; rw [if_pos (by unfold ArgBadW; simp only; omega)] at this; simpa using this
                      go_wp2_with fail
                      go_meet
                      exact ⟨rfl, _, _, HRd.out, HM1.out⟩
                  · by_cases hw1 : (nc : Int) ≤ who
                    · as_aux_lemma =>
                        obtain ⟨rfl, rfl⟩ : 2 = q ∧ s = s' := by have := HQ.out; unfold stepW at this; rw [if_neg (by simp)] at this; rw [if_pos (by unfold ArgBadW; simp only; omega)] at this; simpa using this
                        go_wp2_with fail
                        go_meet
                        exact ⟨rfl, _, _, HRd.out, HM1.out⟩
                    · by_cases ht0 : tgt < 0
                      · as_aux_lemma =>
                          obtain ⟨rfl, rfl⟩ : 2 = q ∧ s = s' := by have := HQ.out; unfold stepW at this; rw [if_neg (by simp)] at this; rw [if_pos (by unfold ArgBadW; simp only; omega)] at this; simpa using this
                          go_wp2_with fail
                          go_meet
                          exact ⟨rfl, _, _, HRd.out, HM1.out⟩
                      · by_cases ht1 : (fi.length : Int) ≤ tgt
                        · as_aux_lemma =>
                            obtain ⟨rfl, rfl⟩ : 2 = q ∧ s = s' := by have := HQ.out; unfold stepW at this; rw [if_neg (by simp)] at this; rw [if_pos (by unfold ArgBadW; simp only; omega)] at this; simpa using this
                            go_wp2_with fail
                            go_meet
                            exact ⟨rfl, _, _, HRd.out, HM1.out⟩
                        · as_aux_lemma =>
                            obtain ⟨t, rfl⟩ := Int.eq_ofNat_of_zero_le (show 0 ≤ tgt by omega)
                            obtain ⟨b, rfl⟩ := Int.eq_ofNat_of_zero_le (show 0 ≤ who by omega)
                            have hb : b < nc := by omega
                            have ht : t < fi.length := by omega
                            have HQ3 := Lib.hid (show (if (L b).any (badW fi cl 1 t) = true then ((7 : Int), s) else (0, readW s b t)) = (q, s') by
                              have := HQ.out
                              unfold stepW at this
                              rw [if_neg (by simp), if_neg (by unfold ArgBadW; simp only; omega)] at this
                              simp only [Int.toNat_natCast] at this
                              rw [HRd.out.deny hb] at this
                              simpa using this)
                            have hLl := HRd.out.len hb g4
                            obtain ⟨Ab, cb, hvb, _, hrow⟩ := own_row (HM1.out.at_ (b + 8) _ (rowsW_get hb))
                            simp only at hvb
                            have HRow := Lib.hid hrow
                            obtain ⟨gf, of, rfl, hft⟩ := RowI.cells (hr.below HM1.out.below) (atI_get ht)
                            have hrb := HM1.out.cell (k := 6) rfl (j := b) (tabA_get vb hb)
                            rw [hvb] at hrb
                            clear hvb hrow HQ hw0 hw1 ht0 ht1
                            have HXl := Lib.hid (HG6.out _ (List.mem_of_getElem? (atI_get ht)))
                            have HBd := Lib.hid (fun x => show badW fi cl 1 t x = true ↔ 0 ≤ atI fi x ∧ 0 ≤ atI fi t ∧ atI fi x ≠ atI fi t ∧ atI cl (atI fi x).toNat = atI cl (atI fi t).toNat by unfold badW Clash; rw [decide_eq_true_iff]; simp)
                            generalize atI fi t = z at *
                            go_wp2_with fail
                            go_loopw [15, 90] (fun ev jv wz => ∃ j dd : Nat, jv = .int .i64 j ∧ j ≤ (L b).length ∧ (∃ q1 : Int, ev = .int .i64 q1 ∧ q1 = if ((L b).take j).any (badW fi cl 1 t) = true then 7 else 0) ∧ wz = wc.drewN dd) (fun _ jv _ => (L b).length - (intOf jv).toNat)
                            case atStart => exact ⟨0, 0, rfl, Nat.zero_le _, ⟨0, rfl, by simp⟩, rfl⟩
                            case round =>
                              obtain ⟨j, dd, rfl, hj, ⟨q1, rfl, hq1⟩, rfl⟩ := hrel
                              have HQ1 := Lib.hid hq1
                              clear hq1
                              by_cases hlt2 : j < (L b).length
                              · obtain ⟨x, hx⟩ := get_some hlt2
                                have hxn := HRd.out.lt b hb x (List.mem_of_getElem? hx)
                                obtain ⟨gb, ob, rfl, hbx⟩ := RowI.cells (HRow.out.drewN dd) (nats_at hx)
                                obtain ⟨gf', of', eg, hfx⟩ := RowI.cells ((hr.below HM1.out.below).drewN dd) (atI_get hxn)
                                simp only [Option.some.injEq, Addr.mk.injEq, and_true] at eg
                                obtain ⟨rfl, rfl⟩ := eg
                                have HAny := Lib.hid (fun bz (h : badW fi cl 1 t x = bz) => show ((L b).take (j + 1)).any (badW fi cl 1 t) = (((L b).take j).any (badW fi cl 1 t) || bz) by rw [List.take_add_one, hx, List.any_append]; simp [h])
                                have hyl := HG6.out _ (List.mem_of_getElem? (atI_get hxn))
                                have hxl := HXl.out
                                have hrc5 := (hr2.below HM1.out.below).drewN dd
                                have f0d : (wc.drewN dd).cell? ⟨sz, 0, none⟩ = some (.int .i64 1) := f0
                                have HBad := Lib.hid (HBd.out x)
                                have HNe := Lib.hid (fun (h : badW fi cl 1 t x = false) => show q1 = if ((L b).take (j + 1)).any (badW fi cl 1 t) = true then 7 else 0 by rw [HAny.out false h, Bool.or_false]; exact HQ1.out)
                                have HYe := Lib.hid (fun (h : badW fi cl 1 t x = true) => show (7 : Int) = if ((L b).take (j + 1)).any (badW fi cl 1 t) = true then 7 else 0 by rw [HAny.out true h, Bool.or_true, if_pos rfl])
                                clear hx HAny
                                generalize atI fi x = y at *
                                generalize hw5 : wc.drewN dd = w5 at *
                                have HW5 := Lib.hid hw5
                                clear hw5
                                as_aux_lemma =>
                                  by_cases hy0 : 0 ≤ y
                                  · have hd1 : decide (0 ≤ y) = true := decide_eq_true hy0
                                    by_cases hz0 : 0 ≤ z
                                    · have hd2 : decide (0 ≤ z) = true := decide_eq_true hz0
                                      by_cases hyz : y = z
                                      · have hd3 : (y != z) = false := by simpa using hyz
                                        have HB0 := Lib.hid (show badW fi cl _ t x = false from Bool.eq_false_iff.2 fun h0 => (fun h => h.2.2.1 hyz) (HBad.out.1 h0))
                                        clear hyz HBad
                                        go_wp2
                                        go_quiet (fail)
                                        go_wp2
                                        go_roundw
                                        case rel => exact ⟨j + 1, dd + nq, by go_num, by omega, ⟨_, rfl, HNe.out HB0.out⟩, by rw [← HW5.out, World.drewN_drewN]⟩
                                        case measure => simp [intOf]; omega
                                      · have hd3 : (y != z) = true := by simpa using hyz
                                        obtain ⟨ny, rfl⟩ := Int.eq_ofNat_of_zero_le hy0
                                        obtain ⟨nz, rfl⟩ := Int.eq_ofNat_of_zero_le hz0
                                        simp only [Int.toNat_natCast] at HBad
                                        obtain ⟨gc, oc, rfl, e1⟩ := RowI.cells hrc5 (atI_get (show ny < cl.length by omega))
                                        obtain ⟨gc', oc', eg, e2⟩ := RowI.cells hrc5 (atI_get (show nz < cl.length by omega))
                                        simp only [Option.some.injEq, Addr.mk.injEq, and_true] at eg
                                        obtain ⟨rfl, rfl⟩ := eg
                                        by_cases hcc : atI cl ny = atI cl nz
                                        · have hd4 : (atI cl ny == atI cl nz) = true := by simpa using hcc
                                          have HB0 := Lib.hid (show badW fi cl _ t x = true from HBad.out.2 ⟨hy0, hz0, hyz, hcc⟩)
                                          clear hcc hyz HBad
                                          go_wp2
                                          go_quiet (fail)
                                          go_wp2
                                          go_roundw
                                          case rel => exact ⟨j + 1, dd + nq, by go_num, by omega, ⟨_, rfl, HYe.out HB0.out⟩, by rw [← HW5.out, World.drewN_drewN]⟩
                                          case measure => simp [intOf]; omega
                                        · have hd4 : (atI cl ny == atI cl nz) = false := by simpa using hcc
                                          have HB0 := Lib.hid (show badW fi cl _ t x = false from Bool.eq_false_iff.2 fun h0 => (fun h => hcc h.2.2.2) (HBad.out.1 h0))
                                          clear hcc hyz HBad
                                          go_wp2
                                          go_quiet (fail)
                                          go_wp2
                                          go_roundw
                                          case rel => exact ⟨j + 1, dd + nq, by go_num, by omega, ⟨_, rfl, HNe.out HB0.out⟩, by rw [← HW5.out, World.drewN_drewN]⟩
                                          case measure => simp [intOf]; omega
                                    · have hd2 : decide (0 ≤ z) = false := decide_eq_false hz0
                                      have HB0 := Lib.hid (show badW fi cl _ t x = false from Bool.eq_false_iff.2 fun h0 => (fun h => hz0 h.2.1) (HBad.out.1 h0))
                                      go_wp2
                                      go_quiet (fail)
                                      go_wp2
                                      go_roundw
                                      case rel => exact ⟨j + 1, dd + nq, by go_num, by omega, ⟨_, rfl, HNe.out HB0.out⟩, by rw [← HW5.out, World.drewN_drewN]⟩
                                      case measure => simp [intOf]; omega
                                  · have hd1 : decide (0 ≤ y) = false := decide_eq_false hy0
                                    have HB0 := Lib.hid (show badW fi cl _ t x = false from Bool.eq_false_iff.2 fun h0 => (fun h => hy0 h.1) (HBad.out.1 h0))
                                    go_wp2
                                    go_quiet (fail)
                                    go_wp2
                                    go_roundw
                                    case rel => exact ⟨j + 1, dd + nq, by go_num, by omega, ⟨_, rfl, HNe.out HB0.out⟩, by rw [← HW5.out, World.drewN_drewN]⟩
                                    case measure => simp [intOf]; omega
                              · obtain rfl : j = (L b).length := by omega
                                have HM2 := Lib.hid (HM1.out.drewN dd)
                                have HQ4 := Lib.hid (show q1 = if (L b).any (badW fi cl 1 t) = true then 7 else 0 by rw [HQ1.out, List.take_length])
                                clear hrb hft f0 f1 f2 HQ1
                                generalize wc.drewN dd = w2 at *
                                have f0 := HM2.out.cell (k := 0) rfl (j := 0) rfl
                                have f1 := HM2.out.cell (k := 0) rfl (j := 1) rfl
                                have f2 := HM2.out.cell (k := 0) rfl (j := 2) rfl
                                by_cases ha : (L b).any (badW fi cl 1 t) = true
                                · rw [if_pos ha] at HQ3 HQ4
                                  obtain ⟨rfl, rfl⟩ := Prod.mk.inj HQ3.out
                                  have hq7 := HQ4.out
                                  subst hq7
                                  go_wp2_with fail
                                  go_meet
                                  exact ⟨rfl, _, _, HRd.out, HM2.out⟩
                                · rw [if_neg ha] at HQ3 HQ4
                                  obtain ⟨rfl, rfl⟩ := Prod.mk.inj HQ3.out
                                  have hq7 := HQ4.out
                                  subst hq7
                                  clear ha HQ3 HQ4
                                  as_aux_lemma =>
                                    have hp4 : s.fr t < 4294967296 := by have := HF.out.2.1 t ht; have h8 : one fi.length ≤ one 8 := Nat.pow_le_pow_right (by omega) g4; simp [one] at h8 this; omega
                                    have hp5 : s.kn b < 4294967296 := by have := HF.out.2.2 b hb; have h8 : one fi.length ≤ one 8 := Nat.pow_le_pow_right (by omega) g4; simp [one] at h8 this; omega
                                    obtain ⟨Ab2, cb2, hvb2, _, hrow2⟩ := own_row (HM2.out.at_ (b + 8) _ (rowsW_get hb))
                                    simp only at hvb2
                                    have hrb := HM2.out.cell (k := 6) rfl (j := b) (tabA_get vb hb)
                                    rw [hvb2] at hrb
                                    have HL2 := Lib.hid hLl
                                    have kH := Lib.hid (fun n => show Calls Try.prog 33 #[.slice Ab2 (nats (L b)).length cb2, .int .i64 (t : Int)] (w2.drewN n) fun e w' => e = .returned (.bool (decide ((t : Int) ∈ nats (L b)))) ∧ ∃ m, w' = w2.drewN m from
                                      (Has_any (nats (L b)) Ab2 cb2 (t : Int) _ (hrow2.drewN n) (by rw [nats_length]; omega)).mono fun e w' ⟨he, hw⟩ => ⟨he, n, hw.symm⟩)
                                    rw [nats_length] at kH
                                    have HVB2 := Lib.hid hvb2
                                    clear hvb2 hrow2
                                    go_upto_region 25 with fail
                                    by_cases hin : t ∈ L b
                                    · have hd : decide ((t : Int) ∈ nats (L b)) = true := decide_eq_true (mem_nats.2 hin)
                                      rw [hd] at kH
                                      have kH2 := kH.out
                                      have HIn := Lib.hid hin
                                      clear hd hin kH
                                      go_quiet (first | with_reducible exact kH2 _)
                                      have HM3 := Lib.hid (HM2.out.drewN nq)
                                      clear kH2 f0 f1 f2 hrb
                                      generalize w2.drewN nq = w3 at *
                                      obtain ⟨gfr, cfr, hfr, _⟩ := HM3.out.solid (k := 5) rfl (by simp only [tabA_length]; omega)
                                      simp only [tabA_length, Value.slice.injEq, true_and] at hfr
                                      obtain ⟨rfl, rfl⟩ := hfr
                                      have y1 := HM3.out.cell (k := 1) rfl (j := 2) rfl
                                      have y2 := HM3.out.cell (k := 7) rfl (j := b) (words_at (tabA_get s.kn hb))
                                      have y3 := HM3.out.cell (k := 5) (j := t) (by rw [rowsW, tabA_length]; rfl) (words_at (tabA_get s.fr ht))
                                      have y4 := HM3.out.free (k := 7) rfl b
                                      have z1 := HM3.out.cell (k := 0) rfl (j := 1) rfl
                                      have z2 := HM3.out.cell (k := 0) rfl (j := 2) rfl
                                      have z0 := HM3.out.cell (k := 0) rfl (j := 0) rfl
                                      have hor := u32_or_nat (s.kn b) (s.fr t) hp5 hp4
                                      have hn := (HM3.out.store (k := 7) rfl b (.int .u32 ((s.kn b ||| s.fr t : Nat) : Int))).drew
                                      rw [rowsW_knows] at hn
                                      generalize hzz : s.kn b ||| s.fr t = zz at *
                                      have HZZ := Lib.hid hzz
                                      clear hzz
                                      generalize hwE : ((w3).setCell ⟨gK, b, none⟩ (.int .u32 (zz : Int))).drew = wE at hn
                                      have x0 := hn.cell (k := 0) rfl (j := 0) rfl
                                      have HE := Lib.hid hn
                                      clear hn
                                      clear hp4 hp5
                                      go_wp2_with fail
                                      refine wp_region_still_tail 16 (by kernel_rfl) (by kernel_rfl) ?_
                                      simp only [List.take_succ_cons, List.take_zero, List.drop_succ_cons, List.drop_zero]
                                      iterate 16 still_step
                                      refine wpStill_nil ?_
                                      go_wp2_with fail
                                      go_meet
                                      exact ⟨rfl, vb, L, HRd.out.readIn ht HIn.out, by have h := HE.out; rw [← HZZ.out] at h; exact h⟩
                                    · have hd : decide ((t : Int) ∈ nats (L b)) = false := decide_eq_false (fun h => hin (mem_nats.1 h))
                                      rw [hd] at kH
                                      have kH2 := kH.out
                                      have HIn := Lib.hid hin
                                      clear hd hin kH
                                      go_quiet (first | with_reducible exact kH2 _)
                                      have HM3 := Lib.hid (HM2.out.drewN nq)
                                      clear kH2 f0 f1 f2 hrb
                                      generalize w2.drewN nq = w3 at *
                                      go_upto_region 26 with fail
                                      have HMa := Lib.hid (HM3.out.grow ((Below.refl w3.heap.size w3).alloc (Nat.le_refl _) (.cells #[.int .i64 (t : Int)] 3)).drew)
                                      have z1 := HM3.out.cell (k := 0) rfl (j := 1) rfl
                                      have z2 := HM3.out.cell (k := 0) rfl (j := 2) rfl
                                      have hrb := HM3.out.cell (k := 6) rfl (j := b) (tabA_get vb hb)
                                      rw [HVB2.out] at hrb
                                      have u1 := HMa.out.cell (k := 0) rfl (j := 1) rfl
                                      have u2 := HMa.out.cell (k := 0) rfl (j := 2) rfl
                                      have u3 := HMa.out.cell (k := 6) rfl (j := b) (tabA_get vb hb)
                                      rw [HVB2.out] at u3
                                      have HOwn := Lib.hid (show World.ownsRow ((w3.alloc (.cells #[.int .i64 (t : Int)] 3)).drew) w.heap.size 3 1 (.slice Ab2 (L b).length cb2) (L b).length (ints (nats (L b))) from (own_as HVB2.out (HMa.out.at_ (b + 8) _ (rowsW_get hb))))
                                      have HNews := Lib.hid (news_int w3 t)
                                      have HBase := Lib.hid HMa.out.below.size
                                      refine wp_region_held_drew (S := fun W => W.cell? ⟨sz, 1, none⟩ = some (.int .i64 (b : Int)) ∧ W.cell? ⟨sz, 2, none⟩ = some (.int .i64 (t : Int))) (by kernel_rfl) ⟨z1, z2⟩ (fun hHeld => ?_)
                                      refine' wpAnyH_take (i := 0) (oi := ⟨some 156, _, _, _, _, none⟩) (v := _) rfl (by kernel_rfl) (by kernel_rfl) (by kernel_rfl) (fun _ _ _ h => h) (Or.inl ⟨by rfl, ?hyr0⟩) hHeld ?restr0
                                      case hyr0 => (intro W hSw; obtain ⟨s1, s2⟩ := hSw; go_simp; try with_reducible rfl)
                                      simp only [Act.put, List.setIfInBounds_toArray, List.set_cons_zero, List.set_cons_succ]
                                      refine' wpAnyH_take (i := 1) (oi := ⟨some 157, _, _, _, _, none⟩) (v := _) rfl (by kernel_rfl) (by kernel_rfl) (by kernel_rfl) (fun _ _ _ h => h) (Or.inl ⟨by rfl, ?hyr1⟩) hHeld ?restr1
                                      case hyr1 => (intro W hSw; obtain ⟨s1, s2⟩ := hSw; go_simp; try with_reducible rfl)
                                      simp only [Act.put, List.setIfInBounds_toArray, List.set_cons_zero, List.set_cons_succ]
                                      refine' wpAnyH_take (i := 2) (oi := ⟨some 158, _, _, _, _, none⟩) (v := _) rfl (by kernel_rfl) (by kernel_rfl) (by kernel_rfl) (fun _ _ _ h => h) (Or.inl ⟨by rfl, ?hyr2⟩) hHeld ?restr2
                                      case hyr2 => (intro W hSw; obtain ⟨s1, s2⟩ := hSw; go_simp; try with_reducible rfl)
                                      simp only [Act.put, List.setIfInBounds_toArray, List.set_cons_zero, List.set_cons_succ]
                                      refine' wpAnyH_take (i := 3) (oi := ⟨some 159, _, _, _, _, none⟩) (v := _) rfl (by kernel_rfl) (by kernel_rfl) (by kernel_rfl) (fun _ _ _ h => h) (Or.inl ⟨by rfl, ?hyr3⟩) hHeld ?restr3
                                      case hyr3 => (intro W hSw; obtain ⟨s1, s2⟩ := hSw; go_simp; try with_reducible rfl)
                                      simp only [Act.put, List.setIfInBounds_toArray, List.set_cons_zero, List.set_cons_succ]
                                      refine' wpAnyH_take (i := 4) (oi := ⟨some 160, _, _, _, _, none⟩) (v := _) rfl (by kernel_rfl) (by kernel_rfl) (by kernel_rfl) (fun _ _ _ h => h) (Or.inl ⟨by rfl, ?hyr4⟩) hHeld ?restr4
                                      case hyr4 => (intro W hSw; obtain ⟨s1, s2⟩ := hSw; go_simp; try with_reducible rfl)
                                      simp only [Act.put, List.setIfInBounds_toArray, List.set_cons_zero, List.set_cons_succ]
                                      refine' wpAnyH_take (i := 5) (oi := ⟨some 161, _, _, _, _, none⟩) (v := _) rfl (by kernel_rfl) (by kernel_rfl) (by kernel_rfl) (fun _ _ _ h => h) (Or.inl ⟨by rfl, ?hyr5⟩) hHeld ?restr5
                                      case hyr5 => (intro W hSw; obtain ⟨s1, s2⟩ := hSw; go_simp; try with_reducible rfl)
                                      simp only [Act.put, List.setIfInBounds_toArray, List.set_cons_zero, List.set_cons_succ]
                                      refine' wpAnyH_take (i := 6) (oi := ⟨some 162, _, _, _, _, none⟩) (v := _) rfl (by kernel_rfl) (by kernel_rfl) (by kernel_rfl) (fun _ _ _ h => h) (Or.inl ⟨by rfl, ?hyr6⟩) hHeld ?restr6
                                      case hyr6 => (intro W hSw; obtain ⟨s1, s2⟩ := hSw; go_simp; try with_reducible rfl)
                                      simp only [Act.put, List.setIfInBounds_toArray, List.set_cons_zero, List.set_cons_succ]
                                      refine' wpAnyH_take (i := 8) (oi := ⟨some 164, _, _, _, _, none⟩) (v := _) rfl (by kernel_rfl) (by kernel_rfl) (by kernel_rfl) (fun _ _ _ h => h) (Or.inl ⟨by rfl, ?hyr8⟩) hHeld ?restr8
                                      case hyr8 => (intro W hSw; obtain ⟨s1, s2⟩ := hSw; go_simp; try with_reducible rfl)
                                      simp only [Act.put, List.setIfInBounds_toArray, List.set_cons_zero, List.set_cons_succ]
                                      refine' wpAnyH_take (i := 9) (oi := ⟨some 165, _, _, _, _, none⟩) (v := _) rfl (by kernel_rfl) (by kernel_rfl) (by kernel_rfl) (fun _ _ _ h => h) (Or.inl ⟨by rfl, ?hyr9⟩) hHeld ?restr9
                                      case hyr9 => (intro W hSw; obtain ⟨s1, s2⟩ := hSw; go_simp; try with_reducible rfl)
                                      simp only [Act.put, List.setIfInBounds_toArray, List.set_cons_zero, List.set_cons_succ]
                                      refine wpAnyH_ready (rs := [7, 10]) (by kernel_rfl) (by simp) ?_
                                      refine AllReadyH.cons (o := ⟨some 163, _, _, _, _, none⟩) rfl (fun K hK => ?_) (AllReadyH.cons (o := ⟨some 166, _, _, _, _, none⟩) rfl (fun K hK => ?_) AllReadyH.nil)
                                      · go_simp
                                        refine hK.out _ _ ⟨z1, z2⟩ (fun hHeld => ?_)
                                        clear hK K
                                        refine wpAnyH_ready (rs := [10]) (by kernel_rfl) (by simp) ?_
                                        refine AllReadyH.cons (o := ⟨some 166, _, _, _, _, none⟩) rfl (fun K hK => ?_) AllReadyH.nil
                                        go_simp
                                        refine hK.out _ _ ⟨u1, u2⟩ (fun hHeld => ?_)
                                        clear hK K
                                        as_aux_lemma =>
                                          refine wpAnyH_ready (rs := [11]) (by kernel_rfl) (by simp) ?_
                                          refine AllReadyH.cons (o := ⟨some 167, _, _, _, _, none⟩) rfl (fun K hK => ?_) AllReadyH.nil
                                          refine step_append_any rfl (.tmp 163) (.tmp 166) 47 rfl w.heap.size 3 i3 (.int .i64 0) 1 8 Try.underlying47 HI3.out.1 HI3.out.2.1 HI3.out.2.2.1 HI3.out.2.2.2 rfl (by decide) (.slice Ab2 (L b).length cb2) (L b).length (ints (nats (L b))) (by simp [Act.eval]) HOwn.out ⟨w3.heap.size, 0, none⟩ 1 1 [.int .i64 (t : Int)] (by simp [Act.eval]) rfl HNews.out (by intro u hu; simp only [List.mem_cons, List.not_mem_nil, or_false] at hu; rcases hu with rfl; rfl) (by unfold maxLen; omega) (by omega) HBase.out ?_
                                          intro v6 w6 hown6 hgrow6 hat6
                                          obtain ⟨A6, cap6, rfl, _, _⟩ := own_slice hown6
                                          have HN6 := Lib.hid (RowsM.push (k := b + 8) HMa.out (rowsW_get hb) hown6 (by rw [HVB2.out]; exact hgrow6) (by rw [HVB2.out]; exact hat6))
                                          have c6 := HN6.out.cell (k := 6) rfl (j := b) (tabA_get vb hb)
                                          have f6 := HN6.out.free (k := 6) rfl b
                                          have d6 := HN6.out.cell (k := 0) rfl (j := 1) rfl
                                          have d7 := HN6.out.cell (k := 0) rfl (j := 2) rfl
                                          have hn := HN6.out.store (k := 6) rfl b (.slice A6 ((L b).length + 1) cap6)
                                          rw [rowsW_read (l' := L b ++ [t]) (by simp [nats, ints]) (by simp)] at hn
                                          have d8 := hn.cell (k := 0) rfl (j := 1) rfl
                                          have d9 := hn.cell (k := 0) rfl (j := 2) rfl
                                          have HM4 := Lib.hid hn
                                          refine hK.out _ _ ⟨d6, d7⟩ (fun hHeld => ?_)
                                          clear hK K hn hown6 hgrow6 hat6
                                          simp only [Act.put, List.setIfInBounds_toArray, List.set_cons_zero, List.set_cons_succ]
                                          refine' wpAnyH_take (i := 12) (oi := ⟨some 168, _, _, _, _, none⟩) (v := _) rfl (by kernel_rfl) (by kernel_rfl) (by kernel_rfl) (fun _ _ _ h => h) (Or.inl ⟨by rfl, ?hyrx⟩) hHeld ?restrx
                                          case hyrx => (intro W hSw; obtain ⟨s1, s2⟩ := hSw; go_simp; try with_reducible rfl)
                                          simp only [Act.put, List.setIfInBounds_toArray, List.set_cons_zero, List.set_cons_succ]
                                          refine wpAnyH_ready (rs := [13]) (by kernel_rfl) (by simp) ?_
                                          refine AllReadyH.cons (o := ⟨none, _, _, _, _, none⟩) rfl (fun K hK => ?_) AllReadyH.nil
                                          go_simp
                                          refine hK.out _ _ ⟨d8, d9⟩ (fun hHeld => ?_)
                                          clear hK K
                                          refine wpAnyH_done (by kernel_rfl) ?_ _
                                          clear hHeld z1 z2 hrb u1 u2 u3 HOwn HNews HBase c6 f6 d6 d7 d8 d9 HMa HN6
                                          go_simp
                                          generalize w6.setCell _ _ = w4 at *
                                          obtain ⟨gfr, cfr, hfr, _⟩ := HM4.out.solid (k := 5) rfl (by simp only [tabA_length]; omega)
                                          simp only [tabA_length, Value.slice.injEq, true_and] at hfr
                                          obtain ⟨rfl, rfl⟩ := hfr
                                          have y1 := HM4.out.cell (k := 1) rfl (j := 2) rfl
                                          have y2 := HM4.out.cell (k := 7) rfl (j := b) (words_at (tabA_get s.kn hb))
                                          have y3 := HM4.out.cell (k := 5) (j := t) (by rw [rowsW, tabA_length]; rfl) (words_at (tabA_get s.fr ht))
                                          have y4 := HM4.out.free (k := 7) rfl b
                                          have z1 := HM4.out.cell (k := 0) rfl (j := 1) rfl
                                          have z2 := HM4.out.cell (k := 0) rfl (j := 2) rfl
                                          have z0 := HM4.out.cell (k := 0) rfl (j := 0) rfl
                                          have hor := u32_or_nat (s.kn b) (s.fr t) hp5 hp4
                                          have hn := (HM4.out.store (k := 7) rfl b (.int .u32 ((s.kn b ||| s.fr t : Nat) : Int))).drew
                                          rw [rowsW_knows] at hn
                                          generalize hzz : s.kn b ||| s.fr t = zz at *
                                          have HZZ := Lib.hid hzz
                                          clear hzz
                                          generalize hwE : ((w4).setCell ⟨gK, b, none⟩ (.int .u32 (zz : Int))).drew = wE at hn
                                          have x0 := hn.cell (k := 0) rfl (j := 0) rfl
                                          have HE := Lib.hid hn
                                          clear hn
                                          clear hp4 hp5
                                          go_wp2_with fail
                                          refine wp_region_still_tail 16 (by kernel_rfl) (by kernel_rfl) ?_
                                          simp only [List.take_succ_cons, List.take_zero, List.drop_succ_cons, List.drop_zero]
                                          iterate 16 still_step
                                          refine wpStill_nil ?_
                                          go_wp2_with fail
                                          go_meet
                                          exact ⟨rfl, _, _, HRd.out.readNew ht HIn.out, by have h := HE.out; rw [← HZZ.out] at h; exact h⟩

                                      · go_simp
                                        refine hK.out _ _ ⟨u1, u2⟩ (fun hHeld => ?_)
                                        clear hK K
                                        refine wpAnyH_ready (rs := [7]) (by kernel_rfl) (by simp) ?_
                                        refine AllReadyH.cons (o := ⟨some 163, _, _, _, _, none⟩) rfl (fun K hK => ?_) AllReadyH.nil
                                        go_simp
                                        refine hK.out _ _ ⟨u1, u2⟩ (fun hHeld => ?_)
                                        clear hK K
                                        as_aux_lemma =>
                                          refine wpAnyH_ready (rs := [11]) (by kernel_rfl) (by simp) ?_
                                          refine AllReadyH.cons (o := ⟨some 167, _, _, _, _, none⟩) rfl (fun K hK => ?_) AllReadyH.nil
                                          refine step_append_any rfl (.tmp 163) (.tmp 166) 47 rfl w.heap.size 3 i3 (.int .i64 0) 1 8 Try.underlying47 HI3.out.1 HI3.out.2.1 HI3.out.2.2.1 HI3.out.2.2.2 rfl (by decide) (.slice Ab2 (L b).length cb2) (L b).length (ints (nats (L b))) (by simp [Act.eval]) HOwn.out ⟨w3.heap.size, 0, none⟩ 1 1 [.int .i64 (t : Int)] (by simp [Act.eval]) rfl HNews.out (by intro u hu; simp only [List.mem_cons, List.not_mem_nil, or_false] at hu; rcases hu with rfl; rfl) (by unfold maxLen; omega) (by omega) HBase.out ?_
                                          intro v6 w6 hown6 hgrow6 hat6
                                          obtain ⟨A6, cap6, rfl, _, _⟩ := own_slice hown6
                                          have HN6 := Lib.hid (RowsM.push (k := b + 8) HMa.out (rowsW_get hb) hown6 (by rw [HVB2.out]; exact hgrow6) (by rw [HVB2.out]; exact hat6))
                                          have c6 := HN6.out.cell (k := 6) rfl (j := b) (tabA_get vb hb)
                                          have f6 := HN6.out.free (k := 6) rfl b
                                          have d6 := HN6.out.cell (k := 0) rfl (j := 1) rfl
                                          have d7 := HN6.out.cell (k := 0) rfl (j := 2) rfl
                                          have hn := HN6.out.store (k := 6) rfl b (.slice A6 ((L b).length + 1) cap6)
                                          rw [rowsW_read (l' := L b ++ [t]) (by simp [nats, ints]) (by simp)] at hn
                                          have d8 := hn.cell (k := 0) rfl (j := 1) rfl
                                          have d9 := hn.cell (k := 0) rfl (j := 2) rfl
                                          have HM4 := Lib.hid hn
                                          refine hK.out _ _ ⟨d6, d7⟩ (fun hHeld => ?_)
                                          clear hK K hn hown6 hgrow6 hat6
                                          simp only [Act.put, List.setIfInBounds_toArray, List.set_cons_zero, List.set_cons_succ]
                                          refine' wpAnyH_take (i := 12) (oi := ⟨some 168, _, _, _, _, none⟩) (v := _) rfl (by kernel_rfl) (by kernel_rfl) (by kernel_rfl) (fun _ _ _ h => h) (Or.inl ⟨by rfl, ?hyry⟩) hHeld ?restry
                                          case hyry => (intro W hSw; obtain ⟨s1, s2⟩ := hSw; go_simp; try with_reducible rfl)
                                          simp only [Act.put, List.setIfInBounds_toArray, List.set_cons_zero, List.set_cons_succ]
                                          refine wpAnyH_ready (rs := [13]) (by kernel_rfl) (by simp) ?_
                                          refine AllReadyH.cons (o := ⟨none, _, _, _, _, none⟩) rfl (fun K hK => ?_) AllReadyH.nil
                                          go_simp
                                          refine hK.out _ _ ⟨d8, d9⟩ (fun hHeld => ?_)
                                          clear hK K
                                          refine wpAnyH_done (by kernel_rfl) ?_ _
                                          clear hHeld z1 z2 hrb u1 u2 u3 HOwn HNews HBase c6 f6 d6 d7 d8 d9 HMa HN6
                                          go_simp
                                          generalize w6.setCell _ _ = w4 at *
                                          obtain ⟨gfr, cfr, hfr, _⟩ := HM4.out.solid (k := 5) rfl (by simp only [tabA_length]; omega)
                                          simp only [tabA_length, Value.slice.injEq, true_and] at hfr
                                          obtain ⟨rfl, rfl⟩ := hfr
                                          have y1 := HM4.out.cell (k := 1) rfl (j := 2) rfl
                                          have y2 := HM4.out.cell (k := 7) rfl (j := b) (words_at (tabA_get s.kn hb))
                                          have y3 := HM4.out.cell (k := 5) (j := t) (by rw [rowsW, tabA_length]; rfl) (words_at (tabA_get s.fr ht))
                                          have y4 := HM4.out.free (k := 7) rfl b
                                          have z1 := HM4.out.cell (k := 0) rfl (j := 1) rfl
                                          have z2 := HM4.out.cell (k := 0) rfl (j := 2) rfl
                                          have z0 := HM4.out.cell (k := 0) rfl (j := 0) rfl
                                          have hor := u32_or_nat (s.kn b) (s.fr t) hp5 hp4
                                          have hn := (HM4.out.store (k := 7) rfl b (.int .u32 ((s.kn b ||| s.fr t : Nat) : Int))).drew
                                          rw [rowsW_knows] at hn
                                          generalize hzz : s.kn b ||| s.fr t = zz at *
                                          have HZZ := Lib.hid hzz
                                          clear hzz
                                          generalize hwE : ((w4).setCell ⟨gK, b, none⟩ (.int .u32 (zz : Int))).drew = wE at hn
                                          have x0 := hn.cell (k := 0) rfl (j := 0) rfl
                                          have HE := Lib.hid hn
                                          clear hn
                                          clear hp4 hp5
                                          go_wp2_with fail
                                          refine wp_region_still_tail 16 (by kernel_rfl) (by kernel_rfl) ?_
                                          simp only [List.take_succ_cons, List.take_zero, List.drop_succ_cons, List.drop_zero]
                                          iterate 16 still_step
                                          refine wpStill_nil ?_
                                          go_wp2_with fail
                                          go_meet
                                          exact ⟨rfl, _, _, HRd.out.readNew ht HIn.out, by have h := HE.out; rw [← HZZ.out] at h; exact h⟩

                · by_cases hk2 : kind = 2
                  · subst hk2
                    obtain rfl : bb = false := by rw [HBB.out]; rfl
                    by_cases hw0 : who < 0
                    · as_aux_lemma =>
                        obtain ⟨rfl, rfl⟩ : 2 = q ∧ s = s' := by have := HQ.out; unfold stepW at this; rw [if_neg (by simp)] at this; rw [if_pos (by unfold ArgBadW; simp only; omega)] at this; simpa using this
                        go_wp2_with fail
                        go_meet
                        exact ⟨rfl, _, _, HRd.out, HM1.out⟩
                    · by_cases hw1 : (nc : Int) ≤ who
                      · as_aux_lemma =>
                          obtain ⟨rfl, rfl⟩ : 2 = q ∧ s = s' := by have := HQ.out; unfold stepW at this; rw [if_neg (by simp)] at this; rw [if_pos (by unfold ArgBadW; simp only; omega)] at this; simpa using this
                          go_wp2_with fail
                          go_meet
                          exact ⟨rfl, _, _, HRd.out, HM1.out⟩
                      · by_cases ht0 : tgt < 0
                        · as_aux_lemma =>
                            obtain ⟨rfl, rfl⟩ : 2 = q ∧ s = s' := by have := HQ.out; unfold stepW at this; rw [if_neg (by simp)] at this; rw [if_pos (by unfold ArgBadW; simp only; omega)] at this; simpa using this
                            go_wp2_with fail
                            go_meet
                            exact ⟨rfl, _, _, HRd.out, HM1.out⟩
                        · by_cases ht1 : (fi.length : Int) ≤ tgt
                          · as_aux_lemma =>
                              obtain ⟨rfl, rfl⟩ : 2 = q ∧ s = s' := by have := HQ.out; unfold stepW at this; rw [if_neg (by simp)] at this; rw [if_pos (by unfold ArgBadW; simp only; omega)] at this; simpa using this
                              go_wp2_with fail
                              go_meet
                              exact ⟨rfl, _, _, HRd.out, HM1.out⟩
                          · as_aux_lemma =>
                              obtain ⟨t, rfl⟩ := Int.eq_ofNat_of_zero_le (show 0 ≤ tgt by omega)
                              obtain ⟨b, rfl⟩ := Int.eq_ofNat_of_zero_le (show 0 ≤ who by omega)
                              have hb : b < nc := by omega
                              have ht : t < fi.length := by omega
                              have HQ3 := Lib.hid (show (if (L b).any (badW fi cl 2 t) = true then ((7 : Int), s) else (0, writeW s b t)) = (q, s') by
                                have := HQ.out
                                unfold stepW at this
                                rw [if_neg (by simp), if_neg (by unfold ArgBadW; simp only; omega)] at this
                                simp only [Int.toNat_natCast] at this
                                rw [HRd.out.deny hb] at this
                                simpa using this)
                              have hLl := HRd.out.len hb g4
                              obtain ⟨Ab, cb, hvb, _, hrow⟩ := own_row (HM1.out.at_ (b + 8) _ (rowsW_get hb))
                              simp only at hvb
                              have HRow := Lib.hid hrow
                              obtain ⟨gf, of, rfl, hft⟩ := RowI.cells (hr.below HM1.out.below) (atI_get ht)
                              have hrb := HM1.out.cell (k := 6) rfl (j := b) (tabA_get vb hb)
                              rw [hvb] at hrb
                              clear hvb hrow HQ hw0 hw1 ht0 ht1
                              have HXl := Lib.hid (HG6.out _ (List.mem_of_getElem? (atI_get ht)))
                              have HBd := Lib.hid (fun x => show badW fi cl 2 t x = true ↔ 0 ≤ atI fi x ∧ atI fi x ≠ atI fi t by unfold badW Alien; rw [decide_eq_true_iff]; simp)
                              generalize atI fi t = z at *
                              go_wp2_with fail
                              go_loopw [15, 90] (fun ev jv wz => ∃ j dd : Nat, jv = .int .i64 j ∧ j ≤ (L b).length ∧ (∃ q1 : Int, ev = .int .i64 q1 ∧ q1 = if ((L b).take j).any (badW fi cl 2 t) = true then 7 else 0) ∧ wz = wc.drewN dd) (fun _ jv _ => (L b).length - (intOf jv).toNat)
                              case atStart => exact ⟨0, 0, rfl, Nat.zero_le _, ⟨0, rfl, by simp⟩, rfl⟩
                              case round =>
                                obtain ⟨j, dd, rfl, hj, ⟨q1, rfl, hq1⟩, rfl⟩ := hrel
                                have HQ1 := Lib.hid hq1
                                clear hq1
                                by_cases hlt2 : j < (L b).length
                                · obtain ⟨x, hx⟩ := get_some hlt2
                                  have hxn := HRd.out.lt b hb x (List.mem_of_getElem? hx)
                                  obtain ⟨gb, ob, rfl, hbx⟩ := RowI.cells (HRow.out.drewN dd) (nats_at hx)
                                  obtain ⟨gf', of', eg, hfx⟩ := RowI.cells ((hr.below HM1.out.below).drewN dd) (atI_get hxn)
                                  simp only [Option.some.injEq, Addr.mk.injEq, and_true] at eg
                                  obtain ⟨rfl, rfl⟩ := eg
                                  have HAny := Lib.hid (fun bz (h : badW fi cl 2 t x = bz) => show ((L b).take (j + 1)).any (badW fi cl 2 t) = (((L b).take j).any (badW fi cl 2 t) || bz) by rw [List.take_add_one, hx, List.any_append]; simp [h])
                                  have hyl := HG6.out _ (List.mem_of_getElem? (atI_get hxn))
                                  have hxl := HXl.out
                                  have hrc5 := (hr2.below HM1.out.below).drewN dd
                                  have f0d : (wc.drewN dd).cell? ⟨sz, 0, none⟩ = some (.int .i64 2) := f0
                                  have HBad := Lib.hid (HBd.out x)
                                  have HNe := Lib.hid (fun (h : badW fi cl 2 t x = false) => show q1 = if ((L b).take (j + 1)).any (badW fi cl 2 t) = true then 7 else 0 by rw [HAny.out false h, Bool.or_false]; exact HQ1.out)
                                  have HYe := Lib.hid (fun (h : badW fi cl 2 t x = true) => show (7 : Int) = if ((L b).take (j + 1)).any (badW fi cl 2 t) = true then 7 else 0 by rw [HAny.out true h, Bool.or_true, if_pos rfl])
                                  clear hx HAny
                                  generalize atI fi x = y at *
                                  generalize hw5 : wc.drewN dd = w5 at *
                                  have HW5 := Lib.hid hw5
                                  clear hw5
                                  as_aux_lemma =>
                                    by_cases hy0 : 0 ≤ y
                                    · have hd1 : decide (0 ≤ y) = true := decide_eq_true hy0
                                      by_cases hyz : y = z
                                      · have hd3 : (y != z) = false := by simpa using hyz
                                        have HB0 := Lib.hid (show badW fi cl _ t x = false from Bool.eq_false_iff.2 fun h0 => (fun h => h.2 hyz) (HBad.out.1 h0))
                                        clear hyz HBad
                                        go_wp2
                                        go_quiet (fail)
                                        go_wp2
                                        go_roundw
                                        case rel => exact ⟨j + 1, dd + nq, by go_num, by omega, ⟨_, rfl, HNe.out HB0.out⟩, by rw [← HW5.out, World.drewN_drewN]⟩
                                        case measure => simp [intOf]; omega
                                      · have hd3 : (y != z) = true := by simpa using hyz
                                        have HB0 := Lib.hid (show badW fi cl _ t x = true from HBad.out.2 ⟨hy0, hyz⟩)
                                        clear hyz HBad
                                        go_wp2
                                        go_quiet (fail)
                                        go_wp2
                                        go_roundw
                                        case rel => exact ⟨j + 1, dd + nq, by go_num, by omega, ⟨_, rfl, HYe.out HB0.out⟩, by rw [← HW5.out, World.drewN_drewN]⟩
                                        case measure => simp [intOf]; omega
                                    · have hd1 : decide (0 ≤ y) = false := decide_eq_false hy0
                                      have HB0 := Lib.hid (show badW fi cl _ t x = false from Bool.eq_false_iff.2 fun h0 => (fun h => hy0 h.1) (HBad.out.1 h0))
                                      go_wp2
                                      go_quiet (fail)
                                      go_wp2
                                      go_roundw
                                      case rel => exact ⟨j + 1, dd + nq, by go_num, by omega, ⟨_, rfl, HNe.out HB0.out⟩, by rw [← HW5.out, World.drewN_drewN]⟩
                                      case measure => simp [intOf]; omega
                                · obtain rfl : j = (L b).length := by omega
                                  have HM2 := Lib.hid (HM1.out.drewN dd)
                                  have HQ4 := Lib.hid (show q1 = if (L b).any (badW fi cl 2 t) = true then 7 else 0 by rw [HQ1.out, List.take_length])
                                  clear hrb hft f0 f1 f2 HQ1
                                  generalize wc.drewN dd = w2 at *
                                  have f0 := HM2.out.cell (k := 0) rfl (j := 0) rfl
                                  have f1 := HM2.out.cell (k := 0) rfl (j := 1) rfl
                                  have f2 := HM2.out.cell (k := 0) rfl (j := 2) rfl
                                  by_cases ha : (L b).any (badW fi cl 2 t) = true
                                  · rw [if_pos ha] at HQ3 HQ4
                                    obtain ⟨rfl, rfl⟩ := Prod.mk.inj HQ3.out
                                    have hq7 := HQ4.out
                                    subst hq7
                                    go_wp2_with fail
                                    go_meet
                                    exact ⟨rfl, _, _, HRd.out, HM2.out⟩
                                  · rw [if_neg ha] at HQ3 HQ4
                                    obtain ⟨rfl, rfl⟩ := Prod.mk.inj HQ3.out
                                    have hq7 := HQ4.out
                                    subst hq7
                                    clear ha HQ3 HQ4
                                    as_aux_lemma =>
                                      have hp4 : s.fr t < 4294967296 := by have := HF.out.2.1 t ht; have h8 : one fi.length ≤ one 8 := Nat.pow_le_pow_right (by omega) g4; simp [one] at h8 this; omega
                                      have hp5 : s.kn b < 4294967296 := by have := HF.out.2.2 b hb; have h8 : one fi.length ≤ one 8 := Nat.pow_le_pow_right (by omega) g4; simp [one] at h8 this; omega
                                      obtain ⟨gfr, cfr, hfr, _⟩ := HM2.out.solid (k := 5) rfl (by simp only [tabA_length]; omega)
                                      simp only [tabA_length, Value.slice.injEq, true_and] at hfr
                                      obtain ⟨rfl, rfl⟩ := hfr
                                      have y1 := HM2.out.cell (k := 1) rfl (j := 2) rfl
                                      have y2 := HM2.out.cell (k := 7) rfl (j := b) (words_at (tabA_get s.kn hb))
                                      have h5 : (⟨62, 6, .slice (some ⟨sz, 0, none⟩) 1 1, 1, [.int .i64 2, .int .i64 (b : Int), .int .i64 (t : Int), .int .i64 lev, .int .u32 (parts : Int), .int .i64 val]⟩ :: rowsW w.heap.size g9 gR gK nc vc (.slice none 0 0) (.slice (some ⟨gfr, 0, none⟩) fi.length cf) vb cd [] (tabA fi.length s.fr) (tabA nc s.kn) L)[5]? = some ⟨38, 1, .slice (some ⟨gfr, 0, none⟩) fi.length cf, fi.length, words (tabA fi.length s.fr)⟩ := by rw [rowsW, tabA_length]; rfl
                                      have y3 := HM2.out.cell (k := 5) (j := t) h5 (words_at (tabA_get s.fr ht))
                                      have y4 := HM2.out.free (k := 5) h5 t
                                      have hor := u32_or_nat (s.fr t) (s.kn b) hp4 hp5
                                      have hn := (HM2.out.store (k := 5) h5 t (.int .u32 ((s.fr t ||| s.kn b : Nat) : Int))).drew
                                      rw [rowsW_from] at hn
                                      generalize hzz : s.fr t ||| s.kn b = zz at *
                                      have HZZ := Lib.hid hzz
                                      clear hzz h5
                                      generalize hwE : ((w2).setCell ⟨gfr, t, none⟩ (.int .u32 (zz : Int))).drew = wE at hn
                                      have HE := Lib.hid hn
                                      clear hn hp4 hp5
                                      go_wp2_with fail
                                      refine wp_region_still_tail 17 (by kernel_rfl) (by kernel_rfl) ?_
                                      simp only [List.take_succ_cons, List.take_zero, List.drop_succ_cons, List.drop_zero]
                                      iterate 17 still_step
                                      refine wpStill_nil ?_
                                      go_wp2_with fail
                                      go_meet
                                      exact ⟨rfl, _, _, HRd.out.write b t, by have h := HE.out; rw [← HZZ.out] at h; exact h⟩
                  · obtain rfl : bb = true := by rw [HBB.out, decide_eq_true (show kind ≠ 1 ∧ kind ≠ 2 from ⟨hk1, hk2⟩)]
                    as_aux_lemma =>
                      obtain ⟨rfl, rfl⟩ : 6 = q ∧ s = s' := by have := HQ.out; unfold stepW at this; rw [if_pos ⟨hk1, hk2⟩] at this; simpa using this
                      go_wp2_with fail
                      go_meet
                      exact ⟨rfl, _, _, HRd.out, HM1.out⟩
              case rest =>
              obtain ⟨rfl, vb', L', hrd', hm'⟩ := hcut
              have HE := Lib.hid hm'
              have HL' := Lib.hid hrd'
              clear hm' hrd' f0 f1 f2 HM1 HQ HRd
              as_aux_lemma =>
                have HT1 := Lib.hid (RowsM.grow HE.out ((Below.refl (wc).heap.size (wc)).alloc (Nat.le_refl _) (.cells #[.int .i64 q] 28)))
                have c0 := RowsM.cell HE.out (k := 1) rfl (j := 0) rfl
                go_wp2_with (at_builtin; refine wpList_append_rm rfl (.tmp 210) (.tmp 212) 24 rfl 3 28 1 cd.length vc (ints cd) HT1.out rfl i2 (.int .i64 0) 8 Try.underlying24 HI2.out.1 HI2.out.2.1 HI2.out.2.2.1 HI2.out.2.2.2 rfl (by decide) rfl ⟨(wc).heap.size, 0, none⟩ 1 1 [.int .i64 q] rfl rfl ?qnewsa ?qonea ?q63a ?qbya ?qnexta)
                try (case qnewsa => exact row_news (row_new (wc) (wc).heap.size rfl [.int .i64 q] 28))
                case qonea => first | rfl | (intro u hu; simp only [List.mem_cons, List.not_mem_nil, or_false] at hu; rcases hu with rfl; rfl)
                case q63a => have := HLc.out; unfold maxLen; omega
                case qbya => have := HLc.out; omega
                case qnexta =>
                  intro A' c' w9 hn
                  have e1 := hn.cell (k := 1) rfl (j := 0) rfl
                  have e2 := hn.free (k := 1) rfl 0
                  have hn2 := hn.store (k := 1) rfl 0 (.slice A' (cd.length + 1) c')
                  have HNN := Lib.hid (show RowsM w (rowsW w.heap.size g9 gR gK nc (.slice A' (cd.length + 1) c') (.slice none 0 0) (.slice Af fi.length cf) _ (stW fi cl nc ds (k + 1)).1 [] (tabA fi.length (stW fi cl nc ds (k + 1)).2.fr) (tabA nc (stW fi cl nc ds (k + 1)).2.kn) _) _ from by
                    rw [HN.out, rowsW, List.length_append]
                    have e3 : ints (cd ++ [q]) = ints cd ++ [.int .i64 q] := by simp [ints]
                    rw [e3]
                    exact RowsM.tail hn2)
                  have HLL := Lib.hid (show RdL nc fi.length (stW fi cl nc ds (k + 1)).2 _ from by rw [HN.out]; exact HL'.out)
                  clear hn hn2 HT1
                  go_wp2
                  go_roundw
                  case rel => exact ⟨k + 1, by go_num, by omega, _, _, _, HLL.out, HNN.out⟩
                  case measure => simp [intOf]; omega
            · obtain rfl : k = ds.length := by omega
              as_aux_lemma =>
                have hst : stW fi cl nc ds ds.length = runW fi cl nc fi.length ds := by unfold stW; rw [List.take_length]
                have HFin := Lib.hid (show FineW nc fi.length (runW fi cl nc fi.length ds).2 from fineW_run ds)
                rw [hst] at HM HRd
                clear hst
                generalize hcd : (runW fi cl nc fi.length ds).1 = cd at *
                generalize hs : (runW fi cl nc fi.length ds).2 = s at *
                have HCD := Lib.hid hcd
                have HS := Lib.hid hs
                clear hcd hs
                go_wp2
                go_loopw [218] (fun v wr => ∃ i : Nat, v = .int .i64 i ∧ i ≤ nc ∧ ∃ vr, RowsM w (rowsW w.heap.size g9 gR gK nc vc vr (.slice Af fi.length cf) vb cd (tabA i s.rd) (tabA fi.length s.fr) (tabA nc s.kn) L) wr) (fun v _ => nc - (intOf v).toNat)
                case atStart => exact ⟨0, rfl, Nat.zero_le _, _, HM.out⟩
                case round =>
                  clear HM
                  obtain ⟨i, rfl, hi, vr, hm⟩ := hrel
                  have HM := Lib.hid hm
                  clear hm
                  by_cases hlt2 : i < nc
                  · obtain ⟨Ab, cb, hvb, _, hrow⟩ := own_row (HM.out.at_ (i + 7) ⟨3, 1, vb i, (L i).length, ints (nats (L i))⟩ (by show (tabA nc _)[i]? = _; exact tabA_get _ hlt2))
                    simp only at hvb
                    have hrb := HM.out.cell (k := 5) rfl (j := i) (tabA_get vb hlt2)
                    rw [hvb] at hrb
                    have HRow := Lib.hid hrow
                    have hLl := HRd.out.len hlt2 g4
                    have HTk := Lib.hid (sumL_take (HRd.out.nodup i hlt2) (fun x hx => by have := HRd.out.lt i hlt2 x hx; omega))
                    clear hvb hrow
                    go_wp2
                    go_loopw [22, 224] (fun sv jv wz => ∃ j : Nat, jv = .int .i64 j ∧ j ≤ (L i).length ∧ (∃ q : Nat, sv = .int .u32 (q : Int) ∧ q = sumL ((L i).take j)) ∧ wz = wr) (fun _ jv _ => (L i).length - (intOf jv).toNat)
                    case atStart => exact ⟨0, rfl, Nat.zero_le _, ⟨0, rfl, by simp [sumL]⟩, rfl⟩
                    case round =>
                      obtain ⟨j, rfl, hj, ⟨q, rfl, hq⟩, rfl⟩ := hrel
                      have HQ := Lib.hid hq
                      have hq8 : q < 256 := by rw [hq]; exact (HTk.out j hj).1
                      clear hq
                      by_cases hlt3 : j < (L i).length
                      · obtain ⟨x, hx⟩ := get_some hlt3
                        have hx8 : x < 8 := by have := HRd.out.lt i hlt2 x (List.mem_of_getElem? hx); omega
                        obtain ⟨gb, ob, rfl, hbx⟩ := RowI.cells HRow.out (nats_at hx)
                        have h1 := one_int x (by omega)
                        have h8 := one_lt8 hx8
                        have hw2 : IntKind.u32.wrap ((q : Int) + (one x : Int)) = ((q + one x : Nat) : Int) := by rw [IntKind.wrap_u32]; omega
                        have HX := Lib.hid (show q + one x = sumL ((L i).take (j + 1)) by rw [List.take_add_one, hx, Option.toList, sumL_snoc, HQ.out])
                        clear hx
                        go_wp2
                        go_roundw
                        case rel => exact ⟨j + 1, by go_num, by omega, ⟨_, rfl, HX.out⟩, trivial⟩
                        case measure => simp [intOf]; omega
                      · obtain rfl : j = (L i).length := by omega
                        have HSum := Lib.hid (show q = s.rd i by rw [HQ.out, List.take_length]; exact HRd.out.sum hlt2 g4)
                        have HT1 := Lib.hid (RowsM.grow HM.out ((Below.refl wr.heap.size wr).alloc (Nat.le_refl _) (.cells #[.int .u32 (q : Int)] 38)))
                        have c0 := RowsM.cell HM.out (k := 0) rfl (j := 1) rfl
                        go_wp2_with (at_builtin; refine wpList_append_rm rfl (.tmp 235) (.tmp 237) 25 rfl 3 38 1 i vr (words (tabA i s.rd)) HT1.out (by rw [rowsW, tabA_length]; rfl) i1 (.int .u32 0) 4 Try.underlying25 HI1.out.1 HI1.out.2.1 HI1.out.2.2.1 HI1.out.2.2.2 rfl (by decide) rfl ⟨wr.heap.size, 0, none⟩ 1 1 [.int .u32 (q : Int)] rfl rfl ?znews ?zone ?z63 ?zby ?znext)
                        try (case znews => exact row_news (row_new wr wr.heap.size rfl [.int .u32 (q : Int)] 38))
                        case zone => first | rfl | (intro u hu; simp only [List.mem_cons, List.not_mem_nil, or_false] at hu; rcases hu with rfl; rfl)
                        case z63 => unfold maxLen; omega
                        case zby => omega
                        case znext =>
                          intro A' c' w9 hn
                          have e1 := hn.cell (k := 0) rfl (j := 1) rfl
                          have e2 := hn.free (k := 0) rfl 1
                          have hn2 := hn.store (k := 0) rfl 1 (.slice A' (i + 1) c')
                          have HNN := Lib.hid (show RowsM w (rowsW w.heap.size g9 gR gK nc vc (.slice A' (i + 1) c') (.slice Af fi.length cf) vb cd (tabA (i + 1) s.rd) (tabA fi.length s.fr) (tabA nc s.kn) L) _ from by
                            have e3 : words (tabA (i + 1) s.rd) = words (tabA i s.rd) ++ [.int .u32 (q : Int)] := by rw [tabA_succ, HSum.out]; simp [words]
                            rw [rowsW, e3, tabA_length]
                            exact hn2)
                          clear hn hn2 HT1
                          go_wp2
                          go_roundw
                          case rel => exact ⟨i + 1, by go_num, by omega, _, HNN.out⟩
                          case measure => simp [intOf]; omega
                  · obtain rfl : i = nc := by omega
                    obtain ⟨Ac, cc, hvc, _, _⟩ := HM.out.form (k := 2) rfl
                    obtain ⟨Ar, cr, hvr, _, _⟩ := HM.out.form (k := 3) rfl
                    simp only [tabA_length] at hvc hvr
                    subst hvc hvr
                    have c0 := HM.out.cell (k := 0) rfl (j := 0) rfl
                    have c1 := HM.out.cell (k := 0) rfl (j := 1) rfl
                    have c2 := HM.out.cell (k := 0) rfl (j := 2) rfl
                    have z0 := HM.out.cell (k := 1) rfl (j := 0) rfl
                    have z1 := HM.out.cell (k := 1) rfl (j := 1) rfl
                    have z2 := HM.out.cell (k := 1) rfl (j := 2) rfl
                    have y0 := HM.out.free (k := 1) rfl 0
                    have y1 := HM.out.free (k := 1) rfl 1
                    have y2 := HM.out.free (k := 1) rfl 2
                    have hn := ((HM.out.store (k := 1) rfl 0 (.slice Ac cd.length cc)).store (k := 1) rfl 1 (.slice Ar i cr)).store (k := 1) rfl 2 (.slice Af fi.length cf)
                    have HZ := Lib.hid (And.intro (hn.cell (k := 1) rfl (j := 0) rfl) (And.intro (hn.cell (k := 1) rfl (j := 1) rfl) (hn.cell (k := 1) rfl (j := 2) rfl)))
                    have r1 := hn.row (k := 2) (A := Ac) (n := cd.length) (c := cc) (e := 28) (size := 1) (xs := ints cd) rfl
                    have r2 := hn.row (k := 3) (A := Ar) (n := i) (c := cr) (e := 38) (size := 1) (xs := words (tabA i s.rd)) (by simp only [rowsW, tabA_length]; rfl)
                    have r3 := hn.row (k := 4) (A := Af) (n := fi.length) (c := cf) (e := 38) (size := 1) (xs := words (tabA fi.length s.fr)) (by simp only [rowsW, tabA_length]; rfl)
                    have HR := Lib.hid (And.intro r1 (And.intro r2 (And.intro r3 hn.below)))
                    clear hn r1 r2 r3
                    go_wp2
                    refine bodyPost_ret (v := .agg #[.slice Ac cd.length cc, .slice Ar i cr, .slice Af fi.length cf]) (by simp [results, Try.results28, go_sem, HZ.out.1, HZ.out.2.1, HZ.out.2.2]) rfl ?_
                    rw [HCD.out, HS.out]
                    exact ⟨Ac, cc, Ar, cr, Af, ⟨cf, rfl⟩, HR.out.1, HR.out.2.1, HR.out.2.2.1, HR.out.2.2.2⟩
end Go.Proofs.Ytdiaglaokgehbaa
