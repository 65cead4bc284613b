/- concept.All. -/
import Derived.Test.YtlokldjookngkaaWCo4
namespace Go.Proofs.Ytlokldjookngkaa
open Go.RowKit

/-- Concepts of the call's own, by their marks, in a list that grows. -/
def OwnC (rows : List Nat) (w : World) (B : Nat) (v : Value) (l : List Nat) : Prop := w.ownsRow B 36 2 v l.length (rulesC (l.map fun m => (ownW rows m, m)))
theorem infoC : (Try.prog.info? 36).map (fun i => (i.zero, i.size, i.bytes)) = some (some (.agg #[.int .u32 0, .int .u32 0]), 2, 8) := by kernel_rfl
/-- How many things a slice has. -/
def lenV : Value → Nat
  | .slice _ n _ => n
  | _ => 0
theorem OwnC.len {rows : List Nat} {w : World} {B : Nat} {v : Value} {l : List Nat} (h : OwnC rows w B v l) : lenV v = l.length := by
  rcases h.2 with ⟨hv, hn⟩ | ⟨g, cap, cur, hv, _⟩
  · rw [hv, hn]; rfl
  · rw [hv]; rfl
theorem OwnC.some {rows : List Nat} {w : World} {B : Nat} {v : Value} {l : List Nat} (h : OwnC rows w B v l) (hl : 0 < l.length) : ∃ g c, v = .slice (some ⟨g, 0, none⟩) l.length c ∧ l.length ≤ c ∧ B ≤ g ∧ g < w.heap.size ∧
    Row w (some ⟨g, 0, none⟩) (rulesC (l.map fun m => (ownW rows m, m))) ∧ ∀ j, w.frozen? ⟨g, j, none⟩ = false := by
  have h' := h
  rcases h.2 with ⟨hv, hn⟩ | ⟨g, cap, cur, hv, hg, hh, h1, h2, h3, h4⟩
  · omega
  · subst hv
    refine ⟨g, cap, rfl, by omega, hg, (World.ownsRow.lt h g rfl).2, .inr ⟨g, 0, rfl, fun j u hu => ?_⟩, fun j => World.ownsRow.frozenAt h j⟩
    have hj : j < (rulesC (l.map fun m => (ownW rows m, m))).length := (List.getElem?_eq_some_iff.1 hu).1
    rw [rulesC_length, List.length_map] at hj
    rw [Nat.zero_add, World.ownsRow.cellAt h' j (by omega)]
    exact hu
/-- How far the listing has come. -/
def AllRel (n : Nat) (rows : List Nat) (w : World) (v pv bv : Value) (wr : World) : Prop :=
  ∃ (l : List Nat) (p : Nat) (b : Bool), pv = .int .u32 p ∧ bv = .bool b ∧ OwnC rows wr w.heap.size v l ∧ Below w.heap.size w wr ∧ p < one n ∧
    (b = true → Gan n rows l p) ∧ (b = false → l.Nodup ∧ ∀ c, c ∈ l ↔ c ∈ conL n rows (one n))
theorem gan_first {n : Nat} {rows : List Nat} : Gan n rows [] (clM n rows 0) := by
  obtain ⟨x, hx⟩ := get_some (conL_pos n rows)
  rw [← conL_first hx]
  exact Gan.init hx
theorem news_two (w : World) (a b : Nat) (t : TypeId) : ∀ j u, ([.int .u32 (a : Int), .int .u32 (b : Int)] : List Value)[j]? = some u → (w.alloc (.cells #[.int .u32 (a : Int), .int .u32 (b : Int)] t)).cell? ((⟨w.heap.size, 0, none⟩ : Addr).add j) = some u :=
  row_news (row_new w w.heap.size rfl [.int .u32 (a : Int), .int .u32 (b : Int)] t)

set_option maxHeartbeats 2000000 in
theorem CAll_ok : CAllOk 16 := by
  intro n rows A c w h32 hm hr hX
  have hc := cnCheck_any n rows A c [] none 0 w hr h32 hm (.inl rfl) (by simp) (by simp)
  rw [orL_nil] at hc
  by_cases h0 : codeT n rows 0 0 = 0
  · obtain ⟨k, e, h1, h2, h3, h4, h5, h6⟩ := codeT_zero h0
    subst e
    rw [h0] at hc
    rw [h0, if_pos rfl, Int.toNat_natCast]
    clear h0
    have h64 := one_le_64 h2
    have hl64 : (conL k rows (one k)).length ≤ 64 := Nat.le_trans (filter_len _ _) h64
    have hcl := clM_lt k rows 0
    obtain ⟨i0, hi, hz0, hz1, hz2⟩ := info_parts infoC
    have HI := Lib.hid (And.intro hi (And.intro hz0 (And.intro hz1 hz2)))
    clear hi hz0 hz1 hz2
    go_enter Try.func16, Try.ntmps16
    go_wp2_with fail
    refine hc.mono ?_
    rintro e w1 ⟨rfl, rfl⟩
    go_wp2_with fail
    refine (cnGrow_any k rows A c 0 _ h2 hr h32 (by omega) h3).mono ?_
    rintro e w1 ⟨rfl, rfl⟩
    go_wp2
    go_loopw [7, 8, 9] (fun v pv bv wr => AllRel k rows w v pv bv wr) (fun v _ _ _ => 65 - lenV v)
    case atStart => exact ⟨[], _, true, rfl, rfl, World.ownsRow_nil _ _ _ _, Below.refl _ _, hcl, fun _ => gan_first, fun h => by cases h⟩
    case round =>
      obtain ⟨l, p, b, rfl, rfl, hown, hbel, hp, hy, hn⟩ := hrel
      cases b with
      | true =>
        have hg := hy rfl
        have hgl := hg.len
        have HG := Lib.hid hg
        have HL := Lib.hid hown.len
        have HO := Lib.hid (show _root_.Go.World.ownsRow _ w.heap.size 36 2 _ l.length (rulesC (l.map fun m => (ownW rows m, m))) from hown)
        have hsz := hbel.size
        have ho := Nat.lt_of_lt_of_le (ownW_lt rows p) (one_le_256' h3)
        clear hy hn hg hown
        go_wp2_with fail
        refine (cnDown_any rows A c p _ (hr.below hbel) h32 (by omega) h3).mono ?_
        rintro e w3 ⟨rfl, rfl⟩
        obtain ⟨hi, hz0, hz1, hz2⟩ := HI.out
        go_wp2_with (first | (at_builtin; refine wpList_append_lies _ rfl _ _ 31 rfl w.heap.size 36 i0 (.agg #[.int .u32 0, .int .u32 0]) 2 8 Try.underlying31 hi hz0 hz1 hz2 rfl (by decide) _ _ _ rfl (HO.out.alloc _) ⟨_, 0, none⟩ 1 1 [.int .u32 (ownW rows p : Nat), .int .u32 (p : Int)] rfl rfl (news_two _ _ _ _) ?c1 (by decide) ?c2 ?c3 ?c4 _ rfl ?c6))
        case c1 => intro u hu; simp at hu; rcases hu with rfl | rfl <;> rfl
        case c2 => unfold maxLen; omega
        case c3 => omega
        case c4 => simp; omega
        case c6 =>
          intro g3 cap3 w4 hown4 hgrow4 hat4 hlt4
          have hb4 : Below w.heap.size w w4 := (hbel.alloc hsz _).grown hgrow4 (by simp; omega) (fun k hk => (World.ownsRow.lt HO.out k hk).1)
          have HO4 := Lib.hid hown4
          clear hown4 hgrow4 hat4 hi hz0 hz1 hz2
          go_wp2_with fail
          refine (cnNext_any k rows A c p _ h2 (hr.below hb4) h32 hp h3).mono ?_
          rintro e w5 ⟨s, b, rfl, hq, rfl⟩
          have HQ := Lib.hid hq
          clear hq
          go_wp2
          go_roundw
          case rel =>
            refine ⟨l ++ [p], s, b, rfl, rfl, ?_, hb4, ?_, ?_, ?_⟩
            · unfold OwnC
              rw [List.map_append, rulesC_append, List.length_append]
              exact HO4.out
            · rcases HQ.out with ⟨_, h⟩ | ⟨_, rfl, _⟩
              · exact h.1
              · exact one_pos _
            · intro hb
              rcases HQ.out with ⟨_, h⟩ | ⟨h, _⟩
              · exact HG.out.step (by omega) h
              · rw [h] at hb; cases hb
            · intro hb
              rcases HQ.out with ⟨h, _⟩ | ⟨_, _, h⟩
              · rw [h] at hb; cases hb
              · exact ⟨HG.out.nodup', fun c => ⟨HG.out.within c, HG.out.all (by omega) h c⟩⟩
          case measure => rw [HL.out]; simp [lenV]; omega
      | false =>
        obtain ⟨hnd, hmem⟩ := hn rfl
        have hperm := (List.perm_ext_iff_of_nodup hnd (conL_nodup k rows (one k))).2 hmem
        have hlen := hperm.length_eq
        have hpos := conL_pos k rows
        obtain ⟨g, cp, rfl, hcp, hBg, hgs, hrow, hfz⟩ := hown.some (by omega)
        have key := sortC_any rows l (conL k rows (one k)) w.heap.size g cp wr hBg hgs hrow hfz (by omega) hnd (List.Pairwise.filter _ List.pairwise_lt_range) hmem
        have HLn := Lib.hid hlen
        clear hy hn hown hrow hfz hperm hlen
        go_wp2_with fail
        refine key.mono ?_
        rintro e w6 ⟨rfl, hrow6, hb6⟩
        have HR6 := Lib.hid hrow6
        clear hrow6
        go_wp2
        go_ret2
        refine ⟨some ⟨g, 0, none⟩, cp, conP k rows, ?_, rfl, ?_, HR6.out, hbel.trans hb6⟩
        · rw [show (conP k rows).length = l.length by rw [HLn.out]; simp [conP]]; rfl
        · rw [show (conP k rows).length = l.length by rw [HLn.out]; simp [conP]]; exact hcp
  · rw [if_neg h0]
    generalize codeT n rows 0 0 = q at hc h0
    go_enter Try.func16, Try.ntmps16
    go_wp2_with fail
    refine hc.mono ?_
    rintro e w1 ⟨rfl, rfl⟩
    go_wp2
    go_ret2
    exact ⟨none, 0, [], rfl, rfl, Nat.le_refl _, .inl rfl, Below.refl _ _⟩

end Go.Proofs.Ytlokldjookngkaa
