/- order.walk, order.listChains, order.Split. -/
import Derived.Test.YtkmloanalhjmjaaW16
namespace Go.Proofs.Ytkmloanalhjmjaa
open Go.RowKit

/-- What is left of a walk. -/
noncomputable def mesW (n : Nat) (ps : List (Int × Int)) (a : Value) : Nat := if intOf a < 0 then 0 else sAb n ps (intOf a).toNat + 1
/-- The loop of walk. -/
def WalkRel (n : Nat) (f : Bef) (first : Nat) (w : World) (v a : Value) (wr : World) : Prop :=
  ∃ (q : List Nat) (r : Option Nat), OwnI wr w.heap.size v (nats q) ∧ a = .int .i64 (match r with | none => -1 | some x => (x : Int)) ∧ (match r with | none => q = chF n f first | some x => x < n ∧ q ++ chF n f x = chF n f first) ∧ Below w.heap.size w wr

theorem chain_len {n : Nat} {ps : List (Int × Int)} {l : List Nat} (h : ChainOf n ps l) : l.length ≤ n := by
  have := nodup_sub_length l (List.range n) (chain_nodup h) (fun x hx => by simpa using h.1 x hx)
  simpa using this

set_option maxHeartbeats 2000000 in
theorem walk_any (n : Nat) (ps : List (Int × Int)) (m f : Bef) (first : Nat) (A : Option Addr) (c : Nat) (w : World) (hn6 : n ≤ 6) (hcy : ¬ Cyc n ps) (hm : Mat n (ab ps) m) (hf : Afts n m f) (hfn : first < n) (hr : Row w A (ints (itz n (bv f)))) :
    Calls Try.prog 50 #[.slice A n c, .int .i64 first] w fun e w' => ∃ v, e = .returned v ∧ OwnI w' w.heap.size v (nats (chF n f first)) ∧ Below w.heap.size w w' := by
  obtain ⟨i0, hi, hz0, hz1, hz2⟩ := info_parts info3
  have HI := Lib.hid (And.intro hi (And.intro hz0 (And.intro hz1 hz2)))
  have HC := Lib.hid hcy
  have HM := Lib.hid hm
  have HA := Lib.hid hf
  have HLen := Lib.hid (chain_len (chF_chain hcy hm hf _ first (Nat.le_refl _) hfn))
  clear hi hz0 hz1 hz2 hcy hm hf
  go_enter Try.func50, Try.ntmps50
  go_wp2
  go_loopw [5, 6] (fun v a wr => WalkRel n f first w v a wr) (fun _ a _ => mesW n ps a)
  case atStart => exact ⟨[], some first, World.ownsRow_nil _ _ _ _, rfl, ⟨hfn, rfl⟩, Below.refl _ _⟩
  case round =>
    obtain ⟨q, r, hown, rfl, hq, hbel⟩ := hrel
    have HO := Lib.hid hown
    have hsz := hbel.size
    clear hown
    cases r with
    | none =>
      have HQ := Lib.hid hq
      clear hq
      simp only
      go_wp2
      go_ret
      exact ⟨_, rfl, by rw [← HQ.out]; exact HO.out, hbel⟩
    | some x =>
      obtain ⟨hxn, hqx⟩ := hq
      have HQ := Lib.hid hqx
      have hql : q.length ≤ 6 := by
        have h1 := congrArg List.length hqx
        rw [List.length_append] at h1
        have := HLen.out
        omega
      have HStep := Lib.hid (chF_step HC.out HM.out HA.out hxn)
      have hd : ((x : Int) != -1) = true := by rw [bne_iff_ne]; omega
      clear hqx
      simp only
      obtain ⟨hi, hz0, hz1, hz2⟩ := HI.out
      go_wp2_with (first | (at_builtin; refine wpList_append_lies _ rfl _ _ 36 rfl w.heap.size 3 i0 (.int .i64 0) 1 8 Try.underlying36 hi hz0 hz1 hz2 rfl (by decide) _ _ _ rfl (HO.out.alloc _) ⟨wr.heap.size, 0, none⟩ 1 1 [.int .i64 x] rfl rfl (cell_one_new _ _ _) ?c1 (by decide) ?c2 ?c3 ?c4 _ rfl ?c6))
      case c1 => intro u hu; simp at hu; subst hu; rfl
      case c2 => simp; unfold maxLen; omega
      case c3 => simp; omega
      case c4 => simp; omega
      case c6 =>
        intro g3 cap3 w4 hown4 hgrow4 hat4 hlt4
        have hb4 : Below w.heap.size w w4 := below_own (hbel.alloc hsz _) (HO.out.alloc _) hgrow4
        have HO4 := Lib.hid (show OwnI w4 w.heap.size (.slice (some ⟨g3, 0, none⟩) (q.length + 1) cap3) (nats (q ++ [x])) by
          unfold OwnI
          rw [nats_append, ints_append, List.length_append, nats_length]
          exact hown4)
        obtain ⟨b, off, rfl, hc⟩ := (hr.below hb4).at (k := x) (by rw [ints_length, itz_length]; exact hxn)
        have hcx := hc x _ (ints_at (itz_at (bv f) hxn))
        clear hown4 hgrow4 hat4 hi hz0 hz1 hz2 hc
        cases hfx : f x with
        | none =>
          rw [bv_none hfx] at hcx
          have HE := Lib.hid (show chF n f x = [x] by rw [HStep.out, hfx])
          clear hfx
          go_wp2
          go_roundw
          case rel => exact ⟨q ++ [x], none, HO4.out, rfl, by rw [← HQ.out, HE.out], hb4⟩
          case measure =>
            have e1 : ¬ ((x : Int) < 0) := by omega
            simp [mesW, intOf, e1]
        | some y =>
          rw [bv_some hfx] at hcx
          obtain ⟨hyn, _, hxy⟩ := aft_ab HM.out HA.out hxn hfx
          have hs := sAb_lt HC.out hxn hyn hxy
          have HE := Lib.hid (show chF n f x = x :: chF n f y by rw [HStep.out, hfx])
          clear hfx
          go_wp2
          go_roundw
          case rel => exact ⟨q ++ [x], some y, HO4.out, rfl, ⟨hyn, by rw [← HQ.out, HE.out, List.append_assoc]; rfl⟩, hb4⟩
          case measure =>
            have e1 : ¬ ((x : Int) < 0) := by omega
            have e2 : ¬ ((y : Int) < 0) := by omega
            simp [mesW, intOf, e1, e2]
            omega

/-! ## listChains -/
/-- After the first k have been looked at. -/
def aftTo (m : Bef) : Nat → Bef
  | 0 => fun _ => none
  | k + 1 => match m k with
    | none => aftTo m k
    | some x => setB (aftTo m k) x k
theorem aftTo_none {m : Bef} {k : Nat} (h : m k = none) : aftTo m (k + 1) = aftTo m k := by rw [aftTo, h]
theorem aftTo_some {m : Bef} {k x : Nat} (h : m k = some x) : aftTo m (k + 1) = setB (aftTo m k) x k := by rw [aftTo, h]
theorem aftTo_inv (m : Bef) (k x : Nat) : (∀ b, aftTo m k x = some b → b < k ∧ m b = some x) ∧ (aftTo m k x = none → ∀ b, b < k → m b ≠ some x) := by
  induction k with
  | zero => exact ⟨(fun b h => by cases h), (fun _ b hb => by omega)⟩
  | succ k ih =>
    cases hm : m k with
    | none =>
      rw [aftTo_none hm]
      refine ⟨fun b h => ⟨by have := (ih.1 b h).1; omega, (ih.1 b h).2⟩, fun h b hb => ?_⟩
      by_cases e : b = k
      · subst e; rw [hm]; simp
      · exact ih.2 h b (by omega)
    | some y =>
      rw [aftTo_some hm]
      by_cases e : x = y
      · subst e
        rw [setB_same]
        refine ⟨fun b h => ?_, fun h => by cases h⟩
        injection h with h
        subst h
        exact ⟨by omega, hm⟩
      · rw [setB_other e]
        refine ⟨fun b h => ⟨by have := (ih.1 b h).1; omega, (ih.1 b h).2⟩, fun h b hb => ?_⟩
        by_cases e2 : b = k
        · subst e2; rw [hm]; intro h2; injection h2 with h2; exact e h2.symm
        · exact ih.2 h b (by omega)
theorem aftTo_afts (n : Nat) (m : Bef) : Afts n m (aftTo m n) := by
  intro x _
  have := aftTo_inv m n x
  cases h : aftTo m n x with
  | none => exact this.2 h
  | some b => exact this.1 b h

theorem info36 : (Try.prog.info? 36).map (fun i => (i.zero, i.size, i.bytes)) = some (some (.slice none 0 0), 1, 24) := by kernel_rfl

/-- Lists of the call's own. -/
def OwnL (w : World) (B : Nat) (v : Value) (L : List (List Nat)) : Prop :=
  ∃ vs : List Value, w.ownsRow B 36 1 v L.length vs ∧ ∀ (i : Nat) (c : List Nat), L[i]? = some c → ∃ u, vs[i]? = some u ∧ OwnI w B u (nats c)
theorem own_apart {w : World} {B B' e e' n n' : Nat} {u v : Value} {xs ys : List Value} (h : w.ownsRow B e 1 u n xs) (k : w.ownsRow B' e' 1 v n' ys) (hne : e ≠ e') : u.ownBlock = none ∨ u.ownBlock ≠ v.ownBlock := by
  rcases h.2 with ⟨rfl, _⟩ | ⟨g, cap, cur, rfl, _, hg, _⟩
  · exact .inl rfl
  · right
    rcases k.2 with ⟨rfl, _⟩ | ⟨g', cap', cur', rfl, _, hg', _⟩
    · simp [Value.ownBlock]
    · intro he
      simp [Value.ownBlock] at he
      subst he
      rw [hg] at hg'
      injection hg' with hg'
      injection hg' with _ ht
      exact hne ht
theorem OwnL.nil (w : World) (B : Nat) : OwnL w B (.slice none 0 0) [] := ⟨[], World.ownsRow_nil w B _ _, fun i c h => by simp at h⟩
theorem OwnL.below {w w' : World} {B : Nat} {v : Value} {L : List (List Nat)} (h : OwnL w B v L) (hb : Below w.heap.size w w') : OwnL w' B v L := by
  obtain ⟨vs, h1, h2⟩ := h
  refine ⟨vs, World.ownsRow.kept h1 (row := none) ⟨hb.os, hb.tape, hb.output, hb.size, fun k hk _ => hb.block k hk⟩ (by cases hv : v.ownBlock <;> simp), fun i c hc => ?_⟩
  obtain ⟨u, hu, ho⟩ := h2 i c hc
  exact ⟨u, hu, ho.below hb⟩
/-- One list more. -/
theorem OwnL.snoc {w w' : World} {B : Nat} {v v' u : Value} {L : List (List Nat)} {c : List Nat} {vs : List Value} (h1 : w.ownsRow B 36 1 v L.length vs) (h2 : ∀ (i : Nat) (c : List Nat), L[i]? = some c → ∃ u, vs[i]? = some u ∧ OwnI w B u (nats c))
    (hu : OwnI w B u (nats c)) (hg : w.grownBy w' v.ownBlock) (h' : w'.ownsRow B 36 1 v' (L.length + 1) (vs ++ [u])) : OwnL w' B v' (L ++ [c]) := by
  have kp : ∀ {x : Value} {l : List Nat}, OwnI w B x (nats l) → OwnI w' B x (nats l) := fun hx => World.ownsRow.kept hx hg (own_apart hx h1 (by decide))
  refine ⟨vs ++ [u], by rw [List.length_append]; exact h', fun i d hd => ?_⟩
  have hl : vs.length = L.length := by have := h1.1; omega
  by_cases hi : i < L.length
  · rw [List.getElem?_append_left hi] at hd
    obtain ⟨x, hx, ho⟩ := h2 i d hd
    exact ⟨x, by rw [List.getElem?_append_left (by omega)]; exact hx, kp ho⟩
  · have hil := (List.getElem?_eq_some_iff.1 hd).1
    rw [List.length_append] at hil
    simp at hil
    obtain rfl : i = L.length := by omega
    rw [List.getElem?_append_right (Nat.le_refl _)] at hd
    simp at hd
    subst hd
    exact ⟨u, by rw [List.getElem?_append_right (by omega)]; simp [hl], kp hu⟩

/-- The loops of listChains. -/
def AftRel (n : Nat) (m : Bef) (w : World) (i : Value) (wr : World) : Prop :=
  ∃ k : Nat, i = .int .i64 k ∧ k ≤ n ∧ OwnZ wr w.heap.size w.heap.size n (bv (aftTo m k)) ∧ Below w.heap.size w wr
def ChsRel (n : Nat) (m : Bef) (w w3 : World) (v i : Value) (wr : World) : Prop :=
  ∃ k : Nat, i = .int .i64 k ∧ k ≤ n ∧ OwnL wr w3.heap.size v (chL n m (aftTo m n) k) ∧ Below w3.heap.size w3 wr ∧ Below w.heap.size w wr

theorem bv_eq {m : Bef} {b : Nat} : bv m b = -1 ↔ m b = none := by
  cases h : m b with
  | none => simp [bv_none h]
  | some a => rw [bv_some h]; constructor
              · intro e; omega
              · intro e; cases e
theorem OwnI.slice {w : World} {B : Nat} {u : Value} {l : List Nat} (h : OwnI w B u (nats l)) : ∃ A c, u = .slice A l.length c := by
  obtain ⟨A, c, hu, _, _⟩ := h.row
  rw [nats_length] at hu
  exact ⟨A, c, hu⟩

set_option maxHeartbeats 2000000 in
theorem listChains_any (n : Nat) (ps : List (Int × Int)) (m : Bef) (A : Option Addr) (c : Nat) (w : World) (hn1 : 1 ≤ n) (hn6 : n ≤ 6) (hcy : ¬ Cyc n ps) (hm : Mat n (ab ps) m) (hr : Row w A (ints (itz n (bv m)))) :
    Calls Try.prog 46 #[.slice A n c] w fun e w' => ∃ v, e = .returned v ∧ OwnL w' w.heap.size v (chL n m (aftTo m n) n) ∧ Below w.heap.size w w' := by
  obtain ⟨i0, hi, hz0, hz1, hz2⟩ := info_parts info3
  obtain ⟨i1, hi1, hy0, hy1, hy2⟩ := info_parts info36
  have HI := Lib.hid (And.intro hi (And.intro hz0 (And.intro hz1 hz2)))
  have HI1 := Lib.hid (And.intro hi1 (And.intro hy0 (And.intro hy1 hy2)))
  have HC := Lib.hid hcy
  have HM := Lib.hid hm
  clear hi hz0 hz1 hz2 hcy hm hi1 hy0 hy1 hy2
  go_enter Try.func46, Try.ntmps46
  go_wp2_with (at_make; refine wpList_make_full _ rfl _ _ 36 rfl w.heap.size 3 i0 (.int .i64 0) 1 Try.underlying36 HI.out.1 HI.out.2.1 HI.out.2.2.1 .i64 .i64 n n n rfl rfl rfl rfl ?b2 ?b3 (Nat.le_refl _) ?c5)
  case b2 => rw [HI.out.2.2.2]; omega
  case b3 => unfold maxLen; omega
  case c5 =>
    intro w1 hown hgrow
    have HO := Lib.hid (ownZ_made hown)
    have hb1 : Below w.heap.size w w1 := (Below.refl w.heap.size w).grown hgrow (Nat.le_refl _) (by intro k hk; cases hk)
    clear hown hgrow
    go_wp2
    go_loopw [15] (fun v wr => ∃ a : Nat, v = .int .i64 a ∧ a ≤ n ∧ OwnZ wr w.heap.size w.heap.size n (minus a) ∧ Below w.heap.size w wr) (fun v _ => n - (intOf v).toNat)
    case atStart => exact ⟨0, rfl, Nat.zero_le _, HO.out.congr (fun i _ => by simp [minus]), hb1⟩
    case round =>
      clear HO hb1
      obtain ⟨a, rfl, ha, hown, hbel⟩ := hrel
      have HO := Lib.hid hown
      by_cases hlt : a < n
      · have hc := hown.cell hlt
        have hf := hown.free a
        clear hown
        go_wp2
        go_roundw
        case rel => exact ⟨a + 1, by go_num, by omega, by rw [← minus_step]; exact HO.out.stored a (-1), hbel.setCell (Nat.le_refl _) _⟩
        case measure => simp [intOf]; omega
      · obtain rfl : a = n := by omega
        clear hown
        go_wp2
        go_loopw [24] (fun v wr => AftRel a m w v wr) (fun v _ => a - (intOf v).toNat)
        case atStart => exact ⟨0, rfl, Nat.zero_le _, HO.out.congr (fun i hi => minus_all hi), hbel⟩
        case round =>
          clear HO hbel
          obtain ⟨k, rfl, hk, hown, hbel⟩ := hrel
          have HO := Lib.hid hown
          by_cases hkn : k < a
          · obtain ⟨gb, ob, rfl, hcr⟩ := (hr.below hbel).at (k := k) (by rw [ints_length, itz_length]; exact hkn)
            have hck := hcr k _ (ints_at (itz_at (bv m) hkn))
            clear hcr
            cases hmk : m k with
            | none =>
              rw [bv_none hmk] at hck
              have HE := Lib.hid (aftTo_none hmk)
              clear hmk hown
              go_wp2
              go_roundw
              case rel => exact ⟨k + 1, by go_num, by omega, by rw [HE.out]; exact HO.out, hbel⟩
              case measure => simp [intOf]; omega
            | some x =>
              rw [bv_some hmk] at hck
              have hxn := (HM.out.edge k x hkn hmk).1
              have hd : ((x : Int) != -1) = true := by rw [bne_iff_ne]; omega
              have hcx := hown.cell hxn
              have hfx := hown.free x
              have HE := Lib.hid (aftTo_some hmk)
              clear hmk hown
              go_wp2
              go_roundw
              case rel => exact ⟨k + 1, by go_num, by omega, by rw [HE.out, ← bv_set]; exact HO.out.stored x (k : Int), hbel.setCell (Nat.le_refl _) _⟩
              case measure => simp [intOf]; omega
          · obtain rfl : k = a := by omega
            have HR3 := Lib.hid (show Row wr (some ⟨w.heap.size, 0, none⟩) (ints (itz k (bv (aftTo m k)))) from Row.of_own hown)
            have HAf := Lib.hid (aftTo_afts k m)
            have hsz := hbel.size
            clear hown
            obtain ⟨w3, rfl⟩ : ∃ w3 : World, w3 = wr := ⟨_, rfl⟩
            clear HO
            go_wp2
            go_loopw [7, 38] (fun v i wi => ChsRel k m w w3 v i wi) (fun _ i _ => k - (intOf i).toNat)
            case atStart => exact ⟨0, rfl, Nat.zero_le _, OwnL.nil _ _, Below.refl _ _, hbel⟩
            case round =>
              clear hbel
              obtain ⟨j, rfl, hj, hown, hb3, hbel⟩ := hrel
              have HO := Lib.hid hown
              have hsz3 := hb3.size
              clear hown
              by_cases hjn : j < k
              · obtain ⟨gb, ob, rfl, hcr⟩ := (hr.below hbel).at (k := j) (by rw [ints_length, itz_length]; exact hjn)
                have hcj := hcr j _ (ints_at (itz_at (bv m) hjn))
                clear hcr
                cases hmj : m j with
                | some x =>
                  rw [bv_some hmj] at hcj
                  have hd : ((x : Int) == -1) = false := by rw [beq_eq_false_iff_ne]; omega
                  have HE := Lib.hid (chL_no (n := k) (f := aftTo m k) hmj)
                  clear hmj
                  go_wp2
                  go_roundw
                  case rel => exact ⟨j + 1, by go_num, by omega, by rw [HE.out]; exact HO.out, hb3, hbel⟩
                  case measure => simp [intOf]; omega
                | none =>
                  rw [bv_none hmj] at hcj
                  have HE := Lib.hid (chL_yes (n := k) (f := aftTo m k) hmj)
                  have hcl : (chL k m (aftTo m k) j).length ≤ 6 := by
                    rw [chL_length]
                    have : ∀ (p : Nat → Bool) t, cntN p t ≤ t := by
                      intro p t
                      induction t with
                      | zero => simp [cntN]
                      | succ t ih => rw [cntN]; have := Bool.toNat_le (p t); omega
                    have := this (fun b => (m b).isNone) j
                    omega
                  clear hmj
                  obtain ⟨hi1, hy0, hy1, hy2⟩ := HI1.out
                  go_wp2_with fail
                  refine (walk_any k ps m (aftTo m k) j _ k _ hn6 HC.out HM.out HAf.out hjn (HR3.out.below hb3)).mono ?_
                  rintro e w5 ⟨v5, rfl, hown5, hb5⟩
                  obtain ⟨A5, c5, rfl⟩ := hown5.slice
                  have hsz5 := hb5.size
                  have HO5 := Lib.hid ((hown5.rebase hsz3).below ((Below.refl w5.heap.size w5).alloc (Nat.le_refl _) (.cells #[.slice A5 (chF k (aftTo m k) j).length c5] 36)))
                  have hol := (HO.out.below hb5).below ((Below.refl w5.heap.size w5).alloc (Nat.le_refl _) (.cells #[.slice A5 (chF k (aftTo m k) j).length c5] 36))
                  obtain ⟨vs, hvs1, hvs2⟩ := hol
                  have HV1 := Lib.hid hvs1
                  have HV2 := Lib.hid hvs2
                  have hb35 := hb3.trans (hb5.mono hb3.size)
                  have hb05 := hbel.trans (hb5.mono hbel.size)
                  clear hown5 hvs1 hvs2 HO hb3 hbel hcj
                  generalize (chF k (aftTo m k) j).length = cl at *
                  go_wp2_with (first | (at_builtin; refine wpList_append_lies _ rfl _ _ 44 rfl w3.heap.size 36 i1 (.slice none 0 0) 1 24 Try.underlying44 hi1 hy0 hy1 hy2 rfl (by decide) _ _ _ rfl HV1.out ⟨w5.heap.size, 0, none⟩ 1 1 [.slice A5 cl c5] rfl rfl (cell_one_new _ _ _) ?c1 (by decide) ?c2 ?c3 ?c4 _ rfl ?c6))
                  case c1 => intro u hu; simp at hu; subst hu; rfl
                  case c2 => unfold maxLen; omega
                  case c3 => omega
                  case c4 => simp; omega
                  case c6 =>
                    intro g6 cap6 w6 hown6 hgrow6 hat6 hlt6
                    have hlt := fun k hk => (World.ownsRow.lt HV1.out k hk).1
                    have hb36 : Below w3.heap.size w3 w6 := (hb35.alloc (by omega) _).grown hgrow6 (by simp; omega) hlt
                    have hb06 : Below w.heap.size w w6 := (hb05.alloc (by omega) _).grown hgrow6 (by simp; omega) (fun k hk => by have := hlt k hk; omega)
                    have HO6 := Lib.hid (OwnL.snoc HV1.out HV2.out HO5.out hgrow6 hown6)
                    clear hown6 hgrow6 hat6 hi1 hy0 hy1 hy2 hlt
                    go_wp2
                    go_roundw
                    case rel => exact ⟨j + 1, by go_num, by omega, by rw [HE.out]; exact HO6.out, hb36, hb06⟩
                    case measure => simp [intOf]; omega
              · obtain rfl : j = k := by omega
                go_wp2
                go_ret
                refine ⟨_, rfl, ?_, hbel⟩
                obtain ⟨vs, hv1, hv2⟩ := HO.out
                refine ⟨vs, ?_, fun i c hc => ?_⟩
                · obtain ⟨g1, g2⟩ := hv1
                  refine ⟨g1, ?_⟩
                  rcases g2 with g2 | ⟨g', cap', cur, hv, hg, r⟩
                  · exact .inl g2
                  · exact .inr ⟨g', cap', cur, hv, Nat.le_trans hsz hg, r⟩
                · obtain ⟨u, hu, ho⟩ := hv2 i c hc
                  exact ⟨u, hu, ho.rebase hsz⟩

end Go.Proofs.Ytkmloanalhjmjaa
