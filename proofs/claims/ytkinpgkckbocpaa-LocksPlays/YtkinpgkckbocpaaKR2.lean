/-
  The document's Take.
-/
import Derived.Test.YtkinpgkckbocpaaKR1
import Derived.Deep.RegionLaw
namespace Go.Proofs.Ytkinpgkckbocpaa
open Go.RowKit

/-- All of l is given, one want behind the other. -/
def lgives (xs : List Lo) (x : List UInt8) : List (List UInt8 × Bool) → List Lo
  | [] => xs
  | q :: l => lgives (lgive xs x q.1 q.2) x l
theorem lgives_snoc (xs : List Lo) (x : List UInt8) (l : List (List UInt8 × Bool)) (q : List UInt8 × Bool) : lgives xs x (l ++ [q]) = lgive (lgives xs x l) x q.1 q.2 := by
  induction l generalizing xs with
  | nil => rfl
  | cons v l ih => exact ih _
theorem lgives_take (xs : List Lo) (x : List UInt8) (l : List (List UInt8 × Bool)) (i : Nat) (hi : i < l.length) : lgives xs x (l.take (i + 1)) = lgive (lgives xs x (l.take i)) x l[i].1 l[i].2 := by
  rw [List.take_succ_eq_append_getElem hi, lgives_snoc]
theorem lgives_length (xs : List Lo) (x : List UInt8) (l : List (List UInt8 × Bool)) : (lgives xs x l).length ≤ xs.length + l.length := by
  induction l generalizing xs with
  | nil => exact Nat.le_refl _
  | cons q l ih =>
    have := ih (lgive xs x q.1 q.2)
    have := lgive_length xs x q.1 q.2
    simp only [lgives, List.length_cons]
    omega
/-- One lock goes ill with a want. -/
def ill1 (x : List UInt8) (q : List UInt8 × Bool) (z : Lo) : Prop := z.t ≠ x ∧ z.c = q.1 ∧ (z.w = true ∨ q.2 = true)
/-- What the document's Take answers and leaves. -/
def RTakes (xs : List Lo) (x : List UInt8) (l : List (List UInt8 × Bool)) (r : Int) (ys : List Lo) : Prop :=
  (x = [] ∧ r = 1 ∧ ys = xs) ∨ (x ≠ [] ∧ (∃ q ∈ l, ∃ z ∈ xs, ill1 x q z) ∧ r = 35 ∧ ys = xs) ∨ (x ≠ [] ∧ (∀ q ∈ l, ∀ z ∈ xs, ¬ ill1 x q z) ∧ r = 0 ∧ ys = lgives xs x l)
theorem Rep.gives {xs : List Lo} {h : Lk} (r : Rep xs h) (x : List UInt8) (l : List (List UInt8 × Bool)) : Rep (lgives xs x l) (gives h x l) := by
  induction l generalizing xs h with
  | nil => exact r
  | cons q l ih => exact ih (r.give x q.1 q.2)
theorem RTakes.rep {xs ys : List Lo} {h : Lk} (r : Rep xs h) {x : List UInt8} {l : List (List UInt8 × Bool)} {e : Int} (t : RTakes xs x l e ys) : ∃ h', Takes h x l e h' ∧ Rep ys h' := by
  rcases t with ⟨h1, rfl, rfl⟩ | ⟨h1, ⟨q, hq, z, hz, h2⟩, rfl, rfl⟩ | ⟨h1, h2, rfl, rfl⟩
  · exact ⟨h, .inl ⟨h1, rfl, rfl⟩, r⟩
  · exact ⟨h, .inr (.inl ⟨h1, ⟨q, hq, r.ill.2 ⟨z, hz, h2⟩⟩, rfl, rfl⟩), r⟩
  · refine ⟨gives h x l, .inr (.inr ⟨h1, fun q hq hi => ?_, rfl, rfl⟩), r.gives x l⟩
    obtain ⟨z, hz, h3⟩ := r.ill.1 hi
    exact h2 q hq z hz h3
def ETake (e : Ending) (w w' : World) (base R : Nat) (v : Value) (xs : List Lo) (x : List UInt8) (l : List (List UInt8 × Bool)) : Prop := ∃ (r : Int) (v' : Value) (ys : List Lo), e = .returned (.int .i64 r) ∧ RTakes xs x l r ys ∧ Rt w' base R v' ys ∧ RS w w' R v
/-- The locks while one want goes over them. -/
def mid (x c : List UInt8) (wr : Bool) (ys : List Lo) (k : Nat) : List Lo := (ys.take k).map (lup x c wr) ++ ys.drop k
theorem mid_length (x c : List UInt8) (wr : Bool) (ys : List Lo) (k : Nat) : (mid x c wr ys k).length = ys.length := by
  unfold mid
  rw [List.length_append, List.length_map, List.length_take, List.length_drop]
  omega
theorem mid_zero (x c : List UInt8) (wr : Bool) (ys : List Lo) : mid x c wr ys 0 = ys := by simp [mid]
theorem mid_all (x c : List UInt8) (wr : Bool) (ys : List Lo) : mid x c wr ys ys.length = ys.map (lup x c wr) := by simp [mid]
theorem mid_at (x c : List UInt8) (wr : Bool) (ys : List Lo) (k : Nat) (hk : k < ys.length) : (mid x c wr ys k)[k]'(by rw [mid_length]; exact hk) = ys[k] := by
  unfold mid
  rw [List.getElem_append_right (by simp; omega)]
  simp only [List.getElem_drop, List.length_map, List.length_take]
  congr 1
  omega
theorem mid_next (x c : List UInt8) (wr : Bool) (ys : List Lo) (k : Nat) (hk : k < ys.length) : mid x c wr ys (k + 1) = (mid x c wr ys k).set k (lup x c wr ys[k]) := by
  unfold mid
  rw [List.take_succ_eq_append_getElem hk, List.map_append, List.set_append_right _ _ (by simp; omega), List.drop_eq_getElem_cons hk]
  have : k - ((ys.take k).map (lup x c wr)).length = 0 := by simp; omega
  rw [this]
  simp only [List.map_cons, List.map_nil, List.append_assoc, List.cons_append, List.nil_append, List.set_cons_zero]
theorem mid_pass (x c : List UInt8) (wr : Bool) (ys : List Lo) (k : Nat) (hk : k < ys.length) (hn : ¬ (ys[k].t = x ∧ ys[k].c = c)) : mid x c wr ys (k + 1) = mid x c wr ys k := by
  rw [mid_next _ _ _ _ _ hk]
  have : lup x c wr ys[k] = (mid x c wr ys k)[k]'(by rw [mid_length]; exact hk) := by
    rw [mid_at]
    unfold lup
    rw [if_neg hn]
  rw [this, List.set_getElem_self]
structure RStp (w w' : World) (R : Nat) (v v' : Value) : Prop where
  kept : RS w w' R v
  news : ∀ k, v'.ownBlock = some k → v.ownBlock = some k ∨ w.heap.size ≤ k
theorem RStp.refl (w : World) (R : Nat) (v : Value) : RStp w w R v v := ⟨Kept.refl _ _, fun _ h => .inl h⟩
theorem RStp.trans {a b c : World} {R : Nat} {v v' v'' : Value} (h : RStp a b R v v') (k : RStp b c R v' v'') : RStp a c R v v'' := by
  refine ⟨Kept.then h.kept k.kept fun i hi hp => ⟨hp.1, fun e => ?_⟩, fun i e => ?_⟩
  · rcases h.news i e with e | e
    · exact hp.2 e
    · omega
  · have := h.kept.size
    rcases k.news i e with e | e
    · exact h.news i e
    · exact .inr (by omega)
theorem own_typesK {w : World} {b e sz n b' e' sz' n' : Nat} {v v' : Value} {xs xs' : List Value} (h : w.ownsRow b e sz v n xs) (h' : w.ownsRow b' e' sz' v' n' xs') (he : e ≠ e') : ∀ k, v.ownBlock = some k → v'.ownBlock ≠ some k := by
  intro k hk
  rcases h.2 with ⟨rfl, _⟩ | ⟨g, cap, cur, rfl, _, hh, _⟩
  · simp [Value.ownBlock] at hk
  · obtain rfl : g = k := by simpa [Value.ownBlock] using hk
    exact own_typeK h' hh he
theorem want_step {w w' : World} {base R b2 n : Nat} {v u : Value} {xs : List Lo} {ys : List Value} (hw : w.ownsRow b2 67 2 u n ys) (t : Rt w base R v xs) (k : RS w w' R v) : w'.ownsRow b2 67 2 u n ys :=
  own_keptK hw k (fun b hb => ⟨fun e => own_typeK hw t.self (by decide) (e ▸ hb), own_typesK hw t.own (by decide) b hb⟩)
theorem any_iff {ys : List Lo} {x c : List UInt8} : ys.any (fun z => decide (z.t = x ∧ z.c = c)) = true ↔ ∃ z ∈ ys, z.t = x ∧ z.c = c := by
  rw [List.any_eq_true]
  constructor
  · rintro ⟨z, hz, h⟩
    exact ⟨z, hz, by simpa using h⟩
  · rintro ⟨z, hz, h⟩
    exact ⟨z, hz, by simpa using h⟩
/-- One cell of the row is written. -/
theorem Rt.write {w : World} {base R g n cap : Nat} {xs : List Lo} (t : Rt w base R (.slice (some ⟨g, 0, none⟩) n cap) xs) (k : Nat) (hk : k < xs.length) (b : Bool) :
    Rt (w.setCell ⟨g, k * 3 + 2, none⟩ (.bool b)) base R (.slice (some ⟨g, 0, none⟩) n cap) (xs.set k ⟨xs[k].t, xs[k].c, b⟩) ∧ RStp w (w.setCell ⟨g, k * 3 + 2, none⟩ (.bool b)) R (.slice (some ⟨g, 0, none⟩) n cap) (.slice (some ⟨g, 0, none⟩) n cap) := by
  have hn : n = xs.length := by
    rcases t.own.2 with ⟨h', _⟩ | ⟨g', cap', cur, h', _⟩
    · cases h'
    · injection h' with _ h' _
  subst hn
  have hs := World.ownsRow.stored t.own (k * 3 + 2) (.bool b)
  rw [row3_set xs k hk b] at hs
  have hgR : g ≠ R := fun e => t.ne (by simp [Value.ownBlock, e])
  refine ⟨⟨?_, by simpa using hs.1, by simpa using t.few, t.low⟩, (Kept.refl _ _).setCell (by simp [Value.ownBlock]) _, fun _ h => .inl h⟩
  rw [Below.heap_setCell _ _ _ _ (Ne.symm hgR)]
  exact t.self

set_option maxRecDepth 100000 in
set_option maxHeartbeats 8000000 in
theorem rtake_any {w : World} {base R b2 : Nat} {v u : Value} {xs : List Lo} (t : Rt w base R v xs) (hb : base ≤ w.heap.size) (x : List UInt8) {l : List (List UInt8 × Bool)} (hw : w.ownsRow b2 67 2 u l.length (row2 l)) (hn : xs.length + l.length ≤ 1000) :
    Calls Try.prog 17 #[.pointer (some ⟨R, 0, none⟩), .string ⟨x.toArray⟩, u] w fun e w' => ETake e w w' base R v xs x l := by
  obtain ⟨ao, cap, rfl, hg⟩ := t.shape
  have HT : Hid (Rt w base R (.slice ao xs.length cap) xs) := t
  have HG : Hid (0 < xs.length → ∃ g, ao = some ⟨g, 0, none⟩) := hg
  obtain ⟨au, cu, e, hu⟩ := row2_wn hw
  subst e
  have HW : Hid (w.ownsRow b2 67 2 (.slice au l.length cu) l.length (row2 l)) := hw
  have HUG : Hid (0 < l.length → ∃ g, au = some ⟨g, 0, none⟩) := by
    intro h0
    rcases hw.2 with ⟨_, h'⟩ | ⟨g, cap', cur, h', _⟩
    · omega
    · injection h' with h' _ _
      exact ⟨g, h'⟩
  clear t hg hw hu
  by_cases hx0 : x = []
  · subst hx0
    go_enter Try.func17, Try.ntmps17
    go_wp2_with fail
    go_ret
    unfold ETake
    exact ⟨1, _, xs, rfl, .inl ⟨rfl, rfl, rfl⟩, HT.out, Kept.refl _ _⟩
  · have hxe : (x == []) = false := beq_eq_false_iff_ne.2 hx0
    have HX : Hid (x ≠ []) := hx0
    clear hx0
    go_enter Try.func17, Try.ntmps17
    go_wp2_with fail
    go_loopw [7, 8, 9] (fun t7 _ _ wr => ∃ i : Nat, i ≤ l.length ∧ t7 = .int .i64 (i : Nat) ∧ (∀ q ∈ l.take i, ∀ z ∈ xs, ¬ ill1 x q z) ∧ Kept (fun _ => True) w wr) (fun t7 _ _ _ => l.length - (intOf t7).toNat)
    case atStart => exact ⟨0, Nat.zero_le _, rfl, by simp, Kept.refl _ _⟩
    case round =>
      obtain ⟨i, hi, rfl, hni, hk⟩ := hrel
      have HNI : Hid (∀ q ∈ l.take i, ∀ z ∈ xs, ¬ ill1 x q z) := hni
      have HK : Hid (Kept (fun _ => True) w wr) := hk
      clear hni hk
      have ib : (i : Int) ≤ 1000 := by omega
      by_cases hlt : i < l.length
      · obtain ⟨gu, rfl⟩ := HUG.out (by omega)
        have i1 : (i : Int) < (l.length : Int) := by omega
        have i0 : (0 : Int) ≤ (i : Int) := by omega
        have HQC : Hid (∀ W, Kept (fun _ => True) w W → W.cell? ⟨gu, i * 2, none⟩ = some (.string ⟨(l[i].1).toArray⟩) ∧ W.cell? ⟨gu, i * 2 + 1, none⟩ = some (.bool l[i].2)) := fun W kk => by
          have ho := own_keptK HW.out kk (fun _ _ => trivial)
          exact ⟨(ho.cellAt (i * 2 + 0) (by omega)).trans (row2_get l i hlt 0 (by omega)), (ho.cellAt (i * 2 + 1) (by omega)).trans (row2_get l i hlt 1 (by omega))⟩
        have HTK : Hid (l.take (i + 1) = l.take i ++ [l[i]] ∧ l[i] ∈ l) := ⟨List.take_succ_eq_append_getElem hlt, List.getElem_mem hlt⟩
        generalize l[i] = q at *
        obtain ⟨c, wt⟩ := q
        go_wp2_with fail
        generalize wr = w2 at *
        go_loopw [8, 9] (fun t8 _ wr => ∃ k : Nat, k ≤ xs.length ∧ t8 = .int .i64 (k : Nat) ∧ (∀ z ∈ xs.take k, ¬ ill1 x (c, wt) z) ∧ Kept (fun _ => True) w wr) (fun t8 _ _ => xs.length - (intOf t8).toNat)
        case atStart => exact ⟨0, Nat.zero_le _, rfl, by simp, HK.out⟩
        case round =>
          obtain ⟨k, hk, rfl, hnk, hkk⟩ := hrel
          have HNK : Hid (∀ z ∈ xs.take k, ¬ ill1 x (c, wt) z) := hnk
          have HKK : Hid (Kept (fun _ => True) w wr) := hkk
          have HTr : Hid (Rt wr base R (.slice ao xs.length cap) xs) := HT.out.all hkk
          have q0 := HTr.out.cell0.1
          have kb : (k : Int) ≤ 1000 := by omega
          clear hnk hkk
          by_cases hlt2 : k < xs.length
          · obtain ⟨g, rfl⟩ := HG.out (by omega)
            obtain ⟨d0, d1, d2⟩ := own_cells HTr.out.own k hlt2
            have HS : Hid (xs.take (k + 1) = xs.take k ++ [xs[k]] ∧ xs[k] ∈ xs) := ⟨List.take_succ_eq_append_getElem hlt2, List.getElem_mem hlt2⟩
            have k1 : (k : Int) < (xs.length : Int) := by omega
            have k0 : (0 : Int) ≤ (k : Int) := by omega
            generalize xs[k] = z at *
            obtain ⟨zt, zc, zw⟩ := z
            simp only at d0 d1 d2
            have HK3 : Hid (Kept (fun _ => True) w (wr.alloc (.cells #[.string ⟨zt.toArray⟩, .string ⟨zc.toArray⟩, .bool zw] 69))) := HKK.out.alloc _
            obtain ⟨s0, s1⟩ := HQC.out _ HK3.out
            go_upto_region 10 with fail
            obtain ⟨il, hil⟩ : ∃ il : Bool, il = true ↔ ill1 x (c, wt) ⟨zt, zc, zw⟩ := by
              rcases Classical.em (ill1 x (c, wt) ⟨zt, zc, zw⟩) with h | h
              · exact ⟨true, by simp [h]⟩
              · exact ⟨false, by simp [h]⟩
            have HIL : Hid (il = true ↔ ill1 x (c, wt) ⟨zt, zc, zw⟩) := hil
            clear hil
            go_cut [63] from 37 to 62 (fun tt wx => tt = .bool il ∧ Kept (fun _ => True) w wx)
            case first =>
              by_cases h1 : zt = x
              · have hil : il = false := by
                  cases il with
                  | false => rfl
                  | true => exact absurd h1 (HIL.out.1 rfl).1
                subst h1 hil
                go_quiet (fail)
                go_wp2_with fail
                go_meet
                exact ⟨rfl, HK3.out.drewN _⟩
              · have h1' : (zt == x) = false := beq_eq_false_iff_ne.2 h1
                by_cases h2 : zc = c
                · subst h2
                  cases zw with
                  | true =>
                    have hil : il = true := HIL.out.2 ⟨h1, rfl, .inl rfl⟩
                    subst hil
                    clear h1
                    go_quiet (fail)
                    go_wp2_with fail
                    go_meet
                    exact ⟨rfl, HK3.out.drewN _⟩
                  | false =>
                    have hil : il = wt := by
                      cases wt with
                      | true => exact HIL.out.2 ⟨h1, rfl, .inr rfl⟩
                      | false =>
                        cases il with
                        | false => rfl
                        | true =>
                          rcases (HIL.out.1 rfl).2.2 with h | h <;> cases h
                    subst hil
                    clear h1
                    go_quiet (fail)
                    go_wp2_with fail
                    go_meet
                    exact ⟨rfl, HK3.out.drewN _⟩
                · have h2' : (zc == c) = false := beq_eq_false_iff_ne.2 h2
                  have hil : il = false := by
                    cases il with
                    | false => rfl
                    | true => exact absurd (HIL.out.1 rfl).2.1 h2
                  subst hil
                  clear h1 h2
                  go_quiet (fail)
                  go_wp2_with fail
                  go_meet
                  exact ⟨rfl, HK3.out.drewN _⟩
            case rest =>
            obtain ⟨rfl, k4⟩ := hcut
            have HK4 : Hid (Kept (fun _ => True) w wc) := k4
            clear k4 s0 s1 d0 d1 d2 q0
            cases il with
            | true =>
              go_wp2_with fail
              go_ret
              unfold ETake
              exact ⟨35, _, xs, rfl, .inr (.inl ⟨HX.out, ⟨(c, wt), HTK.out.2, _, HS.out.2, HIL.out.1 (by trivial)⟩, rfl, rfl⟩), HT.out.all HK4.out, HK4.out.mono (fun _ _ _ => trivial)⟩
            | false =>
              go_wp2_with fail
              go_roundw
              case rel =>
                refine ⟨k + 1, by omega, by go_num, fun z hz => ?_, HK4.out⟩
                rw [HS.out.1, List.mem_append, List.mem_singleton] at hz
                rcases hz with hz | rfl
                · exact HNK.out z hz
                · intro hill
                  have := HIL.out.2 hill
                  cases this
              case measure => simp [intOf]; omega
          · have k1 : ¬ (k : Int) < (xs.length : Int) := by omega
            have HE : Hid (xs.take k = xs) := List.take_of_length_le (by omega)
            go_wp2_with fail
            go_roundw
            case rel =>
              refine ⟨i + 1, by omega, by go_num, fun q hq z hz => ?_, HKK.out⟩
              rw [HTK.out.1, List.mem_append, List.mem_singleton] at hq
              rcases hq with hq | rfl
              · exact HNI.out q hq z hz
              · exact HNK.out z (by rw [HE.out]; exact hz)
            case measure => simp [intOf]; omega
      · have i1 : ¬ (i : Int) < (l.length : Int) := by omega
        have HAll : Hid (∀ q ∈ l, ∀ z ∈ xs, ¬ ill1 x q z) := by
          have := HNI.out
          rwa [List.take_of_length_le (by omega)] at this
        clear HNI
        go_wp2_with fail
        generalize wr = w2 at *
        go_loopw [10, 11, 12] (fun t10 _ _ wr => ∃ (i : Nat) (v' : Value), i ≤ l.length ∧ t10 = .int .i64 (i : Nat) ∧ Rt wr base R v' (lgives xs x (l.take i)) ∧ RStp w wr R (.slice ao xs.length cap) v' ∧ wr.ownsRow b2 67 2 (.slice au l.length cu) l.length (row2 l)) (fun t10 _ _ _ => l.length - (intOf t10).toNat)
        case atStart => exact ⟨0, _, Nat.zero_le _, rfl, HT.out.all HK.out, ⟨HK.out.mono (fun _ _ _ => trivial), fun _ h => .inl h⟩, own_keptK HW.out HK.out (fun _ _ => trivial)⟩
        case round =>
          obtain ⟨j, v', hj, rfl, hT, hS, hWr⟩ := hrel
          have HLN : Hid ((lgives xs x (l.take j)).length ≤ xs.length + j) := by
            have := lgives_length xs x (l.take j)
            simp only [List.length_take] at this
            show _ ≤ _
            omega
          obtain ⟨a3, c3, rfl, hg3⟩ := hT.shape
          have HT3 : Hid (Rt wr base R (.slice a3 (lgives xs x (l.take j)).length c3) (lgives xs x (l.take j))) := hT
          have HS3 : Hid (RStp w wr R (.slice ao xs.length cap) (.slice a3 (lgives xs x (l.take j)).length c3)) := hS
          have HW3 : Hid (wr.ownsRow b2 67 2 (.slice au l.length cu) l.length (row2 l)) := hWr
          have HG3 : Hid (0 < (lgives xs x (l.take j)).length → ∃ g, a3 = some ⟨g, 0, none⟩) := hg3
          clear hT hS hWr hg3
          have jb : (j : Int) ≤ 1000 := by omega
          by_cases hlt : j < l.length
          · obtain ⟨gu, rfl⟩ := HUG.out (by omega)
            have j1 : (j : Int) < (l.length : Int) := by omega
            have j0 : (0 : Int) ≤ (j : Int) := by omega
            have HQC : Hid (∀ W : World, W.ownsRow b2 67 2 (.slice (some ⟨gu, 0, none⟩) l.length cu) l.length (row2 l) → W.cell? ⟨gu, j * 2, none⟩ = some (.string ⟨(l[j].1).toArray⟩) ∧ W.cell? ⟨gu, j * 2 + 1, none⟩ = some (.bool l[j].2)) := fun W ho => ⟨(ho.cellAt (j * 2 + 0) (by omega)).trans (row2_get l j hlt 0 (by omega)), (ho.cellAt (j * 2 + 1) (by omega)).trans (row2_get l j hlt 1 (by omega))⟩
            have HTK : Hid (lgives xs x (l.take (j + 1)) = lgive (lgives xs x (l.take j)) x l[j].1 l[j].2) := lgives_take xs x l j hlt
            generalize lgives xs x (l.take j) = ys at *
            generalize l[j] = q at *
            obtain ⟨c, wt⟩ := q
            have hyl : ys.length ≤ 999 := by have := HLN.out; omega
            go_wp2_with fail
            generalize wr = w3 at *
            go_loopw [11, 12] (fun t11 t12 wr => ∃ (k : Nat) (hd : Bool), k ≤ ys.length ∧ t12 = .int .i64 (k : Nat) ∧ t11 = .bool hd ∧ (hd = true ↔ ∃ z ∈ ys.take k, z.t = x ∧ z.c = c) ∧ Rt wr base R (.slice a3 ys.length c3) (mid x c wt ys k) ∧ RStp w wr R (.slice ao xs.length cap) (.slice a3 ys.length c3) ∧ wr.ownsRow b2 67 2 (.slice (some ⟨gu, 0, none⟩) l.length cu) l.length (row2 l)) (fun _ t12 _ => ys.length - (intOf t12).toNat)
            case atStart => exact ⟨0, false, Nat.zero_le _, rfl, rfl, by simp, by rw [mid_zero]; exact HT3.out, HS3.out, HW3.out⟩
            case round =>
              obtain ⟨k, hd, hk, rfl, rfl, hhd, hT, hS, hWr⟩ := hrel
              have HHD : Hid (hd = true ↔ ∃ z ∈ ys.take k, z.t = x ∧ z.c = c) := hhd
              have HT4 : Hid (Rt wr base R (.slice a3 ys.length c3) (mid x c wt ys k)) := hT
              have HS4 : Hid (RStp w wr R (.slice ao xs.length cap) (.slice a3 ys.length c3)) := hS
              have HW4 : Hid (wr.ownsRow b2 67 2 (.slice (some ⟨gu, 0, none⟩) l.length cu) l.length (row2 l)) := hWr
              have q0 := hT.cell0.1
              have kb : (k : Int) ≤ 1000 := by omega
              clear hhd hT hS hWr
              by_cases hlt2 : k < ys.length
              · obtain ⟨g, rfl⟩ := HG3.out (by omega)
                have hml : k < (mid x c wt ys k).length := by rw [mid_length]; exact hlt2
                have hoc := own_cells HT4.out.own k hml
                rw [mid_at x c wt ys k hlt2] at hoc
                obtain ⟨d0, d1, d2⟩ := hoc
                have HSM : Hid ((∃ z ∈ ys.take (k + 1), z.t = x ∧ z.c = c) ↔ (∃ z ∈ ys.take k, z.t = x ∧ z.c = c) ∨ (ys[k].t = x ∧ ys[k].c = c)) := take_some hlt2 (P := fun z => z.t = x ∧ z.c = c)
                have HNX : Hid (mid x c wt ys (k + 1) = (mid x c wt ys k).set k (lup x c wt ys[k])) := mid_next x c wt ys k hlt2
                have HPS : Hid (¬ (ys[k].t = x ∧ ys[k].c = c) → mid x c wt ys (k + 1) = mid x c wt ys k) := mid_pass x c wt ys k hlt2
                have HAT : Hid ((mid x c wt ys k)[k]'hml = ys[k]) := mid_at x c wt ys k hlt2
                have HWRT : Hid (∀ (W : World) (b : Bool), Rt W base R (.slice (some ⟨g, 0, none⟩) ys.length c3) (mid x c wt ys k) → Rt (W.setCell ⟨g, k * 3 + 2, none⟩ (.bool b)) base R (.slice (some ⟨g, 0, none⟩) ys.length c3) ((mid x c wt ys k).set k ⟨ys[k].t, ys[k].c, b⟩) ∧ RStp W (W.setCell ⟨g, k * 3 + 2, none⟩ (.bool b)) R (.slice (some ⟨g, 0, none⟩) ys.length c3) (.slice (some ⟨g, 0, none⟩) ys.length c3)) := fun W b h => by
                  have := h.write k hml b
                  rwa [mid_at x c wt ys k hlt2] at this
                have k1 : (k : Int) < (ys.length : Int) := by omega
                have k0 : (0 : Int) ≤ (k : Int) := by omega
                obtain ⟨s0, s1⟩ := HQC.out wr HW4.out
                clear hml HAT
                generalize ys[k] = z at *
                obtain ⟨zt, zc, zw⟩ := z
                simp only at d0 d1 d2
                obtain ⟨mt, hmt⟩ : ∃ mt : Bool, mt = true ↔ zt = x ∧ zc = c := ⟨decide (zt = x ∧ zc = c), by simp⟩
                have HMT : Hid (mt = true ↔ zt = x ∧ zc = c) := hmt
                clear hmt
                go_upto_region 19 with fail
                go_cut [105] from 79 to 104 (fun tt wx => tt = .bool mt ∧ Kept (fun _ => True) wr wx)
                case first =>
                  by_cases h1 : zt = x
                  · subst h1
                    by_cases h2 : zc = c
                    · subst h2
                      have hmt : mt = true := HMT.out.2 ⟨rfl, rfl⟩
                      subst hmt
                      go_quiet (fail)
                      go_wp2_with fail
                      go_meet
                      exact ⟨rfl, (Kept.refl _ _).drewN _⟩
                    · have h2' : (zc == c) = false := beq_eq_false_iff_ne.2 h2
                      have hmt : mt = false := by
                        cases mt with
                        | false => rfl
                        | true => exact absurd (HMT.out.1 rfl).2 h2
                      subst hmt
                      clear h2
                      go_quiet (fail)
                      go_wp2_with fail
                      go_meet
                      exact ⟨rfl, (Kept.refl _ _).drewN _⟩
                  · have h1' : (zt == x) = false := beq_eq_false_iff_ne.2 h1
                    have hmt : mt = false := by
                      cases mt with
                      | false => rfl
                      | true => exact absurd (HMT.out.1 rfl).1 h1
                    subst hmt
                    clear h1
                    go_quiet (fail)
                    go_wp2_with fail
                    go_meet
                    exact ⟨rfl, (Kept.refl _ _).drewN _⟩
                case rest =>
                obtain ⟨rfl, k5⟩ := hcut
                have HT5 : Hid (Rt wc base R (.slice (some ⟨g, 0, none⟩) ys.length c3) (mid x c wt ys k)) := HT4.out.all k5
                have HS5 : Hid (RStp w wc R (.slice ao xs.length cap) (.slice (some ⟨g, 0, none⟩) ys.length c3)) := HS4.out.trans ⟨k5.mono (fun _ _ _ => trivial), fun _ h => .inl h⟩
                have HW5 : Hid (wc.ownsRow b2 67 2 (.slice (some ⟨gu, 0, none⟩) l.length cu) l.length (row2 l)) := own_keptK HW4.out k5 (fun _ _ => trivial)
                have e2 := cell_kept k5 d2 trivial
                have e0 := cell_kept k5 q0 trivial
                have e1 := cell_kept k5 s1 trivial
                have ef : wc.frozen? ⟨g, k * 3 + 2, none⟩ = false := by
                  have ho := HT5.out.own
                  rw [mid_length] at ho
                  exact World.ownsRow.frozenAt ho _
                clear k5 d0 d1 d2 q0 s0 s1 HT4 HS4 HW4
                cases mt with
                | true =>
                  obtain ⟨rfl, rfl⟩ := HMT.out.1 (by trivial)
                  have HTD : Hid (Rt wc.drew base R (.slice (some ⟨g, 0, none⟩) ys.length c3) (mid zt zc wt ys k)) := HT5.out.all ((Kept.refl _ _).drew)
                  have HSD : Hid (RStp w wc.drew R (.slice ao xs.length cap) (.slice (some ⟨g, 0, none⟩) ys.length c3)) := HS5.out.trans ⟨(Kept.refl _ _).drew, fun _ h => .inl h⟩
                  have HWD : Hid (wc.drew.ownsRow b2 67 2 (.slice (some ⟨gu, 0, none⟩) l.length cu) l.length (row2 l)) := own_keptK HW5.out ((Kept.refl (fun _ => True) _).drew) (fun _ _ => trivial)
                  have HMS : Hid (mid zt zc wt ys (k + 1) = (mid zt zc wt ys k).set k ⟨zt, zc, zw || wt⟩) := by
                    show _ = _
                    rw [HNX.out]
                    simp [lup]
                  cases zw with
                  | true =>
                    go_upto_region 21 with fail
                    go_region
                    all_goals (
                      go_wp2_with fail
                      go_roundw
                      case rel =>
                        obtain ⟨y1, y2⟩ := HWRT.out wc.drew true HTD.out
                        exact ⟨k + 1, true, by omega, by go_num, rfl, ⟨fun _ => HSM.out.2 (.inr ⟨rfl, rfl⟩), fun _ => rfl⟩, by rw [HMS.out]; exact y1, HSD.out.trans y2, want_step HWD.out HTD.out y2.kept⟩
                      case measure => simp [intOf]; omega)
                  | false =>
                    go_upto_region 21 with fail
                    go_region
                    all_goals (
                      go_wp2_with fail
                      go_roundw
                      case rel =>
                        obtain ⟨y1, y2⟩ := HWRT.out wc.drew wt HTD.out
                        exact ⟨k + 1, true, by omega, by go_num, rfl, ⟨fun _ => HSM.out.2 (.inr ⟨rfl, rfl⟩), fun _ => rfl⟩, by rw [HMS.out]; exact y1, HSD.out.trans y2, want_step HWD.out HTD.out y2.kept⟩
                      case measure => simp [intOf]; omega)
                | false =>
                  have HNO : Hid (¬ (zt = x ∧ zc = c)) := fun h => by
                    have := HMT.out.2 h
                    cases this
                  go_wp2_with fail
                  go_roundw
                  case rel =>
                    refine ⟨k + 1, hd, by omega, by go_num, rfl, ?_, by rw [HPS.out HNO.out]; exact HT5.out, HS5.out, HW5.out⟩
                    rw [HHD.out, HSM.out]
                    exact ⟨.inl, fun h => h.resolve_right HNO.out⟩
                  case measure => simp [intOf]; omega
              · have k1 : ¬ (k : Int) < (ys.length : Int) := by omega
                obtain rfl : k = ys.length := by omega
                have hm := HT4.out
                rw [mid_all] at hm
                have HT5 : Hid (Rt wr base R (.slice a3 ys.length c3) (ys.map (lup x c wt))) := hm
                have HH2 : Hid (hd = true ↔ ys.any (fun z => decide (z.t = x ∧ z.c = c)) = true) := by
                  show _ ↔ _
                  rw [HHD.out, any_iff, List.take_length]
                clear hm HT4 HHD
                cases hd with
                | true =>
                  have HLG : Hid (lgive ys x c wt = ys.map (lup x c wt)) := by
                    show _ = _
                    unfold lgive
                    rw [if_pos (HH2.out.1 rfl)]
                    simp
                  go_wp2_with fail
                  go_roundw
                  case rel =>
                    refine ⟨j + 1, _, by omega, by go_num, ?_, HS4.out, HW4.out⟩
                    rw [HTK.out, HLG.out]
                    exact HT5.out
                  case measure => simp [intOf]; omega
                | false =>
                  have HLG : Hid (lgive ys x c wt = ys.map (lup x c wt) ++ [⟨x, c, wt⟩]) := by
                    show _ = _
                    unfold lgive
                    rw [if_neg (fun h => by have := HH2.out.2 h; cases this)]
                  obtain ⟨s0, s1⟩ := HQC.out wr HW4.out
                  have HO5 : Hid (wr.ownsRow base 69 3 (.slice a3 ys.length c3) ys.length (row3 (ys.map (lup x c wt)))) := by
                    have := HT5.out.own
                    rwa [List.length_map] at this
                  have kd : Kept (fun _ => True) wr wr.drew := (Kept.refl _ _).drew
                  have HSZ : Hid (∀ o : Obj, base ≤ (wr.drew.alloc o).heap.size) := fun o => Nat.le_trans hb (Nat.le_trans HS4.out.kept.size (kd.alloc o).size)
                  have hRl := HT5.out.lt
                  have hRne := HT5.out.ne
                  have HST : Hid (∀ (w7 : World) (nv : Value) (o : Obj), (wr.drew.alloc o).grownBy w7 (Value.slice a3 ys.length c3).ownBlock → w7.cell? ⟨R, 0, none⟩ = some (.slice a3 ys.length c3) ∧ w7.frozen? ⟨R, 0, none⟩ = false ∧ Kept (fun k => (Value.slice a3 ys.length c3).ownBlock ≠ some k) wr w7) := fun w7 nv o g7 => by
                    have k7 : Kept (fun k => (Value.slice a3 ys.length c3).ownBlock ≠ some k) wr w7 := ((kd.alloc o).mono (fun _ _ _ => trivial)).grown g7 (fun i _ e q => q e)
                    have hs : w7.heap[R]? = some (.cells #[.slice a3 ys.length c3] 41 (0, 0)) := (k7.block R hRl hRne).trans HT5.out.self
                    exact ⟨by simp [World.cell?, hs], by simp [World.frozen?, hs], k7⟩
                  go_upto_region 23 with fail
                  go_region_law (refine step_append_cells Try.underlying39 Try.infoLock cells_lock (by decide) (by decide) ?_ (.tmp 136) (.tmp 143) ?_ base (.slice a3 ys.length c3) ys.length (row3 (ys.map (lup x c wt))) ?_ (own_keptK HO5.out (kd.alloc _) (fun _ _ => trivial)) (HSZ.out _) wr.heap.size ?_ (lk3 ⟨x, c, wt⟩) rfl (lk3_one _) (0, 0) (lk3_block (w := wr.drew) _ _ _) (by omega) ?_; rfl; rfl; rfl; rfl; intro a7 c7 w7 t7 g7 at7; obtain ⟨z0, z1, k7⟩ := HST.out w7 (.slice a7 (ys.length + 1) c7) _ g7; have HO7 : Hid (w7.ownsRow base 69 3 (.slice a7 (ys.length + 1) c7) (ys.length + 1) (row3 (ys.map (lup x c wt)) ++ lk3 ⟨x, c, wt⟩)) := t7; have HK7 : Hid (Kept (fun k => (Value.slice a3 ys.length c3).ownBlock ≠ some k) wr w7) := k7; have HN7 : Hid (∀ k, (Value.slice a7 (ys.length + 1) c7).ownBlock = some k → (Value.slice a3 ys.length c3).ownBlock = some k ∨ wr.heap.size ≤ k) := (fun k hk => by rcases at7 with h | h; exact .inl (h ▸ hk); (rw [h] at hk; cases hk; exact .inr (kd.alloc _).size)); clear t7 g7 at7 k7)
                  all_goals (
                    go_wp2_with fail
                    go_roundw
                    case rel =>
                      have hlen : (ys.map (lup x c wt) ++ [(⟨x, c, wt⟩ : Lo)]).length = ys.length + 1 := by simp
                      obtain ⟨y1, y2⟩ := HT5.out.swap (ys := ys.map (lup x c wt) ++ [⟨x, c, wt⟩]) HK7.out (by rw [hlen, row3_append]; exact HO7.out) (by rw [hlen]; omega)
                      exact ⟨j + 1, _, by omega, by go_num, by rw [HTK.out, HLG.out]; exact y1, HS4.out.trans ⟨y2, HN7.out⟩, want_step HW4.out HT5.out y2⟩
                    case measure => simp [intOf]; omega)
          · have j1 : ¬ (j : Int) < (l.length : Int) := by omega
            obtain rfl : j = l.length := by omega
            have hT := HT3.out
            have HE : Hid (l.take l.length = l) := List.take_length
            go_wp2_with fail
            go_ret
            unfold ETake
            rw [HE.out] at hT
            exact ⟨0, _, _, rfl, .inr (.inr ⟨HX.out, HAll.out, rfl, rfl⟩), hT, HS3.out.kept⟩

end Go.Proofs.Ytkinpgkckbocpaa
