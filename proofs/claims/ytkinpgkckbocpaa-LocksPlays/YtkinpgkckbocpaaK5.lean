/-
  give.
-/
import Derived.Test.YtkinpgkckbocpaaK4
import Derived.Deep.RegionHeld3
import Derived.Deep.CutRange
namespace Go.Proofs.Ytkinpgkckbocpaa
open Go.RowKit Go.Maps

theorem Sd.labels {α : Type} {C : Code α} {s : Bool} {w : World} {n : Nat} {B B' : Lab → Option Nat} {f : List UInt8 → List UInt8 → Option α} (S : Sd C s w n B f) (e : ∀ x, B' (s, x) = B (s, x)) : Sd C s w n B' f := by
  obtain ⟨H, hH, m⟩ := S.out
  refine ⟨⟨H, by rw [e]; exact hH, m.congr (fun x => by rw [e])⟩, fun x k h => S.inn x k (by rw [← e]; exact h), fun x h => S.non x (by rw [← e]; exact h), fun x k h => S.any x k (by rw [← e]; exact h)⟩
/-- Both sides are put into, one behind the other. -/
theorem Tw.two {w w1 w2 : World} {T n m : Nat} {B B1 B2 : Lab → Option Nat} {f f' : Lk} {g g' : List UInt8 → List UInt8 → Option Unit} (t : Tw w T n B f g) (SL : Sd codeH false w1 m B1 f') (P1 : Puts false B w w1 B1) (SR : Sd codeU true w2 m B2 g') (P2 : Puts true B1 w1 w2 B2) : Tw w2 T m B2 f' g' ∧ Stp B w w2 B2 := by
  have lt0 : ∀ x b, B x = some b → b < w.heap.size := fun x b e => t.lt e
  have hz := P1.kept.size
  have o1 : ∀ x, B1 (true, x) = B (true, x) := fun x => P1.other (true, x) (by simp)
  have o2 : ∀ x, B2 (false, x) = B1 (false, x) := fun x => P2.other (false, x) (by simp)
  have n1 : ∀ x b, B1 x = some b → B x = some b ∨ w.heap.size ≤ b := by
    rintro ⟨_ | _, x⟩ b e
    · exact P1.news x b e
    · rw [o1] at e
      exact .inl e
  have n2 : ∀ x b, B2 x = some b → B x = some b ∨ w.heap.size ≤ b := by
    rintro ⟨_ | _, x⟩ b e
    · rw [o2] at e
      exact n1 _ b e
    · rcases P2.news x b e with h | h
      · exact n1 _ b h
      · exact .inr (by omega)
  have kk : Kept (fun k => ∀ x, B x ≠ some k) w w2 := (P1.kept.mono (fun i _ h x => h (false, x))).then P2.kept (fun i hi h x e => by
    rw [o1] at e
    exact h _ e)
  have mix : ∀ x y b, B2 (false, x) = some b → B2 (true, y) = some b → False := by
    intro x y b e1 e2
    rw [o2] at e1
    have h1 := SL.lt e1
    rcases P2.news y b e2 with e2 | e2
    · rw [o1] at e2
      have h2 := lt0 _ b e2
      rcases P1.news x b e1 with e1 | e1
      · have := t.apart _ _ b e1 e2
        simp at this
      · omega
    · omega
  obtain ⟨H, D, hH, hD, hs⟩ := t.self
  refine ⟨⟨⟨H, D, ?_, ?_, (kk.block T t.tlt t.self_ne).trans hs⟩, ?_, SR, ?_⟩, kk, n2⟩
  · rw [o2, P1.top]
    exact hH
  · rw [P2.top, o1]
    exact hD
  · refine (SL.labels o2).kept P2.kept ?_
    intro x b e y e2
    rw [o2] at e
    have h1 := SL.lt e
    rw [o1] at e2
    have h2 := lt0 _ b e2
    rcases P1.news x b e with e | e
    · have := t.apart _ _ b e e2
      simp at this
    · omega
  · rintro ⟨_ | _, x⟩ ⟨_ | _, y⟩ b e1 e2
    · rw [o2] at e1 e2
      rw [P1.apart x y b e1 e2]
    · exact absurd (mix x y b e1 e2) (fun h => h)
    · exact absurd (mix y x b e2 e1) (fun h => h)
    · rw [P2.apart x y b e1 e2]
theorem give_upd (h : Lk) (x c : List UInt8) (wr : Bool) : give h x c wr = updF h c x ((h c x).getD false || wr) := rfl
theorem flip_give (h : Lk) (x c : List UInt8) (wr : Bool) : flip (give h x c wr) = updF (flip h) x c () := by
  funext y c'
  unfold flip updF
  by_cases e : c' = c ∧ y = x
  · rw [if_pos ⟨e.2, e.1⟩, e.1, e.2, give_self]
    rfl
  · rw [if_neg (fun z => e ⟨z.2, z.1⟩), give_other _ _ _ _ e]

set_option maxRecDepth 100000 in
set_option maxHeartbeats 2000000 in
theorem give_any {w : World} {T n : Nat} {B : Lab → Option Nat} {h : Lk} (t : Tb w T n B h) {x c : List UInt8} (hx : x.length ≤ 9223372036854775807) (hc : c.length ≤ 9223372036854775807) (wr : Bool) (hn : n ≤ 1000000) :
    Calls Try.prog 26 #[.pointer (some ⟨T, 0, none⟩), .string ⟨x.toArray⟩, .agg #[.string ⟨c.toArray⟩, .bool wr]] w fun e w' => e = .returned (.tuple #[]) ∧ ∃ B', Tb w' T (n + 1) B' (give h x c wr) ∧ Stp B w w' B' := by
  obtain ⟨H, D, hH, hD, hs⟩ := t.self
  have HT : Hid (Tb w T n B h) := t
  have ka : Kept (fun _ => True) w (w.alloc (.cells #[.string ⟨c.toArray⟩, .bool wr] 27)) := (Kept.refl _ _).alloc _
  have kb : Kept (fun _ => True) (w.alloc (.cells #[.string ⟨c.toArray⟩, .bool wr] 27)) ((w.alloc (.cells #[.string ⟨c.toArray⟩, .bool wr] 27)).alloc (.cells #[.bool false] 59)) := (Kept.refl _ _).alloc _
  have t0 := t.all ka
  have t1 := t0.all kb
  have e0 := (tcell ((ka.block T t.tlt trivial).trans hs)).1
  have e1 := (tcell ((kb.block T t0.tlt trivial).trans ((ka.block T t.tlt trivial).trans hs))).1
  have t0d := t0.all ((Kept.refl (fun _ => True) _).drew)
  have t1d := t1.all ((Kept.refl (fun _ => True) _).drew)
  have l0 := t0d.left.look1 hH Try.underlying51 (zeroMapH _) hc
  have l1 := t1d.left.look1 hH Try.underlying51 (zeroMapH _) hc
  have m0 := (t0d.left.inner c).look1 Try.underlying57 (z := false) (zeroHold _) hx
  have m1 := (t1d.left.inner c).look1 Try.underlying57 (z := false) (zeroHold _) hx
  change (Instr.lookup _ _ _ false).run _ _ = .ok (.agg #[.bool ((h c x).getD false)]) _ at m0
  change (Instr.lookup _ _ _ false).run _ _ = .ok (.agg #[.bool ((h c x).getD false)]) _ at m1
  have hV : ∃ v0, v0 = (h c x).getD false := ⟨_, rfl⟩
  obtain ⟨v0, hv0⟩ := hV
  have HV : Hid (v0 = (h c x).getD false) := hv0
  rw [← hv0] at m0 m1
  have hlt := t.tlt
  clear t t0 t1 t0d t1d hs ka kb hv0
  go_enter Try.func26, Try.ntmps26
  go_upto_region 1 with fail
  go_cut [6] from 7 to 15 (fun t6 wx => t6 = .pointer (some ⟨w.heap.size + 1, 0, none⟩) ∧ wx = ((w.alloc (.cells #[.string ⟨c.toArray⟩, .bool wr] 27)).alloc (.cells #[.bool v0] 59)).drew)
  case first =>
    go_region
    all_goals (go_wp2_with fail; go_meet; exact ⟨rfl, rfl⟩)
  case rest =>
  obtain ⟨rfl, hw⟩ := hcut
  generalize wc = wk at *
  clear e0 e1 l0 l1 m0 m1
  have ka : Kept (fun _ => True) w wk := by
    rw [hw]
    exact (((Kept.refl _ _).alloc _).alloc _).drew
  have hb1 : wk.heap[w.heap.size]? = some (.cells #[.string ⟨c.toArray⟩, .bool wr] 27) := by
    rw [hw]
    exact (Below.heap_alloc _ _ _ (by simp)).trans (heap_alloc_new w _)
  have hb2 : wk.heap[w.heap.size + 1]? = some (.cells #[.bool v0] 59) := by
    rw [hw]
    have := heap_alloc_new (w.alloc (.cells #[.string ⟨c.toArray⟩, .bool wr] 27)) (.cells #[.bool v0] 59)
    rw [show (w.alloc (.cells #[.string ⟨c.toArray⟩, .bool wr] 27)).heap.size = w.heap.size + 1 by simp] at this
    exact this
  clear hw
  generalize w.heap.size = G0 at *
  generalize G0 + 1 = G1 at *
  have tc := HT.out.all ka
  have td : Tb wk.drew T n B h := tc.all ((Kept.refl _ _).drew)
  obtain ⟨H', D', hH', hD', hs⟩ := tc.self
  rw [hH] at hH'
  cases hH'
  rw [hD] at hD'
  cases hD'
  have HTD : Hid (Tb wk.drew T n B h) := td
  have HKA : Hid (Kept (fun _ => True) w wk) := ka
  have cp := put_hold td.left (fun x y b e1 e2 => by have := td.apart _ _ b e1 e2; simpa using this) hH hc hx (v0 || wr) hn
  have nT := tc.self_ne
  have nG0 := tc.notMine hb1
  have nG1 := tc.notMine hb2
  have q1 := (tcell hb1).1
  have q2 := (tcell hb1).2
  have q3 : wk.cell? ⟨G1, 0, none⟩ = some (.bool v0) := by simp [World.cell?, hb2]
  have q4 := (tcell hs).1
  have q5 := (tcell hs).2
  have HKC : Hid (∀ W, Kept (fun k => ∀ x, B (false, x) ≠ some k) wk W → W.cell? ⟨T, 1, none⟩ = some (.map (some D)) ∧ W.cell? ⟨G0, 0, none⟩ = some (.string ⟨c.toArray⟩)) := fun W k => ⟨(kept_cell k (World.block_lt_of_cell? wk _ q5) (fun x => nT _)).trans q5, (kept_cell k (World.block_lt_of_cell? wk _ q1) (fun x => nG0 _)).trans q1⟩
  have r1 : ∀ W, Kept (fun k => ∀ x, B (false, x) ≠ some k) wk W → W.cell? ⟨G0, 0, none⟩ = some (.string ⟨c.toArray⟩) := fun W k => (kept_cell k (World.block_lt_of_cell? wk _ q1) (fun x => nG0 _)).trans q1
  have r2 : ∀ W, Kept (fun k => ∀ x, B (false, x) ≠ some k) wk W → W.cell? ⟨G0, 1, none⟩ = some (.bool wr) := fun W k => (kept_cell k (World.block_lt_of_cell? wk _ q2) (fun x => nG0 _)).trans q2
  have r3 : ∀ W, Kept (fun k => ∀ x, B (false, x) ≠ some k) wk W → W.cell? ⟨G1, 0, none⟩ = some (.bool v0) := fun W k => (kept_cell k (World.block_lt_of_cell? wk _ q3) (fun x => nG1 _)).trans q3
  have r4 : ∀ W, Kept (fun k => ∀ x, B (false, x) ≠ some k) wk W → W.cell? ⟨T, 0, none⟩ = some (.map (some H)) := fun W k => (kept_cell k (World.block_lt_of_cell? wk _ q4) (fun x => nT _)).trans q4
  have kd : Kept (fun k => ∀ x, B (false, x) ≠ some k) wk wk.drew := (Kept.refl _ _).drew
  clear hb1 hb2 nG1 tc td hs ka hlt
  obtain ⟨v1, hv1⟩ : ∃ v1, v1 = (v0 || wr) := ⟨_, rfl⟩
  rw [← hv1] at cp
  have HV1 : Hid (v1 = ((h c x).getD false || wr)) := by
    show _ = _
    rw [hv1, HV.out]
  go_upto_region 2 with fail
  go_cut [] from 16 to 30 (fun wx => ∃ B1, Sd codeH false wx (n + 1) B1 (updF h c x v1) ∧ Puts false B wk.drew wx B1)
  case first =>
    cases v0 with
    | true =>
      obtain rfl : v1 = true := by simpa using hv1
      clear hv1
      have d1 := r1 _ kd
      have d3 := r3 _ kd
      have d4 := r4 _ kd
      go_wp2_with fail
      first
      | (go_region_with (first | (go_at_call 33; refine Calls.mono cp ?_; rintro e w2 ⟨rfl, B1, s1, p1⟩)))
      | fail
      all_goals (go_wp2_with fail; go_meet; exact ⟨B1, s1, p1⟩)
    | false =>
      obtain rfl : v1 = wr := by simpa using hv1
      clear hv1
      go_wp2_with fail
      go_region_held (fun W => Kept (fun k => ∀ x, B (false, x) ≠ some k) wk W) (assumption) (first | (go_at_call 33; refine Calls.mono cp ?_; rintro e w2 ⟨rfl, B1, s1, p1⟩; have k2 : Kept (fun k => ∀ x, B (false, x) ≠ some k) wk w2 := kd.trans p1.kept))
      all_goals (go_wp2_with fail; go_meet; exact ⟨B1, s1, p1⟩)
  case rest =>
  obtain ⟨B1, s1, p1⟩ := hcut
  clear cp r1 r2 r3 r4 q1 q2 q3 q4 q5
  have o1 : ∀ x, B1 (true, x) = B (true, x) := fun x => p1.other (true, x) (by simp)
  have sr : Sd codeU true wc n B1 (flip h) := (HTD.out.right.labels o1).kept p1.kept (fun x b e y e2 => by
    rw [o1] at e
    have := HTD.out.apart _ _ b e e2
    simp at this)
  have srd : Sd codeU true wc.drew n B1 (flip h) := sr.kept ((Kept.refl (fun _ => True) _).drew) (fun _ _ _ => trivial)
  have cp := put_unit srd (fun x y b e1 e2 => by
    rw [o1] at e1 e2
    have := HTD.out.apart _ _ b e1 e2
    simpa using this) (by rw [o1]; exact hD) hx hc hn
  have n1 : ∀ x, B1 (true, x) ≠ some T := fun x => by rw [o1]; exact nT _
  have n2 : ∀ x, B1 (true, x) ≠ some G0 := fun x => by rw [o1]; exact nG0 _
  obtain ⟨q1, q2⟩ := HKC.out wc (kd.trans p1.kept)
  have r1 : ∀ W, Kept (fun k => ∀ x, B1 (true, x) ≠ some k) wc W → W.cell? ⟨T, 1, none⟩ = some (.map (some D)) := fun W k => (kept_cell k (World.block_lt_of_cell? wc _ q1) n1).trans q1
  have r2 : ∀ W, Kept (fun k => ∀ x, B1 (true, x) ≠ some k) wc W → W.cell? ⟨G0, 0, none⟩ = some (.string ⟨c.toArray⟩) := fun W k => (kept_cell k (World.block_lt_of_cell? wc _ q2) n2).trans q2
  have S1 : Hid (Sd codeH false wc.drew (n + 1) B1 (updF h c x v1)) := s1.kept ((Kept.refl (fun _ => True) _).drew) (fun _ _ _ => trivial)
  have P1 : Hid (Puts false B wk.drew wc.drew B1) := ⟨p1.kept.drew, p1.other, p1.top, p1.apart, p1.news⟩
  have kd2 : Kept (fun k => ∀ x, B1 (true, x) ≠ some k) wc wc.drew := (Kept.refl _ _).drew
  clear s1 p1 o1 sr srd HKC q1 q2 n1 n2 nT nG0 kd hv1
  go_wp2_with fail
  go_region_held (fun W => Kept (fun k => ∀ x, B1 (true, x) ≠ some k) wc W) (assumption) (first | (go_at_call 34; refine Calls.mono cp ?_; rintro e w2 ⟨rfl, B2, s2, p2⟩; have k2 : Kept (fun k => ∀ x, B1 (true, x) ≠ some k) wc w2 := kd2.trans p2.kept))
  all_goals (
    go_wp2_with fail
    go_end0
    obtain ⟨y1, y2⟩ := HTD.out.two S1.out P1.out s2 p2
    refine ⟨rfl, B2, ?_, (Stp.of B (HKA.out.trans (Kept.refl _ _).drew)).trans y2⟩
    unfold Tb
    rw [flip_give, give_upd, ← HV1.out]
    exact y1)

end Go.Proofs.Ytkinpgkckbocpaa
