/-
  The document's acceptor: Less, Votes, Prepare, Forget.
-/
import Derived.Test.YtnogpjhcpdngcaaB4
namespace Go.Proofs.Ytnogpjhcpdngcaa
open Go.RowKit

/-- The document's acceptor in block E; v is its slice of votes. -/
structure Ra (w : World) (E : Nat) (v : Value) (p : Bl) (L : List Vo) : Prop where
  self : w.heap[E]? = some (.cells #[.int .i64 p.r, .int .i64 p.n, v] 43 (0, 0))
  own : VR w v L
  most : L.length ≤ 512

section
variable {w w' : World} {E : Nat} {v : Value} {p : Bl} {L : List Vo}
theorem Ra.lt (h : Ra w E v p L) : E < w.heap.size := lt_of_block h.self
theorem VR.not_ref (h : Ra w E v p L) {u : Value} {xs : List Vo} (hu : VR w u xs) : ∀ k, u.ownBlock = some k → k ≠ E := by
  intro k hk e
  rcases hu.2 with ⟨rfl, _⟩ | ⟨g, cap, cur, rfl, _, hg, _⟩
  · simp [Value.ownBlock] at hk
  · simp [Value.ownBlock] at hk
    subst hk e
    rw [h.self] at hg
    simp at hg
theorem Ra.kept {q : Nat → Prop} (h : Ra w E v p L) (k : Kept q w w') (hE : q E) (hv : ∀ x, v.ownBlock = some x → q x) : Ra w' E v p L :=
  ⟨(k.block E h.lt hE).trans h.self, h.own.kept k hv, h.most⟩
theorem Ra.all (h : Ra w E v p L) (k : Kept (fun _ => True) w w') : Ra w' E v p L := h.kept k trivial (fun _ _ => trivial)
end

set_option maxHeartbeats 400000 in
theorem rless_raw {w : World} (ar an br bn : Int) :
    Calls Try.prog 18 #[.agg #[.int .i64 ar, .int .i64 an], .agg #[.int .i64 br, .int .i64 bn]] w fun e w' => e = .returned (.bool (less ⟨ar, an⟩ ⟨br, bn⟩)) ∧ Kept (fun _ => True) w w' := by
  by_cases h1 : ar < br
  · go_enter Try.func18, Try.ntmps18
    go_wp2
    go_ret
    exact ⟨by simp [less, h1], ((Kept.refl _ _).alloc _).alloc _⟩
  · by_cases h2 : ar = br
    · subst h2
      go_enter Try.func18, Try.ntmps18
      go_wp2
      go_ret
      exact ⟨by simp [less], ((Kept.refl _ _).alloc _).alloc _⟩
    · have h3 : (ar == br) = false := by simpa using h2
      go_enter Try.func18, Try.ntmps18
      go_wp2
      go_ret
      exact ⟨by simp [less, h1, h2], ((Kept.refl _ _).alloc _).alloc _⟩
theorem rless_any {w : World} (a b : Bl) :
    Calls Try.prog 18 #[.agg #[.int .i64 a.r, .int .i64 a.n], .agg #[.int .i64 b.r, .int .i64 b.n]] w fun e w' => e = .returned (.bool (less a b)) ∧ Kept (fun _ => True) w w' := rless_raw _ _ _ _

/-- Those from a slot on. -/
def fromOn (L : List Vo) (a : Int) : List Vo := L.filter fun x => decide (a ≤ x.s)
theorem fromOn_step {L : List Vo} {a : Int} {i : Nat} (hi : i < L.length) : fromOn (L.take (i + 1)) a = fromOn (L.take i) a ++ (if a ≤ L[i].s then [L[i]] else []) := by
  rw [List.take_succ_eq_append_getElem hi]
  unfold fromOn
  rw [List.filter_append]
  by_cases h : a ≤ L[i].s <;> simp [h]

set_option maxRecDepth 100000 in
set_option maxHeartbeats 1000000 in
theorem rvotes_any {w : World} {E : Nat} {u : Value} {p : Bl} {L : List Vo} (h : Ra w E u p L) (a : Int) :
    Calls Try.prog 24 #[.pointer (some ⟨E, 0, none⟩), .int .i64 a] w fun e w' => ∃ v, e = .returned v ∧ VR w' v (fromOn L a) ∧ Kept (fun _ => True) w w' ∧ (∀ k, v.ownBlock = some k → w.heap.size ≤ k) := by
  have HA : Hid (Ra w E u p L) := h
  obtain ⟨aU, cU, rfl, gU⟩ := h.own.shape
  have GU : Hid (0 < L.length → ∃ g, aU = some ⟨g, 0, none⟩) := gU
  have hL := h.most
  clear h gU
  go_enter Try.func24, Try.ntmps24
  go_wp2
  go_loopw [5, 6] (fun t x wr => ∃ (i : Nat), x = .int .i64 i ∧ i ≤ L.length ∧ VR wr t (fromOn (L.take i) a) ∧ Kept (fun _ => True) w wr ∧ (∀ b, t.ownBlock = some b → w.heap.size ≤ b)) (fun _ x _ => L.length - (intOf x).toNat)
  case atStart => exact ⟨0, rfl, Nat.zero_le _, VR.nil _, Kept.refl _ _, fun b hb => by simp [Value.ownBlock] at hb⟩
  case round =>
    obtain ⟨i, rfl, hi, hv, hk, hnew⟩ := hrel
    obtain ⟨ao, cap, rfl, -⟩ := hv.shape
    have ha := HA.out.all hk
    obtain ⟨c0, c1, c2, f0, f1, f2⟩ := acell ha.self
    have hll : (fromOn (L.take i) a).length ≤ 512 := Nat.le_trans (List.length_filter_le _ _) (by rw [List.length_take]; omega)
    have HV : Hid (VR wr (.slice ao (fromOn (L.take i) a).length cap) (fromOn (L.take i) a)) := hv
    clear hv c0 c1 f0 f1 f2
    by_cases hlt : i < L.length
    · obtain ⟨G, rfl⟩ := GU.out (by omega)
      obtain ⟨y0, y1, y2, y3⟩ := ha.own.cells i hlt
      have HS : Hid (fromOn (L.take (i + 1)) a = fromOn (L.take i) a ++ (if a ≤ L[i].s then [L[i]] else [])) := fromOn_step hlt
      have g1 : (i : Int) < (L.length : Int) := by omega
      have g0 : (0 : Int) ≤ (i : Int) := by omega
      clear ha
      generalize hnx : fromOn (L.take (i + 1)) a = nxt at *
      generalize fromOn (L.take i) a = cur at *
      generalize L[i] = x at *
      obtain ⟨xs, ⟨xr, xn⟩, xv⟩ := x
      simp only at y0 y1 y2 y3
      by_cases hx : a ≤ xs
      · have HN : Hid (nxt = cur ++ [⟨xs, ⟨xr, xn⟩, xv⟩]) := by
          show _ = _
          rw [HS.out, if_pos hx]
        go_wp2_with (at_builtin; refine wpList_append_vote rfl _ _ rfl _ _ cur rfl rfl (HV.out.all ((Kept.refl _ _).alloc _)) _ rfl ⟨xs, ⟨xr, xn⟩, xv⟩ (0, 0) (heap_alloc_new _ _) (by omega) ?_; intro ao' cap' w1 hown hgrow hat)
        go_wp2
        have k1 : Kept (fun _ => True) w w1 := (hk.alloc _).grown hgrow (fun b hb e _ => by have := hnew b e; omega)
        refine ⟨⟨i + 1, by simp, by omega, ?_, k1, fun b hb => ?_⟩, by simp [intOf]; omega⟩
        · rw [hnx, HN.out]
          simpa [VR] using hown
        · rcases hat with h | h
          · exact hnew b (h.symm.trans hb)
          · rw [h] at hb; cases hb; have := hk.size; simp; omega
      · have HN : Hid (nxt = cur) := by
          show _ = _
          rw [HS.out, if_neg hx]; simp
        go_wp2
        refine ⟨⟨i + 1, by simp, by omega, ?_, hk, hnew⟩, by simp [intOf]; omega⟩
        rw [hnx, HN.out]
        exact HV.out
    · have hie : i = L.length := by omega
      subst hie
      go_wp2
      go_ret
      refine ⟨_, rfl, ?_, hk, hnew⟩
      have := HV.out
      rw [List.take_length] at this ⊢
      exact this

theorem Ra.promise {w : World} {E : Nat} {v : Value} {p : Bl} {L : List Vo} (h : Ra w E v p L) (q : Bl) :
    Ra ((w.setCell ⟨E, 0, none⟩ (.int .i64 q.r)).setCell ⟨E, 1, none⟩ (.int .i64 q.n)) E v q L ∧ Kept (· ≠ E) w ((w.setCell ⟨E, 0, none⟩ (.int .i64 q.r)).setCell ⟨E, 1, none⟩ (.int .i64 q.n)) := by
  have k : Kept (fun x => x ≠ E) w ((w.setCell ⟨E, 0, none⟩ (.int .i64 q.r)).setCell ⟨E, 1, none⟩ (.int .i64 q.n)) := ((Kept.refl _ _).setCell (by simp) _).setCell (by simp) _
  exact ⟨⟨ac_set h.self _ _, h.own.kept k (VR.not_ref h h.own), h.most⟩, k⟩
/-- Another slice of votes. -/
theorem Ra.swap {w : World} {E : Nat} {v u : Value} {p : Bl} {L K : List Vo} (h : Ra w E v p L) (hu : VR w u K) (hk : K.length ≤ 512) :
    Ra (w.setCell ⟨E, 2, none⟩ u) E u p K ∧ Kept (· ≠ E) w (w.setCell ⟨E, 2, none⟩ u) := by
  have k : Kept (fun x => x ≠ E) w (w.setCell ⟨E, 2, none⟩ u) := (Kept.refl _ _).setCell (by simp) _
  refine ⟨⟨?_, hu.kept k (VR.not_ref h hu), hk⟩, k⟩
  have hlt := h.lt
  have h' : w.heap[E] = .cells #[.int .i64 p.r, .int .i64 p.n, v] 43 (0, 0) := by simpa [Array.getElem?_eq_getElem hlt] using h.self
  show (w.heap.modify E _)[E]? = _
  rw [Array.getElem?_eq_getElem (by simpa using hlt), Array.getElem_modify_self, h']
  rfl

set_option maxHeartbeats 1000000 in
theorem rprepare_any {w : World} {E : Nat} {u : Value} {p : Bl} {L : List Vo} (h : Ra w E u p L) (b : Bl) (a : Int) :
    Calls Try.prog 20 #[.pointer (some ⟨E, 0, none⟩), .agg #[.int .i64 b.r, .int .i64 b.n], .int .i64 a] w fun e w' => ∃ v, e = .returned (.tuple #[.bool (less p b), v]) ∧ VR w' v (if less p b = true then fromOn L a else []) ∧ Ra w' E u (if less p b = true then b else p) L ∧ Kept (· ≠ E) w w' := by
  have HA : Hid (Ra w E u p L) := h
  clear h
  have c := fun W => rless_any (w := W) p b
  generalize less p b = LL at c ⊢
  go_enter Try.func20, Try.ntmps20
  go_upto_if 14 with fail
  have k1 : Kept (fun _ => True) w (w.alloc (.cells #[.int .i64 b.r, .int .i64 b.n] 26)) := (Kept.refl _ _).alloc _
  have hb := heap_alloc_new w (.cells #[.int .i64 b.r, .int .i64 b.n] 26)
  generalize w.alloc (.cells #[.int .i64 b.r, .int .i64 b.n] 26) = w1 at *
  generalize w.heap.size = B at hb ⊢
  have ha := HA.out.all k1
  have Ha : Hid (Ra w1 E u p L) := ha
  obtain ⟨c0, c1, c2, f0, f1, f2⟩ := acell ha.self
  obtain ⟨d0, d1⟩ := bcell hb
  have hc0 : ∀ W, Kept (fun _ => True) w1 W → W.cell? ⟨E, 0, none⟩ = some (.int .i64 p.r) := fun W k => cell_kept k c0 trivial
  have hc1 : ∀ W, Kept (fun _ => True) w1 W → W.cell? ⟨E, 1, none⟩ = some (.int .i64 p.n) := fun W k => cell_kept k c1 trivial
  have hd0 : ∀ W, Kept (fun _ => True) w1 W → W.cell? ⟨B, 0, none⟩ = some (.int .i64 b.r) := fun W k => cell_kept k d0 trivial
  have hd1 : ∀ W, Kept (fun _ => True) w1 W → W.cell? ⟨B, 1, none⟩ = some (.int .i64 b.n) := fun W k => cell_kept k d1 trivial
  have kd : Kept (fun _ => True) w1 w1.drew := (Kept.refl _ _).drewN 1
  clear ha c0 c1 c2 f0 f1 f2 d0 d1 hb
  go_cut [14] from 8 to 13 (fun t wx => t = .bool (!LL) ∧ Kept (fun _ => True) w1 wx)
  case first =>
    go_wp2_with fail
    go_region_held (fun W => Kept (fun _ => True) w1 W) (assumption) (first | (go_at_call 18; refine Calls.mono (c _) ?_; rintro e w2 ⟨rfl, k2⟩; have k2' : Kept (fun _ => True) w1 w2 := kd.trans k2))
    all_goals (go_wp2_with fail; go_meet; exact ⟨rfl, k2'⟩)
  case rest =>
  obtain ⟨rfl, kc⟩ := hcut
  cases LL
  · go_wp2
    go_ret2
    exact ⟨_, rfl, VR.nil _, HA.out.all (k1.trans kc), (k1.trans kc).mono (fun _ _ _ => trivial)⟩
  · have e0 := hd0 _ kc
    have e1 := hd1 _ kc
    have ha := Ha.out.all kc
    obtain ⟨c0, c1, c2, f0, f1, f2⟩ := acell ha.self
    have c' := rvotes_any (ha.promise b).1 a
    go_wp2_with (go_at_call 24; refine Calls.mono c' ?_; rintro e w3 ⟨v, rfl, v1, v2, v3⟩)
    go_ret2
    have hp := ha.promise b
    exact ⟨v, rfl, v1, hp.1.all v2, ((k1.trans kc).mono (fun _ _ _ => trivial)).trans (hp.2.trans (v2.mono (fun _ _ _ => trivial)))⟩

set_option maxHeartbeats 400000 in
theorem rforget_any {w : World} {E : Nat} {u : Value} {p : Bl} {L : List Vo} (h : Ra w E u p L) (a : Int) :
    Calls Try.prog 23 #[.pointer (some ⟨E, 0, none⟩), .int .i64 a] w fun e w' => ∃ v, e = .returned (.tuple #[]) ∧ Ra w' E v p (fromOn L a) ∧ Kept (· ≠ E) w w' ∧ (∀ k, v.ownBlock = some k → w.heap.size ≤ k) := by
  have HA : Hid (Ra w E u p L) := h
  have c := rvotes_any h a
  clear h
  go_enter Try.func23, Try.ntmps23
  go_wp2_with fail
  refine Calls.mono c ?_
  rintro e w2 ⟨v, rfl, r2, k2, n2⟩
  obtain ⟨c0, c1, c2, f0, f1, f2⟩ := acell (HA.out.all k2).self
  obtain ⟨aV, cV, rfl, -⟩ := r2.shape
  go_wp2_with fail
  go_end0
  obtain ⟨h3, k3⟩ := (HA.out.all k2).swap r2 (Nat.le_trans (List.length_filter_le _ _) HA.out.most)
  exact ⟨_, rfl, h3, (k2.mono (fun _ _ _ => trivial)).trans k3, n2⟩

end Go.Proofs.Ytnogpjhcpdngcaa
