/-
  The program's net: Pending.
-/
import Derived.Test.YtlgcecndfejngaaN6
namespace Go.Proofs.Ytlgcecndfejngaa
open Go.RowKit

theorem set3 (L : List Value) (i : Nat) (a b c : Value) (h : i + 2 < L.length) : (((L.set i a).set (i + 1) b).set (i + 2) c).take (i + 3) = L.take i ++ [a, b, c] := by
  have h2 : (((L.set i a).set (i + 1) b).set (i + 2) c).take (i + 2 + 1) = ((L.set i a).set (i + 1) b).take (i + 2) ++ [c] := by
    rw [List.take_succ_eq_append_getElem (by simp; omega), List.take_set_of_le (by omega), List.getElem_set_self]
  have h1 : ((L.set i a).set (i + 1) b).take (i + 1 + 1) = (L.set i a).take (i + 1) ++ [b] := by
    rw [List.take_succ_eq_append_getElem (by simp; omega), List.take_set_of_le (by omega), List.getElem_set_self]
  have h0 : (L.set i a).take (i + 1) = L.take i ++ [a] := by
    rw [List.take_succ_eq_append_getElem (by simp; omega), List.take_set_of_le (by omega), List.getElem_set_self]
  refine h2.trans ?_
  rw [h1, h0]
  simp

section
variable {w : World} {B : Nat} {F : Nat → Prop} {v : Value} {ps : List (Ms × Value)} {n s : Int}

/-- What Pending has laid of the first k messages. -/
structure Laid (w wr : World) (ps : List (Ms × Value)) (k : Nat) (L : List Value) (qs : List (Ms × Value)) : Prop where
  own : wr.ownsRow w.heap.size 30 3 (.slice (some ⟨w.heap.size, 0, none⟩) ps.length ps.length) ps.length L
  part : L.take (k * 3) = row (qs.map cell3)
  same : qs.map Prod.fst = (ps.take k).map Prod.fst
  body : ∀ q ∈ qs, Body wr (fun x => w.heap.size < x) q.1.b q.2
  kept : Kept (fun _ => True) w wr

theorem Laid.put {w wr w2 : World} {ps qs : List (Ms × Value)} {k : Nat} {L : List Value} {f t : Int} {u : Value} {bs : List UInt8} (h : Laid w wr ps k L qs) (hk : k < ps.length) (k2 : Kept (fun _ => True) wr w2) (ho : w2.ownsRow wr.heap.size 5 1 u bs.length (cells bs)) (hb : bs.length ≤ 140737488355328) (hp : (ps[k]).1 = ⟨f, t, bs⟩) :
    Laid w (((w2.setCell ⟨w.heap.size, k * 3, none⟩ (.int .i64 f)).setCell ⟨w.heap.size, k * 3 + 1, none⟩ (.int .i64 t)).setCell ⟨w.heap.size, k * 3 + 2, none⟩ u) ps (k + 1) (((L.set (k * 3) (.int .i64 f)).set (k * 3 + 1) (.int .i64 t)).set (k * 3 + 2) u) (qs ++ [(⟨f, t, bs⟩, u)]) := by
  have hR : w.heap.size < wr.heap.size := (h.own.lt _ rfl).2
  have hl := h.own.1
  have hset : Kept (· ≠ w.heap.size) w2 (((w2.setCell ⟨w.heap.size, k * 3, none⟩ (.int .i64 f)).setCell ⟨w.heap.size, k * 3 + 1, none⟩ (.int .i64 t)).setCell ⟨w.heap.size, k * 3 + 2, none⟩ u) := (((Kept.refl _ _).setCell (by simp) _).setCell (by simp) _).setCell (by simp) _
  refine ⟨((((row_kept h.own k2 (fun _ _ => trivial)).stored _ _).1.stored _ _).1.stored _ _).1, ?_, ?_, ?_, (h.kept.trans k2).then hset (fun i hi _ => by omega)⟩
  · rw [show (k + 1) * 3 = k * 3 + 3 by omega, set3 L (k * 3) _ _ _ (by omega), h.part, List.map_append, row_append]
    rfl
  · rw [List.take_succ_eq_append_getElem hk, List.map_append, List.map_append, h.same]
    simp [hp]
  · intro q hq
    rcases List.mem_append.1 hq with hq | hq
    · refine ((h.body q hq).kept k2 (fun _ _ => trivial)).kept hset (fun x hx => ?_)
      have := (h.body q hq).foot x hx
      show x ≠ _
      omega
    · rw [List.mem_singleton.1 hq]
      refine ⟨own_kept (own_zero ho) hset (fun x hx => ?_), hb, fun x hx => ?_⟩
      · have := (ho.lt x hx).1
        show x ≠ _
        omega
      · have := (ho.lt x hx).1
        show _ < x
        omega

set_option maxRecDepth 100000 in
set_option maxHeartbeats 1000000 in
theorem pending_any (h : Net1 w B F v ps n s) :
    Calls Try.prog 14 #[.pointer (some ⟨B, 0, none⟩)] w fun r w' => r = .returned (.slice (some ⟨w.heap.size, 0, none⟩) ps.length ps.length) ∧ ∃ L qs, Laid w w' ps ps.length L qs := by
  obtain ⟨i, hi, hz0, hz1, hz2⟩ := info_parts Try.infoMsg
  have hm : ps.length ≤ 512 := by have := h.nt.most; rwa [List.length_map] at this
  have hb' : i.bytes * ps.length ≤ 281474976710656 := by rw [hz2]; omega
  have hb2 : ps.length ≤ maxLen := by unfold maxLen; omega
  obtain ⟨q0, q1, q2, r0, r1, r2⟩ := three_cell h.nt.self
  obtain ⟨ao, cap, rfl, -, -, hg⟩ := h.nt.shape
  have HN : Hid (Net1 w B F (.slice ao (ps.map cell3).length cap) ps n s) := h
  rw [List.length_map] at q1 HN
  have hlt := h.nt.lt
  clear h hg r0 r1 r2
  go_enter Try.func14, Try.ntmps14
  go_wp2_with (at_make; refine wpList_make_full _ rfl _ _ _ rfl w.heap.size 30 i (.agg #[.int .i64 0, .int .i64 0, .slice none 0 0]) 3 Try.underlying34 hi hz0 hz1 _ _ _ _ ps.length rfl rfl rfl rfl hb' hb2 (Nat.le_refl _) ?_; intro w1 hown hg; have k1 : Kept (fun _ => True) w w1 := (Kept.refl _ _).grown hg (fun k _ h => by cases h); have hc1 : w1.cell? ⟨B, 1, none⟩ = some (.slice ao ps.length cap) := (kept_cell k1 hlt trivial).trans q1)
  have l1 : Hid (∃ L, Laid w w1 ps 0 L []) := ⟨_, hown, by simp [row], by simp, by simp, k1⟩
  clear hown hg k1 hc1
  go_wp2
  go_loopw [17] (fun t wr => ∃ (k : Nat) (L : List Value) (qs : List (Ms × Value)), k ≤ ps.length ∧ t = .int .i64 k ∧ Laid w wr ps k L qs) (fun t _ => ps.length - (intOf t).toNat)
  case atStart =>
    obtain ⟨L, hL⟩ := l1.out
    exact ⟨0, L, [], Nat.zero_le _, rfl, hL⟩
  case round =>
    clear l1
    obtain ⟨k, L, qs, hk, rfl, hL⟩ := hrel
    have HL : Hid (Laid w wr ps k L qs) := hL
    clear hL
    by_cases hlt2 : k < ps.length
    · obtain ⟨g, rfl⟩ : ∃ g, ao = some ⟨g, 0, none⟩ := by
        obtain ⟨ao', cap', e, -, -, hg⟩ := HN.out.nt.shape
        injection e with e1 e2 e3
        subst e1
        exact hg (by rw [List.length_map]; omega)
      obtain ⟨x0, x1, x2⟩ := row_cells3 HN.out.nt.own k (by rw [List.length_map]; exact hlt2)
      rw [List.getElem_map] at x0 x1 x2
      have hglt : g < w.heap.size := HN.out.nt.rowlt g rfl
      have hbody := HN.out.body _ (List.getElem_mem hlt2)
      obtain ⟨p, hp⟩ : ∃ p, ps[k] = p := ⟨_, rfl⟩
      rw [hp] at x0 x1 x2 hbody
      obtain ⟨⟨f, t, bs⟩, u⟩ := p
      have hbody' : Body w F bs u := hbody
      obtain ⟨uo, uc, rfl⟩ := shape_any hbody'.own
      have x0' : wr.cell? ⟨g, k * 3, none⟩ = some (.int .i64 f) := (kept_cell HL.out.kept hglt trivial).trans x0
      have x1' : wr.cell? ⟨g, k * 3 + 1, none⟩ = some (.int .i64 t) := (kept_cell HL.out.kept hglt trivial).trans x1
      have x2' : wr.cell? ⟨g, k * 3 + 2, none⟩ = some (.slice uo bs.length uc) := (kept_cell HL.out.kept hglt trivial).trans x2
      have c2 := copied_any (w := wr.alloc (.cells #[.int .i64 f, .int .i64 t, .slice uo bs.length uc] 30)) (f := f) (t := t) (cap := uc) ((own_has hbody'.own).kept (HL.out.kept.alloc _) (fun _ _ => trivial)) (by rcases hbody'.own.2 with ⟨e, _⟩ | ⟨_, _, _, e, _⟩ <;> simp at e <;> simp [e]) hbody'.most
      have HB : Hid (bs.length ≤ 140737488355328) := hbody'.most
      have HP : Hid (ps[k].1 = ⟨f, t, bs⟩) := by show _ = _; rw [hp]
      have hl1 : (k : Int) < (ps.length : Int) := by omega
      have hl0 : (0 : Int) ≤ (k : Int) := by omega
      clear x0 x1 x2 hbody hbody' hp q0 q1 q2
      go_wp2_with fail
      refine Calls.mono c2 ?_
      rintro e w2 ⟨bo, bc, rfl, ho2, k2⟩
      clear c2 x0' x1' x2'
      have k2' : Kept (fun _ => True) wr w2 := ((Kept.refl (fun _ => True) wr).alloc _).trans k2
      have ho2' : w2.ownsRow wr.heap.size 5 1 (.slice bo bs.length bc) bs.length (cells bs) := by
        refine ⟨ho2.1, ?_⟩
        rcases ho2.2 with q | ⟨g, cap, cur, q, hb, rest⟩
        · exact .inl q
        · exact .inr ⟨g, cap, cur, q, by simp at hb; omega, rest⟩
      have hR := row_kept HL.out.own k2' (fun _ _ => trivial)
      have hRl := hR.1
      have y0 := hR.cellAt (k * 3) (by omega)
      have y1 := hR.cellAt (k * 3 + 1) (by omega)
      have y2 := hR.cellAt (k * 3 + 2) (by omega)
      rw [List.getElem?_eq_getElem (by omega)] at y0 y1 y2
      have z0 := hR.frozenAt (k * 3)
      have z1 := hR.frozenAt (k * 3 + 1)
      have z2 := hR.frozenAt (k * 3 + 2)
      have HE : Hid (Laid w _ ps (k + 1) _ _) := HL.out.put (u := .slice bo bs.length bc) hlt2 k2' ho2' HB.out HP.out
      generalize L[k * 3] = a0 at y0
      generalize L[k * 3 + 1] = a1 at y1
      generalize L[k * 3 + 2] = a2 at y2
      clear ho2 k2 k2' ho2' hR hRl HL
      go_wp2
      go_roundw
      case rel => exact ⟨k + 1, _, _, by omega, by go_num, HE.out⟩
      case measure => simp [intOf]; omega
    · have hl1 : ¬ ((k : Int) < (ps.length : Int)) := by omega
      obtain rfl : k = ps.length := by omega
      go_wp2
      go_ret
      exact ⟨rfl, L, qs, HL.out⟩

/-- The message k of what Pending has answered. -/
theorem Laid.get {w' : World} {L : List Value} {qs : List (Ms × Value)} (h : Laid w w' ps ps.length L qs) (k : Nat) (hk : k < ps.length) : ∃ bo bc, w'.cell? ⟨w.heap.size, k * 3, none⟩ = some (.int .i64 (ps[k]).1.f) ∧ w'.cell? ⟨w.heap.size, k * 3 + 1, none⟩ = some (.int .i64 (ps[k]).1.t) ∧ w'.cell? ⟨w.heap.size, k * 3 + 2, none⟩ = some (.slice bo (ps[k]).1.b.length bc) ∧ Body w' (fun x => w.heap.size < x) (ps[k]).1.b (.slice bo (ps[k]).1.b.length bc) := by
  have hs : qs.map Prod.fst = ps.map Prod.fst := by rw [h.same, List.take_length]
  have hql : qs.length = ps.length := by simpa using congrArg List.length hs
  have hL : L = row (qs.map cell3) := by rw [← h.part, List.take_of_length_le (by rw [h.own.1]; exact Nat.le_refl _)]
  have hq : (qs[k]'(by omega)).1 = (ps[k]).1 := by
    have := congrArg (fun l => l[k]?) hs
    simpa [List.getElem?_map, List.getElem?_eq_getElem hk, List.getElem?_eq_getElem (show k < qs.length by omega)] using this
  have hown : w'.ownsRow w.heap.size 30 3 (.slice (some ⟨w.heap.size, 0, none⟩) ps.length ps.length) (qs.map cell3).length (row (qs.map cell3)) := by
    have := h.own
    rw [hL] at this
    rwa [List.length_map, hql]
  obtain ⟨x0, x1, x2⟩ := row_cells3 hown k (by rw [List.length_map]; omega)
  have hb := h.body _ (List.getElem_mem (show k < qs.length by omega))
  rw [List.getElem_map] at x0 x1 x2
  generalize qs[k]'(by omega) = q at *
  rw [← hq]
  obtain ⟨bo, bc, e⟩ := shape_any hb.own
  refine ⟨bo, bc, x0, x1, ?_, ?_⟩
  · rw [← e]; exact x2
  · rw [← e]; exact hb

end

end Go.Proofs.Ytlgcecndfejngaa
