/-
  Some of chapter 21's runs.
-/
import Derived.Test.YtllopkebamlgeaaHiTell
namespace Go.Proofs.Ytllopkebamlgeaa
open Go.RowKit Go.Maps Go.Sort

theorem vw_row {α : Type} {S : Shp α} {w : World} {B : Nat} {xs : List α} {t : TypeId} {fr : Nat × Nat} (hB : w.heap[B]? = some (.cells (S.row xs).toArray t fr)) : Vw S w (some ⟨B, 0, none⟩) xs := by
  refine ⟨fun _ => ⟨B, 0, rfl, lt_of_block hB, fun i hi j u hu => ?_⟩⟩
  have hj : j < S.n := by have := (List.getElem?_eq_some_iff.1 hu).1; rwa [S.len] at this
  rw [Nat.zero_add, cell_of_row w B (i * S.n + j) _ t fr hB, List.getElem?_toArray, row_get xs i hi j hj]
  exact hu
theorem fl_no (w : World) (sz : Nat) : Fl w (.slice none 0 0) 0 sz [] := ⟨none, 0, rfl, by simp, by decide, fun _ => rfl, fun h => by omega⟩
theorem ops_lit {w : World} {B n : Nat} (es : List Ev) (hl : es.length = n) {t : TypeId} {fr : Nat × Nat} (hB : w.heap[B]? = some (.cells (evS.row es).toArray t fr)) (hp : ∀ e ∈ es, (e.oa = none ∧ e.on = 0 ∧ e.oc = 0) ∧ (e.ta = none ∧ e.tn = 0 ∧ e.tc = 0) ∧ Fits e.cl) (hn : n ≤ 1000) :
    Calls Try.prog 7 #[.slice (some ⟨B, 0, none⟩) n n] w fun e w' => EOps (es.map Ev.pe) w e w' := by
  subst hl
  refine ops_any (vw_row hB) (fun e he => ?_) hn
  obtain ⟨⟨h1, h2, h3⟩, ⟨h4, h5, h6⟩, h7⟩ := hp e he
  exact ⟨⟨[], by rw [h1, h2, h3]; exact fl_no _ _, by simp⟩, ⟨[], by rw [h4, h5, h6]; exact fl_no _ _, by simp⟩, by omega, h7⟩
theorem EOps.calls {es : List Pe} {w w' : World} {e : Ending} {l : List Pc} (h : EOps es w e w') (hr : runP noP 0 es = .calls l) : (∃ (a : Option Addr) (c : Nat) (xs : List Oc), xs.map Oc.pc = l ∧ e = .returned (.tuple #[.slice a xs.length c, .int .i64 0, .int .i64 0]) ∧ Ow opS 35 w' w.heap.size (.slice a xs.length c) xs) ∧ Kept (fun _ => True) w w' := by
  obtain ⟨⟨j, h1, _⟩ | ⟨a, c, xs, h1, _, h2, h3⟩, k⟩ := h
  · rw [hr] at h1; cases h1
  · rw [hr] at h1
    injection h1 with h1
    exact ⟨⟨a, c, xs, h1.symm, h2, h3⟩, k⟩
theorem EOps.stop {es : List Pe} {w w' : World} {e : Ending} {i : Nat} (h : EOps es w e w') (hr : runP noP 0 es = .stops i) : e = .returned (.tuple #[.slice none 0 0, .int .i64 12, .int .i64 i]) ∧ Kept (fun _ => True) w w' := by
  obtain ⟨⟨j, h1, h2⟩ | ⟨a, c, xs, h1, _⟩, k⟩ := h
  · rw [hr] at h1
    injection h1 with h1
    subst h1
    exact ⟨h2, k⟩
  · rw [hr] at h1; cases h1
/-- Two calls in memory. -/
def TwoO (w : World) (g : Nat) (x y : Oc) : Prop := w.rangeAt g 0 (occ x) ∧ w.rangeAt g 8 (occ y)
theorem TwoO.all {w w' : World} {g : Nat} {x y : Oc} (h : TwoO w g x y) (hg : g < w.heap.size) (k : Kept (fun _ => True) w w') : TwoO w' g x y := ⟨range_kept h.1 k hg trivial, range_kept h.2 k hg trivial⟩
theorem two_calls {w : World} {b : Nat} {a : Option Addr} {n c : Nat} {xs : List Oc} (h : Ow opS 35 w b (.slice a n c) xs) {p q : Pc} (hp : xs.map Oc.pc = [p, q]) : ∃ (g : Nat) (x y : Oc), g < w.heap.size ∧ a = some ⟨g, 0, none⟩ ∧ xs = [x, y] ∧ x.pc = p ∧ y.pc = q ∧ TwoO w g x y := by
  match xs, hp with
  | [x, y], hp =>
    simp only [List.map_cons, List.map_nil, List.cons.injEq, and_true] at hp
    obtain ⟨g, off, rfl, hg, hr⟩ := h.view.row (by simp)
    obtain ⟨ao, cap, e, _, h3, _⟩ := h.shape
    obtain ⟨g', e'⟩ := h3 (by simp)
    injection e with e1 _ _
    rw [e'] at e1
    injection e1 with e1
    injection e1 with e1 e2 _
    subst e1 e2
    have h0 := hr 0 (by simp)
    have h1 := hr 1 (by simp)
    exact ⟨g, x, y, hg, rfl, rfl, hp.1, hp.2, h0, h1⟩
def e0 (k cl out : Int) : Ev := ⟨k, cl, none, 0, 0, out, none, 0, 0, 0, 0⟩

set_option maxRecDepth 100000 in
set_option maxHeartbeats 4000000 in
theorem known_any (w : World) : Calls Try.prog 10 #[] w fun e w' => e = .returned (.bool true) ∧ Kept (fun _ => True) w w' := by
  have C1 : ∀ W : World, Calls Try.prog 7 #[.slice (some ⟨W.heap.size, 0, none⟩) 3 3] (W.alloc (.cells #[.int .i64 1, .int .i64 0, .slice none 0 0, .int .i64 0, .slice none 0 0, .int .i64 0, .int .i64 0, .int .i64 1, .int .i64 1, .slice none 0 0, .int .i64 0, .slice none 0 0, .int .i64 0, .int .i64 0, .int .i64 2, .int .i64 0, .slice none 0 0, .int .i64 0, .slice none 0 0, .int .i64 0, .int .i64 0] 31)) fun e w' => (∃ (g c : Nat) (x y : Oc), g < w'.heap.size ∧ x.pc = ⟨0, 0, 0, 2⟩ ∧ y.pc = ⟨1, 0, 1, -1⟩ ∧ TwoO w' g x y ∧ e = .returned (.tuple #[.slice (some ⟨g, 0, none⟩) 2 c, .int .i64 0, .int .i64 0])) ∧ Kept (fun _ => True) W w' := fun W => by
    refine (ops_lit (n := 3) [e0 1 0 0, e0 1 1 0, e0 2 0 0] rfl (heap_alloc_new W _) (by simp [e0, Fits]) (by omega)).mono fun e w' h => ?_
    obtain ⟨⟨a, c, xs, hx, rfl, ho⟩, k⟩ := h.calls (l := [⟨0, 0, 0, 2⟩, ⟨1, 0, 1, -1⟩]) rfl
    obtain ⟨g, x, y, hg, rfl, rfl, h1, h2, h3⟩ := two_calls ho hx
    exact ⟨⟨g, c, x, y, hg, h1, h2, h3, rfl⟩, ((Kept.refl _ _).alloc _).trans k⟩
  have C2 : ∀ W : World, Calls Try.prog 7 #[.slice (some ⟨W.heap.size, 0, none⟩) 1 1] (W.alloc (.cells #[.int .i64 2, .int .i64 0, .slice none 0 0, .int .i64 0, .slice none 0 0, .int .i64 0, .int .i64 0] 31)) fun e w' => e = .returned (.tuple #[.slice none 0 0, .int .i64 12, .int .i64 0]) ∧ Kept (fun _ => True) W w' := fun W => by
    refine (ops_lit (n := 1) [e0 2 0 0] rfl (heap_alloc_new W _) (by simp [e0, Fits]) (by omega)).mono fun e w' h => ?_
    obtain ⟨h1, k⟩ := h.stop (i := 0) rfl
    exact ⟨h1, ((Kept.refl _ _).alloc _).trans k⟩
  go_enter Try.func10, Try.ntmps10
  go_wp2_with (first
    | (go_at_call 7; (with_reducible refine Calls.mono (C1 _) ?_); rintro e w1 ⟨⟨g, c, x, y, hg, hx, hy, h2, rfl⟩, k1⟩; clear C1)
    | (go_at_call 7; (with_reducible refine Calls.mono (C2 _) ?_); rintro e w2 ⟨rfl, k2⟩; have hx7 : x.tz = 2 := congrArg Pc.tz hx; have hy7 : y.tz = -1 := congrArg Pc.tz hy; have m7 : w2.cell? ⟨g, 7, none⟩ = some (.int .i64 2) := (by rw [← hx7]; exact (h2.all hg k2).1 7 _ rfl); have m15 : w2.cell? ⟨g, 15, none⟩ = some (.int .i64 (-1)) := (by rw [← hy7]; exact (h2.all hg k2).2 7 _ rfl); clear C2 hx hy hx7 hy7))
  go_ret
  exact ⟨rfl, k1.trans k2⟩

end Go.Proofs.Ytllopkebamlgeaa
