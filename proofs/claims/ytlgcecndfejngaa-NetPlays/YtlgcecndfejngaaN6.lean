/-
  The program's net: Take.
-/
import Derived.Test.YtlgcecndfejngaaN5
namespace Go.Proofs.Ytlgcecndfejngaa
open Go.RowKit

section
variable {w : World} {B : Nat} {F : Nat → Prop} {v : Value} {ps : List (Ms × Value)} {n s : Int}

theorem St1.after {w w1 w' : World} {F' : Nat → Prop} {v' : Value} {qs : List (Ms × Value)} (k : Kept (fun _ => True) w w1) (h : St1 w1 w' B F F' v' qs n s) : St1 w w' B F F' v' qs n s :=
  ⟨h.now, (k.mono (fun _ _ _ => trivial)).trans h.kept, fun x hx => (h.new x hx).imp id (fun e => Nat.le_trans k.size e)⟩
/-- Ahead of stores into what was made behind w, and is none of F'. -/
theorem St1.ahead {w w1 w' : World} {F' : Nat → Prop} {v' : Value} {qs : List (Ms × Value)} {p : Nat → Prop} (h : St1 w w1 B F F' v' qs n s) (k : Kept p w1 w') (hp : ∀ x, F' x → p x) (hq : ∀ x, x < w.heap.size → p x) : St1 w w' B F F' v' qs n s :=
  ⟨h.now.kept k hp, h.kept.then k (fun x hx _ => hq x hx), h.new⟩

set_option maxRecDepth 100000 in
set_option maxHeartbeats 1000000 in
theorem take_any (h : Net1 w B F v ps n s) (k : Int) (hk : I64 k) {p : Ms × Value} (hp : ps[spot k ps.length]? = some p) :
    Calls Try.prog 12 #[.pointer (some ⟨B, 0, none⟩), .int .i64 k] w fun r w' => ∃ bo bc v', r = .returned (.tuple #[.agg #[.int .i64 p.1.f, .int .i64 p.1.t, .slice bo p.1.b.length bc], .bool true]) ∧ w'.ownsRow w.heap.size 5 1 (.slice bo p.1.b.length bc) p.1.b.length (cells p.1.b) ∧ St1 w w' B F F v' (ps.eraseIdx (spot k ps.length)) n s := by
  have h0 : 0 < ps.length := by cases ps with | nil => simp at hp | cons => simp
  obtain ⟨w0, hw0⟩ : ∃ w0, w0 = w.alloc (.cells #[.int .i64 0, .int .i64 0, .slice none 0 0] 30) := ⟨_, rfl⟩
  have k0 : Kept (fun _ => True) w w0 := by rw [hw0]; exact (Kept.refl _ _).alloc _
  have hr0 : w0.heap[w.heap.size]? = some (.cells #[.int .i64 0, .int .i64 0, .slice none 0 0] 30 (0, 0)) := by rw [hw0]; exact heap_alloc_new w _
  have n0 : Net1 w0 B F v ps n s := h.kept k0 (fun _ _ => trivial)
  have c1 := place_any n0.nt (by rw [List.length_map]; omega) k hk
  rw [List.length_map] at c1
  have hj := spot_lt k h0
  generalize spot k ps.length = j at *
  have hpj : ps[j] = p := by simpa [List.getElem?_eq_getElem hj] using hp
  have hmem : p ∈ ps := hpj ▸ List.getElem_mem hj
  have hbody := n0.body _ hmem
  obtain ⟨q0, q1, q2, r0, r1, r2⟩ := three_cell n0.nt.self
  obtain ⟨ao, cap, rfl, -, -, hg⟩ := n0.nt.shape
  obtain ⟨g, rfl⟩ := hg (by rw [List.length_map]; omega)
  obtain ⟨x0, x1, x2⟩ := row_cells3 n0.nt.own j (by rw [List.length_map]; exact hj)
  rw [List.getElem_map, hpj] at x0 x1 x2
  rw [List.length_map] at n0 q1
  obtain ⟨⟨f, t, bs⟩, u⟩ := p
  have hbody' : Body w0 F bs u := hbody
  obtain ⟨uo, uc, rfl⟩ := shape_any hbody'.own
  have x0' : w0.cell? ⟨g, j * 3, none⟩ = some (.int .i64 f) := x0
  have x1' : w0.cell? ⟨g, j * 3 + 1, none⟩ = some (.int .i64 t) := x1
  have x2' : w0.cell? ⟨g, j * 3 + 2, none⟩ = some (.slice uo bs.length uc) := x2
  have c2 := copied_any (f := f) (t := t) (cap := uc) (own_has hbody'.own) (by rcases hbody'.own.2 with ⟨e, _⟩ | ⟨_, _, _, e, _⟩ <;> simp at e <;> simp [e]) hbody'.most
  have HL : Hid (∀ x, F x → x < w.heap.size) := h.lt
  have HN : Hid (Net1 w0 B F (.slice (some ⟨g, 0, none⟩) ps.length cap) ps n s) := n0
  have K0 : Hid (Kept (fun _ => True) w w0) := k0
  have HR0 : Hid (w0.heap[w.heap.size]? = some (.cells #[.int .i64 0, .int .i64 0, .slice none 0 0] 30 (0, 0))) := hr0
  have hj1 : (j : Int) < (ps.length : Int) := by omega
  have hj0 : (0 : Int) ≤ (j : Int) := by omega
  clear x0 x1 x2 hg h hk hp hpj hmem hbody hbody' k0 hr0 n0
  go_enter Try.func12, Try.ntmps12
  go_wp2_with fail
  rw [← hw0]
  clear hw0
  refine Calls.mono c1 ?_
  rintro e w0 ⟨rfl, rfl⟩
  clear c1
  go_wp2_with fail
  refine Calls.mono c2 ?_
  rintro e w1 ⟨bo, bc, rfl, ho1, k1⟩
  clear c2 x0' x1' x2' q0 q1 q2 r0 r1 r2
  have HO1 : Hid (w1.ownsRow w.heap.size 5 1 (.slice bo bs.length bc) bs.length (cells bs)) := by
    show World.ownsRow _ _ _ _ _ _ _
    refine ⟨ho1.1, ?_⟩
    rcases ho1.2 with q | ⟨g, cap, cur, q, hb, rest⟩
    · exact .inl q
    · exact .inr ⟨g, cap, cur, q, Nat.le_trans K0.out.size hb, rest⟩
  have hlt0 : Hid (w.heap.size < w0.heap.size) := lt_of_block HR0.out
  have HR1 : Hid (w1.heap[w.heap.size]? = some (.cells #[.int .i64 0, .int .i64 0, .slice none 0 0] 30 (0, 0))) := (k1.block _ hlt0.out trivial).trans HR0.out
  have HO1' : Hid (w1.ownsRow w0.heap.size 5 1 (.slice bo bs.length bc) bs.length (cells bs)) := ho1
  have K1 : Hid (Kept (fun _ => True) w0 w1) := k1
  clear ho1 k1 HR0
  go_wp2_with fail
  have hm := heap_alloc_new w1 (.cells #[.int .i64 f, .int .i64 t, .slice bo bs.length bc] 30)
  have k2 : Kept (fun _ => True) w1 (w1.alloc (.cells #[.int .i64 f, .int .i64 t, .slice bo bs.length bc] 30)) := (Kept.refl _ _).alloc _
  have hm0 : w1.heap.size < (w1.alloc (.cells #[.int .i64 f, .int .i64 t, .slice bo bs.length bc] 30)).heap.size := lt_of_block hm
  generalize w1.alloc (.cells #[.int .i64 f, .int .i64 t, .slice bo bs.length bc] 30) = w2 at *
  refine Calls.mono (remove_net (HN.out.kept (K1.out.trans k2) (fun _ _ => trivial)) j hj) ?_
  rintro e w3 ⟨rfl, v', st⟩
  have nf : ∀ x, w.heap.size ≤ x → ¬ F x := fun x hx q => by have := HL.out x q; omega
  have hs1 : w.heap.size ≤ w1.heap.size := Nat.le_trans K0.out.size K1.out.size
  have hb1 : w3.heap[w1.heap.size]? = some (.cells #[.int .i64 f, .int .i64 t, .slice bo bs.length bc] 30 (0, 0)) := (st.kept.block _ hm0 (nf _ hs1)).trans hm
  have hb2 : w3.heap[w.heap.size]? = some (.cells #[.int .i64 0, .int .i64 0, .slice none 0 0] 30 (0, 0)) := (st.kept.block _ (Nat.lt_of_lt_of_le (lt_of_block HR1.out) k2.size) (nf _ (Nat.le_refl _))).trans ((k2.block _ (lt_of_block HR1.out) trivial).trans HR1.out)
  obtain ⟨q0, q1, q2, r0, r1, r2⟩ := three_cell hb1
  obtain ⟨q3, q4, q5, r3, r4, r5⟩ := three_cell hb2
  have HE : Hid (w3.ownsRow w.heap.size 5 1 (.slice bo bs.length bc) bs.length (cells bs) ∧ (Value.slice bo bs.length bc).ownBlock ≠ some w.heap.size ∧ St1 w w3 B F F v' (ps.eraseIdx j) n s) := ⟨own_kept (own_kept HO1.out k2 (fun _ _ => trivial)) st.kept (fun x hx => nf x (HO1.out.lt x hx).1), fun q => by have := (HO1'.out.lt _ q).1; have := hlt0.out; omega, st.after ((K0.out.trans K1.out).trans k2)⟩
  have HS : Hid (w.heap.size ≤ w.heap.size) := Nat.le_refl _
  clear hb1 hb2 st hm k2 hm0 HR1 HO1 HO1' K1 HN nf hs1
  go_wp2
  refine bodyPost_ret (v := .tuple #[.agg #[.int .i64 f, .int .i64 t, .slice bo bs.length bc], .bool true]) (by simp [results, Try.results12, go_sem, *]) rfl ⟨bo, bc, v', rfl, ?_, ?_⟩
  · exact ownsRow_setCell_other (ownsRow_setCell_other (ownsRow_setCell_other HE.out.1 HE.out.2.1 _) HE.out.2.1 _) HE.out.2.1 _
  · exact HE.out.2.2.ahead ((((Kept.refl (· ≠ w.heap.size) w3).setCell (by simp) _).setCell (by simp) _).setCell (by simp) _) (fun x hx => by have := HL.out x hx; omega) (fun x hx => by omega)

end

end Go.Proofs.Ytlgcecndfejngaa
