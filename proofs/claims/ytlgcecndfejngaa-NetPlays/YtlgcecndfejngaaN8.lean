/-
  A net that a law has made; the law's own 'known': chapter 5's run.
-/
import Derived.Test.YtlgcecndfejngaaN7
namespace Go.Proofs.Ytlgcecndfejngaa
open Go.RowKit

/-- []byte of a constant text: a row that was made just now gets its mark. -/
theorem conv_const (w : World) (bs : List UInt8) (n c : Nat) : (convert 27 27 (.slice (some ⟨w.heap.size, 0, none⟩) n c)).run Try.prog (w.alloc (.cells (cells bs).toArray 5)) = .ok (.slice (some ⟨w.heap.size, 0, none⟩) n c) (w.alloc (.cells (cells bs).toArray 5 ((cells bs).toArray.size, (cells bs).toArray.size + 1))) :=
  Lib.run_convert_bytes_const (P := Try.prog) w 27 5 (cells bs).toArray n c Try.underlying27 Try.underlying5

/-- A net that was made behind w0: nothing older is its own. -/
structure Own1 (w0 w : World) (B : Nat) (F : Nat → Prop) (v : Value) (ps : List (Ms × Value)) (n s : Int) : Prop where
  net : Net1 w B F v ps n s
  kept : Kept (fun _ => True) w0 w
  foot : ∀ x, F x → w0.heap.size ≤ x

section
variable {w0 w w' : World} {B : Nat} {F F' : Nat → Prop} {v v' : Value} {ps qs : List (Ms × Value)} {n s s' : Int}

theorem Own1.step (h : Own1 w0 w B F v ps n s) (k : St1 w w' B F F' v' qs n s') : Own1 w0 w' B F' v' qs n s' :=
  ⟨k.now, h.kept.then k.kept (fun x hx _ q => by have := h.foot x q; omega), fun x hx => (k.new x hx).elim (h.foot x) (fun q => Nat.le_trans h.kept.size q)⟩
theorem Own1.ahead (h : Own1 w0 w B F v ps n s) (k : Kept (fun _ => True) w w') : Own1 w0 w' B F v ps n s :=
  ⟨h.net.kept k (fun _ _ => trivial), h.kept.trans k, h.foot⟩
/-- .. while blocks are written that are none of its own, and not old. -/
theorem Own1.beside {p : Nat → Prop} (h : Own1 w0 w B F v ps n s) (k : Kept p w w') (hp : ∀ x, F x → p x) (ho : ∀ x, x < w0.heap.size → p x) : Own1 w0 w' B F v ps n s :=
  ⟨h.net.kept k hp, h.kept.then k (fun x hx _ => ho x hx), h.foot⟩
theorem Own1.new (h : Nt 57 30 w' w.heap.size (.slice none 0 0) [] n 0) (k : Kept (fun _ => True) w w') : Own1 w w' w.heap.size (fun x => x = w.heap.size) (.slice none 0 0) [] n 0 :=
  ⟨⟨h, by simp, rfl, by simp [Value.ownBlock], fun x hx => by rw [hx]; exact h.lt⟩, k, fun x hx => Nat.le_of_eq hx.symm⟩
end

/-- A block that is no part of the net, through a step. -/
theorem St1.far {w w' : World} {B : Nat} {F F' : Nat → Prop} {v : Value} {ps : List (Ms × Value)} {n s : Int} (k : St1 w w' B F F' v ps n s) {b : Nat} {o : Obj} (h : w.heap[b]? = some o) (hF : ¬ F b) : w'.heap[b]? = some o := (k.kept.block b (lt_of_block h) hF).trans h

/-- A message that was taken, in a variable of the law's own: neither it nor its body is of the net. -/
structure Loc (F : Nat → Prop) (w : World) (A : Nat) (f t : Int) (u : Value) (bs : List UInt8) : Prop where
  self : w.heap[A]? = some (.cells #[.int .i64 f, .int .i64 t, u] 30 (0, 0))
  own : w.ownsRow 0 5 1 u bs.length (cells bs)
  not : ¬ F A
  nots : ∀ k, u.ownBlock = some k → ¬ F k
theorem Loc.new {w w' : World} {B : Nat} {F : Nat → Prop} {v : Value} {ps : List (Ms × Value)} {n s : Int} {f t : Int} {u : Value} {bs : List UInt8} (h : Net1 w' B F v ps n s) (ho : w'.ownsRow w.heap.size 5 1 u bs.length (cells bs)) (hF : ∀ x, F x → x < w.heap.size) : Loc F (w'.alloc (.cells #[.int .i64 f, .int .i64 t, u] 30)) w'.heap.size f t u bs :=
  ⟨heap_alloc_new w' _, own_zero (own_kept ho ((Kept.refl (fun _ => True) w').alloc _) (fun _ _ => trivial)), fun q => by have := h.lt _ q; omega, fun k hk q => by have := hF k q; have := (ho.lt k hk).1; omega⟩
theorem Loc.far {F : Nat → Prop} {w w' : World} {A : Nat} {f t : Int} {u : Value} {bs : List UInt8} (h : Loc F w A f t u bs) (k : Kept (fun x => ¬ F x) w w') : Loc F w' A f t u bs :=
  ⟨(k.block A (lt_of_block h.self) h.not).trans h.self, own_kept h.own k h.nots, h.not, h.nots⟩

set_option maxRecDepth 100000 in
set_option maxHeartbeats 1000000 in
theorem known_any (w : World) : Calls Try.prog 15 #[] w fun e w' => e = .returned (.bool true) ∧ Kept (fun _ => True) w w' := by
  go_enter Try.func15, Try.ntmps15
  go_wp2_with fail
  refine Calls.mono (new_ok 3 (by decide) (by decide)) ?_
  rintro e w1 ⟨rfl, d1, k1⟩
  have m1 : Hid (Own1 w w1 w.heap.size (fun x => x = w.heap.size) (.slice none 0 0) [] 3 0) := Own1.new d1 k1
  clear d1 k1
  generalize (fun x => x = w.heap.size) = F1 at *
  obtain ⟨B, hB⟩ : ∃ B, B = w.heap.size := ⟨_, rfl⟩
  rw [← hB] at m1 ⊢
  clear hB
  have cs : (convert 27 27 (.slice (some ⟨w1.heap.size, 0, none⟩) 1 1)).run Try.prog (w1.alloc (.cells #[.int .u8 97] 5)) = _ := conv_const w1 [97] 1 1
  have h2 := has_row (heap_alloc_new w1 (.cells (cells [97]).toArray 5 ((cells [97]).toArray.size, (cells [97]).toArray.size + 1)))
  have m2 : Hid (Own1 w _ B F1 (.slice none 0 0) [] 3 0) := m1.out.ahead ((Kept.refl _ _).alloc (.cells (cells [97]).toArray 5 ((cells [97]).toArray.size, (cells [97]).toArray.size + 1)))
  generalize w1.alloc (.cells (cells [97]).toArray 5 ((cells [97]).toArray.size, (cells [97]).toArray.size + 1)) = w2 at *
  have c := send_any (cap := 1) m2.out.net 0 1 (by decide) (by decide) (by decide) (by decide) h2 (by simp) (by decide)
  clear h2 m1
  go_wp2_with fail
  refine Calls.mono c ?_
  rintro e w3 ⟨rfl, F3, v3, u, s3⟩
  clear c cs
  have m3 : Hid (Own1 w w3 B F3 v3 [(⟨0, 1, [97]⟩, u)] 3 1) := m2.out.step s3
  clear s3 m2
  have c := twice_any (p := (⟨0, 1, [97]⟩, u)) m3.out.net (by simp) 0 (by unfold I64; decide) rfl
  go_wp2_with fail
  refine Calls.mono c ?_
  rintro e w4 ⟨rfl, F4, v4, s4⟩
  clear c
  have m4 : Hid (Own1 w w4 B F4 v4 [(⟨0, 1, [97]⟩, u), (⟨0, 1, [97]⟩, u)] 3 1) := m3.out.step s4
  clear s4 m3
  have c := take_any (p := (⟨0, 1, [97]⟩, u)) m4.out.net 0 (by unfold I64; decide) rfl
  go_wp2_with fail
  refine Calls.mono c ?_
  rintro e w5 ⟨ao, ac, v5, rfl, o5, s5⟩
  clear c
  have m5 : Hid (Own1 w (w5.alloc (.cells #[.int .i64 0, .int .i64 1, .slice ao 1 ac] 30)) B F4 v5 [(⟨0, 1, [97]⟩, u)] 3 1) := (m4.out.step s5).ahead ((Kept.refl _ _).alloc _)
  have hA : Hid (Loc F4 (w5.alloc (.cells #[.int .i64 0, .int .i64 1, .slice ao 1 ac] 30)) w5.heap.size 0 1 (.slice ao 1 ac) [97]) := Loc.new s5.now o5 (fun x hx => m4.out.net.lt x hx)
  clear o5 s5 m4
  go_wp2_with fail
  generalize w5.heap.size = A at *
  generalize w5.alloc (.cells #[.int .i64 0, .int .i64 1, .slice ao 1 ac] 30) = w6 at *
  have c := take_any (p := (⟨0, 1, [97]⟩, u)) m5.out.net 7 (by unfold I64; decide) (by simp [spot])
  refine Calls.mono c ?_
  rintro e w7 ⟨bo, bc, v7, rfl, o7, s7'⟩
  clear c
  have s7 : St1 w6 w7 B F4 F4 v7 [] 3 1 := by
    have e7 : spot 7 1 = 0 := by simp [spot]
    simp only [List.length_cons, List.length_nil, Nat.zero_add, e7] at s7'
    exact s7'
  clear s7'
  have m7 : Hid (Own1 w (w7.alloc (.cells #[.int .i64 0, .int .i64 1, .slice bo 1 bc] 30)) B F4 v7 [] 3 1) := (m5.out.step s7).ahead ((Kept.refl _ _).alloc _)
  have hB : Hid (Loc F4 (w7.alloc (.cells #[.int .i64 0, .int .i64 1, .slice bo 1 bc] 30)) w7.heap.size 0 1 (.slice bo 1 bc) [97]) := Loc.new s7.now o7 (fun x hx => m5.out.net.lt x hx)
  have hA7 : Hid (Loc F4 (w7.alloc (.cells #[.int .i64 0, .int .i64 1, .slice bo 1 bc] 30)) A 0 1 (.slice ao 1 ac) [97]) := (hA.out.far s7.kept).far (((Kept.refl (fun x => ¬ F4 x) w7)).alloc _)
  clear o7 s7 m5 hA
  go_wp2_with fail
  generalize w7.heap.size = C at *
  generalize w7.alloc (.cells #[.int .i64 0, .int .i64 1, .slice bo 1 bc] 30) = w8 at *
  refine Calls.mono (take_empty m7.out.net 0) ?_
  rintro e w9 ⟨rfl, k9⟩
  have k10 : Kept (fun _ => True) w8 (w9.alloc (.cells #[.int .i64 0, .int .i64 0, .slice none 0 0] 30)) := k9.alloc _
  have hA9 : Hid _ := hA7.out.far (k10.mono (fun _ _ _ => trivial))
  have hB9 : Hid _ := hB.out.far (k10.mono (fun _ _ _ => trivial))
  have k11 : Hid (Kept (fun _ => True) w _) := m7.out.kept.trans k10
  clear hA7 hB k9 k10 m7
  obtain ⟨a0, a1, a2, -, -, -⟩ := three_cell hA9.out.self
  obtain ⟨b0, b1, b2, -, -, -⟩ := three_cell hB9.out.self
  have cA : (convert 27 9 (.slice ao 1 ac)).run Try.prog (w9.alloc (.cells #[.int .i64 0, .int .i64 0, .slice none 0 0] 30)) = .ok (.string ⟨#[97]⟩) (w9.alloc (.cells #[.int .i64 0, .int .i64 0, .slice none 0 0] 30)) := conv_own (bs := [97]) hA9.out.own
  have cB : (convert 27 9 (.slice bo 1 bc)).run Try.prog (w9.alloc (.cells #[.int .i64 0, .int .i64 0, .slice none 0 0] 30)) = .ok (.string ⟨#[97]⟩) (w9.alloc (.cells #[.int .i64 0, .int .i64 0, .slice none 0 0] 30)) := conv_own (bs := [97]) hB9.out.own
  clear hA9 hB9
  go_wp2
  go_ret
  exact ⟨rfl, k11.out⟩

end Go.Proofs.Ytlgcecndfejngaa
