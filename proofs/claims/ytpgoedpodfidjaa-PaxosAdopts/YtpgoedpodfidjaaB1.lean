/-
  An acceptor in memory; Less, New, mayVote, Promised.
-/
import Derived.Test.YtpgoedpodfidjaaBMap
namespace Go.Proofs.Ytpgoedpodfidjaa
open Go.RowKit

/-- An acceptor in block A, its votes in the map M. -/
structure Ac (w : World) (A M n : Nat) (p : Bl) (f : Vs) : Prop where
  self : w.heap[A]? = some (.cells #[.int .i64 p.r, .int .i64 p.n, .map (some M)] 78 (0, 0))
  mp : Mp w M n f

section
variable {w w' : World} {A M n : Nat} {p : Bl} {f : Vs}
theorem Ac.ne (h : Ac w A M n p f) : A ≠ M := by
  intro e
  obtain ⟨es, clock, hb⟩ := h.mp.isMap
  have := h.self
  rw [e, hb] at this
  simp at this
theorem Ac.lt (h : Ac w A M n p f) : A < w.heap.size := lt_of_block h.self
theorem Ac.mlt (h : Ac w A M n p f) : M < w.heap.size := h.mp.lt
theorem Ac.kept {q : Nat → Prop} (h : Ac w A M n p f) (k : Kept q w w') (ha : q A) (hm : q M) : Ac w' A M n p f :=
  ⟨(k.block A h.lt ha).trans h.self, h.mp.kept k hm⟩
theorem Ac.all (h : Ac w A M n p f) (k : Kept (fun _ => True) w w') : Ac w' A M n p f := h.kept k trivial trivial
theorem Ac.mono {m : Nat} (h : Ac w A M n p f) (hm : n ≤ m) : Ac w A M m p f := ⟨h.self, h.mp.mono hm⟩
end

theorem acell {w : World} {b : Nat} {x y z : Value} {t : TypeId} (h : w.heap[b]? = some (.cells #[x, y, z] t (0, 0))) :
    w.cell? ⟨b, 0, none⟩ = some x ∧ w.cell? ⟨b, 1, none⟩ = some y ∧ w.cell? ⟨b, 2, none⟩ = some z ∧ w.frozen? ⟨b, 0, none⟩ = false ∧ w.frozen? ⟨b, 1, none⟩ = false ∧ w.frozen? ⟨b, 2, none⟩ = false := by
  refine ⟨by simp [World.cell?, h], by simp [World.cell?, h], by simp [World.cell?, h], by simp [World.frozen?, h], by simp [World.frozen?, h], by simp [World.frozen?, h]⟩

theorem Try.infoBal : (Try.prog.info? 27).map (·.size) = some 2 := by kernel_rfl
theorem Try.infoVote : (Try.prog.info? 33).map (·.size) = some 4 := by kernel_rfl
/-- What a function hands back through a variable of a ballot's or a vote's type. -/
theorem results_bal {fn : Func} {p : Nat} (h : fn.results = #[.cell p 27]) (tmps : Array Value) (w : World) {g : Nat} {x y : Value} {t : TypeId} {fr : Nat × Nat} (hp : tmps.getD p undef = .pointer (some ⟨g, 0, none⟩)) (hg : w.heap[g]? = some (.cells #[x, y] t fr)) :
    (results fn tmps).run Try.prog w = .ok (.agg #[x, y]) w :=
  results_cell_row h tmps w g t #[x, y] fr _ hp hg Try.underlying27 rfl Try.infoBal
theorem results_vote {fn : Func} {p : Nat} (h : fn.results = #[.cell p 33]) (tmps : Array Value) (w : World) {g : Nat} {x y z u : Value} {t : TypeId} {fr : Nat × Nat} (hp : tmps.getD p undef = .pointer (some ⟨g, 0, none⟩)) (hg : w.heap[g]? = some (.cells #[x, y, z, u] t fr)) :
    (results fn tmps).run Try.prog w = .ok (.agg #[x, y, z, u]) w :=
  results_cell_row h tmps w g t #[x, y, z, u] fr _ hp hg Try.underlying33 rfl Try.infoVote

set_option maxHeartbeats 400000 in
theorem less_raw {w : World} (ar an br bn : Int) :
    Calls Try.prog 34 #[.agg #[.int .i64 ar, .int .i64 an], .agg #[.int .i64 br, .int .i64 bn]] w fun e w' => e = .returned (.bool (less ⟨ar, an⟩ ⟨br, bn⟩)) ∧ Kept (fun _ => True) w w' := by
  by_cases h : ar = br
  · subst h
    go_enter Try.func34, Try.ntmps34
    go_wp2
    go_ret
    exact ⟨by simp [less], ((Kept.refl _ _).alloc _).alloc _⟩
  · go_enter Try.func34, Try.ntmps34
    go_wp2
    go_ret
    exact ⟨by simp [less, h], ((Kept.refl _ _).alloc _).alloc _⟩
theorem less_any {w : World} (a b : Bl) :
    Calls Try.prog 34 #[.agg #[.int .i64 a.r, .int .i64 a.n], .agg #[.int .i64 b.r, .int .i64 b.n]] w fun e w' => e = .returned (.bool (less a b)) ∧ Kept (fun _ => True) w w' := less_raw _ _ _ _

set_option maxHeartbeats 400000 in
theorem mayVote_any {w : World} (b : Bl) :
    Calls Try.prog 35 #[.agg #[.int .i64 b.r, .int .i64 b.n]] w fun e w' => e = .returned (.bool (less ⟨0, 0⟩ b)) ∧ Kept (fun _ => True) w w' := by
  have c := fun W => less_any (w := W) ⟨0, 0⟩ b
  go_enter Try.func35, Try.ntmps35
  go_wp2_with (go_at_call 34; refine Calls.mono (c _) ?_; rintro e w1 ⟨rfl, k1⟩)
  go_ret
  exact ⟨rfl, ((Kept.refl _ _).alloc _).trans k1⟩

set_option maxHeartbeats 400000 in
theorem new_any {w : World} :
    Calls Try.prog 20 #[] w fun e w' => ∃ A M, e = .returned (.pointer (some ⟨A, 0, none⟩)) ∧ Ac w' A M 0 ⟨0, 0⟩ (fun _ => none) ∧ Kept (fun _ => True) w w' ∧ w.heap.size ≤ A ∧ w.heap.size ≤ M := by
  have hmm := @run_makeMap Try.prog
  go_enter Try.func20, Try.ntmps20
  go_wp2
  go_ret
  have k1 : Kept (fun _ => True) w (w.alloc (.map #[] 0)) := (Kept.refl _ _).alloc _
  refine ⟨w.heap.size + 1, _, rfl, ⟨heap_alloc2_new _ _ _, (Mp.made w).kept ((Kept.refl (fun _ => True) _).alloc _) trivial⟩, k1.alloc _, by omega, Nat.le_refl _⟩

set_option maxHeartbeats 400000 in
theorem promised_any {w : World} {A M n : Nat} {p : Bl} {f : Vs} (h : Ac w A M n p f) :
    Calls Try.prog 22 #[.pointer (some ⟨A, 0, none⟩)] w fun e w' => e = .returned (.agg #[.int .i64 p.r, .int .i64 p.n]) ∧ Kept (fun _ => True) w w' := by
  obtain ⟨c0, c1, c2, f0, f1, f2⟩ := acell h.self
  have lt := h.lt
  go_enter Try.func22, Try.ntmps22
  go_wp2
  refine bodyPost_ret (results_bal rfl _ _ rfl (heap_alloc_new _ _)) rfl ⟨rfl, (Kept.refl _ _).alloc _⟩

end Go.Proofs.Ytpgoedpodfidjaa
