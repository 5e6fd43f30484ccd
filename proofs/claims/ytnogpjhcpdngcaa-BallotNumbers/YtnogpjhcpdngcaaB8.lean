/-
  Load.
-/
import Derived.Test.YtnogpjhcpdngcaaB7
import Derived.Test.YtnogpjhcpdngcaaXRd6
namespace Go.Proofs.Ytnogpjhcpdngcaa
open Go.RowKit

/-- The next ballot, the next vote. -/
def rbal (s : RS) (bs : List UInt8) : Bl × RS := (⟨i64 ((s.num bs 8).1 : Nat), i64 (((s.num bs 8).2.num bs 8).1 : Nat)⟩, ((s.num bs 8).2.num bs 8).2)
def rvote (s : RS) (bs : List UInt8) : Vo × RS :=
  (⟨((s.count bs 511).1 : Nat), (rbal (s.count bs 511).2 bs).1, ⟨((rbal (s.count bs 511).2 bs).2.text bs ((rbal (s.count bs 511).2 bs).2.left bs)).1.toArray⟩⟩, ((rbal (s.count bs 511).2 bs).2.text bs ((rbal (s.count bs 511).2 bs).2.left bs)).2)
/-- The next k votes. -/
def loads (p : Bl) (bs : List UInt8) : Nat → RS → Int → Vs → Option (RS × Vs)
  | 0, s, _, f => some (s, f)
  | k + 1, s, last, f => if (decide ((rvote s bs).1.s ≤ last) || !less ⟨0, 0⟩ (rvote s bs).1.b || less p (rvote s bs).1.b) = true then none else loads p bs k (rvote s bs).2 (rvote s bs).1.s (upd f (rvote s bs).1.s.toNat (rvote s bs).1.b (rvote s bs).1.v)
def load (bs : List UInt8) : Option (Bl × Vs) :=
  if less (rbal ⟨0, 0⟩ bs).1 ⟨0, 0⟩ = true then none
  else match loads (rbal ⟨0, 0⟩ bs).1 bs ((rbal ⟨0, 0⟩ bs).2.count bs 512).1 ((rbal ⟨0, 0⟩ bs).2.count bs 512).2 (-1) (fun _ => none) with
    | none => none
    | some r => if (r.1.end_ bs).1 = 0 then some ((rbal ⟨0, 0⟩ bs).1, r.2) else none

theorem rvote_slot (s : RS) (bs : List UInt8) : 0 ≤ (rvote s bs).1.s ∧ (rvote s bs).1.s < 512 := by
  have : ((s.count bs 511).1 : Int) ≤ 511 := by
    unfold RS.count
    split
    · simp
    · rename_i h; omega
  constructor
  · show (0 : Int) ≤ ((s.count bs 511).1 : Nat); omega
  · show ((s.count bs 511).1 : Int) < 512; omega
theorem count_most (s : RS) (bs : List UInt8) (m : Nat) : (s.count bs m).1 ≤ m := by
  unfold RS.count
  split
  · simp
  · rename_i h; omega

theorem Kept.setNew {p : Nat → Prop} {a w : World} (h : Kept p a w) {ad : Addr} (hp : a.heap.size ≤ ad.block) (u : Value) : Kept p a (w.setCell ad u) :=
  ⟨h.os, h.tape, h.output, by simpa [World.setCell] using h.size, fun k hk hpk => (Below.heap_setCell _ _ _ _ (by omega)).trans (h.block k hk hpk)⟩
theorem set_at {w : World} {b : Nat} {cs : Array Value} {t : TypeId} {fr : Nat × Nat} (h : w.heap[b]? = some (.cells cs t fr)) (k : Nat) (u : Value) : (w.setCell ⟨b, k, none⟩ u).heap[b]? = some (.cells (cs.setIfInBounds k u) t fr) := by
  have hlt := lt_of_block h
  have h' : w.heap[b] = .cells cs t fr := by simpa [Array.getElem?_eq_getElem hlt] using h
  show (w.heap.modify b _)[b]? = _
  rw [Array.getElem?_eq_getElem (by simpa using hlt), Array.getElem_modify_self, h']
  rfl

set_option maxHeartbeats 400000 in
theorem readBallot_any {w : World} {B R : Nat} {bs : List UInt8} {cap : Nat} {s : RS} (h : Rs w B R bs cap s) :
    Calls Try.prog 28 #[.pointer (some ⟨B, 0, none⟩)] w fun e w' => e = .returned (.agg #[.int .i64 (rbal s bs).1.r, .int .i64 (rbal s bs).1.n]) ∧ Rs w' B R bs cap (rbal s bs).2 ∧ Kept (· ≠ B) w w' := by
  have k1 : Kept (fun _ => True) w (w.alloc (.cells #[.int .i64 0, .int .i64 0] 26)) := (Kept.refl _ _).alloc _
  have h1 := h.kept k1 trivial trivial
  have hB : w.heap.size ≠ B ∧ w.heap.size ≠ R := ⟨Ne.symm (Nat.ne_of_lt h.lt), Ne.symm (Nat.ne_of_lt h.rowlt)⟩
  have hX := heap_alloc_new w (.cells #[.int .i64 0, .int .i64 0] 26)
  unfold rbal
  go_enter Try.func28, Try.ntmps28
  go_wp2_with fail
  generalize hw1 : w.alloc (.cells #[.int .i64 0, .int .i64 0] 26) = w1 at *
  generalize hXe : w.heap.size = X at hX hB ⊢
  have HX : Hid (w.heap.size ≤ X) := Nat.le_of_eq hXe
  clear hw1 hXe
  refine Calls.mono (eight_any h1) ?_
  rintro e w2 ⟨rfl, h2, k2⟩
  have hX2 := (k2.block X (lt_of_block hX) hB.1).trans hX
  clear h1 hX
  go_wp2_with fail
  refine Calls.mono (eight_any h2) ?_
  rintro e w3 ⟨rfl, h3, k3⟩
  have hX3 := (k3.block X (lt_of_block hX2) hB.1).trans hX2
  have k4 : Kept (· ≠ B) w w3 := (k1.mono (fun _ _ _ => trivial)).trans (k2.trans k3)
  have hlt := lt_of_block hX3
  have f0 : w3.frozen? ⟨X, 0, none⟩ = false := by simp [World.frozen?, hX3]
  have f1 : w3.frozen? ⟨X, 1, none⟩ = false := by simp [World.frozen?, hX3]
  obtain ⟨x0, x1⟩ := bcell hX3
  clear h2 hX2 k1 k2 k3
  go_wp2_with fail
  refine bodyPost_ret (results_bal rfl _ _ rfl (set_at (set_at hX3 0 _) 1 _)) rfl ⟨rfl, h3.kept (p := (· ≠ X)) (((Kept.refl _ _).setCell (by simp) _).setCell (by simp) _) (Ne.symm hB.1) (Ne.symm hB.2), (k4.setNew HX.out _).setNew HX.out _⟩

set_option maxRecDepth 100000 in
set_option maxHeartbeats 1000000 in
theorem readVote_any {w : World} {B R : Nat} {bs : List UInt8} {cap : Nat} {s : RS} (h : Rs w B R bs cap s) :
    Calls Try.prog 30 #[.pointer (some ⟨B, 0, none⟩)] w fun e w' => e = .returned (.agg #[.int .i64 (rvote s bs).1.s, .int .i64 (rvote s bs).1.b.r, .int .i64 (rvote s bs).1.b.n, .string (rvote s bs).1.v]) ∧ Rs w' B R bs cap (rvote s bs).2 ∧ Kept (· ≠ B) w w' := by
  have k1 : Kept (fun _ => True) w (w.alloc (.cells #[.int .i64 0, .int .i64 0, .int .i64 0, .string ⟨#[]⟩] 36)) := (Kept.refl _ _).alloc _
  have h1 := h.kept k1 trivial trivial
  have hB : w.heap.size ≠ B ∧ w.heap.size ≠ R := ⟨Ne.symm (Nat.ne_of_lt h.lt), Ne.symm (Nat.ne_of_lt h.rowlt)⟩
  have hX := heap_alloc_new w (.cells #[.int .i64 0, .int .i64 0, .int .i64 0, .string ⟨#[]⟩] 36)
  unfold rvote
  have cc := fun W (q : Rs W B R bs cap s) => count_any 511 q
  generalize s.count bs 511 = r at cc ⊢
  obtain ⟨n, s2⟩ := r
  have cb := fun W (q : Rs W B R bs cap s2) => readBallot_any q
  simp only at cc ⊢
  generalize rbal s2 bs = r at cb ⊢
  obtain ⟨⟨br, bn⟩, s3⟩ := r
  have cl' := fun W (q : Rs W B R bs cap s3) => left_is q
  have ct' := fun W (q : Rs W B R bs cap s3) => text_any (s3.left bs) q
  simp only at cb ⊢
  generalize s3.left bs = L at cl' ct' ⊢
  generalize s3.text bs L = r at ct' ⊢
  obtain ⟨t, s6⟩ := r
  simp only at ct' ⊢
  go_enter Try.func30, Try.ntmps30
  go_wp2_with fail
  generalize hw1 : w.alloc (.cells #[.int .i64 0, .int .i64 0, .int .i64 0, .string ⟨#[]⟩] 36) = w1 at *
  generalize hXe : w.heap.size = X at hX hB ⊢
  have HX : Hid (w.heap.size ≤ X) := Nat.le_of_eq hXe
  clear hw1 hXe
  refine Calls.mono (cc _ h1) ?_
  rintro e w2 ⟨rfl, h2, k2⟩
  have hX2 := (k2.block X (lt_of_block hX) hB.1).trans hX
  clear h1 hX
  go_wp2_with fail
  refine Calls.mono (cb _ h2) ?_
  rintro e w3 ⟨rfl, h3, k3⟩
  have hX3 := (k3.block X (lt_of_block hX2) hB.1).trans hX2
  have k4 : Kept (· ≠ B) w w3 := (k1.mono (fun _ _ _ => trivial)).trans (k2.trans k3)
  clear h2 hX2 k1 k2 k3
  go_wp2_with fail
  have k5 : Kept (fun _ => True) w3 (w3.alloc (.cells #[.int .i64 br, .int .i64 bn] 26)) := (Kept.refl _ _).alloc _
  have hY := heap_alloc_new w3 (.cells #[.int .i64 br, .int .i64 bn] 26)
  have hYB : w3.heap.size ≠ B ∧ w3.heap.size ≠ X := ⟨Ne.symm (Nat.ne_of_lt h3.lt), Ne.symm (Nat.ne_of_lt (lt_of_block hX3))⟩
  have H5 : Hid (Rs _ B R bs cap s3) := h3.kept k5 trivial trivial
  have hX5 := (k5.block X (lt_of_block hX3) trivial).trans hX3
  have K5 : Hid (Kept (· ≠ B) w (w3.alloc (.cells #[.int .i64 br, .int .i64 bn] 26))) := k4.trans (k5.mono (fun _ _ _ => trivial))
  clear k5 h3 hX3 k4
  generalize hw5 : w3.alloc (.cells #[.int .i64 br, .int .i64 bn] 26) = w5 at *
  generalize w3.heap.size = Y at *
  clear hw5
  obtain ⟨y0, y1⟩ := bcell hY
  obtain ⟨x0, x1, x2, x3⟩ := vcell hX5
  have u0 : ∀ W, Kept (fun x => x ≠ B ∧ x ≠ X) w5 W → W.cell? ⟨Y, 0, none⟩ = some (.int .i64 br) := fun W k => cell_kept k y0 hYB
  have u1 : ∀ W, Kept (fun x => x ≠ B ∧ x ≠ X) w5 W → W.cell? ⟨Y, 1, none⟩ = some (.int .i64 bn) := fun W k => cell_kept k y1 hYB
  have kd : Kept (fun x => x ≠ B ∧ x ≠ X) w5 w5.drew := (Kept.refl _ _).drew
  have cl := cl' _ (H5.out.kept (p := fun _ => True) (Kept.refl _ _).drew trivial trivial)
  have ct := fun (m : Nat) => ct' _ (H5.out.kept (p := fun _ => True) ((Kept.refl _ _).drewN m) trivial trivial)
  clear cl' ct' cc cb
  clear y0 y1 hY
  have HV : Hid (w5.heap[X]? = some (.cells #[.int .i64 0, .int .i64 0, .int .i64 0, .string ⟨#[]⟩] 36 (0, 0))) := hX5
  clear x0 x1 x2 x3 hX5
  go_wp2_with fail
  have hXn : ∀ m, (w5.drewN m).heap[X]? = some (.cells #[.int .i64 0, .int .i64 0, .int .i64 0, .string ⟨#[]⟩] 36 (0, 0)) := fun m => HV.out
  have kN : ∀ m, Kept (fun x => x ≠ B ∧ x ≠ X) w5 (w5.drewN m) := fun m => (Kept.refl _ _).drewN m
  go_region_held (fun W => Kept (fun x => x ≠ B ∧ x ≠ X) w5 W) (first | assumption | exact (Kept.refl _ _).drewN _ | exact ((((k7'.setCell (by simp) _).setCell (by simp) _).setCell (by simp) _).setCell (by simp) _)) (first
    | (go_at_call 43; refine Calls.mono cl ?_; rintro e w6 ⟨rfl, m6, rfl⟩)
    | (go_at_call 42; refine Calls.mono (ct _) ?_; rintro e w7 ⟨rfl, h7, k7⟩; have k7' : Kept (fun x => x ≠ B ∧ x ≠ X) w5 w7 := (kN _).trans (k7.mono (fun _ _ q => q.1)); have hX7 := (k7.block X (lt_of_block (hXn _)) hB.1).trans (hXn _); have f0 : w7.frozen? ⟨X, 0, none⟩ = false := (by simp [World.frozen?, hX7]); have f1 : w7.frozen? ⟨X, 1, none⟩ = false := (by simp [World.frozen?, hX7]); have f2 : w7.frozen? ⟨X, 2, none⟩ = false := (by simp [World.frozen?, hX7]); have f3 : w7.frozen? ⟨X, 3, none⟩ = false := (by simp [World.frozen?, hX7]); have ⟨x0, x1, x2, x3⟩ := vcell hX7))
  all_goals
    go_wp2_with fail
    refine bodyPost_ret (results_vote rfl _ _ rfl (set_at (set_at (set_at (set_at hX7 0 _) 1 _) 2 _) 3 _)) rfl ⟨rfl, h7.kept (p := (· ≠ X)) (((((Kept.refl _ _).setCell (by simp) _).setCell (by simp) _).setCell (by simp) _).setCell (by simp) _) (Ne.symm hB.1) (Ne.symm hB.2), ?_⟩
    have k8 : Kept (· ≠ B) w w7 := K5.out.trans (((Kept.refl _ _).drewN _).trans k7)
    exact (((k8.setNew HX.out _).setNew HX.out _).setNew HX.out _).setNew HX.out _

end Go.Proofs.Ytnogpjhcpdngcaa
