/-
  Load: readLast, and Load plainly.
-/
import Derived.Test.YtihfcmcpapgokaaE5
import Derived.Test.YtihfcmcpapgokaaXRd6
import Derived.Test.YtihfcmcpapgokaaXNew
namespace Go.Proofs.Ytihfcmcpapgokaa
open Go.RowKit

/-- The next client. -/
def rlast (s : RS) (bs : List UInt8) : La × RS :=
  (⟨(s.text bs (s.left bs)).1, i64 (((s.text bs (s.left bs)).2.num bs 8).1 : Nat), (((s.text bs (s.left bs)).2.num bs 8).2.text bs (((s.text bs (s.left bs)).2.num bs 8).2.left bs)).1⟩,
   (((s.text bs (s.left bs)).2.num bs 8).2.text bs (((s.text bs (s.left bs)).2.num bs 8).2.left bs)).2)
/-- The next k clients. -/
def loads (bs : List UInt8) : Nat → RS → List La → Option (RS × List La)
  | 0, s, xs => some (s, xs)
  | k + 1, s, xs => if xs.any (isC (rlast s bs).1.c) = true then none else loads bs k (rlast s bs).2 (xs ++ [(rlast s bs).1])
def load (bs : List UInt8) : Option (Nat × List La) :=
  if ((⟨0, 0⟩ : RS).count bs 64).1 < 1 then none
  else match loads bs (((⟨0, 0⟩ : RS).count bs 64).2.count bs ((⟨0, 0⟩ : RS).count bs 64).1).1 (((⟨0, 0⟩ : RS).count bs 64).2.count bs ((⟨0, 0⟩ : RS).count bs 64).1).2 [] with
    | none => none
    | some r => if (r.1.end_ bs).1 = 0 then some (((⟨0, 0⟩ : RS).count bs 64).1, r.2) else none

theorem count_most (s : RS) (bs : List UInt8) (m : Nat) : (s.count bs m).1 ≤ m := by
  unfold RS.count
  split
  · simp
  · rename_i h; omega

theorem Try.sizeLast : (Try.prog.info? 54).map (·.size) = some 3 := by kernel_rfl
theorem results_last {fn : Func} {p : Nat} (h : fn.results = #[.cell p 54]) (tmps : Array Value) (w : World) {g : Nat} {x y z : Value} {t : TypeId} {fr : Nat × Nat} (hp : tmps.getD p undef = .pointer (some ⟨g, 0, none⟩)) (hg : w.heap[g]? = some (.cells #[x, y, z] t fr)) :
    (results fn tmps).run Try.prog w = .ok (.agg #[x, y, z]) w :=
  results_cell_row h tmps w g t #[x, y, z] fr _ hp hg Try.underlying54 rfl Try.sizeLast
theorem set_at {w : World} {b : Nat} {cs : Array Value} {t : TypeId} {fr : Nat × Nat} (h : w.heap[b]? = some (.cells cs t fr)) (k : Nat) (u : Value) : (w.setCell ⟨b, k, none⟩ u).heap[b]? = some (.cells (cs.setIfInBounds k u) t fr) := by
  have hlt := lt_of_block h
  have h' : w.heap[b] = .cells cs t fr := by simpa [Array.getElem?_eq_getElem hlt] using h
  show (w.heap.modify b _)[b]? = _
  rw [Array.getElem?_eq_getElem (by simpa using hlt), Array.getElem_modify_self, h']
  rfl

set_option maxRecDepth 100000 in
set_option maxHeartbeats 1000000 in
theorem readLast_any {w : World} {B R : Nat} {bs : List UInt8} {cap : Nat} {s : RS} (h : Rs w B R bs cap s) :
    Calls Try.prog 24 #[.pointer (some ⟨B, 0, none⟩)] w fun e w' => e = .returned (.agg #[.string ⟨(rlast s bs).1.c.toArray⟩, .int .i64 (rlast s bs).1.i, .string ⟨(rlast s bs).1.r.toArray⟩]) ∧ Rs w' B R bs cap (rlast s bs).2 ∧ Kept (· ≠ B) w w' := by
  have k1 : Kept (fun _ => True) w (w.alloc (.cells #[.string ⟨#[]⟩, .int .i64 0, .string ⟨#[]⟩] 54)) := (Kept.refl _ _).alloc _
  have h1 := h.kept k1 trivial trivial
  have hB : w.heap.size ≠ B ∧ w.heap.size ≠ R := ⟨Ne.symm (Nat.ne_of_lt h.lt), Ne.symm (Nat.ne_of_lt h.rowlt)⟩
  have hX := heap_alloc_new w (.cells #[.string ⟨#[]⟩, .int .i64 0, .string ⟨#[]⟩] 54)
  unfold rlast
  have cl := fun W (q : Rs W B R bs cap s) => left_is q
  have ct := fun W (q : Rs W B R bs cap s) => text_any (s.left bs) q
  generalize s.left bs = L at cl ct ⊢
  generalize s.text bs L = a at ct ⊢
  obtain ⟨a, s2⟩ := a
  have cn := fun W (q : Rs W B R bs cap s2) => eight_any q
  simp only at ct ⊢
  generalize s2.num bs 8 = n at cn ⊢
  obtain ⟨n, s3⟩ := n
  have cl' := fun W (q : Rs W B R bs cap s3) => left_is q
  have ct' := fun W (q : Rs W B R bs cap s3) => text_any (s3.left bs) q
  simp only at cn ⊢
  generalize s3.left bs = L' at cl' ct' ⊢
  generalize s3.text bs L' = t at ct' ⊢
  obtain ⟨t, s4⟩ := t
  simp only at ct' ⊢
  go_enter Try.func24, Try.ntmps24
  go_wp2_with fail
  generalize hw1 : w.alloc (.cells #[.string ⟨#[]⟩, .int .i64 0, .string ⟨#[]⟩] 54) = w1 at *
  generalize hXe : w.heap.size = X at hX hB ⊢
  have HX : Hid (w.heap.size ≤ X) := Nat.le_of_eq hXe
  clear hw1 hXe
  refine Calls.mono (cl _ h1) ?_
  rintro e w2 ⟨rfl, m2, rfl⟩
  have h2 := h1.kept (p := fun _ => True) ((Kept.refl _ _).drewN m2) trivial trivial
  have hX2 : (w1.drewN m2).heap[X]? = _ := hX
  replace k1 := k1.drewN m2
  clear h1 hX cl
  generalize w1.drewN m2 = w2 at *
  go_wp2_with fail
  refine Calls.mono (ct _ h2) ?_
  rintro e w3 ⟨rfl, h3, k3⟩
  have hX3 := (k3.block X (lt_of_block hX2) hB.1).trans hX2
  clear h2 hX2 ct
  go_wp2_with fail
  refine Calls.mono (cn _ h3) ?_
  rintro e w4 ⟨rfl, h4, k4⟩
  have hX4 := (k4.block X (lt_of_block hX3) hB.1).trans hX3
  clear h3 hX3 cn
  go_wp2_with fail
  refine Calls.mono (cl' _ h4) ?_
  rintro e w5 ⟨rfl, m5, rfl⟩
  have h5 := h4.kept (p := fun _ => True) ((Kept.refl _ _).drewN m5) trivial trivial
  have hX5 : (w4.drewN m5).heap[X]? = _ := hX4
  have k5 : Kept (· ≠ B) w (w4.drewN m5) := ((k1.mono (fun _ _ _ => trivial)).trans (k3.trans k4)).drewN m5
  clear h4 hX4 cl' k1 k3 k4
  generalize w4.drewN m5 = w5 at *
  go_wp2_with fail
  refine Calls.mono (ct' _ h5) ?_
  rintro e w7 ⟨rfl, h7, k7⟩
  have hX7 := (k7.block X (lt_of_block hX5) hB.1).trans hX5
  have k8 : Kept (· ≠ B) w w7 := k5.trans k7
  have f0 : w7.frozen? ⟨X, 0, none⟩ = false := by simp [World.frozen?, hX7]
  have f1 : w7.frozen? ⟨X, 1, none⟩ = false := by simp [World.frozen?, hX7]
  have f2 : w7.frozen? ⟨X, 2, none⟩ = false := by simp [World.frozen?, hX7]
  obtain ⟨x0, x1, x2⟩ := three_cell hX7
  clear h5 hX5 ct'
  go_wp2_with fail
  refine bodyPost_ret (results_last rfl _ _ rfl (set_at (set_at (set_at hX7 0 _) 1 _) 2 _)) rfl ⟨rfl, h7.kept (p := (· ≠ X)) ((((Kept.refl _ _).setCell (by simp) _).setCell (by simp) _).setCell (by simp) _) (Ne.symm hB.1) (Ne.symm hB.2), ((k8.setNew HX.out _).setNew HX.out _).setNew HX.out _⟩

end Go.Proofs.Ytihfcmcpapgokaa
