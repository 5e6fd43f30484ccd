/-
  For TxnStays: four letters cut, an array of who said yes.
-/
import Derived.Test.YtebpkhemkdgbjaaYInv
import Derived.Test.YtebpkhemkdgbjaaYB
namespace Go.Proofs.Ytebpkhemkdgbjaa
open Go.RowKit

theorem Xv.take {p : Nat → Prop} {w : World} {ao : Option Addr} {cap : Nat} {xs : List (List UInt8)} (h : Xv p w ao cap xs) (k : Nat) : Xv p w ao cap (xs.take k) := by
  have hm := h.most
  refine ⟨fun h0 => ?_, by rw [List.length_take]; omega⟩
  rw [List.length_take] at h0
  obtain ⟨b, off, e, hp, hb, hc⟩ := h.row (by omega)
  refine ⟨b, off, e, hp, hb, fun i hi => ?_⟩
  rw [List.length_take] at hi
  rw [List.getElem_take]
  exact hc i (by omega)
set_option maxRecDepth 100000 in
theorem cut_texts {ad : Addr} {n cap k : Nat} (hc : k ≤ cap) (w0 : World) : (Instr.slice 37 (.slice (some ad) n cap) none (some (.int .i64 (k : Int))) none).run Try.prog w0 = .ok (.slice (some ad) k cap) w0 := by
  rw [run_slice_h (P := Try.prog) w0 37 _ n cap Try.underlying37 .i64 k (by omega) (by omega), size_text]
  simp [Result.andThen, sliced, Addr.add]
def abcd : List (List UInt8) := [[97], [98], [99], [100]]
theorem abcd_take (n : Nat) (hn : n ≤ 4) : (abcd.take n).length = n := by
  rw [List.length_take]
  have : abcd.length = 4 := rfl
  omega
/-- A Vote of the first letters, in a new block. -/
theorem vote_abcd {w : World} {b T A : Nat} {ov tv : Value} {z : Tn} (h : Tm w b T ov tv z) (hA : w.heap[A]? = some (.cells #[.string ⟨#[97]⟩, .string ⟨#[98]⟩, .string ⟨#[99]⟩, .string ⟨#[100]⟩] 9 (0, 0))) (hT : A ≠ T) (hv : tv.ownBlock ≠ some A) (g : Int) (yes : Bool) (n : Nat) (hn : n ≤ 4) (ar wy : Int) :
    Calls Try.prog 12 #[.pointer (some ⟨T, 0, none⟩), .int .i64 g, .bool yes, .slice (some ⟨A, 0, none⟩) n 4, .int .i64 ar, .int .i64 wy] w fun e w' => e = .returned (.tuple #[]) ∧ Tm w' b T ov tv (z.vote g yes (abcd.take n) ar wy) ∧ Tstep T tv w w' := by
  have hx : Xv (fun x => x ≠ T ∧ tv.ownBlock ≠ some x) w (some ⟨A, 0, none⟩) 4 abcd := by
    refine ⟨fun _ => ⟨A, 0, rfl, ⟨hT, hv⟩, lt_of_block hA, fun i hi => ?_⟩, Nat.le_refl _⟩
    match i, hi with
    | 0, _ => exact cell_of_row _ _ 0 _ _ _ hA
    | 1, _ => exact cell_of_row _ _ 1 _ _ _ hA
    | 2, _ => exact cell_of_row _ _ 2 _ _ _ hA
    | 3, _ => exact cell_of_row _ _ 3 _ _ _ hA
  have c := vote_any h g yes (hx.take n) ar wy
  rw [abcd_take n hn] at c
  exact c
theorem grp_some {h : Nat → Int} {n : Nat} (h0 : 0 < n) (hg : ∀ k, k < n → 0 ≤ h k ∧ h k < 3) : 0 < (grp h n 3).length := by
  have h1 := hg 0 h0
  have : (h 0).toNat ∈ grp h n 3 := by
    refine List.mem_filter.2 ⟨List.mem_range.2 (by omega), ?_⟩
    have : 0 ∈ idx h n (h 0).toNat := List.mem_filter.2 ⟨List.mem_range.2 h0, by simp; omega⟩
    cases e : idx h n (h 0).toNat with
    | nil => rw [e] at this; simp at this
    | cons a l => rfl
  exact List.length_pos_of_mem this
theorem grp_owl {h : Nat → Int} {n g : Nat} (hg : g ∈ grp h n 3) : g < 3 ∧ g ∈ owl h n := by
  obtain ⟨h1, h2⟩ := List.mem_filter.1 hg
  refine ⟨List.mem_range.1 h1, ?_⟩
  cases e : idx h n g with
  | nil => rw [e] at h2; simp at h2
  | cons k l =>
    obtain ⟨h3, h4⟩ := idx_mem (show k ∈ idx h n g by rw [e]; simp)
    exact List.mem_map.2 ⟨k, List.mem_range.2 h3, by omega⟩
theorem heap_alloc_drew (w : World) (o : Obj) : (w.alloc o).drew.heap[w.heap.size]? = some o := heap_alloc_new w o
theorem heap_drew_alloc (w : World) (o : Obj) : (w.drew.alloc o).heap[w.heap.size]? = some o := heap_alloc_new w.drew o
/-- Who said yes, in memory. -/
def Ya (w : World) (Y : Nat) (s : B3) : Prop := Af w Y 72 3 (fun i => .bool (s.at i))
theorem Ya.made (w : World) : Ya (w.alloc (.cells #[.bool false, .bool false, .bool false] 72)) w.heap.size B3.none := heap_alloc_new w _
theorem Ya.put {w : World} {Y : Nat} {s : B3} (h : Ya w Y s) {g : Nat} (hg : g < 3) (b : Bool) : Ya (w.setCell ⟨Y, g, none⟩ (.bool b)) Y (s.put b g) := by
  refine Af.congr (Af.set h g (.bool b)) (fun i _ => ?_)
  simp only [B3.at_put _ _ _ _ hg]
  split <;> rfl
theorem Ya.cell {w : World} {Y : Nat} {s : B3} (h : Ya w Y s) {g : Nat} (hg : g < 3) : w.cell? ⟨Y, g, none⟩ = some (.bool (s.at g)) := Af.cell h hg
theorem Ya.kept {p : Nat → Prop} {w w' : World} {Y : Nat} {s : B3} (h : Ya w Y s) (k : Kept p w w') (hp : p Y) : Ya w' Y s := (k.block _ (lt_of_block h) hp).trans h
theorem Ya.free {w : World} {Y : Nat} {s : B3} (h : Ya w Y s) (g : Nat) : w.frozen? ⟨Y, g, none⟩ = false := by
  have h2 := h
  unfold Ya Af at h2
  simp [World.frozen?, h2]
/-- What the rounds leave. -/
def PY (T : Nat) (tv : Value) (Y x : Nat) : Prop := (x ≠ T ∧ tv.ownBlock ≠ some x) ∧ x ≠ Y
/-- What one call leaves. -/
def Turned (w w' : World) (b T : Nat) (ov tv : Value) (L : List Nat) (z : Tn) (Y : Nat) : Prop := ∃ z' ys', Tm w' b T ov tv z' ∧ InvS L z' ys' ∧ (z.oc ≠ 0 → Alike z z') ∧ Ya w' Y ys' ∧ Kept (PY T tv Y) w w'
theorem turned_yes {w w1 w2 : World} {b T : Nat} {ov tv : Value} {L : List Nat} {z z' : Tn} {Y g : Nat} {ys : B3} (ht : Tm w1 b T ov tv z') {c : Bool} (hI : InvS L z' (ys.put c g) ∧ (z.oc ≠ 0 → Alike z z')) (hy : Ya w1 Y ys) (k : Kept (PY T tv Y) w w1) (hg : g < 3) (h1 : Y ≠ T) (h2 : tv.ownBlock ≠ some Y) (e : w2 = (w1.setCell ⟨Y, g, none⟩ (.bool c)).drew ∨ w2 = w1.drew.setCell ⟨Y, g, none⟩ (.bool c)) : Turned w w2 b T ov tv L z Y := by
  have key : ∀ w2, Kept (· ≠ Y) w1 w2 → Ya w2 Y (ys.put c g) → Turned w w2 b T ov tv L z Y := fun w2 k2 hy2 => by
    have hYo : ov.ownBlock ≠ some Y := fun q => ht.ow.ne hy (by decide) q
    exact ⟨z', ys.put c g, ht.kept k2 (fun q => h1 q.symm) (fun x hx q => hYo (q ▸ hx)) (fun x hx q => h2 (q ▸ hx)), hI.1, hI.2, hy2, k.trans (k2.mono (fun _ _ q => q.2))⟩
  rcases e with rfl | rfl
  · exact key _ (((Kept.refl _ _).setCell (by simp) _).drew) (hy.put hg c)
  · exact key _ (((Kept.refl _ _).drew).setCell (by simp) _) (hy.put hg c)

end Go.Proofs.Ytebpkhemkdgbjaa
