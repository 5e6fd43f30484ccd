/-
  A table that is saved and loaded.
-/
import Derived.Test.YtihfcmcpapgokaaE7
import Derived.Test.YtihfcmcpapgokaaE8
import Derived.Test.YtihfcmcpapgokaaE9
namespace Go.Proofs.Ytihfcmcpapgokaa
open Go.RowKit

/-- Bytes that lie in a block by themselves. -/
theorem row_has {w : World} {D : Nat} {bs : List UInt8} {fr : Nat × Nat} (h : w.heap[D]? = some (.cells (cells bs).toArray 5 fr)) : Has w (some ⟨D, 0, none⟩) bs := by
  intro _
  refine ⟨_, rfl, fun j hj => ?_⟩
  have e : (Addr.mk D 0 none).add j = ⟨D, j, none⟩ := by
    unfold Addr.add
    split <;> simp_all
  rw [e]
  exact row_cells (w := w) (bs := bs) h (List.take_of_length_le (by simp [cells_length])) j hj

/-- A table as it may stand: m clients at most, each once, each such as can be saved. -/
structure Good (m : Nat) (xs : List La) : Prop where
  one : 1 ≤ m
  top : m ≤ 64
  most : xs.length ≤ m
  fine : ∀ x ∈ xs, Fine x
  once : Once xs
theorem Good.nil {m : Nat} (h1 : 1 ≤ m) (h2 : m ≤ 64) : Good m [] := ⟨h1, h2, Nat.zero_le _, fun x hx => by simp at hx, List.nodup_nil⟩
theorem Good.done {m : Nat} {xs : List La} (h : Good m xs) {x : La} (hx : Fine x) : Good m (done m xs x).2 := by
  have hl := done_length (m := m) (xs := xs) x (by have := h.most; omega) (by have := h.one; omega)
  exact ⟨h.one, h.top, by omega, fun y hy => (mem_done hy).elim (h.fine y) (fun e => e ▸ hx), h.once.done x⟩
theorem flat_len {xs : List La} {k : Nat} (h : ∀ x ∈ xs, (encLast x).length ≤ k) : (xs.flatMap encLast).length ≤ xs.length * k := by
  induction xs with
  | nil => simp
  | cons x xs ih =>
    have h1 := h x (by simp)
    have h2 := ih (fun y hy => h y (by simp [hy]))
    rw [List.flatMap_cons, List.length_append, List.length_cons, Nat.add_mul]
    omega
theorem Good.size {m : Nat} {xs : List La} (h : Good m xs) : (saved m xs).length ≤ 140737488355328 := by
  have := flat_len (xs := xs) (k := 8589934700) (fun x hx => by
    have := (h.fine x hx).c
    have := (h.fine x hx).r
    rw [encLast_length]; omega)
  have h2 : xs.length * 8589934700 ≤ 64 * 8589934700 := Nat.mul_le_mul_right _ (Nat.le_trans h.most h.top)
  unfold saved
  rw [List.length_append, savedHead_length]
  omega

/-- Load of what was saved. -/
theorem load_to {w : World} {D : Nat} {fr : Nat × Nat} {m : Nat} {xs : List La} (h : w.heap[D]? = some (.cells (cells (saved m xs)).toArray 5 fr)) (hg : Good m xs) (cap : Nat) :
    Calls Try.prog 11 #[.slice (some ⟨D, 0, none⟩) (saved m xs).length cap] w fun e w' => ∃ A v, e = .returned (.tuple #[.pointer (some ⟨A, 0, none⟩), .int .i64 0]) ∧ TM w w' A v m xs := by
  refine Calls.mono (load_any (by have := hg.size; omega) (row_has h)) ?_
  have e := load_saved hg.one hg.top hg.most hg.fine hg.once
  rintro r w' ⟨⟨hn, -⟩ | ⟨A, v, m', ys, hs, rfl, hp, -, hA, hv⟩, hk⟩
  · rw [e] at hn; cases hn
  · rw [e] at hs
    cases hs
    exact ⟨A, v, rfl, hp, hk, hA, hv⟩

end Go.Proofs.Ytihfcmcpapgokaa
