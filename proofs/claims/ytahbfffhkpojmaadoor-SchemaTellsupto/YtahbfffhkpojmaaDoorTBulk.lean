/-
  What the bound on the bulk of a type gives.
-/
import Derived.Test.YtahbfffhkpojmaaDoorTArgs
import Derived.Lib.ItoaLen
namespace Go.Proofs.YtahbfffhkpojmaaDoor
open Go.RowKit

theorem bulk_attrs {H : Type} (l : List At) (hf : ∀ a ∈ l, F64 a.start ∧ F64 a.lo ∧ F64 a.hi) : (l.flatMap (fun a => semi (pA a))).length ≤ 15 * Rows.uptoBulkAll (l.map (dA (H := H))) ∧ l.length ≤ Rows.uptoBulkAll (l.map (dA (H := H))) := by
  induction l with
  | nil => simp [Rows.uptoBulkAll]
  | cons a l ih =>
    obtain ⟨i1, i2⟩ := ih (fun x hx => hf x (List.mem_cons_of_mem _ hx))
    obtain ⟨f1, f2, f3⟩ := hf a (List.mem_cons_self ..)
    have g1 := Lib.itoa_length_le a.start f1.1 f1.2
    have g2 := Lib.itoa_length_le a.lo f2.1 f2.2
    have g3 := Lib.itoa_length_le a.hi f3.1 f3.2
    have e : (semi (pA a)).length ≤ a.name.length + 73 := by
      simp only [semi, pA, List.length_cons, List.length_append, List.length_nil]
      omega
    simp only [List.flatMap_cons, List.length_append, List.length_cons, List.map_cons, Rows.uptoBulkAll, Rows.uptoBulk, dA]
    omega
theorem bulk_rules {H : Type} (f : Ru → List UInt8) (hf : ∀ r, (f r).length ≤ r.name.length + r.guard.length + 10) (l : List Ru) : (l.flatMap f).length ≤ 15 * Rows.uptoBulkAll (l.map (dR (H := H))) ∧ l.length ≤ Rows.uptoBulkAll (l.map (dR (H := H))) := by
  induction l with
  | nil => simp [Rows.uptoBulkAll]
  | cons a l ih =>
    obtain ⟨i1, i2⟩ := ih
    have e := hf a
    simp only [List.flatMap_cons, List.length_append, List.length_cons, List.map_cons, Rows.uptoBulkAll, Rows.uptoBulk, dR]
    omega
theorem bulk_one {H : Type} {d : DataW H} {l : List (DataW H)} (h : (d = .nil ∧ l = []) ∨ ∃ spare, d = .slice l spare) : Rows.uptoBulkAll l ≤ Rows.uptoBulk d := by
  rcases h with ⟨_, rfl⟩ | ⟨spare, rfl⟩
  · simp [Rows.uptoBulkAll]
  · simp only [Rows.uptoBulk]; omega
theorem bulk_type {H : Type} {t : Ty} {d1 d2 d3 : DataW H} (hf : Tfit t) (h1 : (d1 = .nil ∧ t.attrs = []) ∨ ∃ spare, d1 = .slice (t.attrs.map dA) spare) (h2 : (d2 = .nil ∧ t.stages = []) ∨ ∃ spare, d2 = .slice (t.stages.map dR) spare) (h3 : (d3 = .nil ∧ t.marks = []) ∨ ∃ spare, d3 = .slice (t.marks.map dR) spare)
    (hb : Rows.uptoBulk (.agg [.lit (.string t.name), d1, d2, d3]) ≤ 1048576) : (write t).length ≤ 140737488355328 ∧ (nms t).length ≤ 100000000 := by
  obtain ⟨a1, a2⟩ := bulk_attrs (H := H) t.attrs hf
  obtain ⟨s1, s2⟩ := bulk_rules (H := H) (fun a => semi (pS a)) (fun r => by simp only [semi, pS, List.length_cons, List.length_append, List.length_nil]; omega) t.stages
  obtain ⟨m1, m2⟩ := bulk_rules (H := H) (fun a => semi (pM a)) (fun r => by simp only [semi, pM, List.length_cons, List.length_append, List.length_nil]; omega) t.marks
  have b1 := bulk_one (H := H) (d := d1) (l := t.attrs.map dA) (h1.elim (fun h => .inl ⟨h.1, by rw [h.2]; rfl⟩) .inr)
  have b2 := bulk_one (H := H) (d := d2) (l := t.stages.map dR) (h2.elim (fun h => .inl ⟨h.1, by rw [h.2]; rfl⟩) .inr)
  have b3 := bulk_one (H := H) (d := d3) (l := t.marks.map dR) (h3.elim (fun h => .inl ⟨h.1, by rw [h.2]; rfl⟩) .inr)
  simp only [Rows.uptoBulk, Rows.uptoBulkAll] at hb
  constructor
  · simp only [write, pT, List.length_append, List.length_cons, List.length_nil]
    omega
  · simp only [nms, List.length_append, List.length_map]
    omega

end Go.Proofs.YtahbfffhkpojmaaDoor
