/-
  The program's table and the document's side by side.
-/
import Derived.Test.YtkinpgkckbocpaaKR2
namespace Go.Proofs.Ytkinpgkckbocpaa
open Go.RowKit

theorem Rep.hel {xs : List Lo} {h : Lk} (r : Rep xs h) {x y : List UInt8} : (∃ z ∈ xs, z.t = x ∧ z.c = y) ↔ h y x ≠ none := by
  constructor
  · rintro ⟨z, hz, rfl, rfl⟩
    rw [r.yes z hz]
    simp
  · intro hn
    obtain ⟨z, hz, e1, e2⟩ := r.all y x hn
    exact ⟨z, hz, e2, e1⟩
theorem Rep.hol {xs : List Lo} {h : Lk} (r : Rep xs h) {x y : List UInt8} : (∃ z ∈ xs, z.c = x ∧ z.t = y) ↔ h x y ≠ none := by
  constructor
  · rintro ⟨z, hz, rfl, rfl⟩
    rw [r.yes z hz]
    simp
  · intro hn
    obtain ⟨z, hz, e1, e2⟩ := r.all x y hn
    exact ⟨z, hz, e1, e2⟩
theorem Rep.als {xs : List Lo} {h : Lk} (r : Rep xs h) {y : List UInt8} : (∃ z ∈ xs, z.t = y) ↔ ∃ c, h c y ≠ none := by
  constructor
  · rintro ⟨z, hz, rfl⟩
    exact ⟨z.c, by rw [r.yes z hz]; simp⟩
  · rintro ⟨c, hn⟩
    obtain ⟨z, hz, _, e2⟩ := r.all c y hn
    exact ⟨z, hz, e2⟩
theorem Rep.wr {xs : List Lo} {h : Lk} (r : Rep xs h) {x u : List UInt8} {ok : Bool} (e : (ok = true ∧ ∃ z ∈ xs, z.c = x ∧ z.w = true ∧ z.t = u) ∨ (ok = false ∧ u = [] ∧ ∀ z ∈ xs, ¬ (z.c = x ∧ z.w = true))) : Writes h x u ok := by
  rcases e with ⟨h1, z, hz, rfl, h2, rfl⟩ | ⟨h1, h2, h3⟩
  · exact .inl ⟨h1, by rw [r.yes z hz, h2]⟩
  · refine .inr ⟨h1, h2, fun y hy => ?_⟩
    obtain ⟨z, hz, rfl, rfl⟩ := r.all x y (by rw [hy]; simp)
    have := r.yes z hz
    rw [hy] at this
    cases hw : z.w with
    | false => rw [hw] at this; cases this
    | true => exact h3 z hz ⟨rfl, hw⟩
theorem RTakes.length {xs ys : List Lo} {x : List UInt8} {l : List (List UInt8 × Bool)} {e : Int} (t : RTakes xs x l e ys) : ys.length ≤ xs.length + l.length := by
  rcases t with ⟨_, _, rfl⟩ | ⟨_, _, _, rfl⟩ | ⟨_, _, _, rfl⟩
  · omega
  · omega
  · exact lgives_length xs x l

/-- Both tables. -/
structure Pk (w0 w : World) (T n : Nat) (B : Lab → Option Nat) (h : Lk) (R : Nat) (v : Value) (xs : List Lo) : Prop where
  tm : TM w0 w T n B h
  rt : Rt w w0.heap.size R v xs
  rep : Rep xs h
section
variable {w0 w w' : World} {T n : Nat} {B : Lab → Option Nat} {h : Lk} {R : Nat} {v : Value} {xs : List Lo}
theorem Pk.all (p : Pk w0 w T n B h R v xs) (k : Kept (fun _ => True) w w') : Pk w0 w' T n B h R v xs := ⟨p.tm.all k, p.rt.all k, p.rep⟩
/-- The document's table is turned. -/
theorem TM.ref (t : TM w0 w T n B h) (rt : Rt w w0.heap.size R v xs) (k : RS w w' R v) : TM w0 w' T n B h := by
  obtain ⟨H, D, _, _, hs⟩ := t.tb.self
  refine t.beside k ⟨fun e => ?_, own_typeK rt.own hs (by decide)⟩ (fun b es clock hb => ⟨fun e => ?_, fun e => ?_⟩) (fun i hi => ⟨fun e => ?_, fun e => ?_⟩)
  · have := rt.self
    rw [← e, hs] at this
    simp at this
  · have := rt.self
    rw [← e, hb] at this
    cases this
  · rcases rt.own.2 with ⟨h1, _⟩ | ⟨g, cap, cur, h1, _, hh, _⟩
    · rw [h1] at e
      simp [Value.ownBlock] at e
    · rw [h1] at e
      obtain rfl : g = b := by simpa [Value.ownBlock] using e
      rw [hb] at hh
      cases hh
  · have := rt.low
    omega
  · have := (World.ownsRow.lt rt.own i e).1
    omega
theorem Xk.ref {X : Nat} {kind : Int} {x : List UInt8} {wa : Option Addr} {m wc : Nat} (hx : Xk w X kind x wa m wc) (rt : Rt w w0.heap.size R v xs) (k : RS w w' R v) : Xk w' X kind x wa m wc := by
  refine (k.block X (lt_of_block hx) ⟨fun e => ?_, own_typeK rt.own hx (by decide)⟩).trans hx
  have := rt.self
  unfold Xk at hx
  rw [← e, hx] at this
  simp at this
end
/-- A slice of len texts that came in. -/
def IsTexts (w : World) (a : Option Addr) (len : Nat) : Prop := ∀ i, i < len → ∃ b off, ∃ s : List UInt8, a = some ⟨b, off, none⟩ ∧ w.cell? ⟨b, off + i, none⟩ = some (.string ⟨s.toArray⟩) ∧ s.length ≤ 9223372036854775807

end Go.Proofs.Ytkinpgkckbocpaa
