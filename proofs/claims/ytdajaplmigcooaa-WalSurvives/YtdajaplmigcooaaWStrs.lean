/-
  A slice of texts that came in; frames of texts.
-/
import Derived.Test.YtdajaplmigcooaaWKnown
namespace Go.Proofs.Ytdajaplmigcooaa
open Go.RowKit

/-- A slice of texts. -/
def IsStrs (w : World) (a : Option Addr) (ss : List (List UInt8)) : Prop :=
  (0 < ss.length → ∃ b off, a = some ⟨b, off, none⟩ ∧ b < w.heap.size ∧ ∀ i (h : i < ss.length), w.cell? ⟨b, off + i, none⟩ = some (.string ⟨(ss[i]).toArray⟩)) ∧ ∀ s ∈ ss, s.length ≤ 140737488355328

theorem IsStrs.kept {w w' : World} {a : Option Addr} {ss : List (List UInt8)} (h : IsStrs w a ss) (k : Kept (fun _ => True) w w') : IsStrs w' a ss := by
  refine ⟨fun h0 => ?_, h.2⟩
  obtain ⟨b, off, e, hb, hc⟩ := h.1 h0
  exact ⟨b, off, e, Nat.lt_of_lt_of_le hb k.size, fun i hi => (kept_cell k hb trivial).trans (hc i hi)⟩
/-- A row of bytes and a row of texts are two. -/
theorem rows_apart {w : World} {b1 b2 n : Nat} {v1 v2 : Value} {xs : List Value} {ss : List (List UInt8)} (h1 : w.ownsRow b1 5 1 v1 n xs) (h2 : Txs w b2 v2 ss) (k : Nat) (hk : v1.ownBlock = some k) : v2.ownBlock ≠ some k := by
  intro e
  obtain ⟨cur, fr, hh⟩ := own_type h1 hk
  obtain ⟨cur', fr', hh'⟩ := own_type h2 e
  have := hh.symm.trans hh'
  simp at this

/-- The frames of the first i texts, each cut to 100 bytes. -/
def frs (ss : List (List UInt8)) (i : Nat) : List (Bool × List UInt8) := (ss.take i).map fun s => (false, s.take 100)
theorem frs_succ (ss : List (List UInt8)) (i : Nat) (h : i < ss.length) : frs ss (i + 1) = frs ss i ++ [(false, (ss[i]).take 100)] := by
  unfold frs
  rw [List.take_succ_eq_append_getElem h, List.map_append]
  rfl
theorem wbytes_snoc (fs : List (Bool × List UInt8)) (x : Bool × List UInt8) : wbytes (fs ++ [x]) = wbytes fs ++ frameOf x.1 x.2 := by simp [wbytes]
theorem frs_length (ss : List (List UInt8)) (i : Nat) (h : i ≤ ss.length) : (frs ss i).length = i := by
  unfold frs
  rw [List.length_map, List.length_take]
  omega
theorem frs_fits (ss : List (List UInt8)) (i : Nat) : Fits (frs ss i) := by
  intro x hx
  obtain ⟨s, _, rfl⟩ := List.mem_map.1 hx
  rw [List.length_take]
  omega
theorem frs_bound (ss : List (List UInt8)) (i : Nat) : (wbytes (frs ss i)).length ≤ 109 * i := by
  induction i with
  | zero => simp [frs, wbytes]
  | succ i ih =>
    by_cases h : i < ss.length
    · rw [frs_succ ss i h, wbytes_snoc, List.length_append, frameOf_length, List.length_take]
      omega
    · have : frs ss (i + 1) = frs ss i := by unfold frs; rw [List.take_of_length_le (by omega), List.take_of_length_le (by omega)]
      rw [this]
      omega
theorem state_all (fs : List (Bool × List UInt8)) (h : ∀ x ∈ fs, x.1 = false) (out : List (List UInt8)) : stateFrom out fs = out ++ fs.map Prod.snd := by
  induction fs generalizing out with
  | nil => simp [stateFrom]
  | cons x fs ih =>
    have := ih (fun y hy => h y (List.mem_cons_of_mem _ hy)) (out ++ [x.2])
    have hx := h x (List.mem_cons_self ..)
    unfold stateFrom at this ⊢
    rw [List.foldl_cons, hx]
    simp [this]
theorem frs_state (ss : List (List UInt8)) (i : Nat) : stateFrom [] (frs ss i) = (frs ss i).map Prod.snd := by
  have := state_all (frs ss i) (fun x hx => by obtain ⟨s, _, rfl⟩ := List.mem_map.1 hx; rfl) []
  rwa [List.nil_append] at this

end Go.Proofs.Ytdajaplmigcooaa
