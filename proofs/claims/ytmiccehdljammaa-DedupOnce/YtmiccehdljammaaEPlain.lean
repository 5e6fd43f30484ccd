/-
  A table, plainly: clients with their last requests, the one that was Done longest ago first.
-/
import Derived.Test.YtmiccehdljammaaSB
namespace Go.Proofs.Ytmiccehdljammaa
open Go.RowKit

/-- A client's last request. -/
structure La where
  c : List UInt8
  i : Int
  r : List UInt8

/-- The client lies at k, and at no place ahead of it. -/
def Spot (xs : List La) (c : List UInt8) (k : Nat) : Prop := (∃ h : k < xs.length, xs[k].c = c) ∧ ∀ x ∈ xs.take k, x.c ≠ c
def Nowhere (xs : List La) (c : List UInt8) : Prop := ∀ x ∈ xs, x.c ≠ c
def isC (c : List UInt8) (x : La) : Bool := decide (x.c = c)

theorem Spot.lt {xs : List La} {c : List UInt8} {k : Nat} (h : Spot xs c k) : k < xs.length := h.1.choose
theorem Spot.is {xs : List La} {c : List UInt8} {k : Nat} (h : Spot xs c k) : (xs[k]'h.lt).c = c := h.1.choose_spec
theorem Spot.find {xs : List La} {c : List UInt8} {k : Nat} (h : Spot xs c k) : xs.find? (isC c) = some (xs[k]'h.lt) := by
  have e : xs = xs.take k ++ (xs[k]'h.lt) :: xs.drop (k + 1) := by
    rw [← List.drop_eq_getElem_cons h.lt, List.take_append_drop]
  have hi := h.is
  generalize xs[k]'h.lt = y at e hi ⊢
  conv => lhs; rw [e]
  have hn : (xs.take k).find? (isC c) = none := List.find?_eq_none.2 fun x hx => by simpa [isC] using h.2 x hx
  rw [List.find?_append, hn]
  simp [isC, hi]
theorem Nowhere.find {xs : List La} {c : List UInt8} (h : Nowhere xs c) : xs.find? (isC c) = none := List.find?_eq_none.2 fun x hx => by simpa [isC] using h x hx
theorem eraseP_ahead {p : La → Bool} : ∀ {a b : List La}, (∀ x ∈ a, p x = false) → (a ++ b).eraseP p = a ++ b.eraseP p
  | [], _, _ => rfl
  | x :: a, b, h => by
    have hx := h x (by simp)
    rw [List.cons_append, List.eraseP_cons_of_neg (by simp [hx]), eraseP_ahead (fun y hy => h y (by simp [hy]))]
    rfl
theorem Spot.erase {xs : List La} {c : List UInt8} {k : Nat} (h : Spot xs c k) : xs.eraseP (isC c) = xs.eraseIdx k := by
  have e : xs = xs.take k ++ (xs[k]'h.lt) :: xs.drop (k + 1) := by
    rw [← List.drop_eq_getElem_cons h.lt, List.take_append_drop]
  have hi := h.is
  rw [List.eraseIdx_eq_take_drop_succ]
  generalize xs[k]'h.lt = y at e hi
  conv => lhs; rw [e]
  rw [eraseP_ahead (fun x hx => by simpa [isC] using h.2 x hx), List.eraseP_cons_of_pos (by simp [isC, hi])]
theorem Nowhere.erase {xs : List La} {c : List UInt8} (h : Nowhere xs c) : xs.eraseP (isC c) = xs := List.eraseP_of_forall_not fun x hx => by simpa [isC] using h x hx

/-- What a request is: 1 Fresh, 2 Again (and the reply), 3 Past. -/
def ask (xs : List La) (c : List UInt8) (id : Int) : Nat × List UInt8 :=
  match xs.find? (isC c) with
  | none => (1, [])
  | some x => if x.i < id then (1, []) else if id = x.i then (2, x.r) else (3, [])
theorem Nowhere.ask {xs : List La} {c : List UInt8} (h : Nowhere xs c) (id : Int) : ask xs c id = (1, []) := by unfold Go.Proofs.Ytmiccehdljammaa.ask; rw [h.find]
theorem Spot.ask {xs : List La} {c : List UInt8} {k : Nat} (h : Spot xs c k) (id : Int) : ask xs c id = if (xs[k]'h.lt).i < id then (1, []) else if id = (xs[k]'h.lt).i then (2, (xs[k]'h.lt).r) else (3, []) := by
  unfold Go.Proofs.Ytmiccehdljammaa.ask; rw [h.find]

/-- One too many: the first goes. -/
def fewer (m : Int) (xs : List La) : List La := if m < xs.length then xs.drop 1 else xs
def moved (xs : List La) (x : La) : List La := xs.eraseP (isC x.c) ++ [x]
def done (m : Int) (xs : List La) (x : La) : Nat × List La := if (ask xs x.c x.i).1 = 1 then (0, fewer m (moved xs x)) else (1, xs)

theorem fewer_length (m : Int) (xs : List La) (h : (xs.length : Int) ≤ m + 1) : ((fewer m xs).length : Int) ≤ m ∨ (fewer m xs).length = 0 := by
  unfold fewer
  split
  · rename_i h1; simp; omega
  · rename_i h1; omega
theorem moved_length (xs : List La) (x : La) : (moved xs x).length ≤ xs.length + 1 := by
  have := List.length_eraseP_le (p := isC x.c) (l := xs)
  simp [moved]; omega
theorem done_length {m : Int} {xs : List La} (x : La) (h : (xs.length : Int) ≤ m) (hm : 1 ≤ m) : (((done m xs x).2).length : Int) ≤ m := by
  unfold done
  split
  · have := moved_length xs x
    have := fewer_length m (moved xs x) (by omega)
    show ((fewer m (moved xs x)).length : Int) ≤ m
    omega
  · exact h
theorem mem_fewer {m : Int} {xs : List La} {y : La} (h : y ∈ fewer m xs) : y ∈ xs := by
  unfold fewer at h
  split at h
  · exact List.mem_of_mem_drop h
  · exact h
theorem mem_done {m : Int} {xs : List La} {x y : La} (h : y ∈ (done m xs x).2) : y ∈ xs ∨ y = x := by
  unfold done at h
  split at h
  · rcases List.mem_append.1 (mem_fewer h) with h | h
    · exact .inl (List.mem_of_mem_eraseP h)
    · exact .inr (List.mem_singleton.1 h)
  · exact .inl h

/-- Each client once. -/
def Once (xs : List La) : Prop := (xs.map La.c).Nodup
theorem Once.erase {xs : List La} (h : Once xs) (c : List UInt8) : Once (xs.eraseP (isC c)) ∧ Nowhere (xs.eraseP (isC c)) c := by
  induction xs with
  | nil => exact ⟨List.nodup_nil, fun x hx => by simp at hx⟩
  | cons x xs ih =>
    unfold Once at h
    rw [List.map_cons, List.nodup_cons] at h
    by_cases hx : x.c = c
    · rw [List.eraseP_cons_of_pos (by simp [isC, hx])]
      refine ⟨h.2, fun y hy e => h.1 ?_⟩
      rw [hx, ← e]
      exact List.mem_map.2 ⟨y, hy, rfl⟩
    · rw [List.eraseP_cons_of_neg (by simp [isC, hx])]
      obtain ⟨h1, h2⟩ := ih h.2
      refine ⟨?_, fun y hy => ?_⟩
      · unfold Once
        rw [List.map_cons, List.nodup_cons]
        refine ⟨fun hm => h.1 ?_, h1⟩
        obtain ⟨y, hy, e⟩ := List.mem_map.1 hm
        exact List.mem_map.2 ⟨y, List.mem_of_mem_eraseP hy, e⟩
      · rcases List.mem_cons.1 hy with rfl | hy
        · exact hx
        · exact h2 y hy
theorem Once.done {m : Int} {xs : List La} (h : Once xs) (x : La) : Once (done m xs x).2 := by
  unfold Go.Proofs.Ytmiccehdljammaa.done
  split
  · have hm : Once (moved xs x) := by
      obtain ⟨h1, h2⟩ := h.erase x.c
      unfold Once moved
      rw [List.map_append, List.nodup_append]
      refine ⟨h1, by simp, fun a ha b hb => ?_⟩
      obtain ⟨y, hy, rfl⟩ := List.mem_map.1 ha
      simp at hb
      rw [hb]
      exact h2 y hy
    show Once (fewer m (moved xs x))
    unfold fewer
    split
    · exact List.Sublist.nodup ((List.drop_sublist 1 _).map _) hm
    · exact hm
  · exact h

end Go.Proofs.Ytmiccehdljammaa
