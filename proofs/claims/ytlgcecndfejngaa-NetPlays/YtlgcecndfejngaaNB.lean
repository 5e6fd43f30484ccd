/-
  A net in memory: the program's and the document's; messages as rows of three cells.
-/
import Derived.Test.YtlgcecndfejngaaSB
import Derived.Lib.SlBytesConst
import Derived.Lib.ConvBytes
import Derived.Deep.RegionLaw
namespace Go.Proofs.Ytlgcecndfejngaa
open Go.RowKit

/-- A store into what was made behind a. -/
theorem Kept.setNew {p : Nat → Prop} {a w : World} (h : Kept p a w) {ad : Addr} (hp : a.heap.size ≤ ad.block) (u : Value) : Kept p a (w.setCell ad u) :=
  ⟨h.os, h.tape, h.output, by simpa [World.setCell] using h.size, fun k hk hpk => (Below.heap_setCell _ _ _ _ (by omega)).trans (h.block k hk hpk)⟩

/-- A message, plainly. -/
structure Ms where
  f : Int
  t : Int
  b : List UInt8

/-- Messages as cells: two numbers and one cell for the body. -/
def row (xs : List (Int × Int × Value)) : List Value := xs.flatMap fun x => [.int .i64 x.1, .int .i64 x.2.1, x.2.2]

theorem row_nil : row [] = [] := rfl
theorem row_cons (x : Int × Int × Value) (xs : List (Int × Int × Value)) : row (x :: xs) = .int .i64 x.1 :: .int .i64 x.2.1 :: x.2.2 :: row xs := rfl
theorem row_length (xs : List (Int × Int × Value)) : (row xs).length = xs.length * 3 := by
  induction xs with
  | nil => rfl
  | cons x xs ih => rw [row_cons]; simp [ih]; omega
theorem row_append (xs ys : List (Int × Int × Value)) : row (xs ++ ys) = row xs ++ row ys := by simp [row]
theorem row_take : ∀ (xs : List (Int × Int × Value)) (k : Nat), (row xs).take (k * 3) = row (xs.take k)
  | xs, 0 => by simp [row]
  | [], k + 1 => by simp [row]
  | x :: xs, k + 1 => by
    rw [List.take_succ_cons, row_cons, row_cons, show (k + 1) * 3 = k * 3 + 1 + 1 + 1 by omega, List.take_succ_cons, List.take_succ_cons, List.take_succ_cons, row_take xs k]
theorem row_drop : ∀ (xs : List (Int × Int × Value)) (k : Nat), (row xs).drop (k * 3) = row (xs.drop k)
  | xs, 0 => by simp
  | [], k + 1 => by simp [row]
  | x :: xs, k + 1 => by
    rw [List.drop_succ_cons, row_cons, show (k + 1) * 3 = k * 3 + 1 + 1 + 1 by omega, List.drop_succ_cons, List.drop_succ_cons, List.drop_succ_cons, row_drop xs k]
theorem row_get : ∀ (xs : List (Int × Int × Value)) (k : Nat) (h : k < xs.length), (row xs)[k * 3]? = some (.int .i64 xs[k].1) ∧ (row xs)[k * 3 + 1]? = some (.int .i64 xs[k].2.1) ∧ (row xs)[k * 3 + 2]? = some xs[k].2.2
  | x :: xs, 0, _ => by simp [row_cons]
  | x :: xs, k + 1, h => by
    have := row_get xs k (by simpa using h)
    rw [row_cons, show (k + 1) * 3 = k * 3 + 1 + 1 + 1 by omega]
    simpa using this
theorem row_one {xs : List (Int × Int × Value)} (h : ∀ x ∈ xs, x.2.2.oneCell' = true) : ∀ u ∈ row xs, u.oneCell' = true := by
  intro u hu
  obtain ⟨x, hx, hm⟩ := List.mem_flatMap.1 hu
  simp at hm
  rcases hm with rfl | rfl | rfl
  · rfl
  · rfl
  · exact h x hx

/-- A net in block B, its type t, that of its messages e; v is its slice. -/
structure Nt (t e : TypeId) (w : World) (B : Nat) (v : Value) (xs : List (Int × Int × Value)) (n s : Int) : Prop where
  self : w.heap[B]? = some (.cells #[.int .i64 n, v, .int .i64 s] t (0, 0))
  own : w.ownsRow 0 e 3 v xs.length (row xs)
  ty : t ≠ e
  one : ∀ x ∈ xs, x.2.2.oneCell' = true
  most : xs.length ≤ 512

section
variable {t e : TypeId} {w : World} {B : Nat} {v : Value} {xs : List (Int × Int × Value)} {n s : Int}

theorem Nt.ne (h : Nt t e w B v xs n s) : v.ownBlock ≠ some B := by
  intro q
  rcases h.own.2 with ⟨hv, _⟩ | ⟨g, cap, cur, hv, _, hh, _⟩
  · rw [hv] at q; simp [Value.ownBlock] at q
  · rw [hv] at q; simp [Value.ownBlock] at q
    subst q
    rw [h.self] at hh
    simp at hh
    exact h.ty hh.2
theorem Nt.lt (h : Nt t e w B v xs n s) : B < w.heap.size := lt_of_block h.self
theorem Nt.rowlt (h : Nt t e w B v xs n s) : ∀ k, v.ownBlock = some k → k < w.heap.size := fun k hk => (h.own.lt k hk).2
theorem row_kept {p : Nat → Prop} {w w' : World} {b e sz n : Nat} {v : Value} {xs : List Value} (h : w.ownsRow b e sz v n xs) (hk : Kept p w w') (hp : ∀ k, v.ownBlock = some k → p k) : w'.ownsRow b e sz v n xs := by
  refine ⟨h.1, ?_⟩
  rcases h.2 with h0 | ⟨g, cap, cur, rfl, hb, hh, rest⟩
  · exact .inl h0
  · exact .inr ⟨g, cap, cur, rfl, hb, (hk.block g (lt_of_block hh) (hp g rfl)).trans hh, rest⟩
theorem Nt.kept {p : Nat → Prop} {w' : World} (h : Nt t e w B v xs n s) (hk : Kept p w w') (hB : p B) (hG : ∀ k, v.ownBlock = some k → p k) : Nt t e w' B v xs n s :=
  ⟨(hk.block B h.lt hB).trans h.self, row_kept h.own hk hG, h.ty, h.one, h.most⟩
theorem Nt.shape (h : Nt t e w B v xs n s) : ∃ ao cap, v = .slice ao xs.length cap ∧ xs.length ≤ cap ∧ (ao = none → cap = 0) ∧ (0 < xs.length → ∃ g, ao = some ⟨g, 0, none⟩) := by
  rcases h.own.2 with ⟨hv, h0⟩ | ⟨g, cap, cur, hv, _, hh, hc, _⟩
  · exact ⟨none, 0, by rw [hv, h0], by omega, fun _ => rfl, fun hp => by omega⟩
  · exact ⟨_, cap, hv, hc, by simp, fun _ => ⟨g, rfl⟩⟩
/-- The cells of the message k. -/
theorem row_cells3 {w : World} {b e g len cap : Nat} {xs : List (Int × Int × Value)} (h : w.ownsRow b e 3 (.slice (some ⟨g, 0, none⟩) len cap) xs.length (row xs)) (k : Nat) (hk : k < xs.length) :
    w.cell? ⟨g, k * 3, none⟩ = some (.int .i64 xs[k].1) ∧ w.cell? ⟨g, k * 3 + 1, none⟩ = some (.int .i64 xs[k].2.1) ∧ w.cell? ⟨g, k * 3 + 2, none⟩ = some xs[k].2.2 := by
  rcases h.2 with ⟨h', _⟩ | ⟨g', cap', cur, h', hb, hg, hc, hm, hs, ht⟩
  · simp at h'
  · simp only [Value.slice.injEq, Option.some.injEq, Addr.mk.injEq, and_true] at h'
    obtain ⟨rfl, rfl, rfl⟩ := h'
    have h2 : w.ownsRow b e 3 (.slice (some ⟨g, 0, none⟩) xs.length cap) xs.length (row xs) := ⟨h.1, .inr ⟨g, cap, cur, rfl, hb, hg, hc, hm, hs, ht⟩⟩
    obtain ⟨r0, r1, r2⟩ := row_get xs k hk
    exact ⟨(h2.cellAt _ (by omega)).trans r0, (h2.cellAt _ (by omega)).trans r1, (h2.cellAt _ (by omega)).trans r2⟩
end

theorem three_cell {w : World} {b : Nat} {x y z : Value} {t : TypeId} (h : w.heap[b]? = some (.cells #[x, y, z] t (0, 0))) :
    w.cell? ⟨b, 0, none⟩ = some x ∧ w.cell? ⟨b, 1, none⟩ = some y ∧ w.cell? ⟨b, 2, none⟩ = some z ∧ w.frozen? ⟨b, 0, none⟩ = false ∧ w.frozen? ⟨b, 1, none⟩ = false ∧ w.frozen? ⟨b, 2, none⟩ = false := by
  refine ⟨by simp [World.cell?, h], by simp [World.cell?, h], by simp [World.cell?, h], by simp [World.frozen?, h], by simp [World.frozen?, h], by simp [World.frozen?, h]⟩
theorem three_set {w : World} {b : Nat} {x y z : Value} {t : TypeId} (h : w.heap[b]? = some (.cells #[x, y, z] t (0, 0))) (u : Value) :
    (w.setCell ⟨b, 1, none⟩ u).heap[b]? = some (.cells #[x, u, z] t (0, 0)) ∧ (w.setCell ⟨b, 2, none⟩ u).heap[b]? = some (.cells #[x, y, u] t (0, 0)) := by
  have hlt := lt_of_block h
  have h' : w.heap[b] = .cells #[x, y, z] t (0, 0) := by simpa [Array.getElem?_eq_getElem hlt] using h
  constructor
  · show (w.heap.modify b _)[b]? = _
    rw [Array.getElem?_eq_getElem (by simpa using hlt), Array.getElem_modify_self, h']
    rfl
  · show (w.heap.modify b _)[b]? = _
    rw [Array.getElem?_eq_getElem (by simpa using hlt), Array.getElem_modify_self, h']
    rfl

/-- What a call that turns a net leaves. -/
structure NStep (t e : TypeId) (w w' : World) (B : Nat) (v v' : Value) (xs : List (Int × Int × Value)) (n s : Int) : Prop where
  now : Nt t e w' B v' xs n s
  kept : Kept (fun x => x ≠ B ∧ v.ownBlock ≠ some x) w w'
  new : ∀ x, v'.ownBlock = some x → v.ownBlock = some x ∨ w.heap.size ≤ x

theorem NStep.trans {t e : TypeId} {a b c : World} {B : Nat} {v v' v'' : Value} {xs xs' : List (Int × Int × Value)} {n n' s s' : Int} (h : NStep t e a b B v v' xs n s) (k : NStep t e b c B v' v'' xs' n' s') : NStep t e a c B v v'' xs' n' s' := by
  refine ⟨k.now, h.kept.then k.kept (fun i hi hp => ⟨hp.1, fun hG => ?_⟩), fun x hx => ?_⟩
  · rcases h.new i hG with e | e
    · exact hp.2 e
    · omega
  · rcases k.new x hx with e | e
    · exact h.new x e
    · exact .inr (Nat.le_trans h.kept.size e)
theorem NStep.after {t e : TypeId} {a b c : World} {B : Nat} {v v' : Value} {xs : List (Int × Int × Value)} {n s : Int} (k : Kept (fun _ => True) a b) (h : NStep t e b c B v v' xs n s) : NStep t e a c B v v' xs n s :=
  ⟨h.now, (k.mono (fun _ _ _ => trivial)).trans h.kept, fun x hx => (h.new x hx).imp id (fun e => Nat.le_trans k.size e)⟩
theorem NStep.ahead {t e : TypeId} {a b c : World} {B : Nat} {v v' : Value} {xs : List (Int × Int × Value)} {n s : Int} (h : NStep t e a b B v v' xs n s) (k : Kept (fun _ => True) b c) : NStep t e a c B v v' xs n s :=
  ⟨h.now.kept k trivial (fun _ _ => trivial), h.kept.trans (k.mono (fun _ _ _ => trivial)), h.new⟩

/-- Behind an append of one message and the store of the new slice. -/
theorem Nt.grow {t e : TypeId} {wr w0 w1 : World} {B : Nat} {v nv : Value} {xs : List (Int × Int × Value)} {x : Int × Int × Value} {m : Nat} {n s : Int} (hw : Nt t e wr B v xs n s) (h0 : Kept (fun _ => True) wr w0) (hm : m = xs.length + 1) (hl : m ≤ 512) (h1 : x.2.2.oneCell' = true)
    (hown : w1.ownsRow 0 e 3 nv m (row xs ++ row [x])) (hgrow : w0.grownBy w1 v.ownBlock) (hat : nv.ownBlock = v.ownBlock ∨ nv.ownBlock = some w0.heap.size) :
    NStep t e wr (w1.setCell ⟨B, 1, none⟩ nv) B v nv (xs ++ [x]) n s := by
  have hne : nv.ownBlock ≠ some B := by
    rcases hat with h | h
    · rw [h]; exact hw.ne
    · rw [h]; intro e; cases e; have := hw.lt; have := h0.size; omega
  have hlt0 : B < w0.heap.size := Nat.lt_of_lt_of_le hw.lt h0.size
  have hs1 : w1.heap[B]? = some (.cells #[.int .i64 n, v, .int .i64 s] t (0, 0)) := by
    rw [hgrow.block B hlt0 (Ne.symm hw.ne), h0.block B hw.lt trivial]
    exact hw.self
  subst hm
  refine ⟨⟨(three_set hs1 _).1, ?_, hw.ty, ?_, by simpa using hl⟩, ?_, ?_⟩
  · rw [row_append, List.length_append]
    exact ownsRow_setCell_other hown (a := ⟨B, 1, none⟩) hne nv
  · intro y hy
    rcases List.mem_append.1 hy with hy | hy
    · exact hw.one y hy
    · rw [List.mem_singleton.1 hy]; exact h1
  · refine ((h0.mono (fun _ _ _ => trivial)).grown hgrow (fun k _ hk hp => ?_)).setCell (by simp) _
    exact hp.2 hk
  · intro x hx
    rcases hat with h | h
    · exact .inl (h.symm.trans hx)
    · rw [h] at hx; cases hx; exact .inr h0.size
/-- The count is written. -/
theorem Nt.count {t e : TypeId} {w : World} {B : Nat} {v : Value} {xs : List (Int × Int × Value)} {n s : Int} (h : Nt t e w B v xs n s) (s' : Int) : NStep t e w (w.setCell ⟨B, 2, none⟩ (.int .i64 s')) B v v xs n s' :=
  ⟨⟨(three_set h.self _).2, ownsRow_setCell_other h.own (a := ⟨B, 2, none⟩) h.ne _, h.ty, h.one, h.most⟩, (Kept.refl _ _).setCell (by simp) _, fun _ hx => .inl hx⟩
/-- Another slice, whose row is the old one's or new. -/
theorem Nt.swap {t e : TypeId} {w w2 : World} {B : Nat} {v nv : Value} {xs ys : List (Int × Int × Value)} {n s : Int} (h : Nt t e w B v xs n s) (k : Kept (fun x => v.ownBlock ≠ some x) w w2) (ho : w2.ownsRow 0 e 3 nv ys.length (row ys)) (hat : ∀ x, nv.ownBlock = some x → v.ownBlock = some x ∨ w.heap.size ≤ x) (h1 : ∀ x ∈ ys, x.2.2.oneCell' = true) (hm : ys.length ≤ 512) :
    NStep t e w (w2.setCell ⟨B, 1, none⟩ nv) B v nv ys n s := by
  have hne : nv.ownBlock ≠ some B := fun q => by
    rcases hat B q with q | q
    · exact h.ne q
    · have := h.lt; omega
  have hs1 : w2.heap[B]? = some (.cells #[.int .i64 n, v, .int .i64 s] t (0, 0)) := (k.block B h.lt h.ne).trans h.self
  exact ⟨⟨(three_set hs1 _).1, ownsRow_setCell_other ho (a := ⟨B, 1, none⟩) hne nv, h.ty, h1, hm⟩, (k.mono (fun _ _ hp => hp.2)).setCell (by simp) _, hat⟩

end Go.Proofs.Ytlgcecndfejngaa
