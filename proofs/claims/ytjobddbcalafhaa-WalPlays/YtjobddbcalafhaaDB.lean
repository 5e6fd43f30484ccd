/-
  A disk in memory: the program's and the document's; what a call of one leaves of the other blocks.
-/
import Derived.Test.YtjobddbcalafhaaSB
import Derived.Lib.SlBytesConst
namespace Go.Proofs.Ytjobddbcalafhaa
open Go.RowKit

/-- []byte of a constant text: a row that was made just now gets its mark. -/
theorem conv_const (w : World) (bs : List UInt8) (n c : Nat) : (convert 36 36 (.slice (some ⟨w.heap.size, 0, none⟩) n c)).run Try.prog (w.alloc (.cells (cells bs).toArray 5)) = .ok (.slice (some ⟨w.heap.size, 0, none⟩) n c) (w.alloc (.cells (cells bs).toArray 5 ((cells bs).toArray.size, (cells bs).toArray.size + 1))) :=
  Lib.run_convert_bytes_const (P := Try.prog) w 36 5 (cells bs).toArray n c Try.underlying36 Try.underlying5

/-- A disk in block B, its type t; v is its slice; the first s of its bytes are safe. -/
structure Dk (t : TypeId) (w : World) (B : Nat) (v : Value) (bs : List UInt8) (s : Nat) : Prop where
  self : w.heap[B]? = some (.cells #[v, .int .i64 s] t (0, 0))
  own : w.ownsRow 0 5 1 v bs.length (cells bs)
  ty : t ≠ 5
  safe : s ≤ bs.length
  most : bs.length ≤ 4194304

theorem Dk.ne {t : TypeId} {w : World} {B : Nat} {v : Value} {bs : List UInt8} {s : Nat} (h : Dk t w B v bs s) : v.ownBlock ≠ some B := by
  intro e
  rcases h.own.2 with ⟨hv, _⟩ | ⟨g, cap, cur, hv, _, hh, _⟩
  · rw [hv] at e; simp [Value.ownBlock] at e
  · rw [hv] at e; simp [Value.ownBlock] at e
    subst e
    rw [h.self] at hh
    simp at hh
    exact h.ty hh.2
theorem Dk.lt {t : TypeId} {w : World} {B : Nat} {v : Value} {bs : List UInt8} {s : Nat} (h : Dk t w B v bs s) : B < w.heap.size := lt_of_block h.self
theorem Dk.rowlt {t : TypeId} {w : World} {B : Nat} {v : Value} {bs : List UInt8} {s : Nat} (h : Dk t w B v bs s) : ∀ k, v.ownBlock = some k → k < w.heap.size := fun k hk => (h.own.lt k hk).2
/-- A disk stays what it is while other blocks are written. -/
theorem Dk.kept {p : Nat → Prop} {t : TypeId} {w w' : World} {B : Nat} {v : Value} {bs : List UInt8} {s : Nat} (h : Dk t w B v bs s) (hk : Kept p w w') (hB : p B) (hG : ∀ k, v.ownBlock = some k → p k) : Dk t w' B v bs s :=
  ⟨(hk.block B h.lt hB).trans h.self, own_kept h.own hk hG, h.ty, h.safe, h.most⟩
theorem Dk.drewN {t : TypeId} {w : World} {B : Nat} {v : Value} {bs : List UInt8} {s : Nat} (h : Dk t w B v bs s) (n : Nat) : Dk t (w.drewN n) B v bs s := ⟨h.self, h.own, h.ty, h.safe, h.most⟩
theorem Dk.has {t : TypeId} {w : World} {B : Nat} {ao : Option Addr} {n cap : Nat} {bs : List UInt8} {s : Nat} (h : Dk t w B (.slice ao n cap) bs s) : Has w ao bs := own_has h.own
theorem Dk.shape {t : TypeId} {w : World} {B : Nat} {v : Value} {bs : List UInt8} {s : Nat} (h : Dk t w B v bs s) : ∃ ao cap, v = .slice ao bs.length cap ∧ bs.length ≤ cap ∧ (ao = none → cap = 0) := by
  rcases h.own.2 with ⟨hv, h0⟩ | ⟨g, cap, cur, hv, _, hh, hc, _⟩
  · exact ⟨none, 0, by rw [hv, h0], by omega, fun _ => rfl⟩
  · exact ⟨_, cap, hv, hc, by simp⟩

theorem two_cell {w : World} {b : Nat} {x y : Value} {t : TypeId} (h : w.heap[b]? = some (.cells #[x, y] t (0, 0))) :
    w.cell? ⟨b, 0, none⟩ = some x ∧ w.cell? ⟨b, 1, none⟩ = some y ∧ w.frozen? ⟨b, 0, none⟩ = false ∧ w.frozen? ⟨b, 1, none⟩ = false := by
  refine ⟨by simp [World.cell?, h], by simp [World.cell?, h], by simp [World.frozen?, h], by simp [World.frozen?, h]⟩
theorem two_set {w : World} {b : Nat} {x y : Value} {t : TypeId} (h : w.heap[b]? = some (.cells #[x, y] t (0, 0))) (u : Value) :
    (w.setCell ⟨b, 0, none⟩ u).heap[b]? = some (.cells #[u, y] t (0, 0)) ∧ (w.setCell ⟨b, 1, none⟩ u).heap[b]? = some (.cells #[x, u] t (0, 0)) := by
  have hlt := lt_of_block h
  have h' : w.heap[b] = .cells #[x, y] t (0, 0) := by simpa [Array.getElem?_eq_getElem hlt] using h
  constructor
  · show (w.heap.modify b _)[b]? = _
    rw [Array.getElem?_eq_getElem (by simpa using hlt), Array.getElem_modify_self, h']
    rfl
  · show (w.heap.modify b _)[b]? = _
    rw [Array.getElem?_eq_getElem (by simpa using hlt), Array.getElem_modify_self, h']
    rfl

/-- What a call that turns a disk leaves. -/
structure Step (t : TypeId) (w w' : World) (B : Nat) (v v' : Value) (bs : List UInt8) (s : Nat) : Prop where
  now : Dk t w' B v' bs s
  kept : Kept (fun x => x ≠ B ∧ v.ownBlock ≠ some x) w w'
  new : ∀ x, v'.ownBlock = some x → v.ownBlock = some x ∨ w.heap.size ≤ x

theorem Step.trans {t : TypeId} {a b c : World} {B : Nat} {v v' v'' : Value} {bs bs' : List UInt8} {s s' : Nat} (h : Step t a b B v v' bs s) (k : Step t b c B v' v'' bs' s') : Step t a c B v v'' bs' s' := by
  refine ⟨k.now, h.kept.then k.kept (fun i hi hp => ⟨hp.1, fun hG => ?_⟩), fun x hx => ?_⟩
  · rcases h.new i hG with e | e
    · exact hp.2 e
    · omega
  · rcases k.new x hx with e | e
    · exact h.new x e
    · exact .inr (Nat.le_trans h.kept.size e)
/-- Behind something that wrote to nothing old. -/
theorem Step.after {t : TypeId} {a b c : World} {B : Nat} {v v' : Value} {bs : List UInt8} {s : Nat} (k : Kept (fun _ => True) a b) (h : Step t b c B v v' bs s) : Step t a c B v v' bs s :=
  ⟨h.now, (k.mono (fun _ _ _ => trivial)).trans h.kept, fun x hx => (h.new x hx).imp id (fun e => Nat.le_trans k.size e)⟩
/-- Ahead of something that writes to nothing old. -/
theorem Step.ahead {t : TypeId} {a b c : World} {B : Nat} {v v' : Value} {bs : List UInt8} {s : Nat} (h : Step t a b B v v' bs s) (k : Kept (fun _ => True) b c) : Step t a c B v v' bs s :=
  ⟨h.now.kept k trivial (fun _ _ => trivial), h.kept.trans (k.mono (fun _ _ _ => trivial)), h.new⟩
/-- A disk that was made behind w0: nothing that is older is written. -/
theorem Step.old {t : TypeId} {w0 a b : World} {B : Nat} {v v' : Value} {bs : List UInt8} {s : Nat} (h : Step t a b B v v' bs s) (k : Kept (fun _ => True) w0 a) (hB : w0.heap.size ≤ B) (hG : ∀ x, v.ownBlock = some x → w0.heap.size ≤ x) : Kept (fun _ => True) w0 b ∧ ∀ x, v'.ownBlock = some x → w0.heap.size ≤ x :=
  ⟨k.then h.kept (fun i hi _ => ⟨by omega, fun e => by have := hG i e; omega⟩), fun x hx => by
    rcases h.new x hx with e | e
    · exact hG x e
    · exact Nat.le_trans k.size e⟩

/-- Behind an append to the disk's bytes and the store of the new slice. -/
theorem Dk.grow {t : TypeId} {wr w0 w1 : World} {B : Nat} {v nv : Value} {bs news : List UInt8} {n s : Nat} (hw : Dk t wr B v bs s) (h0 : Kept (fun _ => True) wr w0) (hn : n = (bs ++ news).length) (hm : n ≤ 4194304)
    (hown : w1.ownsRow 0 5 1 nv n (cells bs ++ cells news)) (hgrow : w0.grownBy w1 v.ownBlock) (hat : nv.ownBlock = v.ownBlock ∨ nv.ownBlock = some w0.heap.size) :
    Step t wr (w1.setCell ⟨B, 0, none⟩ nv) B v nv (bs ++ news) s := by
  have hne : nv.ownBlock ≠ some B := by
    rcases hat with h | h
    · rw [h]; exact hw.ne
    · rw [h]; intro e; cases e; have := hw.lt; have := h0.size; omega
  have hlt0 : B < w0.heap.size := Nat.lt_of_lt_of_le hw.lt h0.size
  have hs1 : w1.heap[B]? = some (.cells #[v, .int .i64 s] t (0, 0)) := by
    rw [hgrow.block B hlt0 (Ne.symm hw.ne), h0.block B hw.lt trivial]
    exact hw.self
  subst hn
  refine ⟨⟨(two_set hs1 _).1, ?_, hw.ty, by have := hw.safe; simp; omega, hm⟩, ?_, ?_⟩
  · rw [cells_append]
    exact ownsRow_setCell_other hown (a := ⟨B, 0, none⟩) hne nv
  · refine ((h0.mono (fun _ _ _ => trivial)).grown hgrow (fun k _ hk hp => ?_)).setCell (by simp) _
    exact hp.2 hk
  · intro x hx
    rcases hat with h | h
    · exact .inl (h.symm.trans hx)
    · rw [h] at hx; cases hx; exact .inr h0.size

/-- The first k of a row's values, as a slice that was cut. -/
theorem own_cut {w : World} {b n k : Nat} {v : Value} {xs : List Value} (h : w.ownsRow b 5 1 v n xs) (hk : k ≤ n) : ∃ ao cap, v = .slice ao n cap ∧ n ≤ cap ∧ w.ownsRow b 5 1 (.slice ao k cap) k (xs.take k) ∧
    (∀ w0, (Instr.slice 36 (.slice ao n cap) none (some (.int .i64 (k : Int))) none).run Try.prog w0 = .ok (.slice ao k cap) w0) := by
  have hl : xs.length = n := by simpa using h.1
  rcases h.2 with ⟨hv, h0⟩ | ⟨g, cap, cur, hv, hb, hh, hc, hm, hs, ht⟩
  · have k0 : k = 0 := by omega
    subst k0
    refine ⟨none, 0, by rw [hv, h0], by omega, ⟨by simp, .inl ⟨rfl, rfl⟩⟩, fun w0 => ?_⟩
    rw [run_slice_h (P := Try.prog) w0 36 none n 0 Try.underlying36 .i64 (0 : Nat) (by omega) (by omega), size_u8]
    simp [Result.andThen, sliced]
  · refine ⟨_, cap, hv, hc, ⟨by simp; omega, .inr ⟨g, cap, cur, rfl, hb, hh, by omega, hm, hs, ?_⟩⟩, fun w0 => ?_⟩
    · rw [← ht, List.take_take]
      congr 1
      omega
    · rw [run_slice_h (P := Try.prog) w0 36 _ n cap Try.underlying36 .i64 k (by omega) (by omega), size_u8]
      simp [Result.andThen, sliced, Addr.add]

theorem cells_take (bs : List UInt8) (k : Nat) : (cells bs).take k = cells (bs.take k) := by simp [cells, List.map_take]

end Go.Proofs.Ytjobddbcalafhaa
