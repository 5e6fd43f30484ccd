/-
  Texts of the proofs, 8 of 52.
-/
import Derived.Test.YtmcaoimgmgjjiaaWA
import Derived.Test.YtmcaoimgmgjjiaaWG
import Derived.Laws.OwnMore
import Derived.Deep.MidRow
import Derived.Great.Walk
import Derived.Great.BuildSlice
import Derived.Stop.BytesEq
import Derived.Deep.AppendLies
import Derived.Maps.AppendAt
namespace Go.Proofs.Ytmcaoimgmgjjiaa
open Go.RowKit

def lcell (x : Li) : List Value := .string ⟨x.t.toArray⟩ :: cells x.h
theorem lcell_length (x : Li) : (lcell x).length = 33 := by simp [lcell, cells_length, x.len]
theorem lcell_one (x : Li) : ∀ u ∈ lcell x, u.oneCell' = true := by
  intro u hu
  rcases List.mem_cons.1 hu with rfl | h
  · rfl
  · exact cells_one _ u h
def lrow (xs : List Li) : List Value := xs.flatMap lcell
theorem lrow_cons (x : Li) (xs : List Li) : lrow (x :: xs) = lcell x ++ lrow xs := rfl
theorem lrow_length (xs : List Li) : (lrow xs).length = xs.length * 33 := by
  induction xs with
  | nil => rfl
  | cons x xs ih => rw [lrow_cons, List.length_append, ih, lcell_length, List.length_cons]; omega
theorem lrow_append (xs ys : List Li) : lrow (xs ++ ys) = lrow xs ++ lrow ys := by simp [lrow]
theorem lrow_snoc (xs : List Li) (x : Li) : lrow (xs ++ [x]) = lrow xs ++ lcell x := by simp [lrow]
theorem lrow_get : ∀ (xs : List Li) (k : Nat) (h : k < xs.length) (j : Nat), j < 33 → (lrow xs)[k * 33 + j]? = (lcell xs[k])[j]?
  | x :: xs, 0, _, j, hj => by
    rw [lrow_cons, Nat.zero_mul, Nat.zero_add, List.getElem?_append_left (by rw [lcell_length]; exact hj)]
    rfl
  | x :: xs, k + 1, h, j, hj => by
    have := lrow_get xs k (by simpa using h) j hj
    rw [lrow_cons, show (k + 1) * 33 + j = 33 + (k * 33 + j) by omega, List.getElem?_append_right (by rw [lcell_length]; omega), lcell_length, Nat.add_sub_cancel_left, this]
    rfl
theorem lrow_one (xs : List Li) : ∀ u ∈ lrow xs, u.oneCell' = true := by
  intro u hu
  obtain ⟨x, _, hm⟩ := List.mem_flatMap.1 hu
  exact lcell_one x u hm
theorem list32 {α : Type} (hs : List α) (h : hs.length = 32) : ∃ a0 a1 a2 a3 a4 a5 a6 a7 a8 a9 a10 a11 a12 a13 a14 a15 a16 a17 a18 a19 a20 a21 a22 a23 a24 a25 a26 a27 a28 a29 a30 a31 : α, hs = [a0, a1, a2, a3, a4, a5, a6, a7, a8, a9, a10, a11, a12, a13, a14, a15, a16, a17, a18, a19, a20, a21, a22, a23, a24, a25, a26, a27, a28, a29, a30, a31] := by
  match hs, h with
  | [a0, a1, a2, a3, a4, a5, a6, a7, a8, a9, a10, a11, a12, a13, a14, a15, a16, a17, a18, a19, a20, a21, a22, a23, a24, a25, a26, a27, a28, a29, a30, a31], _ => exact ⟨a0, a1, a2, a3, a4, a5, a6, a7, a8, a9, a10, a11, a12, a13, a14, a15, a16, a17, a18, a19, a20, a21, a22, a23, a24, a25, a26, a27, a28, a29, a30, a31, rfl⟩

def zeroLi : Li := ⟨[], zero32, rfl⟩
structure LinkT (T e : TypeId) : Prop where
  slice : Try.prog.underlying T = some (.slice e)
  under : ∃ fs, Try.prog.underlying e = some (.struct fs)
  info : (Try.prog.info? e).map (fun i => (i.zero, i.size, i.bytes)) = some (some (.agg (lcell zeroLi).toArray), 33, 48)
  built : ∀ (s : ByteArray) (hs : List Value), hs.length = 32 → Try.prog.built e [(0, .string s), (1, .agg hs.toArray)] = some (.string s :: hs).toArray
  built1 : ∀ (s : ByteArray), Try.prog.built e [(0, .string s)] = some (.string s :: cells zero32).toArray
theorem LinkT.size {T e : TypeId} (h : LinkT T e) : (Try.prog.info? e).map (·.size) = some 33 := by
  obtain ⟨i, hi, _, h1, _⟩ := info_parts h.info
  simp [hi, h1]
theorem LinkT.zero {T e : TypeId} (h : LinkT T e) : ∀ w, (zeroValue e).run Try.prog w = .ok (.agg (lcell zeroLi).toArray) w := by
  obtain ⟨i, hi, h0, _, _⟩ := info_parts h.info
  intro w
  simp [zeroValue, typeInfo, hi, h0]
theorem linkP : LinkT 83 121 := by
  refine ⟨Try.underlying83, ⟨_, Try.underlying121⟩, by kernel_rfl, fun s hs h => ?_, fun s => by kernel_rfl⟩
  obtain ⟨a0, a1, a2, a3, a4, a5, a6, a7, a8, a9, a10, a11, a12, a13, a14, a15, a16, a17, a18, a19, a20, a21, a22, a23, a24, a25, a26, a27, a28, a29, a30, a31, rfl⟩ := list32 hs h
  kernel_rfl
theorem linkR : LinkT 65 80 := by
  refine ⟨Try.underlying65, ⟨_, Try.underlying80⟩, by kernel_rfl, fun s hs h => ?_, fun s => by kernel_rfl⟩
  obtain ⟨a0, a1, a2, a3, a4, a5, a6, a7, a8, a9, a10, a11, a12, a13, a14, a15, a16, a17, a18, a19, a20, a21, a22, a23, a24, a25, a26, a27, a28, a29, a30, a31, rfl⟩ := list32 hs h
  kernel_rfl

structure Lv (w : World) (ao : Option Addr) (xs : List Li) : Prop where
  row : 0 < xs.length → ∃ b off, ao = some ⟨b, off, none⟩ ∧ b < w.heap.size ∧ ∀ i (h : i < xs.length), w.rangeAt b (off + i * 33) (lcell xs[i])
theorem range_kept {p : Nat → Prop} {w w' : World} {b o : Nat} {cs : List Value} (h : w.rangeAt b o cs) (k : Kept p w w') (hb : b < w.heap.size) (hp : p b) : w'.rangeAt b o cs := fun j v hv => (kept_cell k hb hp).trans (h j v hv)
theorem Lv.kept {p : Nat → Prop} {w w' : World} {ao : Option Addr} {xs : List Li} (h : Lv w ao xs) (k : Kept p w w') (hp : ∀ ad, ao = some ad → p ad.block) : Lv w' ao xs := by
  refine ⟨fun h0 => ?_⟩
  obtain ⟨b, off, rfl, hb, hc⟩ := h.row h0
  exact ⟨b, off, rfl, Nat.lt_of_lt_of_le hb k.size, fun i hi => range_kept (hc i hi) k hb (hp _ rfl)⟩
theorem Lv.all {w w' : World} {ao : Option Addr} {xs : List Li} (h : Lv w ao xs) (k : Kept (fun _ => True) w w') : Lv w' ao xs := h.kept k (fun _ _ => trivial)
theorem Lv.take {w : World} {ao : Option Addr} {xs : List Li} (h : Lv w ao xs) (n : Nat) : Lv w ao (xs.take n) := by
  refine ⟨fun h0 => ?_⟩
  have l : (xs.take n).length ≤ xs.length := by simp; omega
  obtain ⟨b, off, rfl, hb, hc⟩ := h.row (by omega)
  refine ⟨b, off, rfl, hb, fun i hi => ?_⟩
  have := hc i (by omega)
  rwa [List.getElem_take]

def Lo (e : TypeId) (w : World) (base : Nat) (v : Value) (xs : List Li) : Prop := w.ownsRow base e 33 v xs.length (lrow xs)
section
variable {e : TypeId} {w w' : World} {base : Nat} {v : Value} {xs : List Li}
theorem Lo.nil (e : TypeId) (w : World) (base : Nat) : Lo e w base (.slice none 0 0) [] := World.ownsRow_nil _ _ _ _
theorem Lo.shape (h : Lo e w base v xs) : ∃ ao cap, v = .slice ao xs.length cap ∧ xs.length ≤ cap ∧ (0 < xs.length → ∃ g, ao = some ⟨g, 0, none⟩) ∧ (ao = none → cap = 0) := by
  rcases h.2 with ⟨hv, h0⟩ | ⟨g, cap, cur, hv, _, _, hc, _⟩
  · exact ⟨none, 0, by rw [hv, h0], by omega, fun hp => by omega, fun _ => rfl⟩
  · exact ⟨_, cap, hv, hc, fun _ => ⟨g, rfl⟩, by simp⟩
theorem ownL_kept {p : Nat → Prop} {b n sz : Nat} {ys : List Value} (h : w.ownsRow b e sz v n ys) (hk : Kept p w w') (hp : ∀ k, v.ownBlock = some k → p k) : w'.ownsRow b e sz v n ys := by
  refine ⟨h.1, ?_⟩
  rcases h.2 with h0 | ⟨g, cap, cur, rfl, hb, hh, rest⟩
  · exact .inl h0
  · exact .inr ⟨g, cap, cur, rfl, hb, (hk.block g (lt_of_block hh) (hp g rfl)).trans hh, rest⟩
theorem Lo.kept {p : Nat → Prop} (h : Lo e w base v xs) (hk : Kept p w w') (hp : ∀ k, v.ownBlock = some k → p k) : Lo e w' base v xs := ownL_kept h hk hp
theorem Lo.all (h : Lo e w base v xs) (hk : Kept (fun _ => True) w w') : Lo e w' base v xs := h.kept hk (fun _ _ => trivial)
theorem Lo.ge (h : Lo e w base v xs) {k : Nat} (hk : v.ownBlock = some k) : base ≤ k := (World.ownsRow.lt h k hk).1
theorem Lo.lt (h : Lo e w base v xs) {k : Nat} (hk : v.ownBlock = some k) : k < w.heap.size := (World.ownsRow.lt h k hk).2
theorem Lo.low {b' : Nat} (h : Lo e w base v xs) (hb : b' ≤ base) : Lo e w b' v xs := World.ownsRow.mono h hb
theorem Lo.view {ao : Option Addr} {n cap : Nat} (h : Lo e w base (.slice ao n cap) xs) : Lv w ao xs := by
  refine ⟨fun h0 => ?_⟩
  obtain ⟨ao', cap', hv, _, hg, _⟩ := h.shape
  obtain ⟨g, hg⟩ := hg h0
  subst hg
  injection hv with e1 e2 e3
  subst e1 e2
  refine ⟨g, 0, rfl, h.lt rfl, fun i hi => ?_⟩
  intro j u hu
  have hj : j < 33 := by have := (List.getElem?_eq_some_iff.1 hu).1; rwa [lcell_length] at this
  have h2 : w.ownsRow base e 33 (.slice (some ⟨g, 0, none⟩) xs.length cap) xs.length (lrow xs) := h
  rw [Nat.zero_add, h2.cellAt (i * 33 + j) (by omega), lrow_get xs i hi j hj]
  exact hu
end

theorem Lo.ne {e : TypeId} {w : World} {base : Nat} {v : Value} {xs : List Li} (h : Lo e w base v xs) {B : Nat} {cs : Array Value} {t : TypeId} {fr : Nat × Nat} (hB : w.heap[B]? = some (.cells cs t fr)) (ht : t ≠ e) : v.ownBlock ≠ some B := by
  intro q
  rcases h.2 with ⟨hv, _⟩ | ⟨g, cap, cur, hv, _, hh, _⟩
  · rw [hv] at q; simp [Value.ownBlock] at q
  · rw [hv] at q; simp [Value.ownBlock] at q
    subst q
    rw [hB] at hh
    simp at hh
    exact ht hh.2.1

theorem own_setCells {e : TypeId} {base sz n cap g : Nat} : ∀ (vs : List Value) (o : Nat) (w : World) (xs : List Value), w.ownsRow base e sz (.slice (some ⟨g, 0, none⟩) n cap) n xs → o + vs.length ≤ xs.length →
    (w.setCells g o vs).ownsRow base e sz (.slice (some ⟨g, 0, none⟩) n cap) n (xs.take o ++ vs ++ xs.drop (o + vs.length)) ∧ Kept (· ≠ g) w (w.setCells g o vs) ∧ (w.setCells g o vs).heap.size = w.heap.size
  | [], o, w, xs, h, _ => by
    rw [World.setCells]
    refine ⟨?_, Kept.refl _ _, rfl⟩
    have : xs.take o ++ [] ++ xs.drop (o + ([] : List Value).length) = xs := by simp
    rwa [this]
  | v :: vs, o, w, xs, h, hl => by
    rw [World.setCells]
    have h1 := (h.stored o v).1
    have hl' : o + 1 + vs.length ≤ (xs.set o v).length := by simp at hl ⊢; omega
    obtain ⟨h2, h3, h4⟩ := own_setCells vs (o + 1) _ _ h1 hl'
    refine ⟨?_, ((Kept.refl _ _).setCell (by simp) v).trans h3, by rw [h4]; simp [World.setCell]⟩
    have ho : o < xs.length := by simp at hl; omega
    have e1 : (xs.set o v).take (o + 1) = xs.take o ++ [v] := by
      rw [List.take_succ_eq_append_getElem (by simpa using ho), List.take_set_of_le (by omega), List.getElem_set_self]
    have e2 : (xs.set o v).drop (o + 1 + vs.length) = xs.drop (o + (v :: vs).length) := by
      rw [List.drop_set_of_lt (by omega), List.length_cons]
      congr 1
      omega
    rw [e1, e2] at h2
    simpa using h2
theorem Ar.range {w : World} {b t : Nat} {xs : List Value} (h : Ar w b t xs) : w.rangeAt b 0 xs := fun j v hv => by rw [Nat.zero_add, h.cell j]; exact hv
theorem Ar.head {w : World} {b t : Nat} {x : Li} (h : Ar w b t (lcell x)) : w.rangeAt b 1 (cells x.h) := fun j v hv => by
  rw [h.cell (1 + j), Nat.add_comm]
  exact hv
theorem range_head {w : World} {b o : Nat} {x : Li} (h : w.rangeAt b o (lcell x)) : w.rangeAt b (o + 1) (cells x.h) := fun j v hv => by
  have := h (j + 1) v hv
  rwa [show o + 1 + j = o + (j + 1) by omega]
theorem range_text {w : World} {b o : Nat} {x : Li} (h : w.rangeAt b o (lcell x)) : w.cell? ⟨b, o, none⟩ = some (.string ⟨x.t.toArray⟩) := h 0 _ rfl
theorem Ar.text {w : World} {b t : Nat} {x : Li} (h : Ar w b t (lcell x)) : w.cell? ⟨b, 0, none⟩ = some (.string ⟨x.t.toArray⟩) := range_text h.range

theorem w_allocL {ops : Array Oper} {rest : List Oper} {a : Act} {w : World} {Q : Exit → Act → World → Prop} {d : Option Nat} {ty : TypeId} {p : String} {af : Array Edge} {T e : TypeId} (hT : LinkT T e)
    (h : ∀ w', Ar w' w.heap.size e (lcell zeroLi) → Kept (fun _ => True) w w' → Hid (w'.heap.size = w.heap.size + 1) → wpList Try.prog ops Q rest (a.put d (.pointer (some ⟨w.heap.size, 0, none⟩))) w') :
    wpList Try.prog ops Q (⟨d, .alloc e, ty, p, af, none⟩ :: rest) a w := by
  refine wpList_plain rfl fun K hK => ?_
  have hz := hT.zero
  unfold Oper.wp execOp
  simp only [Instr.alloc, Sem.run_bind, Sem.run_pure, Result.andThen_ok, hz, newVar]
  simp [newRow, Value.cells, Oper.upon, Result.andThen]
  refine hK _ _ (h _ (by simpa [Ar] using heap_alloc_last w (.cells (lcell zeroLi).toArray e)) (alloc_kept w _) (show _ = _ by simp))
theorem w_loadL {ops : Array Oper} {rest : List Oper} {a : Act} {w : World} {Q : Exit → Act → World → Prop} {d : Option Nat} {ty : TypeId} {p : String} {af : Array Edge} {T e : TypeId} {y : Operand} (hT : LinkT T e) {b o : Nat} {x : Li} (hx : a.eval y = .pointer (some ⟨b, o, none⟩)) (hr : w.rangeAt b o (lcell x))
    (h : wpList Try.prog ops Q rest (a.put d (.agg (lcell x).toArray)) w) :
    wpList Try.prog ops Q (⟨d, .load e y, ty, p, af, none⟩ :: rest) a w := by
  obtain ⟨fs, hu⟩ := hT.under
  exact wpList_load_mid rfl e y rfl b o hx (lcell x) _ hr hu rfl (by rw [hT.size, lcell_length]) h
theorem w_loadH {ops : Array Oper} {rest : List Oper} {a : Act} {w : World} {Q : Exit → Act → World → Prop} {d : Option Nat} {ty : TypeId} {p : String} {af : Array Edge} {y : Operand} {b o : Nat} {cs : List Value} (hx : a.eval y = .pointer (some ⟨b, o, none⟩)) (hr : w.rangeAt b o cs) (hl : cs.length = 32)
    (h : wpList Try.prog ops Q rest (a.put d (.agg cs.toArray)) w) :
    wpList Try.prog ops Q (⟨d, .load 78 y, ty, p, af, none⟩ :: rest) a w :=
  wpList_load_mid rfl 78 y rfl b o hx cs _ hr Try.underlying78 rfl (by rw [arr32.size, hl]) h
theorem w_storeL {ops : Array Oper} {rest : List Oper} {a : Act} {w : World} {Q : Exit → Act → World → Prop} {ty : TypeId} {p : String} {af : Array Edge} {T e : TypeId} {x y : Operand} (hT : LinkT T e) {b : Nat} {old z : Li} (hx : a.eval x = .pointer (some ⟨b, 0, none⟩)) (hy : a.eval y = .agg (lcell z).toArray) (ha : Ar w b e (lcell old))
    (h : ∀ w', Ar w' b e (lcell z) → Kept (· ≠ b) w w' → Hid (w'.heap.size = w.heap.size) → wpList Try.prog ops Q rest a w') :
    wpList Try.prog ops Q (⟨none, .store e x y, ty, p, af, none⟩ :: rest) a w := by
  refine wpList_store_row rfl e x y rfl b (lcell z).toArray hx hy e (lcell old).toArray ha (by rw [hT.size]; simp [lcell_length]) (by simp [lcell_length]) (by simpa using lcell_one z) ?_
  refine h _ (setRow_heap w b _ (lcell z).toArray e _ ha) ((Kept.refl _ _).setRow (by simp) _) (show _ = _ by simp [World.setRow])
theorem run_buildL {T e : TypeId} (hT : LinkT T e) (x : Li) (W : World) : (Instr.build e #[(0, .string ⟨x.t.toArray⟩), (1, .agg (cells x.h).toArray)]).run Try.prog W = .ok (.agg (lcell x).toArray) W :=
  run_build W e _ _ (hT.built _ _ (by rw [cells_length, x.len]))
theorem w_buildL {ops : Array Oper} {rest : List Oper} {a : Act} {w : World} {Q : Exit → Act → World → Prop} {d : Option Nat} {ty : TypeId} {p : String} {af : Array Edge} {T e : TypeId} {y z : Operand} (hT : LinkT T e) (x : Li) (hy : a.eval y = .string ⟨x.t.toArray⟩) (hz : a.eval z = .agg (cells x.h).toArray)
    (h : wpList Try.prog ops Q rest (a.put d (.agg (lcell x).toArray)) w) :
    wpList Try.prog ops Q (⟨d, .build e #[(0, y), (1, z)], ty, p, af, none⟩ :: rest) a w := by
  refine wpList_plain rfl fun K hK => ?_
  unfold Oper.wp execOp
  have e1 := run_buildL hT x w
  simp only [Sem.run_bind, Sem.run_pure, List.map_toArray, List.map_cons, List.map_nil, hy, hz]
  simp [e1, Oper.upon, Result.andThen]
  exact hK _ _ h
theorem run_sliceL {T e : TypeId} (hT : LinkT T e) (x : Li) (W : World) : (Instr.buildSlice T 1 #[(0, .agg (lcell x).toArray)]).run Try.prog W = .ok (.slice (some ⟨W.heap.size, 0, none⟩) 1 1) (W.alloc (.cells (lcell x).toArray e)) := by
  obtain ⟨i, hi, h0, h1, _⟩ := info_parts hT.info
  refine run_buildSlice W T e 1 _ (lcell x).toArray i (.agg (lcell zeroLi).toArray) hT.slice hi h0 (by rw [h1]; decide) (by rw [h1]; decide) ?_
  rw [h1]
  obtain ⟨a0, a1, a2, a3, a4, a5, a6, a7, a8, a9, a10, a11, a12, a13, a14, a15, a16, a17, a18, a19, a20, a21, a22, a23, a24, a25, a26, a27, a28, a29, a30, a31, hs⟩ := list32 x.h x.len
  unfold lcell
  rw [hs]
  kernel_rfl

theorem w_sliceL {ops : Array Oper} {rest : List Oper} {a : Act} {w : World} {Q : Exit → Act → World → Prop} {d : Option Nat} {ty : TypeId} {p : String} {af : Array Edge} {T e : TypeId} {y : Operand} (hT : LinkT T e) (x : Li) (hy : a.eval y = .agg (lcell x).toArray)
    (h : wpList Try.prog ops Q rest (a.put d (.slice (some ⟨w.heap.size, 0, none⟩) 1 1)) (w.alloc (.cells (lcell x).toArray e))) :
    wpList Try.prog ops Q (⟨d, .buildSlice T 1 #[(0, y)], ty, p, af, none⟩ :: rest) a w := by
  refine wpList_plain rfl fun K hK => ?_
  unfold Oper.wp execOp
  have e1 := run_sliceL hT x w
  simp only [Sem.run_bind, Sem.run_pure, List.map_toArray, List.map_cons, List.map_nil, hy]
  simp [e1, Oper.upon, Result.andThen]
  exact hK _ _ h

theorem eq32 (xs ys : List UInt8) (hx : xs.length = 32) (hy : ys.length = 32) (w0 : World) : (Op.equalIn 10000 78 (.agg (cells xs).toArray) (.agg (cells ys).toArray)).run Try.prog w0 = .ok (xs == ys) w0 := by
  have hz : ∀ w, (sizeOf 5).run Try.prog w = .ok 1 w := fun w => by have := size_u8 w; rwa [Try.elemBytes] at this
  exact run_equalIn_bytes (P := Try.prog) w0 9998 78 5 32 Try.underlying78 Try.underlying5 hz xs ys hx hy
theorem guard32 : Try.prog.eqGuardType Try.prog.depth 78 = false := by kernel_rfl

end Go.Proofs.Ytmcaoimgmgjjiaa

namespace Go.Proofs.Ytmcaoimgmgjjiaa
open Go.RowKit

theorem own_shape_u {w : World} {b e sz n : Nat} {v : Value} {xs : List Value} (h : w.ownsRow b e sz v n xs) : ∃ ao cap, v = .slice ao n cap := by
  rcases h.2 with ⟨e, h0⟩ | ⟨g, cap, _, e, _⟩
  · exact ⟨_, _, h0 ▸ e⟩
  · exact ⟨_, _, e⟩
structure Shp (α : Type) where
  n : Nat
  cell : α → List Value
  len : ∀ x, (cell x).length = n
  one : ∀ x, ∀ u ∈ cell x, u.oneCell' = true
structure ElT (T e : TypeId) (n bytes : Nat) (z : Value) : Prop where
  slice : Try.prog.underlying T = some (.slice e)
  info : (Try.prog.info? e).map (fun i => (i.zero, i.size, i.bytes)) = some (some z, n, bytes)
  zc : z.cells.size = n
  pos : 0 < n
  small : bytes ≤ 200
section
variable {α : Type} {S : Shp α}
def Shp.row (S : Shp α) (xs : List α) : List Value := xs.flatMap S.cell
theorem row_cons (x : α) (xs : List α) : S.row (x :: xs) = S.cell x ++ S.row xs := rfl
theorem row_length (xs : List α) : (S.row xs).length = xs.length * S.n := by
  induction xs with
  | nil => simp [Shp.row]
  | cons x xs ih => rw [row_cons, List.length_append, ih, S.len, List.length_cons, Nat.succ_mul, Nat.add_comm]
theorem row_append (xs ys : List α) : S.row (xs ++ ys) = S.row xs ++ S.row ys := by simp [Shp.row]
theorem row_single (x : α) : S.row [x] = S.cell x := by simp [Shp.row]
theorem row_get : ∀ (xs : List α) (k : Nat) (h : k < xs.length) (j : Nat), j < S.n → (S.row xs)[k * S.n + j]? = (S.cell xs[k])[j]?
  | x :: xs, 0, _, j, hj => by
    rw [row_cons, Nat.zero_mul, Nat.zero_add, List.getElem?_append_left (by rw [S.len]; exact hj)]
    rfl
  | x :: xs, k + 1, h, j, hj => by
    have := row_get xs k (by simpa using h) j hj
    rw [row_cons, show (k + 1) * S.n + j = S.n + (k * S.n + j) by rw [Nat.succ_mul]; omega, List.getElem?_append_right (by rw [S.len]; omega), S.len, Nat.add_sub_cancel_left, this]
    rfl
structure Vw (S : Shp α) (w : World) (ao : Option Addr) (xs : List α) : Prop where
  row : 0 < xs.length → ∃ b off, ao = some ⟨b, off, none⟩ ∧ b < w.heap.size ∧ ∀ i (h : i < xs.length), w.rangeAt b (off + i * S.n) (S.cell xs[i])
theorem Vw.kept {p : Nat → Prop} {w w' : World} {ao : Option Addr} {xs : List α} (h : Vw S w ao xs) (k : Kept p w w') (hp : ∀ ad, ao = some ad → p ad.block) : Vw S w' ao xs := by
  refine ⟨fun h0 => ?_⟩
  obtain ⟨b, off, rfl, hb, hc⟩ := h.row h0
  exact ⟨b, off, rfl, Nat.lt_of_lt_of_le hb k.size, fun i hi => range_kept (hc i hi) k hb (hp _ rfl)⟩
theorem Vw.all {w w' : World} {ao : Option Addr} {xs : List α} (h : Vw S w ao xs) (k : Kept (fun _ => True) w w') : Vw S w' ao xs := h.kept k (fun _ _ => trivial)
theorem Vw.nil (w : World) (ao : Option Addr) : Vw S w ao [] := ⟨fun h => by simp at h⟩
def Ow (S : Shp α) (e : TypeId) (w : World) (base : Nat) (v : Value) (xs : List α) : Prop := w.ownsRow base e S.n v xs.length (S.row xs)
variable {e : TypeId} {w w' : World} {base : Nat} {v : Value} {xs : List α}
theorem Ow.nil (e : TypeId) (w : World) (base : Nat) : Ow S e w base (.slice none 0 0) [] := World.ownsRow_nil _ _ _ _
theorem Ow.shape (h : Ow S e w base v xs) : ∃ ao cap, v = .slice ao xs.length cap ∧ xs.length ≤ cap ∧ (0 < xs.length → ∃ g, ao = some ⟨g, 0, none⟩) ∧ (ao = none → cap = 0) := by
  rcases h.2 with ⟨hv, h0⟩ | ⟨g, cap, cur, hv, _, _, hc, _⟩
  · exact ⟨none, 0, by rw [hv, h0], by omega, fun hp => by omega, fun _ => rfl⟩
  · exact ⟨_, cap, hv, hc, fun _ => ⟨g, rfl⟩, by simp⟩
theorem Ow.kept {p : Nat → Prop} (h : Ow S e w base v xs) (hk : Kept p w w') (hp : ∀ k, v.ownBlock = some k → p k) : Ow S e w' base v xs := ownL_kept h hk hp
theorem Ow.all (h : Ow S e w base v xs) (hk : Kept (fun _ => True) w w') : Ow S e w' base v xs := h.kept hk (fun _ _ => trivial)
theorem Ow.ge (h : Ow S e w base v xs) {k : Nat} (hk : v.ownBlock = some k) : base ≤ k := (World.ownsRow.lt h k hk).1
theorem Ow.lt (h : Ow S e w base v xs) {k : Nat} (hk : v.ownBlock = some k) : k < w.heap.size := (World.ownsRow.lt h k hk).2
theorem Ow.low {b' : Nat} (h : Ow S e w base v xs) (hb : b' ≤ base) : Ow S e w b' v xs := World.ownsRow.mono h hb
theorem Ow.view {ao : Option Addr} {n cap : Nat} (h : Ow S e w base (.slice ao n cap) xs) : Vw S w ao xs := by
  refine ⟨fun h0 => ?_⟩
  obtain ⟨ao', cap', hv, _, hg, _⟩ := h.shape
  obtain ⟨g, hg⟩ := hg h0
  subst hg
  injection hv with e1 e2 e3
  subst e1 e2
  refine ⟨g, 0, rfl, h.lt rfl, fun i hi => ?_⟩
  intro j u hu
  have hj : j < S.n := by have := (List.getElem?_eq_some_iff.1 hu).1; rwa [S.len] at this
  have h2 : w.ownsRow base e S.n (.slice (some ⟨g, 0, none⟩) xs.length cap) xs.length (S.row xs) := h
  have hlt : i * S.n + j < xs.length * S.n := by
    have := Nat.mul_le_mul_right S.n (show i + 1 ≤ xs.length from hi)
    rw [Nat.succ_mul] at this
    omega
  rw [Nat.zero_add, h2.cellAt (i * S.n + j) hlt, row_get xs i hi j hj]
  exact hu
theorem append_one {T : TypeId} {bytes : Nat} {z : Value} (hT : ElT T e S.n bytes z) (w : World) (ty : TypeId) (base : Nat) (v : Value) (xs : List α) (hown : Ow S e w base v xs) (hb : base ≤ w.heap.size) (G : Nat) (x : α) (fr : Nat × Nat) (hG : w.heap[G]? = some (.cells (S.cell x).toArray e fr)) (hm : xs.length ≤ 100000000000) :
    ∃ ao' cap' w', (Builtin.append_ #[T, T] ty #[v, .slice (some ⟨G, 0, none⟩) 1 1]).run Try.prog w = .ok (.slice ao' (xs.length + 1) cap') w' ∧ Ow S e w' base (.slice ao' (xs.length + 1) cap') (xs ++ [x]) ∧ w.grownBy w' v.ownBlock ∧
      ((Value.slice ao' (xs.length + 1) cap').ownBlock = v.ownBlock ∨ (Value.slice ao' (xs.length + 1) cap').ownBlock = some w.heap.size) := by
  obtain ⟨i, hi, hz0, hz1, hz2⟩ := info_parts hT.info
  have hby : (xs.length + 1) * bytes ≤ 140737488355328 := by
    have h1 := Nat.mul_le_mul_left (xs.length + 1) hT.small
    have h2 := Nat.mul_le_mul_right 200 (show xs.length + 1 ≤ 100000000001 by omega)
    omega
  obtain ⟨v', w', hr, h2, h3, _, h5⟩ := run_append_own_at (P := Try.prog) w base T ty e i z S.n bytes hT.slice hi hz0 hz1 hz2 hT.zc hT.pos v xs.length (S.row xs) hown ⟨G, 0, none⟩ 1 1 (S.cell x) (by rw [S.len, Nat.one_mul]) (by
    have := World.news_of_block (w := w) hG
    simpa using this) (S.one x) (by unfold maxLen; omega) hby hb
  obtain ⟨ao', cap', rfl⟩ := own_shape_u h2
  refine ⟨ao', cap', w', hr, ?_, h3, h5⟩
  unfold Ow
  rw [row_append, row_single, List.length_append]
  exact h2
theorem wpList_append_one {T : TypeId} {bytes : Nat} {z : Value} {w : World} {ops : Array Oper} {rest : List Oper} {o : Oper} {a : Act} {Q : Exit → Act → World → Prop} (hT : ElT T e S.n bytes z) (hgd : o.guard = none) (sl y : Operand) (ho : o.op = .call { callee := .builtin .append, args := #[sl, y], argTypes := #[T, T] })
    (base : Nat) (v : Value) (xs : List α) (hs : a.eval sl = v) (hown : Ow S e w base v xs) (hb : base ≤ w.heap.size) (G : Nat) (hy : a.eval y = .slice (some ⟨G, 0, none⟩) 1 1) (x : α) (fr : Nat × Nat) (hG : w.heap[G]? = some (.cells (S.cell x).toArray e fr)) (hm : xs.length ≤ 100000000000) (M : Nat) (hM : xs.length + 1 = M)
    (h : ∀ ao' cap' w', Ow S e w' base (.slice ao' M cap') (xs ++ [x]) → w.grownBy w' v.ownBlock → ((Value.slice ao' M cap').ownBlock = v.ownBlock ∨ (Value.slice ao' M cap').ownBlock = some w.heap.size) → wpList Try.prog ops Q rest (a.put o.dst (.slice ao' M cap')) w') : wpList Try.prog ops Q (o :: rest) a w := by
  subst hM
  refine wpList_plain hgd fun K hK => ?_
  obtain ⟨ao', cap', w', hr, h2, h3, h4⟩ := append_one hT w o.type base v xs hown hb G x fr hG hm
  unfold Oper.wp execOp
  simp only [ho, resolve, invoke, builtin, Sem.run_bind, Sem.run_pure, Result.andThen_ok, List.map_toArray, List.map_cons, List.map_nil, hs, hy, hr]
  exact hK _ _ (h ao' cap' w' h2 h3 h4)
theorem step_append_one {T : TypeId} {bytes : Nat} {z : Value} {w : World} {ops : Array Oper} {o : Oper} {a : Act} {K : Act → World → Prop} {Q : Exit → Act → World → Prop} {E : Prop} (hT : ElT T e S.n bytes z) (hgd : o.guard = none) (sl y : Operand) (ho : o.op = .call { callee := .builtin .append, args := #[sl, y], argTypes := #[T, T] })
    (base : Nat) (v : Value) (xs : List α) (hs : a.eval sl = v) (hown : Ow S e w base v xs) (hb : base ≤ w.heap.size) (G : Nat) (hy : a.eval y = .slice (some ⟨G, 0, none⟩) 1 1) (x : α) (fr : Nat × Nat) (hG : w.heap[G]? = some (.cells (S.cell x).toArray e fr)) (hm : xs.length ≤ 100000000000) (M : Nat) (hM : xs.length + 1 = M)
    (h : ∀ ao' cap' w', Ow S e w' base (.slice ao' M cap') (xs ++ [x]) → w.grownBy w' v.ownBlock → ((Value.slice ao' M cap').ownBlock = v.ownBlock ∨ (Value.slice ao' M cap').ownBlock = some w.heap.size) → K (a.put o.dst (.slice ao' M cap')) w') : if Region.wanted o (yielded ops a.tmps) = true then Oper.wp Try.prog o a w K Q else E := by
  subst hM
  have hw : Region.wanted o (yielded ops a.tmps) = true := by simp [Region.wanted, hgd]
  rw [if_pos hw]
  obtain ⟨ao', cap', w', hr, h2, h3, h4⟩ := append_one hT w o.type base v xs hown hb G x fr hG hm
  unfold Oper.wp execOp
  simp only [ho, resolve, invoke, builtin, Sem.run_bind, Sem.run_pure, Result.andThen_ok, List.map_toArray, List.map_cons, List.map_nil, hs, hy, hr]
  exact h _ _ _ h2 h3 h4
end

end Go.Proofs.Ytmcaoimgmgjjiaa
